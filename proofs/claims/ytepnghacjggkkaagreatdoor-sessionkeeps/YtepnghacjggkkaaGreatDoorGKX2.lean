/- SessionKeeps: what a session reads of its own ops it reads again when they are committed: the walk; SessionKeeps: any steps, any key. -/
import Derived.Test.YtepnghacjggkkaaGreatDoorGKX1
import Derived.Deep.DeepCutAuto
import Derived.Deep.CutBlock
namespace Go.Proofs.YtepnghacjggkkaaGreatDoor
open Go.RowKit Go.Maps
set_option maxRecDepth 100000
set_option linter.unusedSectionVars false
variable [Inhabited ComV] [DecidableEq D3] [Inhabited D3] [Inhabited Dd] [Inhabited Dn] [Inhabited OpV]

theorem nextC_kp {C : List ComV} {os : List OpV} (hC : KpC C) (hl : C.length ≤ 2) (ho : OwnOk C os) (h12 : os.length ≤ 12) : KpC (nextC C os) := by
  unfold nextC
  by_cases e : os = []
  · rw [if_pos e]; exact hC
  · rw [if_neg e]; exact hC.next (by omega) ho e h12
theorem TkE.step {w wq W W' : World} {sb xb : Nat} {h : PlH} {v : PlV} {C : List ComV} (t : TkE w wq sb xb h v C W) (hb : Below W.heap.size W W') : TkE w wq sb xb h v C W' := by
  obtain ⟨os, t⟩ := t
  exact ⟨os, t.step hb⟩
set_option maxHeartbeats 16000000 in
theorem keeps_in (A : Nat → Addr) (w : World) (hS : Sents A w.heap.size w) (va : Option Addr) (n vc : Nat) (xs : List StepV) (hn : n = xs.length) (h12 : n ≤ 12) (hv : StepsAt w (.slice va n vc) xs) (key : ByteArray) (hk : key.size ≤ 60) :
    Calls Tryz.prog 4 #[.slice va n vc, .string key] w fun e w' => e = .returned (.bool true) ∧ Below w.heap.size w w' := by
  have K5 := hid (opened_ok A _ w hS.sen)
  have HS := hid hS
  have HV := hid hv
  have HN := hid hn
  have i12 : ¬ (12 : Int) < (n : Int) := by omega
  have i60 : ¬ (60 : Int) < (key.size : Int) := by omega
  have hgl := hS.gl
  clear hS hv hn
  go_enter Tryz.func4, Tryz.ntmps4
  go_wp2_with fail
  refine K5.out.mono ?_
  rintro e w1 ⟨rfl, hb1⟩
  have B1 := hid hb1
  clear hb1 K5
  go_wp2_with fail
  refine (new_any w1 0 1 1 (by decide) (by decide) (by decide) (by decide)).mono ?_
  rintro e w2 ⟨h0, rfl, hP, hf, hb2, hnn, hX⟩
  have B2 : Hid (Below w.heap.size w w2) := (show Below _ _ _ from B1.out.trans (hb2.mono B1.out.size))
  have hlo2 : w.heap.size ≤ w2.heap.size := B2.out.size
  have I2 : Hid (KpI w.heap.size w2 h0 (pv0 0 1 1) []) := (show KpI _ _ _ _ _ from ⟨hP, rfl, rfl, rfl, rfl, rfl, KpC.nil, by rw [hnn]; exact Nat.zero_le _, fun b hb => Nat.le_trans B1.out.size (hf b hb)⟩)
  clear hP hf hb2 hnn hX
  go_wp2_with fail
  refine (sesNew_ok w2 1 (by decide) (by decide)).mono ?_
  rintro e w3 ⟨sb, tb, rfl, hsb, htb, hs3, ht3, hb3⟩
  have L3 : Hid (LkI w h0.pb sb h0 (pv0 0 1 1) [] w3) := (show LkI _ _ _ _ _ _ _ from ⟨rfl, I2.out.below hb3, ⟨_, _, hs3, ⟨_, 1, rfl, (fun e => by cases e), Nat.le_refl _, .inr ⟨tb, 0, _, rfl, ht3, fun j r hr => by
      have hj : j = 0 := by
        have := (List.getElem?_eq_some_iff.1 hr).1
        simpa using this
      subst hj
      have : r = [.int .i64 0] := by simpa using hr.symm
      subst this
      exact ⟨rfl, fun i u hu => by
        have hi : i = 0 := by
          have := (List.getElem?_eq_some_iff.1 hu).1
          simpa using this
        subst hi
        simpa using hu⟩⟩⟩⟩, fun q => by have := I2.out.at_.lt q; omega, by omega, B2.out.trans (hb3.mono hlo2)⟩)
  obtain ⟨pb, hpb⟩ : ∃ pb, pb = h0.pb := ⟨_, rfl⟩
  rw [← hpb] at L3 ⊢
  clear hs3 ht3 hb3 htb hsb I2 B2 hpb hlo2 B1
  go_wp2_with fail
  go_loopw [10] (fun i wr => ∃ r : Nat, r ≤ 2 ∧ i = .int .i64 r ∧ ∃ (h : PlH) (v : PlV) (C : List ComV), C.length ≤ r ∧ Hid (LkI w pb sb h v C wr)) (fun i _ => 2 - (intOf i).toNat)
  case atStart => exact ⟨0, by decide, rfl, h0, _, [], Nat.le_refl _, L3⟩
  case round =>
    obtain ⟨r, hr, rfl, h, v, C, hC, HL⟩ := hrel
    by_cases hlt : r < 2
    · have hlt' : (r : Int) < 2 := by omega
      obtain ⟨wq, hwq⟩ : ∃ wq : World, wq = wr := ⟨wr, rfl⟩
      subst hwq
      have hC2 : C.length ≤ 2 := by omega
      go_wp2_with fail
      refine (lk_begin A HS.out hC2 HL.out).mono ?_
      rintro e wa ⟨a, c, xb, rfl, hT⟩
      have HT : Hid (TkE w wq sb xb h v C wa) := (show TkE _ _ _ _ _ _ _ _ from ⟨[], hT⟩)
      clear hT
      go_wp2_with fail
      go_loopw [13] (fun i wr => ∃ j : Nat, j ≤ n ∧ i = .int .i64 j ∧ Hid (TkE w wq sb xb h v C wr)) (fun i _ => n - (intOf i).toNat)
      case atStart => exact ⟨0, Nat.zero_le _, rfl, HT⟩
      case round =>
        obtain ⟨j, hj, rfl, HJ⟩ := hrel
        by_cases hjn : j < n
        · have hjx : j < xs.length := by have := HN.out; omega
          have hne : xs ≠ [] := fun e => by rw [e] at hjx; simp at hjx
          obtain ⟨va', vc', hva, hcs⟩ := HV.out
          obtain ⟨b, o, hva0, hcs2⟩ := hcs.resolve_left hne
          subst hva0
          obtain ⟨hva1, hva2⟩ : va = some ⟨b, o, none⟩ ∧ vc = vc' := by injection hva with z1 _ z2; exact ⟨z1, z2⟩
          subst hva1 hva2
          obtain ⟨x, hx⟩ : ∃ x, xs[j]? = some x := ⟨_, List.getElem?_eq_getElem hjx⟩
          have hbel : Below w.heap.size w wr := by obtain ⟨os, t⟩ := HJ.out; exact t.bel
          have hc : ∀ (i : Nat) (u : Value), [Value.string x.kind, .string x.key, .string x.text, .int .i64 x.p, .int .i64 x.n][i]? = some u → wr.cell? ⟨b, o + j * 5 + i, none⟩ = some u := fun i u hu => by
            have := hcs2 j x hx i u hu
            rw [hbel.cell (p := ⟨b, o + j * 5 + i, none⟩) (lt_of_cell this)]
            exact this
          obtain ⟨x1, x2, x3, x4, x5⟩ := x
          have c0 : wr.cell? ⟨b, o + j * 5, none⟩ = some (.string x1) := hc 0 _ rfl
          have c1 : wr.cell? ⟨b, o + j * 5 + 1, none⟩ = some (.string x2) := hc 1 _ rfl
          have c2 : wr.cell? ⟨b, o + j * 5 + 2, none⟩ = some (.string x3) := hc 2 _ rfl
          have c3 : wr.cell? ⟨b, o + j * 5 + 3, none⟩ = some (.int .i64 x4) := hc 3 _ rfl
          have c4 : wr.cell? ⟨b, o + j * 5 + 4, none⟩ = some (.int .i64 x5) := hc 4 _ rfl
          have HBL := hid hbel
          have hjn' : (j : Int) < (n : Int) := by omega
          clear hc hcs hcs2 hx hva hbel hjx hne
          by_cases hlen : (60 : Int) < (x2.size : Int) ∨ (200 : Int) < (x3.size : Int)
          · rcases (by omega : (60 : Int) < (x2.size : Int) ∨ (¬ (60 : Int) < (x2.size : Int) ∧ (200 : Int) < (x3.size : Int))) with hl1 | ⟨hl0, hl1⟩
            · go_wp2
              go_ret
              exact ⟨rfl, HBL.out.alloc HBL.out.size _⟩
            · go_wp2
              go_ret
              exact ⟨rfl, HBL.out.alloc HBL.out.size _⟩
          · have hl0 : ¬ (60 : Int) < (x2.size : Int) := fun q => hlen (.inl q)
            have hl1 : ¬ (200 : Int) < (x3.size : Int) := fun q => hlen (.inr q)
            have hts : x3.size ≤ 1000000 := by omega
            have HA : Hid (∀ o, TkE w wq sb xb h v C (wr.alloc o)) := (show ∀ o, _ from fun o => HJ.out.step (below_alloc _ _))
            clear hlen
            cases g1 : (x1.toList == ([115, 101, 116] : List UInt8)) with
            | true =>
              go_wp2_with fail
              refine (tk_set A HS.out hC2 (HA.out _) x2 x3 hts).mono ?_
              rintro e wz ⟨⟨rv, rfl⟩, hz⟩
              have HZ := hid hz
              clear hz
              go_wp2
              exact ⟨⟨j + 1, by omega, by go_num, HZ⟩, by simp [intOf]; omega⟩
            | false =>
              cases g2 : (x1.toList == ([97, 100, 100] : List UInt8)) with
              | true =>
                go_wp2_with fail
                refine (tk_add A HS.out hC2 (HA.out _) x2 x5).mono ?_
                rintro e wz ⟨⟨rv, rfl⟩, hz⟩
                have HZ := hid hz
                clear hz
                go_wp2
                exact ⟨⟨j + 1, by omega, by go_num, HZ⟩, by simp [intOf]; omega⟩
              | false =>
                cases g3 : (x1.toList == ([112, 117, 116] : List UInt8)) with
                | true =>
                  go_wp2_with fail
                  refine (tk_put A HS.out hC2 (HA.out _) x2 x3 hts).mono ?_
                  rintro e wz ⟨⟨rv, rfl⟩, hz⟩
                  have HZ := hid hz
                  clear hz
                  go_wp2
                  exact ⟨⟨j + 1, by omega, by go_num, HZ⟩, by simp [intOf]; omega⟩
                | false =>
                  cases g4 : (x1.toList == ([100, 114, 111, 112] : List UInt8)) with
                  | true =>
                    go_wp2_with fail
                    refine (tk_drop A HS.out hC2 (HA.out _) x2 x3 hts).mono ?_
                    rintro e wz ⟨⟨rv, rfl⟩, hz⟩
                    have HZ := hid hz
                    clear hz
                    go_wp2
                    exact ⟨⟨j + 1, by omega, by go_num, HZ⟩, by simp [intOf]; omega⟩
                  | false =>
                    go_wp2
                    exact ⟨⟨j + 1, by omega, by go_num, hid (HA.out _)⟩, by simp [intOf]; omega⟩
        · have hjm : j = n := by omega
          subst hjm
          obtain ⟨os, t⟩ := HJ.out
          have T := hid t
          have hpb := HL.out.pb
          have hCn : (nextC C os).length ≤ r + 1 := by
            unfold nextC
            split
            · omega
            · rw [List.length_append]; simp; omega
          have hCn2 : (nextC C os).length ≤ 2 := by omega
          have HPB := hid hpb
          clear hpb t HJ HT
          cases hnm : nameB key with
          | true =>
            obtain ⟨x, hx⟩ : ∃ x, x = valA (opsK (nextC C os) key) := ⟨_, rfl⟩
            have K12 := hid (tk_read A HS.out hC2 T.out key hnm)
            rw [nextC_val T.out.kpq.kp hC2 T.out.own T.out.len key, ← hx] at K12
            have hxl : x.set.length ≤ 1000000 := by rw [hx]; exact Nat.le_trans (opsK_set (nextC_kp T.out.kpq.kp hC2 T.out.own T.out.len) (by omega) key) (by decide)
            have HX := hid hx
            clear hx
            obtain ⟨za, zb, zc, zs⟩ := x
            simp only at hxl
            go_wp2_with fail
            refine K12.out.mono ?_
            rintro e wb ⟨v5, rfl, ⟨sv, rfl, hst⟩, hb5⟩
            obtain ⟨sa, sn, sc, hsv⟩ : ∃ sa sn sc, sv = .slice sa sn sc := by obtain ⟨sa, sc, q, _⟩ := hst; exact ⟨_, _, _, q⟩
            subst hsv
            simp only at hst
            obtain ⟨wb1, hwb1⟩ : ∃ wb1, wb1 = wb.alloc (.cells #[.int .i64 za, .string zb, .int .i64 zc, .slice sa sn sc] 41) := ⟨_, rfl⟩
            have V1 : Hid (VlAt wb1 wb.heap.size ⟨za, zb, zc, zs⟩) := (show VlAt _ _ _ from ⟨.slice sa sn sc, by rw [hwb1]; exact heap_new _ _, by rw [hwb1]; exact strs_mono hst (below_alloc _ _) (Nat.le_refl _)⟩)
            have T1 : Hid (TkI w wq sb xb h v C os wb1) := (show TkI _ _ _ _ _ _ _ _ _ from T.out.step (by rw [hwb1]; exact hb5.alloc hb5.size _))
            obtain ⟨vb, hvb⟩ : ∃ vb, vb = wb.heap.size := ⟨_, rfl⟩
            rw [← hvb] at V1
            clear hst hb5 K12 T
            go_upto_region 30 with (fail)
            rw [← hwb1, ← hvb]
            clear hwb1 hvb
            go_wp2_with fail
            refine (tk_commit A HS.out hC2 T1.out).mono ?_
            intro e wc hk
            obtain ⟨ta1, tc1, hses1, _⟩ := T1.out.ses
            have V2 := hid (V1.out.commit T1.out.kp hses1 hk)
            obtain ⟨h', v', hL', a3, a4, c3, n4, c4, la, ln, lc, he⟩ := lk_of T1.out.lo T1.out.bel T1.out.kp.low hk
            rw [HPB.out] at hL'
            subst he
            have L1 := hid hL'
            clear hk hL' V1 hses1 T1
            obtain ⟨wd, hwd⟩ : ∃ wd, wd = wc.alloc (.cells #[.slice a3 1 c3, .int .i64 0, .slice a4 n4 c4] 47) := ⟨_, rfl⟩
            have L2 : Hid (LkI w pb sb h' v' (nextC C os) wd) := (show LkI _ _ _ _ _ _ _ from by rw [hwd]; exact L1.out.step (below_alloc _ _))
            have V3 : Hid (VlAt wd vb ⟨za, zb, zc, zs⟩) := (show VlAt _ _ _ from by rw [hwd]; exact V2.out.below (below_alloc _ _))
            clear L1 V2
            go_upto_region 31 with (fail)
            rw [← hwd]
            clear hwd
            go_wp2_with fail
            refine (lk_begin A HS.out hCn2 L2.out).mono ?_
            rintro e we ⟨a5, c5, xb2, rfl, hT2⟩
            obtain ⟨ta2, tc2, hses2, _⟩ := L2.out.ses
            have V4 := hid (V3.out.only hses2 rfl hT2.only)
            have T2 := hid hT2
            clear hT2 V3 hses2
            have K12 := hid (tk_read A HS.out hCn2 T2.out key hnm)
            rw [show (([] : List OpV).filter fun o => decide (o.key = key)) = [] from rfl, own_nil, ← HX.out] at K12
            go_wp2_with fail
            refine K12.out.mono ?_
            rintro e wf ⟨v6, rfl, ⟨sv6, rfl, hst6⟩, hb6⟩
            obtain ⟨sa6, sn6, sc6, hsv6⟩ : ∃ sa sn sc, sv6 = .slice sa sn sc := by obtain ⟨sa, sc, q, _⟩ := hst6; exact ⟨_, _, _, q⟩
            subst hsv6
            simp only at hst6
            obtain ⟨wg, hwg⟩ : ∃ wg, wg = wf.alloc (.cells #[.int .i64 za, .string zb, .int .i64 zc, .slice sa6 sn6 sc6] 41) := ⟨_, rfl⟩
            have V5 : Hid (VlAt wg vb ⟨za, zb, zc, zs⟩) := (show VlAt _ _ _ from V4.out.below (by rw [hwg]; exact hb6.alloc hb6.size _))
            have U5 : Hid (VlAt wg wf.heap.size ⟨za, zb, zc, zs⟩) := (show VlAt _ _ _ from ⟨.slice sa6 sn6 sc6, by rw [hwg]; exact heap_new _ _, by rw [hwg]; exact strs_mono hst6 (below_alloc _ _) (Nat.le_refl _)⟩)
            have T3 : Hid (TkI w wd sb xb2 h' v' (nextC C os) [] wg) := (show TkI _ _ _ _ _ _ _ _ _ from T2.out.step (by rw [hwg]; exact hb6.alloc hb6.size _))
            obtain ⟨ub, hub⟩ : ∃ ub, ub = wf.heap.size := ⟨_, rfl⟩
            rw [← hub] at U5
            clear hst6 hb6 K12 T2 V4
            go_upto_region 37 with (fail)
            rw [← hwg, ← hub]
            clear hwg hub
            go_wp2_with fail
            refine (lk_abort T3.out).mono ?_
            rintro e wh ⟨rfl, hL3, hO3⟩
            obtain ⟨ta3, tc3, hses3, _⟩ := T3.out.ses
            have V6 := V5.out.only hses3 rfl hO3
            have U6 := U5.out.only hses3 rfl hO3
            have L4 : Hid (LkI w pb sb h' v' (nextC C os) wh) := (show LkI _ _ _ _ _ _ _ from by rw [L2.out.pb] at hL3; exact hL3)
            obtain ⟨s6, hv6, hst6⟩ := V6
            obtain ⟨s7, hu6, hsu6⟩ := U6
            simp only at hv6 hu6 hst6 hsu6
            obtain ⟨p6, n6, m6, hs6⟩ : ∃ sa sn sc, s6 = .slice sa sn sc := by obtain ⟨sa, sc, q, _⟩ := hst6; exact ⟨_, _, _, q⟩
            obtain ⟨p7, n7, m7, hs7⟩ : ∃ sa sn sc, s7 = .slice sa sn sc := by obtain ⟨sa, sc, q, _⟩ := hsu6; exact ⟨_, _, _, q⟩
            subst hs6 hs7
            have d0 : wh.cell? ⟨vb, 0, none⟩ = some (.int .i64 za) := (cell_of hv6).trans rfl
            have d1 : wh.cell? ⟨vb, 1, none⟩ = some (.string zb) := (cell_of hv6).trans rfl
            have d2 : wh.cell? ⟨vb, 2, none⟩ = some (.int .i64 zc) := (cell_of hv6).trans rfl
            have d3 : wh.cell? ⟨vb, 3, none⟩ = some (.slice p6 n6 m6) := (cell_of hv6).trans rfl
            have f0 : wh.cell? ⟨ub, 0, none⟩ = some (.int .i64 za) := (cell_of hu6).trans rfl
            have f1 : wh.cell? ⟨ub, 1, none⟩ = some (.string zb) := (cell_of hu6).trans rfl
            have f2 : wh.cell? ⟨ub, 2, none⟩ = some (.int .i64 zc) := (cell_of hu6).trans rfl
            have f3 : wh.cell? ⟨ub, 3, none⟩ = some (.slice p7 n7 m7) := (cell_of hu6).trans rfl
            have K19 := hid (sameValue_same wh za zb zc (.slice p6 n6 m6) (.slice p7 n7 m7) zs hst6 hsu6 hxl)
            clear hL3 hO3 hses3 V5 U5 T3 hv6 hu6 hst6 hsu6
            go_wp2_with (go_at_call 19; refine K19.out.mono ?_; rintro e wi ⟨rfl, hbi⟩; have HBI := hid hbi; clear hbi)
            exact ⟨⟨r + 1, by omega, by go_num, h', v', nextC C os, by omega, hid (L4.out.step HBI.out)⟩, by simp [intOf]; omega⟩
          | false =>
            have K12 := hid (tk_noread A HS.out T.out key hnm)
            go_wp2_with fail
            refine K12.out.mono ?_
            rintro e wb ⟨rfl, hb5⟩
            obtain ⟨wb1, hwb1⟩ : ∃ wb1, wb1 = wb.alloc (.cells #[.int .i64 0, .string ⟨#[]⟩, .int .i64 0, .slice none 0 0] 41) := ⟨_, rfl⟩
            have T1 : Hid (TkI w wq sb xb h v C os wb1) := (show TkI _ _ _ _ _ _ _ _ _ from T.out.step (by rw [hwb1]; exact hb5.alloc hb5.size _))
            clear hb5 K12 T
            go_upto_region 30 with (fail)
            rw [← hwb1]
            clear hwb1
            go_wp2_with fail
            refine (tk_commit A HS.out hC2 T1.out).mono ?_
            intro e wc hk
            obtain ⟨h', v', hL', a3, a4, c3, n4, c4, la, ln, lc, he⟩ := lk_of T1.out.lo T1.out.bel T1.out.kp.low hk
            rw [HPB.out] at hL'
            subst he
            have L1 := hid hL'
            clear hk hL' T1
            obtain ⟨wd, hwd⟩ : ∃ wd, wd = wc.alloc (.cells #[.slice a3 1 c3, .int .i64 0, .slice a4 n4 c4] 47) := ⟨_, rfl⟩
            have L2 : Hid (LkI w pb sb h' v' (nextC C os) wd) := (show LkI _ _ _ _ _ _ _ from by rw [hwd]; exact L1.out.step (below_alloc _ _))
            clear L1
            go_upto_region 31 with (fail)
            rw [← hwd]
            clear hwd
            go_wp2_with fail
            refine (lk_begin A HS.out hCn2 L2.out).mono ?_
            rintro e we ⟨a5, c5, xb2, rfl, hT2⟩
            have T2 := hid hT2
            clear hT2
            have K12 := hid (tk_noread A HS.out T2.out key hnm)
            go_wp2_with fail
            refine K12.out.mono ?_
            rintro e wf ⟨rfl, hb6⟩
            obtain ⟨wg, hwg⟩ : ∃ wg, wg = wf.alloc (.cells #[.int .i64 0, .string ⟨#[]⟩, .int .i64 0, .slice none 0 0] 41) := ⟨_, rfl⟩
            have T3 : Hid (TkI w wd sb xb2 h' v' (nextC C os) [] wg) := (show TkI _ _ _ _ _ _ _ _ _ from T2.out.step (by rw [hwg]; exact hb6.alloc hb6.size _))
            clear hb6 K12 T2
            go_upto_region 37 with (fail)
            rw [← hwg]
            clear hwg
            go_wp2_with fail
            refine (lk_abort T3.out).mono ?_
            rintro e wh ⟨rfl, hL3, hO3⟩
            have L4 := hid hL3
            have K11 := hid (fun W (hW : Below wh.heap.size wh W) => coded_sentS A w.heap.size W 3 4 (HS.out.below (L4.out.bel.trans (hW.mono L4.out.bel.size))) (by decide) (by decide))
            clear hL3 hO3 T3 L2
            go_wp2_with (first
              | (go_at_call 11; (with_reducible refine (K11.out wh ?hb).mono ?_); (case hb => exact Below.refl _ _); rintro e wi ⟨rfl, hbi⟩; have HBI := hid hbi; clear hbi)
              | (go_at_call 11; (with_reducible refine (K11.out wi ?hb).mono ?_); (case hb => exact HBI.out); rintro e wj ⟨rfl, hbj⟩; have HBJ := hid hbj; clear hbj))
            go_ret
            exact ⟨rfl, L4.out.bel.trans ((HBI.out.trans (HBJ.out.mono HBI.out.size)).mono L4.out.bel.size)⟩
    · have hr2 : r = 2 := by omega
      subst hr2
      go_wp2
      go_ret
      exact ⟨rfl, HL.out.bel⟩
end Go.Proofs.YtepnghacjggkkaaGreatDoor
namespace Go.Proofs.YtepnghacjggkkaaGreatDoor
open Go.RowKit Go.Maps
set_option maxRecDepth 100000
set_option linter.unusedSectionVars false
variable [Inhabited ComV] [DecidableEq D3] [Inhabited D3] [Inhabited Dd] [Inhabited Dn] [Inhabited OpV]

set_option maxHeartbeats 8000000 in
theorem keeps_out (A : Nat → Addr) (w : World) (hS : Sen A w.heap.size w) (va : Option Addr) (n vc : Nat) (key : ByteArray) (h : (12 : Int) < (n : Int) ∨ (¬ (12 : Int) < (n : Int) ∧ (60 : Int) < (key.size : Int))) :
    Calls Tryz.prog 4 #[.slice va n vc, .string key] w fun e w' => e = .returned (.bool true) ∧ Below w.heap.size w w' := by
  have K5 := hid (opened_ok A _ w hS)
  clear hS
  rcases h with h1 | ⟨h1, h2⟩ <;>
    (go_enter Tryz.func4, Tryz.ntmps4
     go_wp2_with fail
     refine K5.out.mono ?_
     rintro e w1 ⟨rfl, hb1⟩
     go_wp2_with fail
     go_ret
     exact ⟨rfl, hb1⟩)
theorem keeps_walk (A : Nat → Addr) (w : World) (hS : Sents A w.heap.size w) (vv : Value) (xs : List StepV) (hv : StepsAt w vv xs) (key : ByteArray) :
    Calls Tryz.prog 4 #[vv, .string key] w fun e w' => e = .returned (.bool true) ∧ Below w.heap.size w w' := by
  have hv0 := hv
  obtain ⟨va, vc, rfl, _⟩ := hv0
  by_cases h : xs.length ≤ 12 ∧ key.size ≤ 60
  · exact keeps_in A w hS va xs.length vc xs rfl h.1 hv key h.2
  · exact keeps_out A w hS.sen va xs.length vc key (by omega)
end Go.Proofs.YtepnghacjggkkaaGreatDoor
