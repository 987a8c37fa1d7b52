/- SessionSees: the walk. -/
import Derived.Test.YtepnghacjggkkaaGreatDoorJYS1
import Derived.Deep.DeepCutAuto
import Derived.Deep.CutBlock
namespace Go.Proofs.YtepnghacjggkkaaGreatDoor
open Go.RowKit Go.Maps
set_option maxRecDepth 100000
set_option linter.unusedSectionVars false
variable [Inhabited ComV] [DecidableEq D3] [Inhabited D3] [Inhabited Dd] [Inhabited Dn] [Inhabited OpV]

theorem Tryz.info30 : (Tryz.prog.info? 30).map (fun i => (i.zero, i.size, i.bytes)) = some (some (.pointer none), 1, 8) := by kernel_rfl
set_option maxHeartbeats 16000000 in
theorem sees_inx (A : Nat → Addr) (w : World) (hS : Sents A w.heap.size w) (n k : Nat) (n1 : 1 ≤ n) (n6 : n ≤ 6) (k1 : 1 ≤ k) (k6 : k ≤ 6) (vs bs : List Int) (hvl : vs.length ≤ 20) (hbl : bs.length ≤ 20) (va ba : Option Addr) (vc bc : Nat) (hv : IntsAt w (.slice va vs.length vc) vs) (hb : IntsAt w (.slice ba bs.length bc) bs) :
    Calls Tryz.prog 3 #[.int .i64 n, .int .i64 k, .slice va vs.length vc, .slice ba bs.length bc] w fun e w' => e = .returned (.bool true) ∧ Below w.heap.size w w' := by
  have K5 := hid (opened_ok A _ w hS.sen)
  have HS := hid hS
  have HV := hid hv
  have HBS := hid hb
  have i1 : (1 : Int) ≤ n := by omega
  have i2 : (n : Int) ≤ 6 := by omega
  have i3 : (1 : Int) ≤ k := by omega
  have i4 : (k : Int) ≤ 6 := by omega
  obtain ⟨vn, hvn⟩ : ∃ vn, vn = vs.length := ⟨_, rfl⟩
  obtain ⟨bn, hbn⟩ : ∃ bn, bn = bs.length := ⟨_, rfl⟩
  rw [← hvn] at hvl
  rw [← hbn] at hbl
  rw [← hvn, ← hbn]
  have HVN := hid hvn
  have HBN := hid hbn
  have i5 : (vn : Int) ≤ 20 := by omega
  have i6 : (bn : Int) ≤ 20 := by omega
  clear hS hv hb hvn hbn
  go_enter Tryz.func3, Tryz.ntmps3
  go_wp2_with fail
  refine K5.out.mono ?_
  rintro e w1 ⟨rfl, hb1⟩
  go_wp2_with fail
  refine (sesNew_ok w1 n n1 n6).mono ?_
  rintro e w2 ⟨sb, tb, rfl, hsb, htb, hs2, ht2, hb2⟩
  have L0 : Hid (LpI w n k 0 (fun _ => ⟨0, 0, 0, fun _ => 0, fun _ _ => ln0 0 0 0, 0, 0, nil0, 0⟩) (.slice none 0 0) sb tb w2) := (show LpI _ _ _ _ _ _ _ _ _ from ⟨⟨hb1.trans (hb2.mono hb1.size), fun i hi => by omega, fun i hi => by omega, fun i j hi => by omega⟩, fun i hi => by omega, fun j i s hj => by omega, World.ownsRow_nil _ _ _ _, (fun q hq => by cases hq), hs2, fun i hi => by omega, Nat.le_trans hb1.size hsb, ht2⟩)
  clear hb1 hb2 hs2 ht2 hsb htb K5
  go_upto_block 0 with fail
  go_cut [12, 13] (fun ps i wx => ∃ (H : Nat → PlH) (pb pc : Nat), ps = .slice (some ⟨pb, 0, none⟩) n pc ∧ Hid (SesI w n k 0 [] pb pc sb H (fun i => pv0 i n k) (List.replicate n 0) (.slice (some ⟨tb, 0, none⟩) n n) wx))
  case first =>
    go_wp2_with fail
    go_loopw [12, 13] (fun ps i wr => ∃ (m : Nat) (H : Nat → PlH) (pa : Option Addr) (pc : Nat), m ≤ n ∧ ps = .slice pa m pc ∧ i = .int .i64 m ∧ Hid (LpI w n k m H (.slice pa m pc) sb tb wr)) (fun _ i _ => n - (intOf i).toNat)
    case atStart => exact ⟨0, _, none, 0, Nat.zero_le _, rfl, rfl, L0⟩
    case round =>
      clear L0
      obtain ⟨m, H, pa, pc, hm, rfl, rfl, HI⟩ := hrel
      by_cases hlt : m < n
      · have z4 : (m : Int) < (n : Int) := by omega
        have K7 := hid (new_any wr m n k hlt n6 k1 k6)
        obtain ⟨i0, hi, hz0, hz1, hz2⟩ := info_parts Tryz.info30
        go_wp2_with fail
        refine K7.out.mono ?_
        rintro e w4 ⟨h, rfl, hP, hf, hb4, hnn, hX⟩
        have HP := hid hP
        have HF := hid hf
        have HB4 := hid hb4
        have HNN := hid hnn
        have HX := hid hX
        clear hP hf hb4 hnn hX K7
        go_upto_region 14 with fail
        go_wp2_with (at_builtin; (refine wpList_append_own_srcS rfl _ _ 29 rfl w.heap.size 30 i0 _ 1 8 Tryz.underlying29 hi hz0 hz1 hz2 rfl (by decide) (.slice pa m pc) m (ptrs H m) rfl ?hown _ 1 [.pointer (some ⟨h.pb, 0, none⟩)] rfl ?hs1 (by simp [Value.oneCell']) ?hm2 ?hm3 ?hm4 ?_; (case hown => exact owns_at HI.out.row (fun g _ hg => (HB4.out.alloc HB4.out.size _).block g hg)); (case hs1 => exact .inr ⟨_, _, rfl, rfl, cells3_new _ _ _⟩); (case hm2 => unfold maxLen; omega); (case hm3 => omega); (case hm4 => have := HI.out.net.bel.size; have := HB4.out.size; simp; omega); intro v9 w9 hrow9 hgr9 hat9))
        obtain ⟨a6, c6, hv9⟩ := row_shape hrow9
        subst hv9
        exact ⟨⟨m + 1, updP H m h, a6, c6, by omega, rfl, by go_num, HI.out.next HB4.out HP.out HF.out HNN.out HX.out hrow9 hgr9 hat9⟩, by simp [intOf]; omega⟩
      · obtain rfl : m = n := by omega
        obtain ⟨pb, rfl⟩ : ∃ pb, pa = some ⟨pb, 0, none⟩ := by
          obtain ⟨m', rfl⟩ : ∃ m', m = m' + 1 := ⟨m - 1, by omega⟩
          obtain ⟨b, cs, ha, _⟩ := owns_cellsY HI.out.row
          exact ⟨b, ha⟩
        have F := hid (HI.out.done n1 n6)
        clear HI
        go_wp2_with fail
        go_meet
        exact ⟨H, pb, pc, rfl, F⟩
  case rest =>
    obtain ⟨H0, pb, pc, rfl, HI0⟩ := hcut
    clear L0
    go_upto_block 2 with fail
    go_wp2_with fail
    go_loopw [16, 17] (fun did i wr => ∃ (m t : Nat) (C : List ComV) (H : Nat → PlH) (V : Nat → PlV) (tok : List Int) (tv : Value), m ≤ vn ∧ t ≤ 2 * m ∧ did = .int .i64 C.length ∧ i = .int .i64 m ∧ C.length ≤ m ∧ Hid (SesI w n k t C pb pc sb H V tok tv wr)) (fun _ i _ => vn - (intOf i).toNat)
    case atStart => exact ⟨0, 0, [], H0, _, _, _, Nat.zero_le _, Nat.le_refl _, rfl, rfl, Nat.le_refl _, HI0⟩
    case round =>
      clear HI0
      obtain ⟨m, t, C, H, V, tok, tv, hm, ht, rfl, rfl, hcm, HI⟩ := hrel
      by_cases hlt : m < vn
      · have z4 : (m : Int) < (vn : Int) := by omega
        have ht60 : t ≤ 40 := by omega
        by_cases hbl2 : m < bn
        · have z5 : (m : Int) < (bn : Int) := by omega
          obtain ⟨ad, cap, hsl, _, hop⟩ := HBS.out
          injection hsl with ha1 hl1 hc1
          clear hl1 hc1
          obtain ⟨bb, boff, had, hq⟩ := hop.resolve_left (fun h => by have := HBN.out; rw [h] at this; simp at this; omega)
          rw [had] at ha1
          subst ha1
          obtain ⟨z, hze⟩ : ∃ z, z = bs.getD m 0 := ⟨_, rfl⟩
          have qz : wr.cell? ⟨bb, boff + m, none⟩ = some (.int .i64 z) := by
            have h := hq m (by have := HBN.out; omega)
            rw [hze]
            exact (HI.out.net.bel.cell (p := ⟨bb, boff + m, none⟩) (lt_of_cell h)).trans h
          clear hq hop had hze
          by_cases hz0 : z < 0
          · go_upto_if 111 with fail
            go_cut [16, 17] (fun d i wx => d = .int .i64 C.length ∧ i = .int .i64 m ∧ ∃ (t' : Nat) (H' : Nat → PlH) (V' : Nat → PlV), t' ≤ t + 1 ∧ Hid (SesI w n k t' C pb pc sb H' V' tok tv wx))
            case first =>
              go_wp2_with fail
              go_meet
              exact ⟨rfl, rfl, t, H, V, Nat.le_succ _, HI⟩
            case rest =>
              as_aux_lemma =>
                obtain ⟨rfl, rfl, t', H', V', ht', HI'⟩ := hcut
                clear HI
                obtain ⟨ad, cap, hsl, _, hop⟩ := HV.out
                injection hsl with ha1 hl1 hc1
                clear hl1 hc1
                obtain ⟨vb, voff, had, hq⟩ := hop.resolve_left (fun h => by have := HVN.out; rw [h] at this; simp at this; omega)
                rw [had] at ha1
                subst ha1
                obtain ⟨y, hye⟩ : ∃ y, y = vs.getD m 0 := ⟨_, rfl⟩
                have qy : wc.cell? ⟨vb, voff + m, none⟩ = some (.int .i64 y) := by
                  have h := hq m (by have := HVN.out; omega)
                  rw [hye]
                  exact (HI'.out.net.bel.cell (p := ⟨vb, voff + m, none⟩) (lt_of_cell h)).trans h
                clear hq hop had hye
                by_cases hy0 : y < 0
                · go_wp2_with fail
                  exact ⟨⟨m + 1, t', C, H', V', tok, tv, by omega, by omega, rfl, by go_num, by omega, HI'⟩, by simp [intOf]; omega⟩
                by_cases hy1 : (n : Int) ≤ y
                · have hy2 : (0 : Int) ≤ y := by omega
                  go_wp2_with fail
                  exact ⟨⟨m + 1, t', C, H', V', tok, tv, by omega, by omega, rfl, by go_num, by omega, HI'⟩, by simp [intOf]; omega⟩
                obtain ⟨p, rfl⟩ : ∃ p : Nat, y = p := ⟨y.toNat, by omega⟩
                have hp : p < n := by omega
                have g1 : (0 : Int) ≤ (p : Int) := by omega
                have g2 : (p : Int) < (n : Int) := by omega
                have qp := ptr_cell HI'.out.row hp
                cases hle : leB tok (snapV (V' p)) with
                | false =>
                  have K10 := hid (begin_no A _ (HS.out.below HI'.out.net.bel) HI'.out k1 n6 (by omega) hp hle)
                  clear hle
                  go_wp2_with (go_at_call 10; refine K10.out.mono ?_; rintro e w5 ⟨rfl, hb5⟩; have B5 := hid hb5; clear hb5)
                  refine (coded_sentS A w.heap.size w5 10 11 (HS.out.below (HI'.out.net.bel.trans (B5.out.mono HI'.out.net.bel.size))) (by decide) (by decide)).mono ?_
                  rintro e w6 ⟨rfl, hb6⟩
                  have I6 : Hid (SesI w n k t' C pb pc sb H' V' tok tv w6) := (show SesI _ _ _ _ _ _ _ _ _ _ _ _ _ from by
                    have hb := B5.out.trans (hb6.mono B5.out.size)
                    exact HI'.out.moved (HI'.out.net.below hb) HI'.out.inv (NetMv.below hb) HI'.out.all)
                  clear hb6 K10 HI' B5
                  go_wp2_with fail
                  exact ⟨⟨m + 1, t', C, H', V', tok, tv, by omega, by omega, rfl, by go_num, by omega, I6⟩, by simp [intOf]; omega⟩
                | true =>
                  have K10 := hid (begin_yes A (HS.out.sen.below HI'.out.net.bel) HI'.out k1 n6 (by omega) hp hle)
                  clear hle HI'
                  go_wp2_with (go_at_call 10; refine K10.out.mono ?_; rintro e w5 ⟨a5, c5, xb, ab, tv5, rfl, hT5⟩; have T5 := hid hT5; clear hT5)
                  obtain ⟨k0, K12⟩ : ∃ k0 : Int, Hid (Calls Tryz.prog 12 #[.pointer (some ⟨sb, 0, none⟩), .string nKey] w5 (ReadRet k0 C.length (fun _ => True) w5)) := ⟨_, hid (tr_read0 A (HS.out.sen.below T5.out.net.bel) T5.out k1 n6 (by omega) hp)⟩
                  clear K10 qp qy
                  refine K12.out.mono ?_
                  rintro e w6 ⟨x6, sa6, sn6, sc6, _, rfl, hb6⟩
                  have T6 := hid (T5.out.below hb6)
                  clear hb6 K12 T5
                  go_wp2_with fail
                  obtain ⟨w7, hw7⟩ : ∃ w7, w7 = w6.alloc (.cells #[.int .i64 k0, .string x6, .int .i64 C.length, .slice sa6 sn6 sc6] 41) := ⟨_, rfl⟩
                  rw [← hw7]
                  have b7 : Below w6.heap.size w6 w7 := by rw [hw7]; exact below_alloc _ _
                  have r7 : w7.heap[w6.heap.size]? = some (.cells #[.int .i64 k0, .string x6, .int .i64 C.length, .slice sa6 sn6 sc6] 41 (0, 0)) := by rw [hw7]; exact heap_new _ _
                  have T7 := hid (T6.out.below b7)
                  have R7 := hid r7
                  have LT : Hid (xb < w6.heap.size) := lt_of_heap T6.out.tra
                  have OF6 := hid (T6.out.net.off_ge (Nat.le_refl w6.heap.size))
                  have LW : Hid (w.heap.size ≤ w6.heap.size) := T6.out.net.bel.size
                  clear T6
                  clear hw7 b7 r7
                  have K13 := hid (tr_add A (HS.out.sen.below T7.out.net.bel) T7.out n1 n6)
                  refine K13.out.mono ?_
                  rintro e w8 ⟨ob, oc, rfl, hT8, hO8, B8, hr8⟩
                  have r8 := (hO8.block _ (lt_of_heap R7.out) (by have := LT.out; omega)).trans R7.out
                  have R8 := hid r8
                  have T8 := hid hT8
                  have HR8 := hid hr8
                  clear hT8 hO8 hr8 r8 K13 T7 R7
                  go_wp2_with fail
                  have K12 := hid (tr_read1 A (HS.out.sen.below T8.out.net.bel) T8.out HR8.out k1 n6 (by omega) hp)
                  refine K12.out.mono ?_
                  rintro e w9 ⟨x9, sa9, sn9, sc9, _, rfl, hb9⟩
                  have T9 := hid (T8.out.below hb9)
                  have HR9 : Hid (∃ B, w9.ownsRow B 97 7 (.slice (some ⟨ob, 0, none⟩) 1 oc) 1 [.int .i64 0, .string nKey, .int .i64 2, .string ⟨#[]⟩, .int .i64 1, .bool false, .slice none 0 0]) := (show ∃ B, World.ownsRow _ _ _ _ _ _ _ from ⟨_, own_keep HR8.out fun q hq => hb9.block q (HR8.out.lt q hq).2⟩)
                  have r9 := (hb9.block _ (lt_of_heap R8.out)).trans R8.out
                  have R9 := hid r9
                  have Q9 := hid (row4 r9)
                  have S9 := hid (set4 r9 [.int .i64 2, .string x9, .int .i64 ((C.length : Int) + 1), .slice sa9 sn9 sc9] rfl)
                  have hC20 : (C.length : Int) ≤ 20 := by omega
                  clear hb9 K12 T8 R8 HR8 r9
                  go_wp2_with (refine wpList_store_k _ rfl (.tmp 21) (.tmp 175) 41 rfl w6.heap.size 0 [.int .i64 2, .string x9, .int .i64 ((C.length : Int) + 1), .slice sa9 sn9 sc9] rfl rfl 4 rfl Tryz.sizeOf41 rfl _ ?hW Q9.out.1 Q9.out.2 ?_; (case hW => rfl); obtain ⟨w10, hw10⟩ : ∃ w10, w10 = w9.setCells w6.heap.size 0 [.int .i64 2, .string x9, .int .i64 ((C.length : Int) + 1), .slice sa9 sn9 sc9] := ⟨_, rfl⟩; rw [← hw10]; have d2 : w10.cell? ⟨w6.heap.size, 2, none⟩ = some (.int .i64 ((C.length : Int) + 1)) := (by rw [hw10]; exact S9.out 2 (show 2 < 4 from by decide)); have O10 : Hid (Only w6.heap.size w9 w10) := (show Only _ _ _ from by rw [hw10]; exact only_setCells _ _ (Only.of (Below.refl _ _))); clear hw10)
                  have T10 := hid (T9.out.turn hp R9.out OF6.out LW.out O10.out).1
                  have HR10 : Hid (∃ B, w10.ownsRow B 97 7 (.slice (some ⟨ob, 0, none⟩) 1 oc) 1 [.int .i64 0, .string nKey, .int .i64 2, .string ⟨#[]⟩, .int .i64 1, .bool false, .slice none 0 0]) := (show ∃ B, World.ownsRow _ _ _ _ _ _ _ from let ⟨B, h⟩ := HR9.out; ⟨B, ops_turn h R9.out O10.out⟩)
                  clear T9 R9 Q9 S9 O10 HR9 d2 OF6 LW LT
                  obtain ⟨B10, hr10⟩ := HR10.out
                  have K14 := hid (tr_commit A (HS.out.sen.below T10.out.net.bel) T10.out hr10 k1 k6 n6 (by omega) hp)
                  clear hr10 HR10
                  refine K14.out.mono ?_
                  rintro e w11 ⟨H11, V11, a3, a4, n3, c3, n4, c4, la, lc, rs, tok', tv', rfl, hU, _⟩
                  obtain ⟨w12, hw12⟩ : ∃ w12, w12 = w11.alloc (.cells #[.slice none 0 0, .int .i64 0, .slice none 0 0] 47) := ⟨_, rfl⟩
                  have r12 : w12.heap[w11.heap.size]? = some (.cells #[.slice none 0 0, .int .i64 0, .slice none 0 0] 47 (0, 0)) := by rw [hw12]; exact heap_new _ _
                  have b13 : Below w11.heap.size w11 (w12.setCells w11.heap.size 0 [.slice a3 n3 c3, .int .i64 p, .slice a4 n4 c4]) := by rw [hw12]; exact below_setCells (Nat.le_refl _) _ _ (below_alloc _ _)
                  have U13 := hid (hU.below b13)
                  have Q12 := hid (rowk r12 (n := 3) rfl)
                  have W12 := hid hw12
                  clear hU K14 T10 r12 b13 hw12
                  go_wp2_with (refine wpList_store_k _ rfl (.tmp 22) (.tmp 189) 47 rfl w11.heap.size 0 [.slice a3 n3 c3, .int .i64 p, .slice a4 n4 c4] rfl rfl 3 rfl Tryz.sizeOf47 rfl w12 ?hW Q12.out.1 Q12.out.2 ?_; (case hW => exact W12.out.symm); rw [← W12.out]; clear Q12 W12; obtain ⟨w13, hw13⟩ : ∃ w13, w13 = w12.setCells w11.heap.size 0 [.slice a3 n3 c3, .int .i64 p, .slice a4 n4 c4] := ⟨_, rfl⟩; rw [← hw13] at U13 ⊢; clear hw13)
                  have K8 := hid (U13.out.arrive A HS.out.sen n1 n6 (by omega))
                  refine K8.out.mono ?_
                  rintro e w14 ⟨H14, V14, rfl, hI14, _⟩
                  have I14 := hid hI14
                  clear hI14 K8 U13
                  go_wp2_with fail
                  exact ⟨⟨m + 1, t' + 1, C ++ [nxt V' p], H14, V14, tok', tv', by omega, by omega, by simp, by go_num, by simp; omega, I14⟩, by simp [intOf]; omega⟩
          by_cases hz1 : (n : Int) ≤ z
          · have hz2 : (0 : Int) ≤ z := by omega
            have hz3 : ¬ z < (n : Int) := by omega
            go_upto_if 111 with fail
            go_cut [16, 17] (fun d i wx => d = .int .i64 C.length ∧ i = .int .i64 m ∧ ∃ (t' : Nat) (H' : Nat → PlH) (V' : Nat → PlV), t' ≤ t + 1 ∧ Hid (SesI w n k t' C pb pc sb H' V' tok tv wx))
            case first =>
              go_wp2_with fail
              go_meet
              exact ⟨rfl, rfl, t, H, V, Nat.le_succ _, HI⟩
            case rest =>
              as_aux_lemma =>
                obtain ⟨rfl, rfl, t', H', V', ht', HI'⟩ := hcut
                clear HI
                obtain ⟨ad, cap, hsl, _, hop⟩ := HV.out
                injection hsl with ha1 hl1 hc1
                clear hl1 hc1
                obtain ⟨vb, voff, had, hq⟩ := hop.resolve_left (fun h => by have := HVN.out; rw [h] at this; simp at this; omega)
                rw [had] at ha1
                subst ha1
                obtain ⟨y, hye⟩ : ∃ y, y = vs.getD m 0 := ⟨_, rfl⟩
                have qy : wc.cell? ⟨vb, voff + m, none⟩ = some (.int .i64 y) := by
                  have h := hq m (by have := HVN.out; omega)
                  rw [hye]
                  exact (HI'.out.net.bel.cell (p := ⟨vb, voff + m, none⟩) (lt_of_cell h)).trans h
                clear hq hop had hye
                by_cases hy0 : y < 0
                · go_wp2_with fail
                  exact ⟨⟨m + 1, t', C, H', V', tok, tv, by omega, by omega, rfl, by go_num, by omega, HI'⟩, by simp [intOf]; omega⟩
                by_cases hy1 : (n : Int) ≤ y
                · have hy2 : (0 : Int) ≤ y := by omega
                  go_wp2_with fail
                  exact ⟨⟨m + 1, t', C, H', V', tok, tv, by omega, by omega, rfl, by go_num, by omega, HI'⟩, by simp [intOf]; omega⟩
                obtain ⟨p, rfl⟩ : ∃ p : Nat, y = p := ⟨y.toNat, by omega⟩
                have hp : p < n := by omega
                have g1 : (0 : Int) ≤ (p : Int) := by omega
                have g2 : (p : Int) < (n : Int) := by omega
                have qp := ptr_cell HI'.out.row hp
                cases hle : leB tok (snapV (V' p)) with
                | false =>
                  have K10 := hid (begin_no A _ (HS.out.below HI'.out.net.bel) HI'.out k1 n6 (by omega) hp hle)
                  clear hle
                  go_wp2_with (go_at_call 10; refine K10.out.mono ?_; rintro e w5 ⟨rfl, hb5⟩; have B5 := hid hb5; clear hb5)
                  refine (coded_sentS A w.heap.size w5 10 11 (HS.out.below (HI'.out.net.bel.trans (B5.out.mono HI'.out.net.bel.size))) (by decide) (by decide)).mono ?_
                  rintro e w6 ⟨rfl, hb6⟩
                  have I6 : Hid (SesI w n k t' C pb pc sb H' V' tok tv w6) := (show SesI _ _ _ _ _ _ _ _ _ _ _ _ _ from by
                    have hb := B5.out.trans (hb6.mono B5.out.size)
                    exact HI'.out.moved (HI'.out.net.below hb) HI'.out.inv (NetMv.below hb) HI'.out.all)
                  clear hb6 K10 HI' B5
                  go_wp2_with fail
                  exact ⟨⟨m + 1, t', C, H', V', tok, tv, by omega, by omega, rfl, by go_num, by omega, I6⟩, by simp [intOf]; omega⟩
                | true =>
                  have K10 := hid (begin_yes A (HS.out.sen.below HI'.out.net.bel) HI'.out k1 n6 (by omega) hp hle)
                  clear hle HI'
                  go_wp2_with (go_at_call 10; refine K10.out.mono ?_; rintro e w5 ⟨a5, c5, xb, ab, tv5, rfl, hT5⟩; have T5 := hid hT5; clear hT5)
                  obtain ⟨k0, K12⟩ : ∃ k0 : Int, Hid (Calls Tryz.prog 12 #[.pointer (some ⟨sb, 0, none⟩), .string nKey] w5 (ReadRet k0 C.length (fun _ => True) w5)) := ⟨_, hid (tr_read0 A (HS.out.sen.below T5.out.net.bel) T5.out k1 n6 (by omega) hp)⟩
                  clear K10 qp qy
                  refine K12.out.mono ?_
                  rintro e w6 ⟨x6, sa6, sn6, sc6, _, rfl, hb6⟩
                  have T6 := hid (T5.out.below hb6)
                  clear hb6 K12 T5
                  go_wp2_with fail
                  obtain ⟨w7, hw7⟩ : ∃ w7, w7 = w6.alloc (.cells #[.int .i64 k0, .string x6, .int .i64 C.length, .slice sa6 sn6 sc6] 41) := ⟨_, rfl⟩
                  rw [← hw7]
                  have b7 : Below w6.heap.size w6 w7 := by rw [hw7]; exact below_alloc _ _
                  have r7 : w7.heap[w6.heap.size]? = some (.cells #[.int .i64 k0, .string x6, .int .i64 C.length, .slice sa6 sn6 sc6] 41 (0, 0)) := by rw [hw7]; exact heap_new _ _
                  have T7 := hid (T6.out.below b7)
                  have R7 := hid r7
                  have LT : Hid (xb < w6.heap.size) := lt_of_heap T6.out.tra
                  have OF6 := hid (T6.out.net.off_ge (Nat.le_refl w6.heap.size))
                  have LW : Hid (w.heap.size ≤ w6.heap.size) := T6.out.net.bel.size
                  clear T6
                  clear hw7 b7 r7
                  have K13 := hid (tr_add A (HS.out.sen.below T7.out.net.bel) T7.out n1 n6)
                  refine K13.out.mono ?_
                  rintro e w8 ⟨ob, oc, rfl, hT8, hO8, B8, hr8⟩
                  have r8 := (hO8.block _ (lt_of_heap R7.out) (by have := LT.out; omega)).trans R7.out
                  have R8 := hid r8
                  have T8 := hid hT8
                  have HR8 := hid hr8
                  clear hT8 hO8 hr8 r8 K13 T7 R7
                  go_wp2_with fail
                  have K12 := hid (tr_read1 A (HS.out.sen.below T8.out.net.bel) T8.out HR8.out k1 n6 (by omega) hp)
                  refine K12.out.mono ?_
                  rintro e w9 ⟨x9, sa9, sn9, sc9, _, rfl, hb9⟩
                  have T9 := hid (T8.out.below hb9)
                  have HR9 : Hid (∃ B, w9.ownsRow B 97 7 (.slice (some ⟨ob, 0, none⟩) 1 oc) 1 [.int .i64 0, .string nKey, .int .i64 2, .string ⟨#[]⟩, .int .i64 1, .bool false, .slice none 0 0]) := (show ∃ B, World.ownsRow _ _ _ _ _ _ _ from ⟨_, own_keep HR8.out fun q hq => hb9.block q (HR8.out.lt q hq).2⟩)
                  have r9 := (hb9.block _ (lt_of_heap R8.out)).trans R8.out
                  have R9 := hid r9
                  have Q9 := hid (row4 r9)
                  have S9 := hid (set4 r9 [.int .i64 2, .string x9, .int .i64 ((C.length : Int) + 1), .slice sa9 sn9 sc9] rfl)
                  have hC20 : (C.length : Int) ≤ 20 := by omega
                  clear hb9 K12 T8 R8 HR8 r9
                  go_wp2_with (refine wpList_store_k _ rfl (.tmp 21) (.tmp 175) 41 rfl w6.heap.size 0 [.int .i64 2, .string x9, .int .i64 ((C.length : Int) + 1), .slice sa9 sn9 sc9] rfl rfl 4 rfl Tryz.sizeOf41 rfl _ ?hW Q9.out.1 Q9.out.2 ?_; (case hW => rfl); obtain ⟨w10, hw10⟩ : ∃ w10, w10 = w9.setCells w6.heap.size 0 [.int .i64 2, .string x9, .int .i64 ((C.length : Int) + 1), .slice sa9 sn9 sc9] := ⟨_, rfl⟩; rw [← hw10]; have d2 : w10.cell? ⟨w6.heap.size, 2, none⟩ = some (.int .i64 ((C.length : Int) + 1)) := (by rw [hw10]; exact S9.out 2 (show 2 < 4 from by decide)); have O10 : Hid (Only w6.heap.size w9 w10) := (show Only _ _ _ from by rw [hw10]; exact only_setCells _ _ (Only.of (Below.refl _ _))); clear hw10)
                  have T10 := hid (T9.out.turn hp R9.out OF6.out LW.out O10.out).1
                  have HR10 : Hid (∃ B, w10.ownsRow B 97 7 (.slice (some ⟨ob, 0, none⟩) 1 oc) 1 [.int .i64 0, .string nKey, .int .i64 2, .string ⟨#[]⟩, .int .i64 1, .bool false, .slice none 0 0]) := (show ∃ B, World.ownsRow _ _ _ _ _ _ _ from let ⟨B, h⟩ := HR9.out; ⟨B, ops_turn h R9.out O10.out⟩)
                  clear T9 R9 Q9 S9 O10 HR9 d2 OF6 LW LT
                  obtain ⟨B10, hr10⟩ := HR10.out
                  have K14 := hid (tr_commit A (HS.out.sen.below T10.out.net.bel) T10.out hr10 k1 k6 n6 (by omega) hp)
                  clear hr10 HR10
                  refine K14.out.mono ?_
                  rintro e w11 ⟨H11, V11, a3, a4, n3, c3, n4, c4, la, lc, rs, tok', tv', rfl, hU, _⟩
                  obtain ⟨w12, hw12⟩ : ∃ w12, w12 = w11.alloc (.cells #[.slice none 0 0, .int .i64 0, .slice none 0 0] 47) := ⟨_, rfl⟩
                  have r12 : w12.heap[w11.heap.size]? = some (.cells #[.slice none 0 0, .int .i64 0, .slice none 0 0] 47 (0, 0)) := by rw [hw12]; exact heap_new _ _
                  have b13 : Below w11.heap.size w11 (w12.setCells w11.heap.size 0 [.slice a3 n3 c3, .int .i64 p, .slice a4 n4 c4]) := by rw [hw12]; exact below_setCells (Nat.le_refl _) _ _ (below_alloc _ _)
                  have U13 := hid (hU.below b13)
                  have Q12 := hid (rowk r12 (n := 3) rfl)
                  have W12 := hid hw12
                  clear hU K14 T10 r12 b13 hw12
                  go_wp2_with (refine wpList_store_k _ rfl (.tmp 22) (.tmp 189) 47 rfl w11.heap.size 0 [.slice a3 n3 c3, .int .i64 p, .slice a4 n4 c4] rfl rfl 3 rfl Tryz.sizeOf47 rfl w12 ?hW Q12.out.1 Q12.out.2 ?_; (case hW => exact W12.out.symm); rw [← W12.out]; clear Q12 W12; obtain ⟨w13, hw13⟩ : ∃ w13, w13 = w12.setCells w11.heap.size 0 [.slice a3 n3 c3, .int .i64 p, .slice a4 n4 c4] := ⟨_, rfl⟩; rw [← hw13] at U13 ⊢; clear hw13)
                  have K8 := hid (U13.out.arrive A HS.out.sen n1 n6 (by omega))
                  refine K8.out.mono ?_
                  rintro e w14 ⟨H14, V14, rfl, hI14, _⟩
                  have I14 := hid hI14
                  clear hI14 K8 U13
                  go_wp2_with fail
                  exact ⟨⟨m + 1, t' + 1, C ++ [nxt V' p], H14, V14, tok', tv', by omega, by omega, by simp, by go_num, by simp; omega, I14⟩, by simp [intOf]; omega⟩
          obtain ⟨p, rfl⟩ : ∃ p : Nat, z = p := ⟨z.toNat, by omega⟩
          have hp : p < n := by omega
          have g1 : (0 : Int) ≤ (p : Int) := by omega
          have g2 : (p : Int) < (n : Int) := by omega
          have qp := ptr_cell HI.out.row hp
          have K9 := hid (ses_beat HI.out k1 k6 (by omega) hp)
          go_upto_if 111 with fail
          go_cut [16, 17] (fun d i wx => d = .int .i64 C.length ∧ i = .int .i64 m ∧ ∃ (t' : Nat) (H' : Nat → PlH) (V' : Nat → PlV), t' ≤ t + 1 ∧ Hid (SesI w n k t' C pb pc sb H' V' tok tv wx))
          case first =>
            go_wp2_with (go_at_call 9; refine K9.out.mono ?_; rintro e w5 ⟨H5, V5, la, lc, rs, rfl, hU, _⟩; have K8 := hid (hU.arrive A HS.out.sen n1 n6 (by omega)); clear hU)
            refine K8.out.mono ?_
            rintro e w6 ⟨H6, V6, rfl, hI6, _⟩
            have I6 := hid hI6
            clear hI6 K9 K8 HI
            go_wp2_with fail
            go_meet
            exact ⟨rfl, rfl, t + 1, H6, V6, Nat.le_refl _, I6⟩
          case rest =>
            as_aux_lemma =>
              obtain ⟨rfl, rfl, t', H', V', ht', HI'⟩ := hcut
              clear HI
              obtain ⟨ad, cap, hsl, _, hop⟩ := HV.out
              injection hsl with ha1 hl1 hc1
              clear hl1 hc1
              obtain ⟨vb, voff, had, hq⟩ := hop.resolve_left (fun h => by have := HVN.out; rw [h] at this; simp at this; omega)
              rw [had] at ha1
              subst ha1
              obtain ⟨y, hye⟩ : ∃ y, y = vs.getD m 0 := ⟨_, rfl⟩
              have qy : wc.cell? ⟨vb, voff + m, none⟩ = some (.int .i64 y) := by
                have h := hq m (by have := HVN.out; omega)
                rw [hye]
                exact (HI'.out.net.bel.cell (p := ⟨vb, voff + m, none⟩) (lt_of_cell h)).trans h
              clear hq hop had hye
              by_cases hy0 : y < 0
              · go_wp2_with fail
                exact ⟨⟨m + 1, t', C, H', V', tok, tv, by omega, by omega, rfl, by go_num, by omega, HI'⟩, by simp [intOf]; omega⟩
              by_cases hy1 : (n : Int) ≤ y
              · have hy2 : (0 : Int) ≤ y := by omega
                go_wp2_with fail
                exact ⟨⟨m + 1, t', C, H', V', tok, tv, by omega, by omega, rfl, by go_num, by omega, HI'⟩, by simp [intOf]; omega⟩
              obtain ⟨p, rfl⟩ : ∃ p : Nat, y = p := ⟨y.toNat, by omega⟩
              have hp : p < n := by omega
              have g1 : (0 : Int) ≤ (p : Int) := by omega
              have g2 : (p : Int) < (n : Int) := by omega
              have qp := ptr_cell HI'.out.row hp
              cases hle : leB tok (snapV (V' p)) with
              | false =>
                have K10 := hid (begin_no A _ (HS.out.below HI'.out.net.bel) HI'.out k1 n6 (by omega) hp hle)
                clear hle
                go_wp2_with (go_at_call 10; refine K10.out.mono ?_; rintro e w5 ⟨rfl, hb5⟩; have B5 := hid hb5; clear hb5)
                refine (coded_sentS A w.heap.size w5 10 11 (HS.out.below (HI'.out.net.bel.trans (B5.out.mono HI'.out.net.bel.size))) (by decide) (by decide)).mono ?_
                rintro e w6 ⟨rfl, hb6⟩
                have I6 : Hid (SesI w n k t' C pb pc sb H' V' tok tv w6) := (show SesI _ _ _ _ _ _ _ _ _ _ _ _ _ from by
                  have hb := B5.out.trans (hb6.mono B5.out.size)
                  exact HI'.out.moved (HI'.out.net.below hb) HI'.out.inv (NetMv.below hb) HI'.out.all)
                clear hb6 K10 HI' B5
                go_wp2_with fail
                exact ⟨⟨m + 1, t', C, H', V', tok, tv, by omega, by omega, rfl, by go_num, by omega, I6⟩, by simp [intOf]; omega⟩
              | true =>
                have K10 := hid (begin_yes A (HS.out.sen.below HI'.out.net.bel) HI'.out k1 n6 (by omega) hp hle)
                clear hle HI'
                go_wp2_with (go_at_call 10; refine K10.out.mono ?_; rintro e w5 ⟨a5, c5, xb, ab, tv5, rfl, hT5⟩; have T5 := hid hT5; clear hT5)
                obtain ⟨k0, K12⟩ : ∃ k0 : Int, Hid (Calls Tryz.prog 12 #[.pointer (some ⟨sb, 0, none⟩), .string nKey] w5 (ReadRet k0 C.length (fun _ => True) w5)) := ⟨_, hid (tr_read0 A (HS.out.sen.below T5.out.net.bel) T5.out k1 n6 (by omega) hp)⟩
                clear K10 qp qy
                refine K12.out.mono ?_
                rintro e w6 ⟨x6, sa6, sn6, sc6, _, rfl, hb6⟩
                have T6 := hid (T5.out.below hb6)
                clear hb6 K12 T5
                go_wp2_with fail
                obtain ⟨w7, hw7⟩ : ∃ w7, w7 = w6.alloc (.cells #[.int .i64 k0, .string x6, .int .i64 C.length, .slice sa6 sn6 sc6] 41) := ⟨_, rfl⟩
                rw [← hw7]
                have b7 : Below w6.heap.size w6 w7 := by rw [hw7]; exact below_alloc _ _
                have r7 : w7.heap[w6.heap.size]? = some (.cells #[.int .i64 k0, .string x6, .int .i64 C.length, .slice sa6 sn6 sc6] 41 (0, 0)) := by rw [hw7]; exact heap_new _ _
                have T7 := hid (T6.out.below b7)
                have R7 := hid r7
                have LT : Hid (xb < w6.heap.size) := lt_of_heap T6.out.tra
                have OF6 := hid (T6.out.net.off_ge (Nat.le_refl w6.heap.size))
                have LW : Hid (w.heap.size ≤ w6.heap.size) := T6.out.net.bel.size
                clear T6
                clear hw7 b7 r7
                have K13 := hid (tr_add A (HS.out.sen.below T7.out.net.bel) T7.out n1 n6)
                refine K13.out.mono ?_
                rintro e w8 ⟨ob, oc, rfl, hT8, hO8, B8, hr8⟩
                have r8 := (hO8.block _ (lt_of_heap R7.out) (by have := LT.out; omega)).trans R7.out
                have R8 := hid r8
                have T8 := hid hT8
                have HR8 := hid hr8
                clear hT8 hO8 hr8 r8 K13 T7 R7
                go_wp2_with fail
                have K12 := hid (tr_read1 A (HS.out.sen.below T8.out.net.bel) T8.out HR8.out k1 n6 (by omega) hp)
                refine K12.out.mono ?_
                rintro e w9 ⟨x9, sa9, sn9, sc9, _, rfl, hb9⟩
                have T9 := hid (T8.out.below hb9)
                have HR9 : Hid (∃ B, w9.ownsRow B 97 7 (.slice (some ⟨ob, 0, none⟩) 1 oc) 1 [.int .i64 0, .string nKey, .int .i64 2, .string ⟨#[]⟩, .int .i64 1, .bool false, .slice none 0 0]) := (show ∃ B, World.ownsRow _ _ _ _ _ _ _ from ⟨_, own_keep HR8.out fun q hq => hb9.block q (HR8.out.lt q hq).2⟩)
                have r9 := (hb9.block _ (lt_of_heap R8.out)).trans R8.out
                have R9 := hid r9
                have Q9 := hid (row4 r9)
                have S9 := hid (set4 r9 [.int .i64 2, .string x9, .int .i64 ((C.length : Int) + 1), .slice sa9 sn9 sc9] rfl)
                have hC20 : (C.length : Int) ≤ 20 := by omega
                clear hb9 K12 T8 R8 HR8 r9
                go_wp2_with (refine wpList_store_k _ rfl (.tmp 21) (.tmp 175) 41 rfl w6.heap.size 0 [.int .i64 2, .string x9, .int .i64 ((C.length : Int) + 1), .slice sa9 sn9 sc9] rfl rfl 4 rfl Tryz.sizeOf41 rfl _ ?hW Q9.out.1 Q9.out.2 ?_; (case hW => rfl); obtain ⟨w10, hw10⟩ : ∃ w10, w10 = w9.setCells w6.heap.size 0 [.int .i64 2, .string x9, .int .i64 ((C.length : Int) + 1), .slice sa9 sn9 sc9] := ⟨_, rfl⟩; rw [← hw10]; have d2 : w10.cell? ⟨w6.heap.size, 2, none⟩ = some (.int .i64 ((C.length : Int) + 1)) := (by rw [hw10]; exact S9.out 2 (show 2 < 4 from by decide)); have O10 : Hid (Only w6.heap.size w9 w10) := (show Only _ _ _ from by rw [hw10]; exact only_setCells _ _ (Only.of (Below.refl _ _))); clear hw10)
                have T10 := hid (T9.out.turn hp R9.out OF6.out LW.out O10.out).1
                have HR10 : Hid (∃ B, w10.ownsRow B 97 7 (.slice (some ⟨ob, 0, none⟩) 1 oc) 1 [.int .i64 0, .string nKey, .int .i64 2, .string ⟨#[]⟩, .int .i64 1, .bool false, .slice none 0 0]) := (show ∃ B, World.ownsRow _ _ _ _ _ _ _ from let ⟨B, h⟩ := HR9.out; ⟨B, ops_turn h R9.out O10.out⟩)
                clear T9 R9 Q9 S9 O10 HR9 d2 OF6 LW LT
                obtain ⟨B10, hr10⟩ := HR10.out
                have K14 := hid (tr_commit A (HS.out.sen.below T10.out.net.bel) T10.out hr10 k1 k6 n6 (by omega) hp)
                clear hr10 HR10
                refine K14.out.mono ?_
                rintro e w11 ⟨H11, V11, a3, a4, n3, c3, n4, c4, la, lc, rs, tok', tv', rfl, hU, _⟩
                obtain ⟨w12, hw12⟩ : ∃ w12, w12 = w11.alloc (.cells #[.slice none 0 0, .int .i64 0, .slice none 0 0] 47) := ⟨_, rfl⟩
                have r12 : w12.heap[w11.heap.size]? = some (.cells #[.slice none 0 0, .int .i64 0, .slice none 0 0] 47 (0, 0)) := by rw [hw12]; exact heap_new _ _
                have b13 : Below w11.heap.size w11 (w12.setCells w11.heap.size 0 [.slice a3 n3 c3, .int .i64 p, .slice a4 n4 c4]) := by rw [hw12]; exact below_setCells (Nat.le_refl _) _ _ (below_alloc _ _)
                have U13 := hid (hU.below b13)
                have Q12 := hid (rowk r12 (n := 3) rfl)
                have W12 := hid hw12
                clear hU K14 T10 r12 b13 hw12
                go_wp2_with (refine wpList_store_k _ rfl (.tmp 22) (.tmp 189) 47 rfl w11.heap.size 0 [.slice a3 n3 c3, .int .i64 p, .slice a4 n4 c4] rfl rfl 3 rfl Tryz.sizeOf47 rfl w12 ?hW Q12.out.1 Q12.out.2 ?_; (case hW => exact W12.out.symm); rw [← W12.out]; clear Q12 W12; obtain ⟨w13, hw13⟩ : ∃ w13, w13 = w12.setCells w11.heap.size 0 [.slice a3 n3 c3, .int .i64 p, .slice a4 n4 c4] := ⟨_, rfl⟩; rw [← hw13] at U13 ⊢; clear hw13)
                have K8 := hid (U13.out.arrive A HS.out.sen n1 n6 (by omega))
                refine K8.out.mono ?_
                rintro e w14 ⟨H14, V14, rfl, hI14, _⟩
                have I14 := hid hI14
                clear hI14 K8 U13
                go_wp2_with fail
                exact ⟨⟨m + 1, t' + 1, C ++ [nxt V' p], H14, V14, tok', tv', by omega, by omega, by simp, by go_num, by simp; omega, I14⟩, by simp [intOf]; omega⟩
        · have z5 : ¬ (m : Int) < (bn : Int) := by omega
          go_upto_if 111 with fail
          go_cut [16, 17] (fun d i wx => d = .int .i64 C.length ∧ i = .int .i64 m ∧ ∃ (t' : Nat) (H' : Nat → PlH) (V' : Nat → PlV), t' ≤ t + 1 ∧ Hid (SesI w n k t' C pb pc sb H' V' tok tv wx))
          case first =>
            go_wp2_with fail
            go_meet
            exact ⟨rfl, rfl, t, H, V, Nat.le_succ _, HI⟩
          case rest =>
            as_aux_lemma =>
              obtain ⟨rfl, rfl, t', H', V', ht', HI'⟩ := hcut
              clear HI
              obtain ⟨ad, cap, hsl, _, hop⟩ := HV.out
              injection hsl with ha1 hl1 hc1
              clear hl1 hc1
              obtain ⟨vb, voff, had, hq⟩ := hop.resolve_left (fun h => by have := HVN.out; rw [h] at this; simp at this; omega)
              rw [had] at ha1
              subst ha1
              obtain ⟨y, hye⟩ : ∃ y, y = vs.getD m 0 := ⟨_, rfl⟩
              have qy : wc.cell? ⟨vb, voff + m, none⟩ = some (.int .i64 y) := by
                have h := hq m (by have := HVN.out; omega)
                rw [hye]
                exact (HI'.out.net.bel.cell (p := ⟨vb, voff + m, none⟩) (lt_of_cell h)).trans h
              clear hq hop had hye
              by_cases hy0 : y < 0
              · go_wp2_with fail
                exact ⟨⟨m + 1, t', C, H', V', tok, tv, by omega, by omega, rfl, by go_num, by omega, HI'⟩, by simp [intOf]; omega⟩
              by_cases hy1 : (n : Int) ≤ y
              · have hy2 : (0 : Int) ≤ y := by omega
                go_wp2_with fail
                exact ⟨⟨m + 1, t', C, H', V', tok, tv, by omega, by omega, rfl, by go_num, by omega, HI'⟩, by simp [intOf]; omega⟩
              obtain ⟨p, rfl⟩ : ∃ p : Nat, y = p := ⟨y.toNat, by omega⟩
              have hp : p < n := by omega
              have g1 : (0 : Int) ≤ (p : Int) := by omega
              have g2 : (p : Int) < (n : Int) := by omega
              have qp := ptr_cell HI'.out.row hp
              cases hle : leB tok (snapV (V' p)) with
              | false =>
                have K10 := hid (begin_no A _ (HS.out.below HI'.out.net.bel) HI'.out k1 n6 (by omega) hp hle)
                clear hle
                go_wp2_with (go_at_call 10; refine K10.out.mono ?_; rintro e w5 ⟨rfl, hb5⟩; have B5 := hid hb5; clear hb5)
                refine (coded_sentS A w.heap.size w5 10 11 (HS.out.below (HI'.out.net.bel.trans (B5.out.mono HI'.out.net.bel.size))) (by decide) (by decide)).mono ?_
                rintro e w6 ⟨rfl, hb6⟩
                have I6 : Hid (SesI w n k t' C pb pc sb H' V' tok tv w6) := (show SesI _ _ _ _ _ _ _ _ _ _ _ _ _ from by
                  have hb := B5.out.trans (hb6.mono B5.out.size)
                  exact HI'.out.moved (HI'.out.net.below hb) HI'.out.inv (NetMv.below hb) HI'.out.all)
                clear hb6 K10 HI' B5
                go_wp2_with fail
                exact ⟨⟨m + 1, t', C, H', V', tok, tv, by omega, by omega, rfl, by go_num, by omega, I6⟩, by simp [intOf]; omega⟩
              | true =>
                have K10 := hid (begin_yes A (HS.out.sen.below HI'.out.net.bel) HI'.out k1 n6 (by omega) hp hle)
                clear hle HI'
                go_wp2_with (go_at_call 10; refine K10.out.mono ?_; rintro e w5 ⟨a5, c5, xb, ab, tv5, rfl, hT5⟩; have T5 := hid hT5; clear hT5)
                obtain ⟨k0, K12⟩ : ∃ k0 : Int, Hid (Calls Tryz.prog 12 #[.pointer (some ⟨sb, 0, none⟩), .string nKey] w5 (ReadRet k0 C.length (fun _ => True) w5)) := ⟨_, hid (tr_read0 A (HS.out.sen.below T5.out.net.bel) T5.out k1 n6 (by omega) hp)⟩
                clear K10 qp qy
                refine K12.out.mono ?_
                rintro e w6 ⟨x6, sa6, sn6, sc6, _, rfl, hb6⟩
                have T6 := hid (T5.out.below hb6)
                clear hb6 K12 T5
                go_wp2_with fail
                obtain ⟨w7, hw7⟩ : ∃ w7, w7 = w6.alloc (.cells #[.int .i64 k0, .string x6, .int .i64 C.length, .slice sa6 sn6 sc6] 41) := ⟨_, rfl⟩
                rw [← hw7]
                have b7 : Below w6.heap.size w6 w7 := by rw [hw7]; exact below_alloc _ _
                have r7 : w7.heap[w6.heap.size]? = some (.cells #[.int .i64 k0, .string x6, .int .i64 C.length, .slice sa6 sn6 sc6] 41 (0, 0)) := by rw [hw7]; exact heap_new _ _
                have T7 := hid (T6.out.below b7)
                have R7 := hid r7
                have LT : Hid (xb < w6.heap.size) := lt_of_heap T6.out.tra
                have OF6 := hid (T6.out.net.off_ge (Nat.le_refl w6.heap.size))
                have LW : Hid (w.heap.size ≤ w6.heap.size) := T6.out.net.bel.size
                clear T6
                clear hw7 b7 r7
                have K13 := hid (tr_add A (HS.out.sen.below T7.out.net.bel) T7.out n1 n6)
                refine K13.out.mono ?_
                rintro e w8 ⟨ob, oc, rfl, hT8, hO8, B8, hr8⟩
                have r8 := (hO8.block _ (lt_of_heap R7.out) (by have := LT.out; omega)).trans R7.out
                have R8 := hid r8
                have T8 := hid hT8
                have HR8 := hid hr8
                clear hT8 hO8 hr8 r8 K13 T7 R7
                go_wp2_with fail
                have K12 := hid (tr_read1 A (HS.out.sen.below T8.out.net.bel) T8.out HR8.out k1 n6 (by omega) hp)
                refine K12.out.mono ?_
                rintro e w9 ⟨x9, sa9, sn9, sc9, _, rfl, hb9⟩
                have T9 := hid (T8.out.below hb9)
                have HR9 : Hid (∃ B, w9.ownsRow B 97 7 (.slice (some ⟨ob, 0, none⟩) 1 oc) 1 [.int .i64 0, .string nKey, .int .i64 2, .string ⟨#[]⟩, .int .i64 1, .bool false, .slice none 0 0]) := (show ∃ B, World.ownsRow _ _ _ _ _ _ _ from ⟨_, own_keep HR8.out fun q hq => hb9.block q (HR8.out.lt q hq).2⟩)
                have r9 := (hb9.block _ (lt_of_heap R8.out)).trans R8.out
                have R9 := hid r9
                have Q9 := hid (row4 r9)
                have S9 := hid (set4 r9 [.int .i64 2, .string x9, .int .i64 ((C.length : Int) + 1), .slice sa9 sn9 sc9] rfl)
                have hC20 : (C.length : Int) ≤ 20 := by omega
                clear hb9 K12 T8 R8 HR8 r9
                go_wp2_with (refine wpList_store_k _ rfl (.tmp 21) (.tmp 175) 41 rfl w6.heap.size 0 [.int .i64 2, .string x9, .int .i64 ((C.length : Int) + 1), .slice sa9 sn9 sc9] rfl rfl 4 rfl Tryz.sizeOf41 rfl _ ?hW Q9.out.1 Q9.out.2 ?_; (case hW => rfl); obtain ⟨w10, hw10⟩ : ∃ w10, w10 = w9.setCells w6.heap.size 0 [.int .i64 2, .string x9, .int .i64 ((C.length : Int) + 1), .slice sa9 sn9 sc9] := ⟨_, rfl⟩; rw [← hw10]; have d2 : w10.cell? ⟨w6.heap.size, 2, none⟩ = some (.int .i64 ((C.length : Int) + 1)) := (by rw [hw10]; exact S9.out 2 (show 2 < 4 from by decide)); have O10 : Hid (Only w6.heap.size w9 w10) := (show Only _ _ _ from by rw [hw10]; exact only_setCells _ _ (Only.of (Below.refl _ _))); clear hw10)
                have T10 := hid (T9.out.turn hp R9.out OF6.out LW.out O10.out).1
                have HR10 : Hid (∃ B, w10.ownsRow B 97 7 (.slice (some ⟨ob, 0, none⟩) 1 oc) 1 [.int .i64 0, .string nKey, .int .i64 2, .string ⟨#[]⟩, .int .i64 1, .bool false, .slice none 0 0]) := (show ∃ B, World.ownsRow _ _ _ _ _ _ _ from let ⟨B, h⟩ := HR9.out; ⟨B, ops_turn h R9.out O10.out⟩)
                clear T9 R9 Q9 S9 O10 HR9 d2 OF6 LW LT
                obtain ⟨B10, hr10⟩ := HR10.out
                have K14 := hid (tr_commit A (HS.out.sen.below T10.out.net.bel) T10.out hr10 k1 k6 n6 (by omega) hp)
                clear hr10 HR10
                refine K14.out.mono ?_
                rintro e w11 ⟨H11, V11, a3, a4, n3, c3, n4, c4, la, lc, rs, tok', tv', rfl, hU, _⟩
                obtain ⟨w12, hw12⟩ : ∃ w12, w12 = w11.alloc (.cells #[.slice none 0 0, .int .i64 0, .slice none 0 0] 47) := ⟨_, rfl⟩
                have r12 : w12.heap[w11.heap.size]? = some (.cells #[.slice none 0 0, .int .i64 0, .slice none 0 0] 47 (0, 0)) := by rw [hw12]; exact heap_new _ _
                have b13 : Below w11.heap.size w11 (w12.setCells w11.heap.size 0 [.slice a3 n3 c3, .int .i64 p, .slice a4 n4 c4]) := by rw [hw12]; exact below_setCells (Nat.le_refl _) _ _ (below_alloc _ _)
                have U13 := hid (hU.below b13)
                have Q12 := hid (rowk r12 (n := 3) rfl)
                have W12 := hid hw12
                clear hU K14 T10 r12 b13 hw12
                go_wp2_with (refine wpList_store_k _ rfl (.tmp 22) (.tmp 189) 47 rfl w11.heap.size 0 [.slice a3 n3 c3, .int .i64 p, .slice a4 n4 c4] rfl rfl 3 rfl Tryz.sizeOf47 rfl w12 ?hW Q12.out.1 Q12.out.2 ?_; (case hW => exact W12.out.symm); rw [← W12.out]; clear Q12 W12; obtain ⟨w13, hw13⟩ : ∃ w13, w13 = w12.setCells w11.heap.size 0 [.slice a3 n3 c3, .int .i64 p, .slice a4 n4 c4] := ⟨_, rfl⟩; rw [← hw13] at U13 ⊢; clear hw13)
                have K8 := hid (U13.out.arrive A HS.out.sen n1 n6 (by omega))
                refine K8.out.mono ?_
                rintro e w14 ⟨H14, V14, rfl, hI14, _⟩
                have I14 := hid hI14
                clear hI14 K8 U13
                go_wp2_with fail
                exact ⟨⟨m + 1, t' + 1, C ++ [nxt V' p], H14, V14, tok', tv', by omega, by omega, by simp, by go_num, by simp; omega, I14⟩, by simp [intOf]; omega⟩
      · obtain rfl : m = vn := by omega
        have B := hid HI.out.net.bel
        clear HI
        go_wp2_with fail
        go_ret
        exact ⟨rfl, B.out⟩
end Go.Proofs.YtepnghacjggkkaaGreatDoor
