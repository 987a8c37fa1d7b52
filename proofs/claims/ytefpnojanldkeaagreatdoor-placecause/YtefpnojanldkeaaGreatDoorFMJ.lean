/- PlaceWhole: the walk. -/
import Derived.Test.YtefpnojanldkeaaGreatDoorFNB
import Derived.Test.YtefpnojanldkeaaGreatDoorFMV
import Derived.Test.YtefpnojanldkeaaGreatDoorJVRefN
import Derived.Deep.DeepCutAuto
import Derived.Deep.CutBlock
namespace Go.Proofs.YtefpnojanldkeaaGreatDoor
open Go.RowKit Go.Maps
set_option maxRecDepth 100000
set_option linter.unusedSectionVars false
variable [Inhabited ComV] [DecidableEq D3] [Inhabited D3] [Inhabited Dd] [Inhabited Dn] [Inhabited OpV]

theorem src_row {w : World} {base e size n : Nat} {v : Value} {xs : List Value} (h : w.ownsRow base e size v n xs) : SrcAt w v n size xs := by
  obtain ⟨h1, h2⟩ := h
  rcases h2 with ⟨hv, h0⟩ | ⟨g, cap, cur, hv, _, hh, hc, _, hs, ht⟩
  · subst h0
    exact .inl ⟨hv, rfl, List.length_eq_zero_iff.1 (by omega)⟩
  · refine .inr ⟨⟨g, 0, none⟩, cap, hv, h1, fun j u hu => ?_⟩
    have hj : j < n * size := by have := (List.getElem?_eq_some_iff.1 hu).1; omega
    rw [← ht, List.getElem?_take, if_pos hj, Array.getElem?_toList] at hu
    rw [Addr.add_lit, Nat.zero_add, cell_of hh]
    exact hu
theorem fill4 {w : World} {g : Nat} {a b c d : Value} {t : TypeId} (h : w.heap[g]? = some (.cells #[a, b, c, d] t (0, 0))) (v0 v1 v2 v3 : Value) :
    ((((w.setCell ⟨g, 0, none⟩ v0).setCell ⟨g, 1, none⟩ v1).setCell ⟨g, 2, none⟩ v2).setCell ⟨g, 3, none⟩ v3).heap[g]? = some (.cells #[v0, v1, v2, v3] t (0, 0)) ∧
    ∀ (B : Nat) (w0 : World), Below B w0 w → B ≤ g → Below B w0 ((((w.setCell ⟨g, 0, none⟩ v0).setCell ⟨g, 1, none⟩ v1).setCell ⟨g, 2, none⟩ v2).setCell ⟨g, 3, none⟩ v3) := by
  refine ⟨?_, fun B w0 hb hB => (((hb.setCell hB _).setCell hB _).setCell hB _).setCell hB _⟩
  rw [heap_set (heap_set (heap_set (heap_set h v0) v1) v2) v3]
  rfl
theorem keep4 {w : World} {g ab j : Nat} {v0 v1 v2 v3 x : Value} (hne : ab ≠ g) (h1 : w.cell? ⟨ab, j, none⟩ = some x) :
    ((((w.setCell ⟨g, 0, none⟩ v0).setCell ⟨g, 1, none⟩ v1).setCell ⟨g, 2, none⟩ v2).setCell ⟨g, 3, none⟩ v3).cell? ⟨ab, j, none⟩ = some x := by
  have h : ((((w.setCell ⟨g, 0, none⟩ v0).setCell ⟨g, 1, none⟩ v1).setCell ⟨g, 2, none⟩ v2).setCell ⟨g, 3, none⟩ v3).heap[ab]? = w.heap[ab]? := by
    rw [Below.heap_setCell _ _ _ _ hne, Below.heap_setCell _ _ _ _ hne, Below.heap_setCell _ _ _ _ hne, Below.heap_setCell _ _ _ _ hne]
  exact (World.cell?_of_block (a := ⟨ab, j, none⟩) h).trans h1
theorem ints_more {w : World} {v : Value} {zs : List Int} (h : IntsAt w v zs) (o : Obj) : IntsAt (w.alloc o) v zs := h.mono (below_alloc _ _) (Nat.le_refl _)
set_option maxHeartbeats 16000000 in
theorem whole_in (A : Nat → Addr) (w : World) (hS : Sen A w.heap.size w) (k : Nat) (k1 : 1 ≤ k) (k6 : k ≤ 6) (ks : List ByteArray) (n1 : 1 ≤ ks.length) (n12 : ks.length ≤ 12) (zs : List Int) (hz : zs.length ≤ 60) (kb ko kc : Nat) (hkc : ∀ i, (hi : i < ks.length) → w.cell? ⟨kb, ko + i, none⟩ = some (.string ks[i])) (pa : Option Addr) (pc : Nat) (hp : zs = [] ∨ ∃ b off, pa = some ⟨b, off, none⟩ ∧ ∀ t, t < zs.length → w.cell? ⟨b, off + t, none⟩ = some (.int .i64 (zs.getD t 0))) (bb : Bool) :
    Calls Tryz.prog 3 #[.int .i64 k, .slice (some ⟨kb, ko, none⟩) ks.length kc, .slice pa zs.length pc, .bool bb] w fun e w' => e = .returned (.bool true) ∧ Below w.heap.size w w' := by
  have K6 := hid (placed_any A _ w hS)
  have K70 := hid (fun W => new_w0 W k k1 k6)
  have K71 := hid (fun W => new_w1 W k k1 k6)
  have HS := hid hS
  have HKC := hid hkc
  have HP := hid hp
  have H12 : Hid (12 ≤ w.heap.size) := (show _ ≤ _ from by have := hS.gl; omega)
  have i1 : (1 : Int) ≤ k := by omega
  have i2 : (k : Int) ≤ 6 := by omega
  obtain ⟨kn, hkn⟩ : ∃ kn, kn = ks.length := ⟨_, rfl⟩
  obtain ⟨zn, hzn⟩ : ∃ zn, zn = zs.length := ⟨_, rfl⟩
  rw [← hkn] at n1 n12
  rw [← hzn] at hz
  rw [← hkn, ← hzn]
  have HKN := hid hkn
  have HZN := hid hzn
  have i3 : (1 : Int) ≤ kn := by omega
  have i4 : (kn : Int) ≤ 12 := by omega
  have i5 : (zn : Int) ≤ 60 := by omega
  clear hS hkc hp hkn hzn
  go_enter Tryz.func3, Tryz.ntmps3
  go_wp2_with fail
  refine K6.out.mono ?_
  rintro e w1 ⟨rfl, hb1⟩
  go_wp2_with fail
  refine (K70.out w1).mono ?_
  rintro e w2 ⟨ha, rfl, hPa, hfa, hb2, hna, hxa⟩
  go_wp2_with fail
  refine (K71.out w2).mono ?_
  rintro e w3 ⟨hb, rfl, hPb, hfb, hb3, hnb, hxb⟩
  have BW : Hid (Below w.heap.size w w3) := (show Below _ _ _ from (hb1.trans (hb2.mono hb1.size)).trans (hb3.mono (Nat.le_trans hb1.size hb2.size)))
  have PA := hid (hPa.below hb3)
  have PB := hid hPb
  have LA : Hid (∀ q, ha.foot (pv0 0 2 k) q → w.heap.size ≤ q) := (show ∀ q, _ → _ from fun q hq => Nat.le_trans hb1.size (hfa q hq))
  have LB : Hid (∀ q, hb.foot (pv0 1 2 k) q → w.heap.size ≤ q) := (show ∀ q, _ → _ from fun q hq => Nat.le_trans (Nat.le_trans hb1.size hb2.size) (hfb q hq))
  have DIS : Hid (∀ q, ha.foot (pv0 0 2 k) q → ¬ hb.foot (pv0 1 2 k) q) := (show ∀ q, _ → _ from fun q h1 h2 => by have := hPa.lt h1; have := hfb q h2; omega)
  have NA := hid hna
  have XA := hid hxa
  have NB := hid hnb
  have XB := hid hxb
  clear hb1 hb2 hb3 hPa hPb hfa hfb hna hxa hnb hxb K6 K70 K71
  go_upto_block 0 with fail
  go_cut [14] (fun x wx => ∃ ov, x = ov ∧ Hid (OpsI w3 ks kn ov wx))
  case first =>
    obtain ⟨i34, hi, hz0, hz1, hz2⟩ := info_parts Tryz.info34
    have I0 := hid (OpsI.zero w3 ks)
    go_wp2_with fail
    go_loopw [14, 15] (fun o i wr => ∃ (m : Nat) (ov : Value), m ≤ kn ∧ i = .int .i64 m ∧ o = ov ∧ Hid (OpsI w3 ks m ov wr)) (fun _ i _ => kn - (intOf i).toNat)
    case atStart => exact ⟨0, _, Nat.zero_le _, rfl, rfl, I0⟩
    case round =>
      clear I0
      obtain ⟨m, ov, hm, rfl, hov, HI⟩ := hrel
      obtain rfl := hov.symm
      by_cases hlt : m < kn
      · have hj1 : (m : Int) < (kn : Int) := by omega
        obtain ⟨ky, hky⟩ : ∃ ky, ks[m]? = some ky := ⟨_, List.getElem?_eq_getElem (by have := HKN.out; omega)⟩
        have q : wr.cell? ⟨kb, ko + m, none⟩ = some (.string ky) := by
          have h0 := HKC.out m (by have := HKN.out; omega)
          have h1 : ks[m]'(by have := HKN.out; omega) = ky := (List.getElem?_eq_some_iff.1 hky).2
          rw [h1] at h0
          exact ((BW.out.trans (HI.out.bel.mono BW.out.size)).cell (p := ⟨kb, ko + m, none⟩) (lt_of_cell h0)).trans h0
        have K8 := hid (rIsName wr ky)
        cases hnm : nameB ky with
        | false =>
          have BR : Hid (Below w.heap.size w wr) := (show Below _ _ _ from BW.out.trans (HI.out.bel.mono BW.out.size))
          rw [hnm] at K8
          clear hky hnm
          go_wp2_with (go_at_call 8; refine K8.out.mono ?_; rintro e w4 ⟨rfl, hw4⟩; rw [hw4]; clear hw4)
          go_ret
          exact ⟨rfl, BR.out⟩
        | true =>
          rw [hnm] at K8
          have X2 : Hid ((wr.alloc (.cells (litC ky) 34)).ownsRow w3.heap.size 34 7 ov m ((cOps (ks.take m)).map opC).flatten) := (show World.ownsRow _ _ _ _ _ _ _ from own_keep HI.out.row fun g hg => Below.heap_alloc _ _ _ (HI.out.row.lt g hg).2)
          have SZ : Hid (w3.heap.size ≤ (wr.alloc (.cells (litC ky) 34)).heap.size) := (show _ ≤ _ from by have := HI.out.bel.size; simp; omega)
          have HNM := hid hnm
          have HKY := hid hky
          clear hnm hky
          go_wp2_with (first | (go_at_call 8; refine K8.out.mono ?_; rintro e w4 ⟨rfl, hw4⟩; rw [hw4]; clear hw4) | (refine wpList_litC _ 96 97 98 (of_decide_eq_true rfl) rfl rfl rfl rfl rfl rfl ky rfl ?_) | (at_builtin; refine wpList_append_own_srcS rfl _ _ 30 rfl w3.heap.size 34 i34 _ 7 88 Tryz.underlying30 hi hz0 hz1 hz2 rfl (by decide) _ _ _ rfl X2.out _ 1 (opC (cOp ky)) rfl (src_litC (heap_new _ _)) (one_litC _) ?hm2 ?hm3 SZ.out ?_; (case hm2 => unfold maxLen; omega); (case hm3 => omega); intro v3 w5 hown3 hgr3 _; have I3 := hid (HI.out.next HKY.out HNM.out hgr3 hown3); clear hown3 hgr3))
          exact ⟨⟨m + 1, v3, by omega, by go_num, rfl, I3⟩, by simp [intOf]; omega⟩
      · obtain rfl : m = kn := by omega
        go_wp2_with fail
        go_meet
        exact ⟨ov, rfl, HI⟩
  case rest =>
    obtain ⟨ov, hx, HI⟩ := hcut
    obtain ⟨oa, oc, hov⟩ := row_shape HI.out.row
    rw [hx, hov]
    rw [hov] at HI
    clear hx hov
    have hks : ks ≠ [] := fun e => by have := HKN.out; rw [e] at this; simp at this; omega
    have hk12 : ks.length ≤ 12 := by have := HKN.out; omega
    have hnm : ∀ key ∈ ks, nameB key = true := fun key h => HI.out.nm key (by rw [HKN.out, List.take_length]; exact h)
    have HKS := hid hks
    have HK12 := hid hk12
    have HNM := hid hnm
    obtain ⟨w5, hw5⟩ : ∃ w5, w5 = wc.alloc (.cells #[.int .i64 0, .int .i64 0] 3) := ⟨_, rfl⟩
    have b5 : Below wc.heap.size wc w5 := by rw [hw5]; exact below_alloc _ _
    have b35 : Below w3.heap.size w3 w5 := HI.out.bel.trans (b5.mono HI.out.bel.size)
    have BW5 : Hid (Below w.heap.size w w5) := (show Below _ _ _ from BW.out.trans (b35.mono BW.out.size))
    have hI5 : IntsAt w5 (.slice (some ⟨wc.heap.size, 0, none⟩) 2 2) [0, 0] := by rw [hw5]; exact ints_two (heap_new _ _)
    have hO5 : OpsAt w5 (.slice oa kn oc) (cOps ks) := by
      have h0 := HI.out.row
      rw [HKN.out, List.take_length] at h0
      exact (ops_own rfl (by rw [HKN.out]; exact own_keep h0 fun g hg => b5.block g (h0.lt g hg).2))
    have K9 := hid (whole_commit A (HS.out.below BW5.out) BW5.out (PA.out.below b35) (PB.out.below b35) LA.out LB.out DIS.out NA.out XA.out hks hk12 hnm (some ⟨wc.heap.size, 0, none⟩) oa 2 2 kn oc hI5 hO5)
    clear hI5 hO5 b35 b5 hks hk12 hnm HI
    go_wp2_with (refine wpList_zero2 _ rfl rfl ?_)
    rw [← hw5]
    clear hw5
    refine K9.out.mono ?_
    rintro e w6 ⟨ha6, a3, a4, c3, c4, rv, rs, rfl, hpb6, hlen6, hI6⟩
    obtain ⟨ra, rc, hrv⟩ := row_shape hI6.row
    subst hrv
    obtain ⟨w7, hw7⟩ : ∃ w7, w7 = w6.alloc (.cells #[.slice a3 2 c3, .int .i64 0, .slice a4 kn c4] 36) := ⟨_, rfl⟩
    have I7 : Hid (WcI w k ks ha6 (pv2 (pv0 0 2 k) (cW ks)) hb (.slice ra rs.length rc) rs w7) := (show WcI _ _ _ _ _ _ _ _ _ from hI6.below (by rw [hw7]; exact below_alloc _ _))
    clear hI6 K9 PA PB LA DIS NA XA
    rw [← hpb6]
    clear hpb6
    go_upto_region 17 with (fail)
    rw [← hw7]
    clear hw7
    go_upto_if 110 with fail
    go_cut [18] (fun x wx => ∃ (rs : List Raw) (ha : PlH) (va : PlV), rs.length ≤ 2000 ∧ Hid (WcI w k ks ha va hb x rs wx))
    case first =>
      cases bb with
      | false =>
        go_wp2_with fail
        go_meet
        exact ⟨rs, _, _, by omega, I7⟩
      | true =>
        obtain ⟨i44, hi, hz0, hz1, hz2⟩ := info_parts Tryz.info44
        have K10 := hid (whole_beat I7.out)
        go_wp2_with fail
        refine K10.out.mono ?_
        rintro e w8 ⟨ha8, va8, rv8, r2, rfl, hI8, hrow8, hlen8, hms8⟩
        have I8 := hid hI8
        have X8 := hid hI8.row
        have SRC := hid (src_row hrow8)
        have SZ : Hid (w.heap.size ≤ w8.heap.size) := (show _ ≤ _ from hI8.bel.size)
        have HMS := hid hms8
        obtain ⟨a8, c8, hr8⟩ := row_shape hrow8
        subst hr8
        clear hI8 hrow8 hms8 I7 K10
        go_wp2_with (at_builtin; refine wpList_append_own_srcS rfl _ _ 37 rfl w.heap.size 44 i44 _ 9 104 Tryz.underlying37 hi hz0 hz1 hz2 rfl (by decide) _ _ _ rfl X8.out _ r2.length (raws r2) rfl SRC.out (oneRs r2) ?hm2 ?hm3 SZ.out ?_; (case hm2 => unfold maxLen; omega); (case hm3 => omega); intro v9 w9 hown9 hgr9 hv9; have I9 : Hid (WcI w k ks ha8 va8 hb v9 (rs ++ r2) w9) := (show WcI _ _ _ _ _ _ _ _ _ from I8.out.app HMS.out hgr9 (by rw [raws_app, List.length_append]; exact hown9) hv9); clear hown9 hgr9 hv9)
        go_meet
        exact ⟨rs ++ r2, _, _, by rw [List.length_append]; omega, I9⟩
    case rest =>
      obtain ⟨rs, ha, va, hlen, HI⟩ := hcut
      obtain ⟨la, lc, hlv⟩ := row_shape HI.out.row
      rw [hlv]
      rw [hlv] at HI
      clear hlv
      have I0 := hid (HI.out.start NB.out XB.out)
      obtain ⟨ln, hln⟩ : ∃ ln, ln = rs.length := ⟨_, rfl⟩
      rw [← hln]
      rw [← hln] at I0 hlen
      have HLN := hid hln
      clear HI hln
      go_upto_block 2 with fail
      go_cut [20] (fun _ wx => ∃ (h : PlH) (v : PlV), h.pb = hb.pb ∧ Hid (WhI w k ks zn h v (.slice la ln lc) rs wx))
      case first =>
        go_wp2_with fail
        go_loopw [20] (fun i wr => ∃ (m : Nat) (h : PlH) (v : PlV), m ≤ zn ∧ i = .int .i64 m ∧ h.pb = hb.pb ∧ Hid (WhI w k ks m h v (.slice la ln lc) rs wr)) (fun i _ => zn - (intOf i).toNat)
        case atStart => exact ⟨0, hb, _, Nat.zero_le _, rfl, rfl, I0⟩
        case round =>
          clear I0
          obtain ⟨m, h, v, hm, rfl, hpb, HI⟩ := hrel
          by_cases hlt : m < zn
          · have hj1 : (m : Int) < (zn : Int) := by omega
            obtain ⟨pb, po, hpa, hpz⟩ : ∃ b off, pa = some ⟨b, off, none⟩ ∧ ∀ t, t < zs.length → w.cell? ⟨b, off + t, none⟩ = some (.int .i64 (zs.getD t 0)) := by
              rcases HP.out with e | e
              · have := HZN.out
                rw [e] at this
                simp at this
                omega
              · exact e
            subst hpa
            obtain ⟨z, hzz⟩ : ∃ z, z = zs.getD m 0 := ⟨_, rfl⟩
            have q : wr.cell? ⟨pb, po + m, none⟩ = some (.int .i64 z) := by
              have h0 := hpz m (by have := HZN.out; omega)
              rw [← hzz] at h0
              exact (HI.out.bel.cell (p := ⟨pb, po + m, none⟩) (lt_of_cell h0)).trans h0
            have IS := hid HI.out.step
            clear hzz hpz
            by_cases z0 : z < 0
            · go_wp2_with fail
              exact ⟨⟨m + 1, h, v, by omega, by go_num, hpb, IS⟩, by simp [intOf]; omega⟩
            · have z1 : 0 ≤ z := by omega
              by_cases z2 : (ln : Int) ≤ z
              · go_wp2_with fail
                exact ⟨⟨m + 1, h, v, by omega, by go_num, hpb, IS⟩, by simp [intOf]; omega⟩
              · obtain ⟨p, rfl⟩ : ∃ p : Nat, z = p := ⟨z.toNat, by omega⟩
                have z3 : p < ln := by omega
                have z4 : (p : Int) < (ln : Int) := by omega
                obtain ⟨r, hr⟩ : ∃ r, rs[p]? = some r := ⟨_, List.getElem?_eq_getElem (by have := HLN.out; omega)⟩
                have hrow := HI.out.row
                rw [← HLN.out] at hrow
                obtain ⟨lb, hla, _, hcell⟩ := row_raw hrow HLN.out.symm hr
                subst hla
                have x0 : wr.cell? ⟨lb, p * 9, none⟩ = some (.int .i64 r.x1) := hcell 0 _ rfl
                have x1 : wr.cell? ⟨lb, p * 9 + 1, none⟩ = some (.int .i64 r.x2) := hcell 1 _ rfl
                have x2 : wr.cell? ⟨lb, p * 9 + 2, none⟩ = some (.int .i64 r.x3) := hcell 2 _ rfl
                have x3 : wr.cell? ⟨lb, p * 9 + 3, none⟩ = some (.int .i64 r.x4) := hcell 3 _ rfl
                have x4 : wr.cell? ⟨lb, p * 9 + 4, none⟩ = some (.int .i64 r.x5) := hcell 4 _ rfl
                have x5 : wr.cell? ⟨lb, p * 9 + 5, none⟩ = some (.bool r.x6) := hcell 5 _ rfl
                have x6 : wr.cell? ⟨lb, p * 9 + 6, none⟩ = some (.slice r.a1 r.n1 r.c1) := hcell 6 _ rfl
                have x7 : wr.cell? ⟨lb, p * 9 + 7, none⟩ = some (.int .i64 r.p) := hcell 7 _ rfl
                have x8 : wr.cell? ⟨lb, p * 9 + 8, none⟩ = some (.slice r.a2 r.n2 r.c2) := hcell 8 _ rfl
                have K11 := hid (HI.out.hear A (HS.out.below HI.out.bel).e4 H12.out (by omega) HKS.out HK12.out HNM.out (List.mem_of_getElem? hr))
                clear hcell hrow hr
                rw [hpb] at K11
                go_wp2_with (go_at_call 11; refine K11.out.mono ?_; rintro e w4 ⟨h4, v4, a6, c6, rfl, hpb4, hI4⟩; have I4 := hid hI4; clear hI4)
                exact ⟨⟨m + 1, h4, v4, by omega, by go_num, hpb4, I4⟩, by simp [intOf]; omega⟩
          · obtain rfl : m = zn := by omega
            go_wp2_with fail
            go_meet
            exact ⟨h, v, hpb, HI⟩
      case rest =>
        obtain ⟨h, v, hpb, HI⟩ := hcut
        have K12 := hid (snapshot_any wc h v HI.out.at_)
        rw [HI.out.rc.vn, hpb] at K12
        go_wp2_with fail
        refine K12.out.mono ?_
        rintro e w4 ⟨rfl, hb4, hbl4⟩
        have I4 := hid (HI.out.below hbl4)
        have hsn : IntsAt w4 (.slice (some ⟨wc.heap.size, 0, none⟩) 2 2) (snapV v) := by
          have := ints_heap (c := 2) hb4
          rw [snapV_len, HI.out.rc.vn] at this
          exact this
        have HSN := hid hsn
        clear hsn hb4 hbl4 K12 HI
        obtain ⟨o, ho⟩ : ∃ o : Int, o = if snapJ v 0 = 1 then 2 else 0 := ⟨_, rfl⟩
        have HO := hid ho
        have ho2 : o = 2 ∨ o = 0 := by rw [ho]; split; exact .inl rfl; exact .inr rfl
        clear ho
        obtain ⟨g, hg⟩ : ∃ g, g = wc.heap.size := ⟨_, rfl⟩
        rw [← hg]
        rw [← hg] at HSN
        clear hg
        go_wp2_with fail
        go_loopw [24, 25] (fun c i wr => ∃ (m n : Nat), m ≤ kn ∧ i = .int .i64 m ∧ c = .int .i64 n ∧ ((o = 2 ∧ n = m) ∨ (o = 0 ∧ n = 0)) ∧ Hid (Below w4.heap.size w4 wr)) (fun _ i _ => kn - (intOf i).toNat)
        case atStart => exact ⟨0, 0, Nat.zero_le _, rfl, rfl, ho2.imp (fun h => ⟨h, rfl⟩) (fun h => ⟨h, rfl⟩), Below.refl _ _⟩
        case round =>
          obtain ⟨m, n, hm, rfl, rfl, hmn, HB⟩ := hrel
          by_cases hlt : m < kn
          · have hj1 : (m : Int) < (kn : Int) := by omega
            obtain ⟨ky, hky⟩ : ∃ ky, ks[m]? = some ky := ⟨_, List.getElem?_eq_getElem (by have := HKN.out; omega)⟩
            have q : wr.cell? ⟨kb, ko + m, none⟩ = some (.string ky) := by
              have h0 := HKC.out m (by have := HKN.out; omega)
              have h1 : ks[m]'(by have := HKN.out; omega) = ky := (List.getElem?_eq_some_iff.1 hky).2
              rw [h1] at h0
              exact ((I4.out.bel.trans (HB.out.mono I4.out.bel.size)).cell (p := ⟨kb, ko + m, none⟩) (lt_of_cell h0)).trans h0
            have IR := hid (I4.out.below HB.out)
            have K14 := hid (fun W (hW : Below wr.heap.size wr W) => own_copy W (some ⟨g, 0, none⟩) 2 2 (snapV v) (by rw [snapV_len, I4.out.rc.vn]; decide) ((HSN.out.mono HB.out (Nat.le_refl _)).mono hW (Nat.le_refl _)))
            have K13 := hid (fun W (hW : Below wr.heap.size wr W) a1 c1 hv => (IR.out.below hW).read A (HS.out.below (IR.out.below hW).bel).e4 H12.out (by omega) HKS.out HK12.out HNM.out (List.mem_of_getElem? hky) a1 2 c1 hv)
            rw [hpb, ← HO.out] at K13
            clear hky IR
            go_upto_region 33 with (fail)
            have hnr : kb ≠ wr.heap.size := Nat.ne_of_lt (lt_of_cell q)
            go_cut [26, 27] (fun xp er wx => ∃ (xb : Nat) (xt : ByteArray) (xn : Int) (sa : Option Addr) (sl sc : Nat), xp = .pointer (some ⟨xb, 0, none⟩) ∧ er = .nilIface ∧ Hid (wx.heap[xb]? = some (.cells #[.int .i64 o, .string xt, .int .i64 xn, .slice sa sl sc] 47 (0, 0))) ∧ Hid (Below wr.heap.size wr wx))
            case first =>
              go_region_held (fun u => u.cell? ⟨kb, ko + m, none⟩ = some (.string ky)) (first | (with_reducible refine keep4 ?_ ?_ <;> with_reducible assumption) | go_keep) (first
                | (go_at_call 14; refine (K14.out _ ?hb).mono ?_; (case hb => first | exact (Below.refl wr.heap.size wr).drew | exact (below_alloc wr _).drew); rintro e w5 ⟨a1, c1, rfl, hi5, hb5⟩; have hb5' : Below wr.heap.size wr w5 := (by first | exact (below_draws (Below.refl wr.heap.size wr) 1).trans hb5 | exact (below_draws (below_alloc wr _) 1).trans (hb5.mono (by show wr.heap.size ≤ (wr.alloc _).heap.size; simp))); have q5 : w5.cell? ⟨kb, ko + m, none⟩ = some (.string ky) := (hb5'.cell (p := ⟨kb, ko + m, none⟩) (lt_of_cell q)).trans q; (try (have hz5 : w5.heap[wr.heap.size]? = some (.cells #[.int .i64 0, .string ⟨#[]⟩, .int .i64 0, .slice none 0 0] 47 (0, 0)) := (hb5.block _ (by show wr.heap.size < (wr.alloc _).heap.size; simp)).trans (MapKept.heap_alloc wr _).1)); have hn5 : kb ≠ w5.heap.size := Nat.ne_of_lt (Nat.lt_of_lt_of_le (lt_of_cell q) hb5'.size); have HI5 := hid hi5; have HB5 := hid hb5'; clear hi5 hb5 hb5')
                | (go_at_call 13; refine (K13.out _ ?hb2 a1 c1 ?hi2).mono ?_; (case hb2 => first | exact HB5.out | exact HB5.out.alloc HB5.out.size _); (case hi2 => first | exact HI5.out | exact ints_more HI5.out _); rintro e w6 ⟨tx, xx, sa, sn, sc, rfl, hb6⟩; have hb6' : Below wr.heap.size wr w6 := (by first | exact HB5.out.trans (hb6.mono HB5.out.size) | exact (HB5.out.alloc HB5.out.size _).trans (hb6.mono (by have := HB5.out.size; simp; omega))); have q6 : w6.cell? ⟨kb, ko + m, none⟩ = some (.string ky) := (hb6'.cell (p := ⟨kb, ko + m, none⟩) (lt_of_cell q)).trans q; (first | (have hz6 : w6.heap[wr.heap.size]? = some (.cells #[.int .i64 0, .string ⟨#[]⟩, .int .i64 0, .slice none 0 0] 47 (0, 0)) := (hb6.block _ (by first | exact lt_of_heap hz5 | (simp; exact Nat.lt_succ_of_lt (lt_of_heap hz5)))).trans hz5; have z0 : w6.cell? ⟨wr.heap.size, 0, none⟩ = some (.int .i64 0) := (by simp only [World.cell?, hz6]; rfl); have z1 : w6.cell? ⟨wr.heap.size, 1, none⟩ = some (.string ⟨#[]⟩) := (by simp only [World.cell?, hz6]; rfl); have z2 : w6.cell? ⟨wr.heap.size, 2, none⟩ = some (.int .i64 0) := (by simp only [World.cell?, hz6]; rfl); have z3 : w6.cell? ⟨wr.heap.size, 3, none⟩ = some (.slice none 0 0) := (by simp only [World.cell?, hz6]; rfl); have zf : ∀ j, w6.frozen? ⟨wr.heap.size, j, none⟩ = false := (fun j => by simp only [World.frozen?, hz6]; simp)) | (have hz6 : w6.heap[w5.heap.size]? = some (.cells #[.int .i64 0, .string ⟨#[]⟩, .int .i64 0, .slice none 0 0] 47 (0, 0)) := (hb6.block _ (by simp)).trans (MapKept.heap_alloc w5 _).1; have z0 : w6.cell? ⟨w5.heap.size, 0, none⟩ = some (.int .i64 0) := (by simp only [World.cell?, hz6]; rfl); have z1 : w6.cell? ⟨w5.heap.size, 1, none⟩ = some (.string ⟨#[]⟩) := (by simp only [World.cell?, hz6]; rfl); have z2 : w6.cell? ⟨w5.heap.size, 2, none⟩ = some (.int .i64 0) := (by simp only [World.cell?, hz6]; rfl); have z3 : w6.cell? ⟨w5.heap.size, 3, none⟩ = some (.slice none 0 0) := (by simp only [World.cell?, hz6]; rfl); have zf : ∀ j, w6.frozen? ⟨w5.heap.size, j, none⟩ = false := (fun j => by simp only [World.frozen?, hz6]; simp)) | skip); have HB6 := hid hb6'; clear hb6 hb6'))
              · clear K13 K14
                go_wp2_with fail
                obtain ⟨wn, hwn⟩ : ∃ wn, wn = w6.alloc (.cells #[.int .i64 o, .string tx, .int .i64 xx, .slice sa sn sc] 47) := ⟨_, rfl⟩
                have F1 : Hid (wn.heap[w6.heap.size]? = some (.cells #[.int .i64 o, .string tx, .int .i64 xx, .slice sa sn sc] 47 (0, 0))) := (show _ = _ from by rw [hwn]; exact (MapKept.heap_alloc _ _).1)
                have F3 : Hid (Below wr.heap.size wr wn) := (show Below _ _ _ from by rw [hwn]; exact HB6.out.alloc HB6.out.size _)
                rw [← hwn]
                clear hwn
                go_meet
                exact ⟨w6.heap.size, tx, xx, sa, sn, sc, rfl, rfl, F1, F3⟩
              · clear K13 K14
                go_wp2_with fail
                obtain ⟨wn, hwn⟩ : ∃ wn, wn = ((((w6.setCell ⟨w5.heap.size, 0, none⟩ (.int .i64 o)).setCell ⟨w5.heap.size, 1, none⟩ (.string tx)).setCell ⟨w5.heap.size, 2, none⟩ (.int .i64 xx)).setCell ⟨w5.heap.size, 3, none⟩ (.slice sa sn sc)) := ⟨_, rfl⟩
                have F1 : Hid (wn.heap[w5.heap.size]? = some (.cells #[.int .i64 o, .string tx, .int .i64 xx, .slice sa sn sc] 47 (0, 0))) := (show _ = _ from by rw [hwn]; exact (fill4 hz6 _ _ _ _).1)
                have F3 : Hid (Below wr.heap.size wr wn) := (show Below _ _ _ from by rw [hwn]; exact (fill4 hz6 _ _ _ _).2 _ _ HB6.out HB5.out.size)
                rw [← hwn]
                clear hwn
                go_meet
                exact ⟨w5.heap.size, tx, xx, sa, sn, sc, rfl, rfl, F1, F3⟩
              · clear K13 K14
                go_wp2_with fail
                obtain ⟨wn, hwn⟩ : ∃ wn, wn = ((((w6.setCell ⟨wr.heap.size, 0, none⟩ (.int .i64 o)).setCell ⟨wr.heap.size, 1, none⟩ (.string tx)).setCell ⟨wr.heap.size, 2, none⟩ (.int .i64 xx)).setCell ⟨wr.heap.size, 3, none⟩ (.slice sa sn sc)) := ⟨_, rfl⟩
                have F1 : Hid (wn.heap[wr.heap.size]? = some (.cells #[.int .i64 o, .string tx, .int .i64 xx, .slice sa sn sc] 47 (0, 0))) := (show _ = _ from by rw [hwn]; exact (fill4 hz6 _ _ _ _).1)
                have F3 : Hid (Below wr.heap.size wr wn) := (show Below _ _ _ from by rw [hwn]; exact (fill4 hz6 _ _ _ _).2 _ _ HB6.out (Nat.le_refl _))
                rw [← hwn]
                clear hwn
                go_meet
                exact ⟨wr.heap.size, tx, xx, sa, sn, sc, rfl, rfl, F1, F3⟩
            case rest =>
              obtain ⟨xb, xt, xn, sa, sl, sc, hxp, her, HX, HB6⟩ := hcut
              rw [hxp, her]
              have x0 : wc.cell? ⟨xb, 0, none⟩ = some (.int .i64 o) := (cell_of HX.out).trans rfl
              have BN : Hid (Below w4.heap.size w4 wc) := (show Below _ _ _ from HB.out.trans (HB6.out.mono HB.out.size))
              clear hxp her K13 K14 q hnr
              rcases hmn with ⟨ho1, rfl⟩ | ⟨ho1, rfl⟩
              · rw [ho1] at x0
                go_wp2_with fail
                exact ⟨⟨n + 1, n + 1, by omega, by go_num, by go_num, .inl ⟨ho1, rfl⟩, BN⟩, by simp [intOf]; omega⟩
              · rw [ho1] at x0
                go_wp2_with fail
                exact ⟨⟨m + 1, 0, by omega, by go_num, rfl, .inr ⟨ho1, rfl⟩, BN⟩, by simp [intOf]; omega⟩
          · obtain rfl : m = kn := by omega
            have BE : Hid (Below w.heap.size w wr) := (show Below _ _ _ from I4.out.bel.trans (HB.out.mono I4.out.bel.size))
            rcases hmn with ⟨_, rfl⟩ | ⟨_, rfl⟩
            · go_wp2_with fail
              go_ret
              exact ⟨rfl, BE.out⟩
            · go_wp2_with fail
              go_ret
              exact ⟨rfl, BE.out⟩
end Go.Proofs.YtefpnojanldkeaaGreatDoor
