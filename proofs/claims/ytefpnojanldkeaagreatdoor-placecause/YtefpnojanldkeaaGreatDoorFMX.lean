/- PlaceCause: the walk; PlaceCause: numbers out of range, keys that are no names, one key; PlaceCause: any number, any keys, any picks; What the laws of places list: the handle, and four of the sentinels. -/
import Derived.Test.YtefpnojanldkeaaGreatDoorFND
import Derived.Test.YtefpnojanldkeaaGreatDoorFMH
import Derived.Test.YtefpnojanldkeaaGreatDoorJVRefN
import Derived.Test.YtefpnojanldkeaaGreatDoorJWPutB
import Derived.Test.YtefpnojanldkeaaGreatDoorJTC2
namespace Go.Proofs.YtefpnojanldkeaaGreatDoor
open Go.RowKit Go.Maps
set_option maxRecDepth 100000
set_option linter.unusedSectionVars false
variable [Inhabited ComV] [DecidableEq D3] [Inhabited D3] [Inhabited Dd] [Inhabited Dn] [Inhabited OpV]

theorem opsLit {W : World} {b : Nat} {key : ByteArray} (h : W.heap[b]? = some (.cells (litC key) 34 (0, 0))) : OpsAt W (.slice (some ⟨b, 0, none⟩) 1 1) (cOps [key]) := ops_lit (o := cOp key) h rfl
theorem ints_three {W : World} {b c : Nat} {x y z : Int} (h : W.heap[b]? = some (.cells #[.int .i64 x, .int .i64 y, .int .i64 z] 3 (0, 0))) : IntsAt W (.slice (some ⟨b, 0, none⟩) 3 c) [x, y, z] := ints_heap (zs := [x, y, z]) h
set_option maxHeartbeats 16000000 in
theorem cause_in (A : Nat → Addr) (w : World) (hS : Sen A w.heap.size w) (k : Nat) (k1 : 1 ≤ k) (k6 : k ≤ 6) (a b : ByteArray) (ha : nameB a = true) (hb : nameB b = true) (hab : (a.toList == b.toList) = false) (zs : List Int) (hz : zs.length ≤ 60) (pa : Option Addr) (pc : Nat) (hp : zs = [] ∨ ∃ b off, pa = some ⟨b, off, none⟩ ∧ ∀ t, t < zs.length → w.cell? ⟨b, off + t, none⟩ = some (.int .i64 (zs.getD t 0))) :
    Calls Tryz.prog 4 #[.int .i64 k, .string a, .string b, .slice pa zs.length pc] w fun e w' => e = .returned (.bool true) ∧ Below w.heap.size w w' := by
  have K6 := hid (placed_any A _ w hS)
  have K70 : Hid (∀ W, Calls Tryz.prog 7 #[.int .i64 0, .int .i64 3, .int .i64 k] W fun e w' => ∃ h : PlH, e = .returned (.tuple #[.pointer (some ⟨h.pb, 0, none⟩), .nilIface]) ∧ PlAt w' h (pv0 0 3 k) ∧ (∀ b, h.foot (pv0 0 3 k) b → W.heap.size ≤ b) ∧ Below W.heap.size W w' ∧ h.nn = 0 ∧ ∀ j s, (pv0 0 3 k).line j s → (h.X j s).n = 0) := (show ∀ W, _ from fun W => new_c 0 (by decide) W k k1 k6)
  have K71 : Hid (∀ W, Calls Tryz.prog 7 #[.int .i64 1, .int .i64 3, .int .i64 k] W fun e w' => ∃ h : PlH, e = .returned (.tuple #[.pointer (some ⟨h.pb, 0, none⟩), .nilIface]) ∧ PlAt w' h (pv0 1 3 k) ∧ (∀ b, h.foot (pv0 1 3 k) b → W.heap.size ≤ b) ∧ Below W.heap.size W w' ∧ h.nn = 0 ∧ ∀ j s, (pv0 1 3 k).line j s → (h.X j s).n = 0) := (show ∀ W, _ from fun W => new_c 1 (by decide) W k k1 k6)
  have K72 : Hid (∀ W, Calls Tryz.prog 7 #[.int .i64 2, .int .i64 3, .int .i64 k] W fun e w' => ∃ h : PlH, e = .returned (.tuple #[.pointer (some ⟨h.pb, 0, none⟩), .nilIface]) ∧ PlAt w' h (pv0 2 3 k) ∧ (∀ b, h.foot (pv0 2 3 k) b → W.heap.size ≤ b) ∧ Below W.heap.size W w' ∧ h.nn = 0 ∧ ∀ j s, (pv0 2 3 k).line j s → (h.X j s).n = 0) := (show ∀ W, _ from fun W => new_c 2 (by decide) W k k1 k6)
  have K8a := hid (fun W => rIsName W a)
  have K8b := hid (fun W => rIsName W b)
  rw [ha] at K8a
  rw [hb] at K8b
  have HS := hid hS
  have HP := hid hp
  have HA := hid ha
  have HB := hid hb
  have HNE : Hid (a ≠ b) := (show a ≠ b from fun e => by rw [e] at hab; simp at hab)
  have H12 : Hid (12 ≤ w.heap.size) := (show _ ≤ _ from by have := hS.gl; omega)
  have i1 : (1 : Int) ≤ k := by omega
  have i2 : (k : Int) ≤ 6 := by omega
  obtain ⟨zn, hzn⟩ : ∃ zn, zn = zs.length := ⟨_, rfl⟩
  rw [← hzn] at hz
  rw [← hzn]
  have HZN := hid hzn
  have i5 : (zn : Int) ≤ 60 := by omega
  clear hS hp hzn ha hb
  go_enter Tryz.func4, Tryz.ntmps4
  go_wp2_with fail
  refine K6.out.mono ?_
  rintro e w1 ⟨rfl, hb1⟩
  go_wp2_with fail
  refine (K8a.out _).mono ?_
  rintro e w' ⟨rfl, hw'⟩
  rw [hw']
  clear hw'
  go_wp2_with fail
  refine (K8b.out _).mono ?_
  rintro e w' ⟨rfl, hw'⟩
  rw [hw']
  clear hw'
  go_wp2_with fail
  clear hab
  refine (K70.out w1).mono ?_
  rintro e w2 ⟨hp, rfl, hPp, hfp, hb2, hnp, hxp⟩
  go_wp2_with fail
  refine (K71.out w2).mono ?_
  rintro e w3 ⟨hq, rfl, hPq, hfq, hb3, hnq, hxq⟩
  go_wp2_with fail
  refine (K72.out w3).mono ?_
  rintro e w4 ⟨hz, rfl, hPz, hfz, hb4, hnz, hxz⟩
  have I4 := hid (TrI.start hb1 hPp hfp hb2 hPq hfq hb3 hPz hfz hb4)
  have NQ := hid hnq
  have XQ := hid hxq
  have NZ := hid hnz
  have XZ := hid hxz
  obtain ⟨w5, hw5⟩ : ∃ w5, w5 = (w4.alloc (.cells #[.int .i64 0, .int .i64 0, .int .i64 0] 3)).alloc (.cells (litC a) 34) := ⟨_, rfl⟩
  have b5 : Below w4.heap.size w4 w5 := by rw [hw5]; exact below2 _ _ _
  have K9 := hid (fun b2 (h2 : w5.heap[b2]? = some (.cells (litC a) 34 (0, 0))) => cause_commit0 (b := b) A (HS.out.below (I4.out.below b5).bel) (I4.out.below b5) hnp hxp HA.out (some ⟨w4.heap.size, 0, none⟩) (some ⟨b2, 0, none⟩) 3 1 (by rw [hw5]; exact ints_three (heap_old (heap_new _ _) _)) (opsLit h2))
  clear hb1 hb2 hb3 hb4 hPp hPq hPz hfp hfq hfz hnp hxp hnq hxq hnz hxz K6 K70 K71 K72 b5 K8a K8b
  go_wp2_with (first | refine wpList_zero3 _ rfl rfl ?_ | refine wpList_litC _ 102 103 104 (of_decide_eq_true rfl) rfl rfl rfl rfl rfl rfl a rfl ?_)
  rw [← hw5]
  refine (K9.out _ ?h2).mono ?_
  case h2 => rw [hw5]; first | exact heap_new _ _ | exact heap_new2 _ _ _
  clear hw5
  rintro e w6 ⟨hp6, a3, a4, c3, c4, ra, rc, rs, ms, rfl, hpb6, hlen6, hI6, hpm6, hcm6⟩
  obtain ⟨w7, hw7⟩ : ∃ w7, w7 = w6.alloc (.cells #[.slice a3 3 c3, .int .i64 0, .slice a4 1 c4] 36) := ⟨_, rfl⟩
  have I7 := hid (hI6.below (W' := w7) (by rw [hw7]; exact below_alloc _ _))
  have PM6 := hid hpm6
  have CM6 := hid hcm6
  have K10 := hid (cause_beat0 I7.out)
  clear hI6 hpm6 hcm6 K9 I4
  rw [← hpb6]
  clear hpb6
  go_upto_region 10 with (fail)
  rw [← hw7]
  clear hw7
  go_wp2_with fail
  refine K10.out.mono ?_
  rintro e w8 ⟨hp8, vp8, ra8, rc8, r2, m2, rfl, hlen8, hI8, hsrc8, hF8, hpm8, hbm8⟩
  have I8 := hid hI8
  have X8 := hid hI8.row
  have SRC := hid hsrc8
  have FR8 := hid hF8
  have PM8 := hid hpm8
  have BM8 := hid hbm8
  have SZ : Hid (w.heap.size ≤ w8.heap.size) := (show _ ≤ _ from hI8.bel.size)
  obtain ⟨i44, hi, hz0, hz1, hz2⟩ := info_parts Tryz.info44
  clear hI8 hsrc8 hF8 hpm8 hbm8 K10 I7
  go_upto_block 0 with (at_builtin; refine wpList_append_own_srcS rfl _ _ 37 rfl w.heap.size 44 i44 _ 9 104 Tryz.underlying37 hi hz0 hz1 hz2 rfl (by decide) _ _ _ rfl X8.out _ r2.length (raws r2) rfl SRC.out (oneRs r2) ?hm2 ?hm3 SZ.out ?_; (case hm2 => unfold maxLen; omega); (case hm3 => omega); intro v9 w9 hown9 hgr9 hv9; have I9 := hid (I8.out.app FR8.out hgr9 (by rw [raws_app, List.length_append]; exact hown9) hv9); clear hown9 hgr9 hv9)
  obtain ⟨RS, hRS⟩ : ∃ RS, RS = rs ++ r2 := ⟨_, rfl⟩
  obtain ⟨MS, hMS⟩ : ∃ MS, MS = ms ++ m2 := ⟨_, rfl⟩
  have hRL : RS.length ≤ 36 := by rw [hRS, List.length_append]; omega
  rw [← hRS, ← hMS] at I9
  have HPM : Hid (∀ m ∈ MS, PMsg a b k m) := (show ∀ m, _ → _ from fun m hm => by
    rw [hMS] at hm
    rcases List.mem_append.1 hm with h | h
    · exact PM6.out m h
    · exact PM8.out m h)
  have HCM : Hid (∀ s, s < k → qS (CC a b 0) k s = 1 → cmM 0 1 (CC a b 0) k s ∈ MS) := (show ∀ s, _ from fun s h1 h2 => by rw [hMS]; exact List.mem_append_left _ (CM6.out s h1 h2))
  have HBM : Hid (∀ s, s < k → bmM 0 1 (CC a b 0) k s ∈ MS) := (show ∀ s, _ from fun s h1 => by rw [hMS]; exact List.mem_append_right _ (BM8.out s h1))
  have HML : Hid (RS.length = MS.length) := (show _ = _ from f2_len I9.out.own)
  obtain ⟨la, lc, hlv⟩ := row_shape I9.out.row
  subst hlv
  obtain ⟨ln, hln⟩ : ∃ ln, ln = RS.length := ⟨_, rfl⟩
  rw [← hln] at hRL I9
  rw [← hln]
  have HLN := hid hln
  have Q9 : Hid (QI w a b k hp8 vp8 hq (pv0 1 3 k) hz (pv0 2 3 k) (.slice la ln lc) RS MS 0 w9) := (show QI _ _ _ _ _ _ _ _ _ _ _ _ _ _ _ from ⟨I9.out, rcI0 _ _ hq NQ.out XQ.out, fun idx m h => by omega⟩)
  clear PM6 PM8 CM6 BM8 X8 SRC FR8 SZ I8 hRS hMS hln I9
  go_cut [19] (fun _ wx => ∃ (hq' : PlH) (vq' : PlV), hq'.pb = hq.pb ∧ Hid (QI w a b k hp8 vp8 hq' vq' hz (pv0 2 3 k) (.slice la ln lc) RS MS ln wx))
  case first =>
    go_wp2_with fail
    go_loopw [19] (fun i wr => ∃ (m : Nat) (hq' : PlH) (vq' : PlV), m ≤ ln ∧ i = .int .i64 m ∧ hq'.pb = hq.pb ∧ Hid (QI w a b k hp8 vp8 hq' vq' hz (pv0 2 3 k) (.slice la ln lc) RS MS m wr)) (fun i _ => ln - (intOf i).toNat)
    case atStart => exact ⟨0, hq, _, Nat.zero_le _, rfl, rfl, Q9⟩
    case round =>
      clear Q9
      obtain ⟨m, h, v, hm, rfl, hpb, HI⟩ := hrel
      by_cases hlt : m < ln
      · have hj1 : (m : Int) < (ln : Int) := by omega
        obtain ⟨r, hr⟩ : ∃ r, RS[m]? = some r := ⟨_, List.getElem?_eq_getElem (by have := HLN.out; omega)⟩
        obtain ⟨mm, hmm⟩ : ∃ mm, MS[m]? = some mm := ⟨_, List.getElem?_eq_getElem (by have := HLN.out; have := HML.out; omega)⟩
        have hrow := HI.out.tr.row
        rw [← HLN.out] at hrow
        obtain ⟨lb, hla, _, hcell⟩ := row_raw hrow HLN.out.symm hr
        subst hla
        have hto : r.x2 = mm.to_ := by
          obtain ⟨m', hm', hown⟩ := f2_idx HI.out.tr.own m r hr
          rw [hmm] at hm'
          obtain rfl := Option.some.inj hm'
          exact hown.nums.x2
        have x0 : wr.cell? ⟨lb, m * 9, none⟩ = some (.int .i64 r.x1) := hcell 0 _ rfl
        have x1 : wr.cell? ⟨lb, m * 9 + 1, none⟩ = some (.int .i64 r.x2) := hcell 1 _ rfl
        have x2 : wr.cell? ⟨lb, m * 9 + 2, none⟩ = some (.int .i64 r.x3) := hcell 2 _ rfl
        have x3 : wr.cell? ⟨lb, m * 9 + 3, none⟩ = some (.int .i64 r.x4) := hcell 3 _ rfl
        have x4 : wr.cell? ⟨lb, m * 9 + 4, none⟩ = some (.int .i64 r.x5) := hcell 4 _ rfl
        have x5 : wr.cell? ⟨lb, m * 9 + 5, none⟩ = some (.bool r.x6) := hcell 5 _ rfl
        have x6 : wr.cell? ⟨lb, m * 9 + 6, none⟩ = some (.slice r.a1 r.n1 r.c1) := hcell 6 _ rfl
        have x7 : wr.cell? ⟨lb, m * 9 + 7, none⟩ = some (.int .i64 r.p) := hcell 7 _ rfl
        have x8 : wr.cell? ⟨lb, m * 9 + 8, none⟩ = some (.slice r.a2 r.n2 r.c2) := hcell 8 _ rfl
        clear hcell hrow
        by_cases ht : r.x2 = 1
        · have K11 := hid (HI.out.hear A (HS.out.below HI.out.tr.bel).e4 H12.out (by omega) (fun j hj => cc_src HA.out HB.out j (by omega)) HPM.out hr hmm (by rw [← hto]; exact ht))
          clear hr hmm hto
          rw [hpb] at K11
          go_upto_region 17 with (fail)
          clear ht
          go_wp2_with (go_at_call 11; refine K11.out.mono ?_; rintro e w5 ⟨h5, v5, a6, c6, rfl, hpb5, hI5⟩; have I5 := hid hI5; clear hI5)
          exact ⟨⟨m + 1, h5, v5, by omega, by go_num, hpb5, I5⟩, by simp [intOf]; omega⟩
        · have IS := hid (HI.out.skip hmm (by rw [← hto]; exact ht))
          clear hr hmm hto
          go_wp2_with fail
          exact ⟨⟨m + 1, h, v, by omega, by go_num, hpb, IS⟩, by simp [intOf]; omega⟩
      · obtain rfl : m = ln := by omega
        go_wp2_with fail
        go_meet
        exact ⟨h, v, hpb, HI⟩
  case rest =>
    obtain ⟨hq1, vq1, hpb1, HI⟩ := hcut
    obtain ⟨hall, hsn⟩ := HI.out.done (by have := HLN.out; have := HML.out; omega) HCM.out HBM.out
    have HALL := hid hall
    have HSN := hid hsn
    clear hall hsn HCM HBM NQ XQ
    have IT := hid HI.out.tr
    have HRC := hid HI.out.rc
    clear HI
    have K12 := hid (snapshot_any wc hq1 vq1 IT.out.q)
    rw [HRC.out.vn, hpb1, HSN.out] at K12
    go_wp2_with fail
    refine K12.out.mono ?_
    rintro e w10 ⟨rfl, hb10, hbl10⟩
    have I10 := hid (IT.out.below hbl10)
    have K13 := hid (cause_read A (HS.out.below I10.out.bel).e4 (Nat.le_trans H12.out I10.out.bel.size) I10.out.q HRC.out (by omega) (fun j h => by omega) HA.out HB.out HNE.out (j := 0) rfl (by decide) (key := a) rfl (some ⟨wc.heap.size, 0, none⟩) 3 (by rw [HSN.out]; exact ints_three hb10))
    rw [hpb1] at K13
    clear hb10 hbl10 K12
    go_wp2_with fail
    refine K13.out.mono ?_
    rintro e w11 ⟨kd, tx, x, sa, sn, sc, rfl, hb11, _, hx1⟩
    obtain rfl : x = 1 := hx1 (by rw [HSN.out]; rfl) HALL.out
    obtain ⟨w12, hw12⟩ : ∃ w12, w12 = w11.alloc (.cells #[.int .i64 kd, .string tx, .int .i64 1, .slice sa sn sc] 47) := ⟨_, rfl⟩
    have I12 := hid ((I10.out.below hb11).below (W' := w12) (by rw [hw12]; exact below_alloc _ _))
    have x2 : w12.cell? ⟨w11.heap.size, 2, none⟩ = some (.int .i64 1) := by rw [hw12]; exact (cell_of (heap_new _ _)).trans rfl
    have K12 := hid (snapshot_any w12 hq1 vq1 I12.out.q)
    rw [HRC.out.vn, hpb1, HSN.out] at K12
    clear hx1 hb11 K13 I10 IT
    go_upto_region 21 with (fail)
    rw [← hw12]
    clear hw12
    go_wp2_with fail
    refine K12.out.mono ?_
    rintro e w13 ⟨rfl, hb13, hbl13⟩
    obtain ⟨w14, hw14⟩ : ∃ w14, w14 = w13.alloc (.cells (litC b) 34) := ⟨_, rfl⟩
    have b14 : Below w13.heap.size w13 w14 := by rw [hw14]; exact below_alloc _ _
    have I14 := hid ((I12.out.below hbl13).below b14)
    have HOK := hid (HRC.out.tx I14.out.q (by omega) (fun j hj => cc_src HA.out HB.out j (by omega)) (ks := [b]) (by simp) (by simp) (by simpa using HB.out)).2.2.1
    have K9 := hid (cause_commit1 A (HS.out.below I14.out.bel) I14.out HRC.out (by omega) HSN.out HA.out HB.out (some ⟨w12.heap.size, 0, none⟩) (some ⟨w13.heap.size, 0, none⟩) 3 1 ((ints_three hb13).mono b14 (Nat.le_refl _)) (opsLit (by rw [hw14]; exact heap_new _ _)))
    rw [hpb1] at K9
    clear x2 K12 hb13 hbl13 b14 I12
    go_wp2_with (refine wpList_litC _ 157 158 159 (of_decide_eq_true rfl) rfl rfl rfl rfl rfl rfl b rfl ?_)
    rw [← hw14]
    clear hw14
    refine K9.out.mono ?_
    rintro e w15 ⟨hq15, a3', a4', c3', c4', ra15, rc15, r3, m3, rfl, hpb15, hlen15, hI15, hsrc15, hF15, hcm15⟩
    obtain ⟨w16, hw16⟩ : ∃ w16, w16 = w15.alloc (.cells #[.slice a3' 3 c3', .int .i64 1, .slice a4' 1 c4'] 36) := ⟨_, rfl⟩
    have b16 : Below w15.heap.size w15 w16 := by rw [hw16]; exact below_alloc _ _
    have I16 := hid (hI15.below b16)
    have X16 := hid I16.out.row
    have SRC16 : Hid (SrcAt w16 (.slice ra15 r3.length rc15) r3.length 9 (raws r3)) := (show SrcAt _ _ _ _ _ from hsrc15.moved fun ad u h => by rw [hw16]; exact cell_alloc h _)
    have FR16 : Hid (F2 (RawOwn 0 w16) r3 m3) := (show F2 _ _ _ from f2_mono (fun _ _ q => q.kept (Keeps.bel b16)) hF15)
    have CM15 := hid hcm15
    have SZ16 : Hid (w.heap.size ≤ w16.heap.size) := (show _ ≤ _ from I16.out.bel.size)
    clear hI15 hsrc15 hF15 hcm15 b16 K9 I14
    have HLN' := HLN.out
    subst HLN'
    go_upto_region 24 with (fail)
    rw [← hw16]
    clear hw16
    go_upto_region 26 with (fail)
    go_wp2_with (at_builtin; refine wpList_append_own_srcS rfl _ _ 37 rfl w.heap.size 44 i44 _ 9 104 Tryz.underlying37 hi hz0 hz1 hz2 rfl (by decide) _ _ _ rfl X16.out _ r3.length (raws r3) rfl SRC16.out (oneRs r3) ?hm2 ?hm3 SZ16.out ?_; (case hm2 => unfold maxLen; omega); (case hm3 => omega); intro v17 w17 hown9 hgr9 hv9; have I17 := hid (I16.out.app FR16.out hgr9 (by rw [raws_app, List.length_append]; exact hown9) hv9); clear hown9 hgr9 hv9)
    obtain ⟨R3, hR3⟩ : ∃ R3, R3 = RS ++ r3 := ⟨_, rfl⟩
    obtain ⟨M3, hM3⟩ : ∃ M3, M3 = MS ++ m3 := ⟨_, rfl⟩
    rw [← hR3, ← hM3] at I17
    have hrl3 : R3.length ≤ 60 := by rw [hR3, List.length_append]; omega
    have HCB : Hid (∀ m ∈ M3, CMsg a b k m) := (show ∀ m, _ → _ from fun m hm => by
      rw [hM3] at hm
      rcases List.mem_append.1 hm with h | h
      · exact (HPM.out m h).c
      · exact CM15.out m h)
    obtain ⟨la17, lc17, hlv17⟩ := row_shape I17.out.row
    subst hlv17
    clear hR3 hM3
    have K10 := hid (cause_beat1 I17.out hq1 HRC.out HOK.out)
    rw [hpb15] at K10
    clear HOK X16 SRC16 FR16 SZ16 I16
    go_wp2_with fail
    refine K10.out.mono ?_
    rintro e w18 ⟨hq18, vq18, ra18, rc18, r4, m4, rfl, hlen18, hI18, hsrc18, hF18, hcm18⟩
    have I18 := hid hI18
    have X18 := hid hI18.row
    have SRC18 := hid hsrc18
    have FR18 := hid hF18
    have CM18 := hid hcm18
    have SZ18 : Hid (w.heap.size ≤ w18.heap.size) := (show _ ≤ _ from hI18.bel.size)
    clear hI18 hsrc18 hF18 hcm18 K10 I17
    go_upto_block 2 with (at_builtin; refine wpList_append_own_srcS rfl _ _ 37 rfl w.heap.size 44 i44 _ 9 104 Tryz.underlying37 hi hz0 hz1 hz2 rfl (by decide) _ _ _ rfl X18.out _ r4.length (raws r4) rfl SRC18.out (oneRs r4) ?hm2 ?hm3 SZ18.out ?_; (case hm2 => unfold maxLen; omega); (case hm3 => omega); intro v19 w19 hown9 hgr9 hv9; have I19 := hid (I18.out.app FR18.out hgr9 (by rw [raws_app, List.length_append]; exact hown9) hv9); clear hown9 hgr9 hv9)
    obtain ⟨R2, hR2⟩ : ∃ R2, R2 = R3 ++ r4 := ⟨_, rfl⟩
    obtain ⟨M2, hM2⟩ : ∃ M2, M2 = M3 ++ m4 := ⟨_, rfl⟩
    rw [← hR2, ← hM2] at I19
    have HCA : Hid (∀ m ∈ M2, CMsg a b k m) := (show ∀ m, _ → _ from fun m hm => by
      rw [hM2] at hm
      rcases List.mem_append.1 hm with h | h
      · exact HCB.out m h
      · exact CM18.out m h)
    have HM2 : Hid (R2.length = M2.length) := (show _ = _ from f2_len I19.out.own)
    obtain ⟨la2, lc2, hlv2⟩ := row_shape I19.out.row
    subst hlv2
    have hrl2 : R2.length ≤ 100 := by rw [hR2, List.length_append]; omega
    obtain ⟨l2, hl2⟩ : ∃ l2, l2 = R2.length := ⟨_, rfl⟩
    rw [← hl2] at I19 hrl2
    rw [← hl2]
    have HL2 := hid hl2
    have Z0 : Hid (ZI w a b k hp8 vp8 hq18 vq18 hz (pv0 2 3 k) (.slice la2 l2 lc2) R2 M2 0 w19) := (show ZI _ _ _ _ _ _ _ _ _ _ _ _ _ _ _ from ⟨I19.out, rcI0 _ _ hz NZ.out XZ.out⟩)
    clear HPM HML CM15 CM18 X18 SRC18 FR18 SZ18 I18 hR2 hM2 hl2 I19 HALL HSN HRC
    go_cut [25] (fun _ wx => ∃ (hz' : PlH) (vz' : PlV), hz'.pb = hz.pb ∧ Hid (ZI w a b k hp8 vp8 hq18 vq18 hz' vz' (.slice la2 l2 lc2) R2 M2 zn wx))
    case first =>
      go_wp2_with fail
      go_loopw [25] (fun i wr => ∃ (m : Nat) (hz' : PlH) (vz' : PlV), m ≤ zn ∧ i = .int .i64 m ∧ hz'.pb = hz.pb ∧ Hid (ZI w a b k hp8 vp8 hq18 vq18 hz' vz' (.slice la2 l2 lc2) R2 M2 m wr)) (fun i _ => zn - (intOf i).toNat)
      case atStart => exact ⟨0, hz, _, Nat.zero_le _, rfl, rfl, Z0⟩
      case round =>
        clear Z0
        obtain ⟨m, h, v, hm, rfl, hpb, HI⟩ := hrel
        by_cases hlt : m < zn
        · have hj1 : (m : Int) < (zn : Int) := by omega
          obtain ⟨pb, po, hpa, hpz⟩ : ∃ b off, pa = some ⟨b, off, none⟩ ∧ ∀ t, t < zs.length → w.cell? ⟨b, off + t, none⟩ = some (.int .i64 (zs.getD t 0)) := by
            rcases HP.out with e | e
            · have := HZN.out
              rw [e] at this
              simp at this
              omega
            · exact e
          subst hpa
          obtain ⟨z, hzz⟩ : ∃ z, z = zs.getD m 0 := ⟨_, rfl⟩
          have q : wr.cell? ⟨pb, po + m, none⟩ = some (.int .i64 z) := by
            have h0 := hpz m (by have := HZN.out; omega)
            rw [← hzz] at h0
            exact (HI.out.tr.bel.cell (p := ⟨pb, po + m, none⟩) (lt_of_cell h0)).trans h0
          have IS := hid HI.out.step
          clear hzz hpz
          by_cases z0 : z < 0
          · go_wp2_with fail
            exact ⟨⟨m + 1, h, v, by omega, by go_num, hpb, IS⟩, by simp [intOf]; omega⟩
          · have z1 : 0 ≤ z := by omega
            by_cases z2 : (l2 : Int) ≤ z
            · go_wp2_with fail
              exact ⟨⟨m + 1, h, v, by omega, by go_num, hpb, IS⟩, by simp [intOf]; omega⟩
            · obtain ⟨p, rfl⟩ : ∃ p : Nat, z = p := ⟨z.toNat, by omega⟩
              have z3 : p < l2 := by omega
              have z4 : (p : Int) < (l2 : Int) := by omega
              obtain ⟨r, hr⟩ : ∃ r, R2[p]? = some r := ⟨_, List.getElem?_eq_getElem (by have := HL2.out; omega)⟩
              obtain ⟨mm, hmm⟩ : ∃ mm, M2[p]? = some mm := ⟨_, List.getElem?_eq_getElem (by have := HL2.out; have := HM2.out; omega)⟩
              have hrow := HI.out.tr.row
              rw [← HL2.out] at hrow
              obtain ⟨lb, hla, _, hcell⟩ := row_raw hrow HL2.out.symm hr
              subst hla
              have hto : r.x2 = mm.to_ := by
                obtain ⟨m', hm', hown⟩ := f2_idx HI.out.tr.own p r hr
                rw [hmm] at hm'
                obtain rfl := Option.some.inj hm'
                exact hown.nums.x2
              have x0 : wr.cell? ⟨lb, p * 9, none⟩ = some (.int .i64 r.x1) := hcell 0 _ rfl
              have x1 : wr.cell? ⟨lb, p * 9 + 1, none⟩ = some (.int .i64 r.x2) := hcell 1 _ rfl
              have x2 : wr.cell? ⟨lb, p * 9 + 2, none⟩ = some (.int .i64 r.x3) := hcell 2 _ rfl
              have x3 : wr.cell? ⟨lb, p * 9 + 3, none⟩ = some (.int .i64 r.x4) := hcell 3 _ rfl
              have x4 : wr.cell? ⟨lb, p * 9 + 4, none⟩ = some (.int .i64 r.x5) := hcell 4 _ rfl
              have x5 : wr.cell? ⟨lb, p * 9 + 5, none⟩ = some (.bool r.x6) := hcell 5 _ rfl
              have x6 : wr.cell? ⟨lb, p * 9 + 6, none⟩ = some (.slice r.a1 r.n1 r.c1) := hcell 6 _ rfl
              have x7 : wr.cell? ⟨lb, p * 9 + 7, none⟩ = some (.int .i64 r.p) := hcell 7 _ rfl
              have x8 : wr.cell? ⟨lb, p * 9 + 8, none⟩ = some (.slice r.a2 r.n2 r.c2) := hcell 8 _ rfl
              clear hcell hrow z3
              by_cases ht : r.x2 = 2
              · have K11 := hid (HI.out.hear A (HS.out.below HI.out.tr.bel).e4 H12.out (by omega) (fun j hj => cc_src HA.out HB.out j hj) HCA.out hr hmm (by rw [← hto]; exact ht))
                clear hr hmm hto
                rw [hpb] at K11
                go_upto_region 32 with (fail)
                clear ht
                go_wp2_with (go_at_call 11; refine K11.out.mono ?_; rintro e w5 ⟨h5, v5, a6, c6, rfl, hpb5, hI5⟩; have I5 := hid hI5; clear hI5)
                exact ⟨⟨m + 1, h5, v5, by omega, by go_num, hpb5, I5⟩, by simp [intOf]; omega⟩
              · clear hr hmm hto
                go_wp2_with fail
                exact ⟨⟨m + 1, h, v, by omega, by go_num, hpb, IS⟩, by simp [intOf]; omega⟩
        · obtain rfl : m = zn := by omega
          go_wp2_with fail
          go_meet
          exact ⟨h, v, hpb, HI⟩
    case rest =>
      obtain ⟨hz1, vz1, hpbz, HI⟩ := hcut
      have HEND := hid HI.out.end_
      have IT := hid HI.out.tr
      have HRC := hid HI.out.rc
      clear HI
      have K12 := hid (snapshot_any wc hz1 vz1 IT.out.z)
      rw [HRC.out.vn, hpbz] at K12
      go_wp2_with fail
      refine K12.out.mono ?_
      rintro e w20 ⟨rfl, hb20, hbl20⟩
      have I20 := hid (IT.out.below hbl20)
      have hi20 : IntsAt w20 (.slice (some ⟨wc.heap.size, 0, none⟩) 3 3) (snapV vz1) := by
        have := ints_heap (c := 3) hb20
        rw [snapV_len, HRC.out.vn] at this
        exact this
      have K13 := hid (cause_read A (HS.out.below I20.out.bel).e4 (Nat.le_trans H12.out I20.out.bel.size) I20.out.z HRC.out (by omega) (fun j h => h) HA.out HB.out HNE.out (j := 0) (by decide) (by decide) (key := a) rfl (some ⟨wc.heap.size, 0, none⟩) 3 hi20)
      rw [hpbz] at K13
      clear hb20 hbl20 hi20 K12
      go_wp2_with fail
      refine K13.out.mono ?_
      rintro e w21 ⟨kd, tx, x, sa, sn, sc, rfl, hb21, _, hx1⟩
      obtain ⟨w22, hw22⟩ : ∃ w22, w22 = w21.alloc (.cells #[.int .i64 kd, .string tx, .int .i64 x, .slice sa sn sc] 47) := ⟨_, rfl⟩
      have b22 : Below w21.heap.size w21 w22 := by rw [hw22]; exact below_alloc _ _
      have I22 := hid ((I20.out.below hb21).below b22)
      have hx2 : w22.heap[w21.heap.size]? = some (.cells #[.int .i64 kd, .string tx, .int .i64 x, .slice sa sn sc] 47 (0, 0)) := by rw [hw22]; exact heap_new _ _
      have HX1 := hid hx1
      have K12 := hid (snapshot_any w22 hz1 vz1 I22.out.z)
      rw [HRC.out.vn, hpbz] at K12
      clear hx1 hb21 K13 I20 IT b22
      go_upto_region 36 with (fail)
      rw [← hw22]
      clear hw22
      go_wp2_with fail
      refine K12.out.mono ?_
      rintro e w23 ⟨rfl, hb23, hbl23⟩
      have I23 := hid (I22.out.below hbl23)
      have hi23 : IntsAt w23 (.slice (some ⟨w22.heap.size, 0, none⟩) 3 3) (snapV vz1) := by
        have := ints_heap (c := 3) hb23
        rw [snapV_len, HRC.out.vn] at this
        exact this
      have hx3 := (hbl23.block _ (lt_of_heap hx2)).trans hx2
      have K13 := hid (cause_read A (HS.out.below I23.out.bel).e4 (Nat.le_trans H12.out I23.out.bel.size) I23.out.z HRC.out (by omega) (fun j h => h) HA.out HB.out HNE.out (j := 1) (by decide) (by decide) (key := b) rfl (some ⟨w22.heap.size, 0, none⟩) 3 hi23)
      rw [hpbz] at K13
      clear hb23 hbl23 hi23 K12 hx2
      go_wp2_with fail
      refine K13.out.mono ?_
      rintro e w24 ⟨kd', tx', y, sa', sn', sc', rfl, hb24, hy0, _⟩
      obtain ⟨w25, hw25⟩ : ∃ w25, w25 = w24.alloc (.cells #[.int .i64 kd', .string tx', .int .i64 y, .slice sa' sn' sc'] 47) := ⟨_, rfl⟩
      have b25 : Below w24.heap.size w24 w25 := by rw [hw25]; exact below_alloc _ _
      have I25 := hid ((I23.out.below hb24).below b25)
      have q1 : w25.cell? ⟨w21.heap.size, 2, none⟩ = some (.int .i64 x) := (cell_of ((b25.block _ (Nat.lt_of_lt_of_le (lt_of_heap hx3) hb24.size)).trans ((hb24.block _ (lt_of_heap hx3)).trans hx3))).trans rfl
      have q2 : w25.cell? ⟨w24.heap.size, 2, none⟩ = some (.int .i64 y) := by rw [hw25]; exact (cell_of (heap_new _ _)).trans rfl
      have hxy : y = 0 ∨ x = 1 := by
        rcases HEND.out with e | ⟨e1, e2⟩
        · exact .inl (hy0 e)
        · exact .inr (HX1.out e1 e2)
      clear hy0 hb24 b25 K13 hx3 HX1 HEND I22 I23
      go_upto_region 37 with (fail)
      rw [← hw25]
      clear hw25
      by_cases y0 : y = 0
      · subst y0
        clear hxy
        go_wp2_with fail
        go_ret
        exact ⟨rfl, I25.out.bel⟩
      · obtain rfl : x = 1 := hxy.resolve_left y0
        clear hxy
        go_wp2_with fail
        go_ret
        exact ⟨rfl, I25.out.bel⟩
end Go.Proofs.YtefpnojanldkeaaGreatDoor
namespace Go.Proofs.YtefpnojanldkeaaGreatDoor
open Go.RowKit Go.Maps
set_option maxRecDepth 100000
set_option linter.unusedSectionVars false
variable [Inhabited ComV] [DecidableEq D3] [Inhabited D3] [Inhabited Dd] [Inhabited Dn] [Inhabited OpV]

set_option maxHeartbeats 4000000 in
theorem cause_out (A : Nat → Addr) (w : World) (hS : Sen A w.heap.size w) (n : Int) (a b : ByteArray) (zn pc : Nat) (pa : Option Addr) (h : n < 1 ∨ (1 ≤ n ∧ 6 < n) ∨ (1 ≤ n ∧ n ≤ 6 ∧ 60 < (zn : Int))) :
    Calls Tryz.prog 4 #[.int .i64 n, .string a, .string b, .slice pa zn pc] w fun e w' => e = .returned (.bool true) ∧ Below w.heap.size w w' := by
  have K6 := hid (placed_any A _ w hS)
  clear hS
  rcases h with h1 | ⟨h1, h2⟩ | ⟨h1, h2, h3⟩ <;>
    (go_enter Tryz.func4, Tryz.ntmps4
     go_wp2_with fail
     refine K6.out.mono ?_
     rintro e w1 ⟨rfl, hb1⟩
     go_wp2_with fail
     go_ret
     exact ⟨rfl, hb1⟩)
set_option maxHeartbeats 4000000 in
theorem cause_nameA (A : Nat → Addr) (w : World) (hS : Sen A w.heap.size w) (n : Int) (a b : ByteArray) (zn pc : Nat) (pa : Option Addr) (h1 : 1 ≤ n) (h2 : n ≤ 6) (h3 : (zn : Int) ≤ 60) (ha : nameB a = false) :
    Calls Tryz.prog 4 #[.int .i64 n, .string a, .string b, .slice pa zn pc] w fun e w' => e = .returned (.bool true) ∧ Below w.heap.size w w' := by
  have K6 := hid (placed_any A _ w hS)
  have K8a := hid (fun W => rIsName W a)
  rw [ha] at K8a
  clear hS ha
  go_enter Tryz.func4, Tryz.ntmps4
  go_wp2_with fail
  refine K6.out.mono ?_
  rintro e w1 ⟨rfl, hb1⟩
  go_wp2_with fail
  refine (K8a.out _).mono ?_
  rintro e w' ⟨rfl, hw'⟩
  rw [hw']
  clear hw'
  go_wp2_with fail
  go_ret
  exact ⟨rfl, hb1⟩
set_option maxHeartbeats 4000000 in
theorem cause_nameB (A : Nat → Addr) (w : World) (hS : Sen A w.heap.size w) (n : Int) (a b : ByteArray) (zn pc : Nat) (pa : Option Addr) (h1 : 1 ≤ n) (h2 : n ≤ 6) (h3 : (zn : Int) ≤ 60) (ha : nameB a = true) (hb : nameB b = false) :
    Calls Tryz.prog 4 #[.int .i64 n, .string a, .string b, .slice pa zn pc] w fun e w' => e = .returned (.bool true) ∧ Below w.heap.size w w' := by
  have K6 := hid (placed_any A _ w hS)
  have K8a := hid (fun W => rIsName W a)
  have K8b := hid (fun W => rIsName W b)
  rw [ha] at K8a
  rw [hb] at K8b
  clear hS ha hb
  go_enter Tryz.func4, Tryz.ntmps4
  go_wp2_with fail
  refine K6.out.mono ?_
  rintro e w1 ⟨rfl, hb1⟩
  go_wp2_with fail
  refine (K8a.out _).mono ?_
  rintro e w' ⟨rfl, hw'⟩
  rw [hw']
  clear hw'
  go_wp2_with fail
  refine (K8b.out _).mono ?_
  rintro e w' ⟨rfl, hw'⟩
  rw [hw']
  clear hw'
  go_wp2_with fail
  go_ret
  exact ⟨rfl, hb1⟩
set_option maxHeartbeats 4000000 in
theorem cause_same (A : Nat → Addr) (w : World) (hS : Sen A w.heap.size w) (n : Int) (a b : ByteArray) (zn pc : Nat) (pa : Option Addr) (h1 : 1 ≤ n) (h2 : n ≤ 6) (h3 : (zn : Int) ≤ 60) (ha : nameB a = true) (hb : nameB b = true) (hab : (a.toList == b.toList) = true) :
    Calls Tryz.prog 4 #[.int .i64 n, .string a, .string b, .slice pa zn pc] w fun e w' => e = .returned (.bool true) ∧ Below w.heap.size w w' := by
  have K6 := hid (placed_any A _ w hS)
  have K8a := hid (fun W => rIsName W a)
  have K8b := hid (fun W => rIsName W b)
  rw [ha] at K8a
  rw [hb] at K8b
  clear hS ha hb
  go_enter Tryz.func4, Tryz.ntmps4
  go_wp2_with fail
  refine K6.out.mono ?_
  rintro e w1 ⟨rfl, hb1⟩
  go_wp2_with fail
  refine (K8a.out _).mono ?_
  rintro e w' ⟨rfl, hw'⟩
  rw [hw']
  clear hw'
  go_wp2_with fail
  refine (K8b.out _).mono ?_
  rintro e w' ⟨rfl, hw'⟩
  rw [hw']
  clear hw'
  go_wp2_with fail
  go_ret
  exact ⟨rfl, hb1⟩
end Go.Proofs.YtefpnojanldkeaaGreatDoor
namespace Go.Proofs.YtefpnojanldkeaaGreatDoor
open Go.RowKit Go.Maps
set_option maxRecDepth 100000
set_option linter.unusedSectionVars false
variable [Inhabited ComV] [DecidableEq D3] [Inhabited D3] [Inhabited Dd] [Inhabited Dn] [Inhabited OpV]

theorem cause_walk (A : Nat → Addr) (B : Nat) (w : World) (hS : Sen A B w) (n : Int) (a b : ByteArray) (pv : Value) (zs : List Int) (hp : IntsAt w pv zs) :
    Calls Tryz.prog 4 #[.int .i64 n, .string a, .string b, pv] w fun e w' => e = .returned (.bool true) ∧ Below w.heap.size w w' := by
  obtain ⟨pa, pc, rfl, _, hp⟩ := hp
  by_cases h : 1 ≤ n ∧ n ≤ 6 ∧ zs.length ≤ 60
  · obtain ⟨h1, h2, h3⟩ := h
    have h3' : (zs.length : Int) ≤ 60 := by omega
    cases ha : nameB a with
    | false => exact cause_nameA A w hS.whole n a b zs.length pc pa h1 h2 h3' ha
    | true =>
      cases hb : nameB b with
      | false => exact cause_nameB A w hS.whole n a b zs.length pc pa h1 h2 h3' ha hb
      | true =>
        cases hab : (a.toList == b.toList) with
        | true => exact cause_same A w hS.whole n a b zs.length pc pa h1 h2 h3' ha hb hab
        | false =>
          obtain ⟨k, rfl⟩ : ∃ k : Nat, n = k := ⟨n.toNat, by omega⟩
          exact cause_in A w hS.whole k (by omega) (by omega) a b ha hb hab zs h3 pa pc hp
  · exact cause_out A w hS.whole n a b zs.length pc pa (by omega)
end Go.Proofs.YtefpnojanldkeaaGreatDoor
namespace Go.Proofs.YtefpnojanldkeaaGreatDoor
open Go.RowKit Go.ChangeShapes Go.WideShapes Go.ChangeAt
set_option maxRecDepth 100000
set_option linter.unusedSectionVars false
variable [Inhabited ComV] [DecidableEq D3] [Inhabited D3] [Inhabited Dd] [Inhabited Dn] [Inhabited OpV]

def names4 : List (String × List UInt8) := [("causeway/api.ErrBound", [99, 97, 117, 115, 101, 119, 97, 121, 58, 32, 98, 111, 117, 110, 100]), ("causeway/api.ErrShape", [99, 97, 117, 115, 101, 119, 97, 121, 58, 32, 115, 104, 97, 112, 101]), ("causeway/api.ErrName", [99, 97, 117, 115, 101, 119, 97, 121, 58, 32, 110, 97, 109, 101]), ("causeway/api.ErrKind", [99, 97, 117, 115, 101, 119, 97, 121, 58, 32, 107, 105, 110, 100])]
def g4 : Nat → Nat
  | 0 => 0 | 1 => 1 | 2 => 7 | _ => 11
theorem global4 (k : Nat) (x : String × List UInt8) (h : names4[k]? = some x) : Tryz.prog.globalNamed x.1 = some (g4 k) ∧ (Tryz.prog.globals[g4 k]?).map (·.type) = some 27 := by
  have hk : k < 4 := (List.getElem?_eq_some_iff.1 h).1
  rcases (by omega : k = 0 ∨ k = 1 ∨ k = 2 ∨ k = 3) with rfl | rfl | rfl | rfl <;> (obtain rfl := Option.some.inj h; exact ⟨by kernel_rfl, by kernel_rfl⟩)
theorem sen_of_laid {W : World} {l : List (String × DataW Unit)} (h : laidMetH Tryz.prog l W) (hm : ("errors.errorType", Rows.laid_errors_errorType) ∈ l)
    (hf : (l.filter fun x => x.2.handleName?.isNone).filter (fun x => (names4.map (·.1)).contains x.1) = listed names4) : ∃ A, Sen A W.heap.size W := by
  have h4 : laidMet Tryz.prog (listed names4) W := by rw [← hf]; exact (laidMetH_iff.1 h).1.filter _
  obtain ⟨A, a1, a2, a3, a4⟩ := laidMet_sents Tryz.underlying27 Tryz.row238 Tryz.underlying238 Tryz.underlying258 rfl rfl Tryz.underlying9 Tryz.cells258 Tryz.cells9 names4 h4 (fun x hx => by
    obtain ⟨k, hk⟩ := List.getElem?_of_mem hx
    exact ⟨g4 k, global4 k x hk⟩)
  have hh := handle_of_laid h hm
  have hc : ∀ k, (hk : k < 4) → W.cell? ⟨g4 k, 0, none⟩ = some (.iface 238 (.pointer (some (A k)))) := fun k hk => by
    have hx : names4[k]? = some (names4[k]'hk) := List.getElem?_eq_getElem _
    simpa using World.var?_cell (global4 k _ hx).1 (a1 k _ hx) 0
  exact ⟨fun k => if k = 1 then A 0 else if k = 2 then A 1 else if k = 3 then A 2 else A 3, lt_of_cell hh, Nat.le_refl _, hc 0 (by decide), hc 1 (by decide), hc 2 (by decide), hc 3 (by decide)⟩
end Go.Proofs.YtefpnojanldkeaaGreatDoor
