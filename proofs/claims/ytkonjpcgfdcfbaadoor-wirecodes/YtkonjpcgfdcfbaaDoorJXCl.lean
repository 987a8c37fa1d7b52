/- The law WireCodes, walked. -/
import Derived.Test.YtkonjpcgfdcfbaaDoorJXRw
import Derived.Test.YtkonjpcgfdcfbaaDoorJXOf
import Derived.Test.YtkonjpcgfdcfbaaDoorJXVw
import Derived.Test.YtkonjpcgfdcfbaaDoorJXCo
import Derived.Test.YtkonjpcgfdcfbaaDoorJXCode
namespace Go.Proofs.YtkonjpcgfdcfbaaDoor
open Go.RowKit
set_option maxRecDepth 100000

set_option maxHeartbeats 8000000 in
theorem codes_walk (A : Nat → Addr) (B : Nat) (w : World) (hS : Sents A B w) (v : Value) (m : MsgV) (hv : MsgVal w v m) :
    Calls Tryd.prog 3 #[v] w fun e w' => e = .returned (.bool true) ∧ Below w.heap.size w w' := by
  obtain ⟨wv, ov, rfl, hw, ho, hR⟩ := hv
  have HR := hid hR
  have HW := hid hw
  have HO := hid ho
  obtain ⟨a1, c1, rfl⟩ := hw.len
  obtain ⟨a2, c2, rfl⟩ := ho.len
  have HS := hid hS
  obtain ⟨x1, x2, x3, x4, x5, x6, ⟨wl, pl, os⟩⟩ := m
  simp only at HR HW HO ⊢
  obtain ⟨n1, hn1⟩ : ∃ n1, n1 = wl.length := ⟨_, rfl⟩
  obtain ⟨n2, hn2⟩ : ∃ n2, n2 = os.length := ⟨_, rfl⟩
  rw [← hn1] at HW ⊢
  rw [← hn2] at HO ⊢
  have HN1 := hid hn1
  have HN2 := hid hn2
  clear hS hw ho hR hn1 hn2
  obtain ⟨w0, hw0⟩ : ∃ w0, w0 = w.alloc (.cells #[.int .i64 x1, .int .i64 x2, .int .i64 x3, .int .i64 x4, .int .i64 x5, .bool x6, .slice a1 n1 c1, .int .i64 pl, .slice a2 n2 c2] 27) := ⟨_, rfl⟩
  have B0 : Hid (Below w.heap.size w w0) := by show Below _ _ _; rw [hw0]; exact below_alloc w _
  have G0 : Hid (w0.heap[w.heap.size]? = some (.cells #[.int .i64 x1, .int .i64 x2, .int .i64 x3, .int .i64 x4, .int .i64 x5, .bool x6, .slice a1 n1 c1, .int .i64 pl, .slice a2 n2 c2] 27 (0, 0))) := by show w0.heap[w.heap.size]? = _; rw [hw0]; exact heap_new _ _
  have hs0 : w.heap.size < w0.heap.size := lt_of_heap G0.out
  have BOX : Hid (∀ u, Below w0.heap.size w0 u → (u.cell? ⟨w.heap.size, 0, none⟩ = some (.int .i64 x1) ∧ u.cell? ⟨w.heap.size, 1, none⟩ = some (.int .i64 x2) ∧ u.cell? ⟨w.heap.size, 2, none⟩ = some (.int .i64 x3) ∧ u.cell? ⟨w.heap.size, 3, none⟩ = some (.int .i64 x4) ∧ u.cell? ⟨w.heap.size, 4, none⟩ = some (.int .i64 x5) ∧ u.cell? ⟨w.heap.size, 5, none⟩ = some (.bool x6) ∧ u.cell? ⟨w.heap.size, 6, none⟩ = some (.slice a1 n1 c1) ∧ u.cell? ⟨w.heap.size, 7, none⟩ = some (.int .i64 pl) ∧ u.cell? ⟨w.heap.size, 8, none⟩ = some (.slice a2 n2 c2))) := fun u hu => by
    have e1 : u.heap[w.heap.size]? = _ := (hu.block _ hs0).trans G0.out
    exact ⟨(cell_of e1).trans rfl, (cell_of e1).trans rfl, (cell_of e1).trans rfl, (cell_of e1).trans rfl, (cell_of e1).trans rfl, (cell_of e1).trans rfl, (cell_of e1).trans rfl, (cell_of e1).trans rfl, (cell_of e1).trans rfl⟩
  have S0 := hid (HS.out.at B0.out)
  have K5 := hid (wired_true w0 (A 0) (A 6) (S0.out.cell 0 (by decide)) (S0.out.cell 6 (by decide)))
  go_enter Tryd.func3, Tryd.ntmps3
  go_wp2_with fail
  rw [← hw0]
  clear hw0
  refine K5.out.mono ?_
  rintro e w1 ⟨rfl, hb1⟩
  have B1 := hid hb1
  obtain ⟨p0, p1, p2, p3, p4, p5, p6, p7, p8⟩ := BOX.out w1 hb1
  have hbw1 : Below w.heap.size w w1 := B0.out.trans (hb1.mono (by omega))
  have K6 := hid (heavy_any w1 ⟨wl, pl, os⟩ _ _ (HW.out.mono hbw1 (Nat.le_refl _)) (HO.out.mono hbw1 (Nat.le_refl _)))
  have BW1 := hid hbw1
  clear hb1 hbw1 K5
  go_wp2_with fail
  refine K6.out.mono ?_
  rintro e w2 ⟨rfl | ⟨rfl, hL⟩, hb2⟩
  · have B2 := hid (BW1.out.trans (hb2.mono BW1.out.size))
    clear hb2
    go_wp2
    go_ret
    exact ⟨rfl, B2.out⟩
  · have B2 := hid (B1.out.trans (hb2.mono B1.out.size))
    have BW2 := hid (BW1.out.trans (hb2.mono BW1.out.size))
    have HL := hid hL
    clear hb2 hL K6 p0 p1 p2 p3 p4 p5 p6 p7 p8
    obtain ⟨p0, p1, p2, p3, p4, p5, p6, p7, p8⟩ := BOX.out w2 B2.out
    have hL1 : wl.length ≤ 20 := HL.out.when_
    have hL2 : os.length ≤ 20 := HL.out.ops
    have Q1 : Hid (wl.length ≤ 1000000) := by show _ ≤ _; omega
    have Q2 : Hid (os.length ≤ 1000000) := by show _ ≤ _; omega
    have Q3 : Hid (∀ o ∈ os, o.dots.length ≤ 1000000 ∧ o.key.size ≤ 1000000 ∧ o.text.size ≤ 1000000) := fun o ho => by have := HL.out.each o ho; omega
    clear hL1 hL2
    have K8 := hid (wireOf_any w2 ⟨x1, x2, x3, x4, x5, x6, ⟨wl, pl, os⟩⟩ _ _ (HW.out.mono BW2.out (Nat.le_refl _)) (HO.out.mono BW2.out (Nat.le_refl _)) HL.out)
    go_wp2_with fail
    refine K8.out.mono ?_
    rintro e w3 ⟨b1, d1, b2, d2, rfl, hown, hb3⟩
    have B3 := hid (B2.out.trans (hb3.mono B2.out.size))
    have BW3 := hid (BW2.out.trans (hb3.mono BW2.out.size))
    have S3 := hid (HS.out.at BW3.out)
    have W3 := hid hown.ints
    have O3 := hid hown.opsAt
    clear hb3 hown K8 p0 p1 p2 p3 p4 p5 p6 p7 p8
    have OK := hid (ok_of HR.out HL.out)
    obtain ⟨M, hM⟩ : ∃ M, M = msg8 ⟨x1, x2, x3, x4, x5, x6, ⟨wl, pl, os⟩⟩ := ⟨_, rfl⟩
    have HM := hid hM
    clear hM
    by_cases h6 : 5996 < M.length
    · have K7 := hid (encode_bad w3 (A 6) ⟨x1, x2, x3, x4, x5, x6, ⟨wl, pl, os⟩⟩ b1 b2 d1 d2 (S3.out.cell 6 (by decide)) W3.out O3.out Q1.out Q2.out Q3.out (by rw [← HM.out]; exact h6))
      go_wp2_with fail
      refine K7.out.mono ?_
      rintro e w4 ⟨rfl, hb4⟩
      have B4 := hid (B3.out.trans (hb4.mono B3.out.size))
      have BW4 := hid (BW3.out.trans (hb4.mono BW3.out.size))
      obtain ⟨p0, p1, p2, p3, p4, p5, p6, p7, p8⟩ := BOX.out w4 B4.out
      have K9 := hid (rwire_any w4 ⟨x1, x2, x3, x4, x5, x6, ⟨wl, pl, os⟩⟩ _ _ (HW.out.mono BW4.out (Nat.le_refl _)) (HO.out.mono BW4.out (Nat.le_refl _)) HL.out)
      have HF : Hid (rwRet (msg8 ⟨x1, x2, x3, x4, x5, x6, ⟨wl, pl, os⟩⟩) = .tuple #[.string ⟨#[]⟩, .int .i64 7]) := by show _ = _; rw [← HM.out]; exact if_pos h6
      rw [HF.out] at K9
      clear hb4 K7 W3 O3 S3
      go_wp2_with fail
      refine K9.out.mono ?_
      rintro e w5 ⟨rfl, hb5⟩
      have BW5 := hid (BW4.out.trans (hb5.mono BW4.out.size))
      have K10 := hid (coded_sent A B w5 6 7 (HS.out.at BW5.out) (by decide) rfl)
      clear hb5 K9 p0 p1 p2 p3 p4 p5 p6 p7 p8
      go_wp2_with (go_at_call 10; refine K10.out.mono ?_; rintro e w6 ⟨rfl, hb6⟩)
      go_ret
      exact ⟨rfl, BW5.out.trans (hb6.mono BW5.out.size)⟩
    · have K7 := hid (encode_ok w3 (A 6) ⟨x1, x2, x3, x4, x5, x6, ⟨wl, pl, os⟩⟩ b1 b2 d1 d2 (S3.out.cell 6 (by decide)) W3.out O3.out Q1.out Q2.out Q3.out (by rw [← HM.out]; omega))
      rw [← HM.out] at K7
      go_wp2_with fail
      refine K7.out.mono ?_
      rintro e w4 ⟨rfl, hb4⟩
      obtain ⟨L, hLe⟩ : ∃ L, L = M ++ sum4 M := ⟨_, rfl⟩
      rw [← hLe]
      have HLE := hid hLe
      have B4 := hid (B3.out.trans (hb4.mono B3.out.size))
      have BW4 := hid (BW3.out.trans (hb4.mono BW3.out.size))
      obtain ⟨p0, p1, p2, p3, p4, p5, p6, p7, p8⟩ := BOX.out w4 B4.out
      have K9 := hid (rwire_any w4 ⟨x1, x2, x3, x4, x5, x6, ⟨wl, pl, os⟩⟩ _ _ (HW.out.mono BW4.out (Nat.le_refl _)) (HO.out.mono BW4.out (Nat.le_refl _)) HL.out)
      have HF : Hid (rwRet (msg8 ⟨x1, x2, x3, x4, x5, x6, ⟨wl, pl, os⟩⟩) = .tuple #[.string ⟨L.toArray⟩, .int .i64 0]) := by show _ = _; rw [← HM.out, hLe]; exact if_neg h6
      rw [HF.out] at K9
      have hll : L.length = M.length + 4 := by rw [hLe, List.length_append, sum4_len]
      have HLL := hid hll
      clear hb4 K7 W3 O3 S3 hLe hll
      go_wp2_with fail
      refine K9.out.mono ?_
      rintro e w5 ⟨rfl, hb5⟩
      have B5 := hid (B4.out.trans (hb5.mono B4.out.size))
      have BW5 := hid (BW4.out.trans (hb5.mono BW4.out.size))
      have KD := hid (decode_ok w5 (A 0) L M ⟨x1, x2, x3, x4, x5, x6, ⟨wl, pl, os⟩⟩ ((HS.out.at BW5.out).cell 0 (by decide)) (by have := HLL.out; omega) (by have := HLL.out; omega) (by rw [HLE.out, take_msg]) (by rw [HLE.out, drop_msg]) (by rw [HM.out]; exact whole_ra OK.out))
      clear hb5 K9 p0 p1 p2 p3 p4 p5 p6 p7 p8
      go_wp2_with fail
      refine KD.out.mono ?_
      rintro e w6 ⟨f1, g1, f2, g2, rfl, hown6, hb6⟩
      have B6 := hid (B5.out.trans (hb6.mono B5.out.size))
      have BW6 := hid (BW5.out.trans (hb6.mono BW5.out.size))
      have W6 := hid hown6.ints
      have O6 := hid hown6.opsAt
      clear hown6 hb6 KD
      simp only at W6 O6 ⊢
      rw [← HN1.out] at W6 ⊢
      rw [← HN2.out] at O6 ⊢
      obtain ⟨w7, hw7⟩ : ∃ w7, w7 = w6.alloc (.cells #[.int .i64 x1, .int .i64 x2, .int .i64 x3, .int .i64 x4, .int .i64 x5, .bool x6, .slice f1 n1 g1, .int .i64 pl, .slice f2 n2 g2] 34) := ⟨_, rfl⟩
      have hb67 : Below w6.heap.size w6 w7 := by rw [hw7]; exact below_alloc _ _
      have G7 : w7.heap[w6.heap.size]? = some (.cells #[.int .i64 x1, .int .i64 x2, .int .i64 x3, .int .i64 x4, .int .i64 x5, .bool x6, .slice f1 n1 g1, .int .i64 pl, .slice f2 n2 g2] 34 (0, 0)) := by rw [hw7]; exact heap_new _ _
      have hs7 : w6.heap.size < w7.heap.size := lt_of_heap G7
      have B7 := hid (B6.out.trans (hb67.mono B6.out.size))
      have BW7 := hid (BW6.out.trans (hb67.mono BW6.out.size))
      have HELD : Hid (∀ u, Below w7.heap.size w7 u → (u.cell? ⟨w6.heap.size, 0, none⟩ = some (.int .i64 x1) ∧ u.cell? ⟨w6.heap.size, 1, none⟩ = some (.int .i64 x2) ∧ u.cell? ⟨w6.heap.size, 2, none⟩ = some (.int .i64 x3) ∧ u.cell? ⟨w6.heap.size, 3, none⟩ = some (.int .i64 x4) ∧ u.cell? ⟨w6.heap.size, 4, none⟩ = some (.int .i64 x5) ∧ u.cell? ⟨w6.heap.size, 5, none⟩ = some (.bool x6) ∧ u.cell? ⟨w6.heap.size, 6, none⟩ = some (.slice f1 n1 g1) ∧ u.cell? ⟨w6.heap.size, 7, none⟩ = some (.int .i64 pl) ∧ u.cell? ⟨w6.heap.size, 8, none⟩ = some (.slice f2 n2 g2) ∧ u.cell? ⟨w.heap.size, 0, none⟩ = some (.int .i64 x1) ∧ u.cell? ⟨w.heap.size, 1, none⟩ = some (.int .i64 x2) ∧ u.cell? ⟨w.heap.size, 2, none⟩ = some (.int .i64 x3) ∧ u.cell? ⟨w.heap.size, 3, none⟩ = some (.int .i64 x4) ∧ u.cell? ⟨w.heap.size, 4, none⟩ = some (.int .i64 x5) ∧ u.cell? ⟨w.heap.size, 5, none⟩ = some (.bool x6) ∧ u.cell? ⟨w.heap.size, 6, none⟩ = some (.slice a1 n1 c1) ∧ u.cell? ⟨w.heap.size, 7, none⟩ = some (.int .i64 pl) ∧ u.cell? ⟨w.heap.size, 8, none⟩ = some (.slice a2 n2 c2))) := fun u hu => by
        have e1 : u.heap[w6.heap.size]? = _ := (hu.block _ hs7).trans G7
        obtain ⟨t0, t1, t2, t3, t4, t5, t6, t7, t8⟩ := BOX.out u (B7.out.trans (hu.mono B7.out.size))
        exact ⟨(cell_of e1).trans rfl, (cell_of e1).trans rfl, (cell_of e1).trans rfl, (cell_of e1).trans rfl, (cell_of e1).trans rfl, (cell_of e1).trans rfl, (cell_of e1).trans rfl, (cell_of e1).trans rfl, (cell_of e1).trans rfl, t0, t1, t2, t3, t4, t5, t6, t7, t8⟩
      have K13 : Hid (∀ u, Below w7.heap.size w7 u → Calls Tryd.prog 13 #[.agg #[.int .i64 x1, .int .i64 x2, .int .i64 x3, .int .i64 x4, .int .i64 x5, .bool x6, .slice f1 n1 g1, .int .i64 pl, .slice f2 n2 g2]] u fun e w' => e = .returned (.agg #[.int .i64 x1, .int .i64 x2, .int .i64 x3, .int .i64 x4, .int .i64 x5, .bool x6, .slice f1 n1 g1, .int .i64 pl, .slice f2 n2 g2]) ∧ Below w7.heap.size w7 w') := fun u hu => by
        refine (backWire_any u x1 x2 x3 x4 x5 pl x6 f1 f2 n1 g1 n2 g2).mono ?_
        rintro e w' ⟨rfl, hb⟩
        exact ⟨rfl, hu.trans (hb.mono hu.size)⟩
      have W7 := hid (W6.out.mono hb67 (Nat.le_refl _))
      have O7 := hid (O6.out.mono hb67 (Nat.le_refl _))
      have V7 := hid (HW.out.mono BW7.out (Nat.le_refl _))
      have P7 := hid (HO.out.mono BW7.out (Nat.le_refl _))
      have K12 : Hid (∀ u, Below w7.heap.size w7 u → Calls Tryd.prog 12 #[.agg #[.int .i64 x1, .int .i64 x2, .int .i64 x3, .int .i64 x4, .int .i64 x5, .bool x6, .slice f1 n1 g1, .int .i64 pl, .slice f2 n2 g2], .agg #[.int .i64 x1, .int .i64 x2, .int .i64 x3, .int .i64 x4, .int .i64 x5, .bool x6, .slice a1 n1 c1, .int .i64 pl, .slice a2 n2 c2]] u fun e w' => e = .returned (.bool true) ∧ Below w7.heap.size w7 w') := fun u hu => by
        refine (sameMessage_same u ⟨x1, x2, x3, x4, x5, x6, ⟨wl, pl, os⟩⟩ _ _ _ _ (W7.out.mono hu (Nat.le_refl _)) (O7.out.mono hu (Nat.le_refl _)) (V7.out.mono hu (Nat.le_refl _)) (P7.out.mono hu (Nat.le_refl _)) Q1.out Q2.out (fun o ho => (Q3.out o ho).1)).mono ?_
        rintro e w' ⟨rfl, hb⟩
        exact ⟨rfl, hu.trans (hb.mono hu.size)⟩
      have hb0 : Below w7.heap.size w7 w7.drew := (Below.refl _ _).drew
      go_upto_region 11 with (fail)
      rw [← hw7]
      clear hw7 G7 hb67 hs7 W6 O6 W7 O7 V7 P7
      go_region_held (fun u => u.cell? ⟨w6.heap.size, 0, none⟩ = some (.int .i64 x1) ∧ u.cell? ⟨w6.heap.size, 1, none⟩ = some (.int .i64 x2) ∧ u.cell? ⟨w6.heap.size, 2, none⟩ = some (.int .i64 x3) ∧ u.cell? ⟨w6.heap.size, 3, none⟩ = some (.int .i64 x4) ∧ u.cell? ⟨w6.heap.size, 4, none⟩ = some (.int .i64 x5) ∧ u.cell? ⟨w6.heap.size, 5, none⟩ = some (.bool x6) ∧ u.cell? ⟨w6.heap.size, 6, none⟩ = some (.slice f1 n1 g1) ∧ u.cell? ⟨w6.heap.size, 7, none⟩ = some (.int .i64 pl) ∧ u.cell? ⟨w6.heap.size, 8, none⟩ = some (.slice f2 n2 g2) ∧ u.cell? ⟨w.heap.size, 0, none⟩ = some (.int .i64 x1) ∧ u.cell? ⟨w.heap.size, 1, none⟩ = some (.int .i64 x2) ∧ u.cell? ⟨w.heap.size, 2, none⟩ = some (.int .i64 x3) ∧ u.cell? ⟨w.heap.size, 3, none⟩ = some (.int .i64 x4) ∧ u.cell? ⟨w.heap.size, 4, none⟩ = some (.int .i64 x5) ∧ u.cell? ⟨w.heap.size, 5, none⟩ = some (.bool x6) ∧ u.cell? ⟨w.heap.size, 6, none⟩ = some (.slice a1 n1 c1) ∧ u.cell? ⟨w.heap.size, 7, none⟩ = some (.int .i64 pl) ∧ u.cell? ⟨w.heap.size, 8, none⟩ = some (.slice a2 n2 c2))
        ((refine HELD.out _ ?_; with_reducible assumption))
        (first
          | (go_at_call 13; refine (K13.out _ (by assumption)).mono ?_; rintro e u2 ⟨rfl, hb2⟩)
          | (go_at_call 12; refine (K12.out _ (by assumption)).mono ?_; rintro e u3 ⟨rfl, hb3⟩))
      have BF := hid (BW7.out.trans (hb3.mono BW7.out.size))
      clear hb3
      go_wp2
      go_ret
      exact ⟨rfl, BF.out⟩
end Go.Proofs.YtkonjpcgfdcfbaaDoor
