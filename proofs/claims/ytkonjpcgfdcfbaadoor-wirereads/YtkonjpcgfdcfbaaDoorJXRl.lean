/- The law WireReads, walked. -/
import Derived.Test.YtkonjpcgfdcfbaaDoorJXRc
import Derived.Deep.Cut
namespace Go.Proofs.YtkonjpcgfdcfbaaDoor
open Go.RowKit
set_option maxRecDepth 100000

set_option maxHeartbeats 8000000 in
theorem reads_walk (A : Nat → Addr) (B : Nat) (w : World) (hS : Sents A B w) (str : ByteArray) (sl : Bool) :
    Calls Tryd.prog 4 #[.string str, .bool sl] w fun e w' => e = .returned (.bool true) ∧ Below w.heap.size w w' := by
  obtain ⟨l, rfl⟩ : ∃ l : List UInt8, str = ⟨l.toArray⟩ := ⟨str.data.toList, by cases str; simp⟩
  have K5 := hid (wired_true w (A 0) (A 6) (hS.cell 0 (by decide)) (hS.cell 6 (by decide)))
  have HS := hid hS
  clear hS
  by_cases hl : 6100 < l.length
  · go_enter Tryd.func4, Tryd.ntmps4
    go_wp2_with fail
    refine K5.out.mono ?_
    rintro e w1 ⟨rfl, hb1⟩
    go_wp2
    go_ret
    exact ⟨rfl, hb1⟩
  · obtain ⟨L, hL⟩ : ∃ L, L = if sl = true then l ++ sum4 l else l := ⟨_, rfl⟩
    have HR := hid (reads_any A L)
    have hLl : L.length ≤ 6104 := by
      rw [hL]
      split
      · rw [List.length_append, sum4_len]; omega
      · omega
    have HLL := hid hLl
    clear hLl
    cases sl with
    | false =>
      have hL' : l = L := hL.symm
      subst hL'
      clear hL
      go_enter Tryd.func4, Tryd.ntmps4
      go_wp2_with fail
      refine K5.out.mono ?_
      rintro e w1 ⟨rfl, hb1⟩
      have B1 := hid hb1
      clear hb1 K5
      go_wp2_with fail
      rcases HR.out with ⟨k, hE⟩ | ⟨m, hO⟩
      · have KD := hid (hE.dec B w1 (HS.out.at B1.out))
        have KU := hid hE.un
        have hk12 := hE.lt
        clear HR hE
        refine KD.out.mono ?_
        rintro e w3 ⟨rfl, hb3⟩
        have B3 := hid (B1.out.trans (hb3.mono B1.out.size))
        clear hb3 KD
        go_wp2_with fail
        refine (KU.out _).mono ?_
        rintro e w4 ⟨rfl, hb4⟩
        have hs4 : w3.heap.size + 1 ≤ w4.heap.size := by have := hb4.size; simp at this; omega
        have G1 : w4.heap[w3.heap.size]? = some (.cells #[.int .i64 0, .int .i64 0, .int .i64 0, .int .i64 0, .int .i64 0, .bool false, .slice none 0 0, .int .i64 0, .slice none 0 0] 34 (0, 0)) := by
          rw [hb4.block _ (by simp)]
          exact heap_new _ _
        obtain ⟨w5, hw5⟩ : ∃ w5, w5 = w4.alloc (.cells #[.int .i64 0, .int .i64 0, .int .i64 0, .int .i64 0, .int .i64 0, .bool false, .slice none 0 0, .int .i64 0, .slice none 0 0] 27) := ⟨_, rfl⟩
        have hs5 : w5.heap.size = w4.heap.size + 1 := by rw [hw5]; simp
        have G1' : w5.heap[w3.heap.size]? = some (.cells #[.int .i64 0, .int .i64 0, .int .i64 0, .int .i64 0, .int .i64 0, .bool false, .slice none 0 0, .int .i64 0, .slice none 0 0] 34 (0, 0)) := by rw [hw5]; exact heap_old G1 _
        have G2' : w5.heap[w4.heap.size]? = some (.cells #[.int .i64 0, .int .i64 0, .int .i64 0, .int .i64 0, .int .i64 0, .bool false, .slice none 0 0, .int .i64 0, .slice none 0 0] 27 (0, 0)) := by rw [hw5]; exact heap_new _ _
        have hb45 : Below w4.heap.size w4 w5 := by rw [hw5]; exact below_alloc _ _
        have hb35 : Below w3.heap.size w3 w5 := ((below_alloc w3 _).trans (hb4.mono (by simp))).trans (hb45.mono (by omega))
        have B5 := hid (B3.out.trans (hb35.mono B3.out.size))
        have HS5 := hid (HS.out.at B5.out)
        have HELD : Hid (∀ u, Below w5.heap.size w5 u → (u.cell? ⟨w3.heap.size, 0, none⟩ = some (.int .i64 0) ∧ u.cell? ⟨w3.heap.size, 1, none⟩ = some (.int .i64 0) ∧ u.cell? ⟨w3.heap.size, 2, none⟩ = some (.int .i64 0) ∧ u.cell? ⟨w3.heap.size, 3, none⟩ = some (.int .i64 0) ∧ u.cell? ⟨w3.heap.size, 4, none⟩ = some (.int .i64 0) ∧ u.cell? ⟨w3.heap.size, 5, none⟩ = some (.bool false) ∧ u.cell? ⟨w3.heap.size, 6, none⟩ = some (.slice none 0 0) ∧ u.cell? ⟨w3.heap.size, 7, none⟩ = some (.int .i64 0) ∧ u.cell? ⟨w3.heap.size, 8, none⟩ = some (.slice none 0 0) ∧ u.cell? ⟨w4.heap.size, 0, none⟩ = some (.int .i64 0) ∧ u.cell? ⟨w4.heap.size, 1, none⟩ = some (.int .i64 0) ∧ u.cell? ⟨w4.heap.size, 2, none⟩ = some (.int .i64 0) ∧ u.cell? ⟨w4.heap.size, 3, none⟩ = some (.int .i64 0) ∧ u.cell? ⟨w4.heap.size, 4, none⟩ = some (.int .i64 0) ∧ u.cell? ⟨w4.heap.size, 5, none⟩ = some (.bool false) ∧ u.cell? ⟨w4.heap.size, 6, none⟩ = some (.slice none 0 0) ∧ u.cell? ⟨w4.heap.size, 7, none⟩ = some (.int .i64 0) ∧ u.cell? ⟨w4.heap.size, 8, none⟩ = some (.slice none 0 0))) := fun u hu => by
          have e1 : u.heap[w3.heap.size]? = _ := (hu.block _ (by omega)).trans G1'
          have e2 : u.heap[w4.heap.size]? = _ := (hu.block _ (by omega)).trans G2'
          exact ⟨(cell_of e1).trans rfl, (cell_of e1).trans rfl, (cell_of e1).trans rfl, (cell_of e1).trans rfl, (cell_of e1).trans rfl, (cell_of e1).trans rfl, (cell_of e1).trans rfl, (cell_of e1).trans rfl, (cell_of e1).trans rfl, (cell_of e2).trans rfl, (cell_of e2).trans rfl, (cell_of e2).trans rfl, (cell_of e2).trans rfl, (cell_of e2).trans rfl, (cell_of e2).trans rfl, (cell_of e2).trans rfl, (cell_of e2).trans rfl, (cell_of e2).trans rfl⟩
        have hb0 : Below w5.heap.size w5 w5.drew := (Below.refl _ _).drew
        have K10 : Hid (∀ u, Below w5.heap.size w5 u → Calls Tryd.prog 10 #[.iface 131 (.pointer (some (A k))), .int .i64 ((k : Int) + 1)] u fun e w' => e = .returned (.bool true) ∧ Below w5.heap.size w5 w') := fun u hu => by
          refine (coded_sent A B u k _ (HS5.out.at hu) hk12 rfl).mono ?_
          rintro e w' ⟨rfl, hb⟩
          exact ⟨rfl, hu.trans (hb.mono hu.size)⟩
        have K13 : Hid (∀ u, Below w5.heap.size w5 u → Calls Tryd.prog 13 #[.agg #[.int .i64 0, .int .i64 0, .int .i64 0, .int .i64 0, .int .i64 0, .bool false, .slice none 0 0, .int .i64 0, .slice none 0 0]] u fun e w' => e = .returned (.agg #[.int .i64 0, .int .i64 0, .int .i64 0, .int .i64 0, .int .i64 0, .bool false, .slice none 0 0, .int .i64 0, .slice none 0 0]) ∧ Below w5.heap.size w5 w') := fun u hu => by
          refine (backWire_any u 0 0 0 0 0 0 false none none 0 0 0 0).mono ?_
          rintro e w' ⟨rfl, hb⟩
          exact ⟨rfl, hu.trans (hb.mono hu.size)⟩
        have K12 : Hid (∀ u, Below w5.heap.size w5 u → Calls Tryd.prog 12 #[.agg #[.int .i64 0, .int .i64 0, .int .i64 0, .int .i64 0, .int .i64 0, .bool false, .slice none 0 0, .int .i64 0, .slice none 0 0], .agg #[.int .i64 0, .int .i64 0, .int .i64 0, .int .i64 0, .int .i64 0, .bool false, .slice none 0 0, .int .i64 0, .slice none 0 0]] u fun e w' => e = .returned (.bool true) ∧ Below w5.heap.size w5 w') := fun u hu => by
          refine (sameMessage_same u ⟨0, 0, 0, 0, 0, false, ⟨[], 0, []⟩⟩ _ _ _ _ (ints_nil u) (ops_nil u) (ints_nil u) (ops_nil u) (Nat.zero_le _) (Nat.zero_le _) (fun o ho => by simp at ho)).mono ?_
          rintro e w' ⟨rfl, hb⟩
          exact ⟨rfl, hu.trans (hb.mono hu.size)⟩
        go_upto_region 9 with (fail)
        rw [← hw5]
        have hk0 : (0 : Int) < (k : Int) + 1 := by omega
        clear hw5 G1 G1' G2' hb4 hb45 hb35 hs4 hs5 B3 HS5 KU hk12
        go_region_held (fun u => u.cell? ⟨w3.heap.size, 0, none⟩ = some (.int .i64 0) ∧ u.cell? ⟨w3.heap.size, 1, none⟩ = some (.int .i64 0) ∧ u.cell? ⟨w3.heap.size, 2, none⟩ = some (.int .i64 0) ∧ u.cell? ⟨w3.heap.size, 3, none⟩ = some (.int .i64 0) ∧ u.cell? ⟨w3.heap.size, 4, none⟩ = some (.int .i64 0) ∧ u.cell? ⟨w3.heap.size, 5, none⟩ = some (.bool false) ∧ u.cell? ⟨w3.heap.size, 6, none⟩ = some (.slice none 0 0) ∧ u.cell? ⟨w3.heap.size, 7, none⟩ = some (.int .i64 0) ∧ u.cell? ⟨w3.heap.size, 8, none⟩ = some (.slice none 0 0) ∧ u.cell? ⟨w4.heap.size, 0, none⟩ = some (.int .i64 0) ∧ u.cell? ⟨w4.heap.size, 1, none⟩ = some (.int .i64 0) ∧ u.cell? ⟨w4.heap.size, 2, none⟩ = some (.int .i64 0) ∧ u.cell? ⟨w4.heap.size, 3, none⟩ = some (.int .i64 0) ∧ u.cell? ⟨w4.heap.size, 4, none⟩ = some (.int .i64 0) ∧ u.cell? ⟨w4.heap.size, 5, none⟩ = some (.bool false) ∧ u.cell? ⟨w4.heap.size, 6, none⟩ = some (.slice none 0 0) ∧ u.cell? ⟨w4.heap.size, 7, none⟩ = some (.int .i64 0) ∧ u.cell? ⟨w4.heap.size, 8, none⟩ = some (.slice none 0 0))
          ((refine HELD.out _ ?_; assumption))
          (first
            | (go_at_call 10; refine (K10.out _ (by assumption)).mono ?_; rintro e u1 ⟨rfl, hb1⟩)
            | (go_at_call 13; refine (K13.out _ (by assumption)).mono ?_; rintro e u2 ⟨rfl, hb2⟩)
            | (go_at_call 12; refine (K12.out _ (by assumption)).mono ?_; rintro e u3 ⟨rfl, hb3⟩))
        have BF := hid (B5.out.trans (hb3.mono B5.out.size))
        clear hb3
        go_wp2
        go_ret
        exact ⟨rfl, BF.out⟩
      · have KD := hid (hO.dec B w1 (HS.out.at B1.out))
        have KU := hid hO.un
        have HEQ := hid hO.eq
        have HLE := hid hO.le
        obtain ⟨q1, q2, q3⟩ := msg_bounds hO.le
        have Q1 := hid q1
        have Q2 := hid q2
        have Q3 := hid q3
        clear HR hO q1 q2 q3
        refine KD.out.mono ?_
        rintro e w3 ⟨a1, c1, a2, c2, rfl, hown, hb3⟩
        have B3 := hid (B1.out.trans (hb3.mono B1.out.size))
        have W3 := hid hown.ints
        have O3 := hid hown.opsAt
        obtain ⟨x1, x2, x3, x4, x5, x6, ⟨wl, pl, os⟩⟩ := m
        simp only at KU W3 O3 HEQ HLE Q1 Q2 Q3 ⊢
        obtain ⟨n1, hn1⟩ : ∃ n1, n1 = wl.length := ⟨_, rfl⟩
        obtain ⟨n2, hn2⟩ : ∃ n2, n2 = os.length := ⟨_, rfl⟩
        rw [← hn1] at W3 KU Q1
        rw [← hn2] at O3 KU Q2
        rw [← hn1, ← hn2]
        have HN1 := hid hn1
        have HN2 := hid hn2
        clear hb3 KD hown hn1 hn2
        go_wp2_with fail
        refine (KU.out _).mono ?_
        rintro e w4 ⟨b1, d1, b2, d2, rfl, hi4, ho4, hb4⟩
        have hs4 : w3.heap.size + 1 ≤ w4.heap.size := by have := hb4.size; simp at this; omega
        have G1 : w4.heap[w3.heap.size]? = some (.cells #[.int .i64 x1, .int .i64 x2, .int .i64 x3, .int .i64 x4, .int .i64 x5, .bool x6, .slice a1 n1 c1, .int .i64 pl, .slice a2 n2 c2] 34 (0, 0)) := by
          rw [hb4.block _ (by simp)]
          exact heap_new _ _
        obtain ⟨w5, hw5⟩ : ∃ w5, w5 = w4.alloc (.cells #[.int .i64 x1, .int .i64 x2, .int .i64 x3, .int .i64 x4, .int .i64 x5, .bool x6, .slice b1 n1 d1, .int .i64 pl, .slice b2 n2 d2] 27) := ⟨_, rfl⟩
        have hs5 : w5.heap.size = w4.heap.size + 1 := by rw [hw5]; simp
        have G1' : w5.heap[w3.heap.size]? = some (.cells #[.int .i64 x1, .int .i64 x2, .int .i64 x3, .int .i64 x4, .int .i64 x5, .bool x6, .slice a1 n1 c1, .int .i64 pl, .slice a2 n2 c2] 34 (0, 0)) := by rw [hw5]; exact heap_old G1 _
        have G2' : w5.heap[w4.heap.size]? = some (.cells #[.int .i64 x1, .int .i64 x2, .int .i64 x3, .int .i64 x4, .int .i64 x5, .bool x6, .slice b1 n1 d1, .int .i64 pl, .slice b2 n2 d2] 27 (0, 0)) := by rw [hw5]; exact heap_new _ _
        have hb45 : Below w4.heap.size w4 w5 := by rw [hw5]; exact below_alloc _ _
        have hb35 : Below w3.heap.size w3 w5 := ((below_alloc w3 _).trans (hb4.mono (by simp))).trans (hb45.mono (by omega))
        have B5 := hid (B3.out.trans (hb35.mono B3.out.size))
        have HS5 := hid (HS.out.at B5.out)
        have HELD : Hid (∀ u, Below w5.heap.size w5 u → (u.cell? ⟨w3.heap.size, 0, none⟩ = some (.int .i64 x1) ∧ u.cell? ⟨w3.heap.size, 1, none⟩ = some (.int .i64 x2) ∧ u.cell? ⟨w3.heap.size, 2, none⟩ = some (.int .i64 x3) ∧ u.cell? ⟨w3.heap.size, 3, none⟩ = some (.int .i64 x4) ∧ u.cell? ⟨w3.heap.size, 4, none⟩ = some (.int .i64 x5) ∧ u.cell? ⟨w3.heap.size, 5, none⟩ = some (.bool x6) ∧ u.cell? ⟨w3.heap.size, 6, none⟩ = some (.slice a1 n1 c1) ∧ u.cell? ⟨w3.heap.size, 7, none⟩ = some (.int .i64 pl) ∧ u.cell? ⟨w3.heap.size, 8, none⟩ = some (.slice a2 n2 c2) ∧ u.cell? ⟨w4.heap.size, 0, none⟩ = some (.int .i64 x1) ∧ u.cell? ⟨w4.heap.size, 1, none⟩ = some (.int .i64 x2) ∧ u.cell? ⟨w4.heap.size, 2, none⟩ = some (.int .i64 x3) ∧ u.cell? ⟨w4.heap.size, 3, none⟩ = some (.int .i64 x4) ∧ u.cell? ⟨w4.heap.size, 4, none⟩ = some (.int .i64 x5) ∧ u.cell? ⟨w4.heap.size, 5, none⟩ = some (.bool x6) ∧ u.cell? ⟨w4.heap.size, 6, none⟩ = some (.slice b1 n1 d1) ∧ u.cell? ⟨w4.heap.size, 7, none⟩ = some (.int .i64 pl) ∧ u.cell? ⟨w4.heap.size, 8, none⟩ = some (.slice b2 n2 d2))) := fun u hu => by
          have e1 : u.heap[w3.heap.size]? = _ := (hu.block _ (by omega)).trans G1'
          have e2 : u.heap[w4.heap.size]? = _ := (hu.block _ (by omega)).trans G2'
          exact ⟨(cell_of e1).trans rfl, (cell_of e1).trans rfl, (cell_of e1).trans rfl, (cell_of e1).trans rfl, (cell_of e1).trans rfl, (cell_of e1).trans rfl, (cell_of e1).trans rfl, (cell_of e1).trans rfl, (cell_of e1).trans rfl, (cell_of e2).trans rfl, (cell_of e2).trans rfl, (cell_of e2).trans rfl, (cell_of e2).trans rfl, (cell_of e2).trans rfl, (cell_of e2).trans rfl, (cell_of e2).trans rfl, (cell_of e2).trans rfl, (cell_of e2).trans rfl⟩
        have hb0 : Below w5.heap.size w5 w5.drew := (Below.refl _ _).drew
        have W5 := hid (W3.out.mono hb35 (Nat.le_refl _))
        have O5 := hid (O3.out.mono hb35 (Nat.le_refl _))
        have V5 := hid (hi4.mono hb45 (Nat.le_refl _))
        have P5 := hid (ho4.mono hb45 (Nat.le_refl _))
        have K10 : Hid (∀ u, Below w5.heap.size w5 u → Calls Tryd.prog 10 #[.nilIface, .int .i64 0] u fun e w' => e = .returned (.bool true) ∧ Below w5.heap.size w5 w') := fun u hu => by
          refine (coded_nil u).mono ?_
          rintro e w' ⟨rfl, rfl⟩
          exact ⟨rfl, hu⟩
        have K13 : Hid (∀ u, Below w5.heap.size w5 u → Calls Tryd.prog 13 #[.agg #[.int .i64 x1, .int .i64 x2, .int .i64 x3, .int .i64 x4, .int .i64 x5, .bool x6, .slice a1 n1 c1, .int .i64 pl, .slice a2 n2 c2]] u fun e w' => e = .returned (.agg #[.int .i64 x1, .int .i64 x2, .int .i64 x3, .int .i64 x4, .int .i64 x5, .bool x6, .slice a1 n1 c1, .int .i64 pl, .slice a2 n2 c2]) ∧ Below w5.heap.size w5 w') := fun u hu => by
          refine (backWire_any u x1 x2 x3 x4 x5 pl x6 a1 a2 n1 c1 n2 c2).mono ?_
          rintro e w' ⟨rfl, hb⟩
          exact ⟨rfl, hu.trans (hb.mono hu.size)⟩
        have K12 : Hid (∀ u, Below w5.heap.size w5 u → Calls Tryd.prog 12 #[.agg #[.int .i64 x1, .int .i64 x2, .int .i64 x3, .int .i64 x4, .int .i64 x5, .bool x6, .slice a1 n1 c1, .int .i64 pl, .slice a2 n2 c2], .agg #[.int .i64 x1, .int .i64 x2, .int .i64 x3, .int .i64 x4, .int .i64 x5, .bool x6, .slice b1 n1 d1, .int .i64 pl, .slice b2 n2 d2]] u fun e w' => e = .returned (.bool true) ∧ Below w5.heap.size w5 w') := fun u hu => by
          refine (sameMessage_same u ⟨x1, x2, x3, x4, x5, x6, ⟨wl, pl, os⟩⟩ _ _ _ _ (W5.out.mono hu (Nat.le_refl _)) (O5.out.mono hu (Nat.le_refl _)) (V5.out.mono hu (Nat.le_refl _)) (P5.out.mono hu (Nat.le_refl _)) (by rw [← HN1.out]; exact Q1.out) (by rw [← HN2.out]; exact Q2.out) (fun o ho => (Q3.out o ho).1)).mono ?_
          rintro e w' ⟨rfl, hb⟩
          exact ⟨rfl, hu.trans (hb.mono hu.size)⟩
        have K7 : Hid (∀ u, Below w5.heap.size w5 u → Calls Tryd.prog 7 #[.agg #[.int .i64 x1, .int .i64 x2, .int .i64 x3, .int .i64 x4, .int .i64 x5, .bool x6, .slice a1 n1 c1, .int .i64 pl, .slice a2 n2 c2]] u fun e w' => e = .returned (.tuple #[.string ⟨l.toArray⟩, .nilIface]) ∧ Below w5.heap.size w5 w') := fun u hu => by
          have W6 := W5.out.mono hu (Nat.le_refl _)
          have O6 := O5.out.mono hu (Nat.le_refl _)
          rw [HN1.out] at W6 ⊢
          rw [HN2.out] at O6 ⊢
          refine (encode_ok u (A 6) ⟨x1, x2, x3, x4, x5, x6, ⟨wl, pl, os⟩⟩ a1 a2 c1 c2 ((HS5.out.at hu).cell 6 (by decide)) W6 O6 (by rw [← HN1.out]; exact Q1.out) (by rw [← HN2.out]; exact Q2.out) Q3.out HLE.out).mono ?_
          rintro e w' ⟨rfl, hb⟩
          exact ⟨by rw [← HEQ.out], hu.trans (hb.mono hu.size)⟩
        go_upto_region 9 with (fail)
        rw [← hw5]
        clear hw5 G1 G1' G2' hb4 hb45 hb35 hs4 hs5 B3 HS5 KU hi4 ho4 W3 O3 W5 O5 V5 P5 HEQ HLE Q1 Q2 Q3 HN1 HN2
        go_region_held (fun u => u.cell? ⟨w3.heap.size, 0, none⟩ = some (.int .i64 x1) ∧ u.cell? ⟨w3.heap.size, 1, none⟩ = some (.int .i64 x2) ∧ u.cell? ⟨w3.heap.size, 2, none⟩ = some (.int .i64 x3) ∧ u.cell? ⟨w3.heap.size, 3, none⟩ = some (.int .i64 x4) ∧ u.cell? ⟨w3.heap.size, 4, none⟩ = some (.int .i64 x5) ∧ u.cell? ⟨w3.heap.size, 5, none⟩ = some (.bool x6) ∧ u.cell? ⟨w3.heap.size, 6, none⟩ = some (.slice a1 n1 c1) ∧ u.cell? ⟨w3.heap.size, 7, none⟩ = some (.int .i64 pl) ∧ u.cell? ⟨w3.heap.size, 8, none⟩ = some (.slice a2 n2 c2) ∧ u.cell? ⟨w4.heap.size, 0, none⟩ = some (.int .i64 x1) ∧ u.cell? ⟨w4.heap.size, 1, none⟩ = some (.int .i64 x2) ∧ u.cell? ⟨w4.heap.size, 2, none⟩ = some (.int .i64 x3) ∧ u.cell? ⟨w4.heap.size, 3, none⟩ = some (.int .i64 x4) ∧ u.cell? ⟨w4.heap.size, 4, none⟩ = some (.int .i64 x5) ∧ u.cell? ⟨w4.heap.size, 5, none⟩ = some (.bool x6) ∧ u.cell? ⟨w4.heap.size, 6, none⟩ = some (.slice b1 n1 d1) ∧ u.cell? ⟨w4.heap.size, 7, none⟩ = some (.int .i64 pl) ∧ u.cell? ⟨w4.heap.size, 8, none⟩ = some (.slice b2 n2 d2))
          ((refine HELD.out _ ?_; assumption))
          (first
            | (go_at_call 10; refine (K10.out _ (by assumption)).mono ?_; rintro e u1 ⟨rfl, hb1⟩)
            | (go_at_call 13; refine (K13.out _ (by assumption)).mono ?_; rintro e u2 ⟨rfl, hb2⟩)
            | (go_at_call 12; refine (K12.out _ (by assumption)).mono ?_; rintro e u3 ⟨rfl, hb3⟩))
        have BF := hid hb3
        have HC3 := HELD.out _ hb3
        obtain ⟨t0, t1, t2, t3, t4, t5, t6, t7, t8, t9, t10, t11, t12, t13, t14, t15, t16, t17⟩ := HC3
        have K7' := hid (K7.out _ hb3)
        clear hb3 K7 K10 K12 K13 HELD
        go_wp2_with (go_at_call 7; refine K7'.out.mono ?_; rintro e u7 ⟨rfl, hb7⟩)
        go_ret
        exact ⟨rfl, B5.out.trans (hb7.mono B5.out.size)⟩
    | true =>
      have K14 := hid (fun W => rsum_any W l (by omega))
      have H4 : Hid (sum4 l = [oct ((sumN l : Nat) / 16777216 : Int) 0, oct ((sumN l : Nat) / 65536 : Int) 0, oct ((sumN l : Nat) / 256 : Int) 0, oct (sumN l : Nat) 0]) := by
        show sum4 l = _
        rw [oct_sum1]
        have e1 := oct_sum (sumN l) 16777216
        have e2 := oct_sum (sumN l) 65536
        have e3 := oct_sum (sumN l) 256
        simp only [Int.cast_ofNat_Int] at e1 e2 e3
        rw [e1, e2, e3]
        rfl
      have hn0 := sumN_lt l
      have HL : Hid (L = l ++ sum4 l) := by rw [hL]; rfl
      clear hL
      go_enter Tryd.func4, Tryd.ntmps4
      go_wp2_with fail
      refine K5.out.mono ?_
      rintro e w1 ⟨rfl, hb1⟩
      have B1 := hid hb1
      clear hb1 K5
      go_wp2_with fail
      refine (K14.out _).mono ?_
      rintro e w2 ⟨rfl, h21⟩
      subst h21
      obtain ⟨n, hn⟩ : ∃ n, n = sumN l := ⟨_, rfl⟩
      rw [← hn] at H4 hn0 ⊢
      clear hn
      have hcat : ((((⟨l.toArray⟩ : ByteArray) ++ ⟨#[oct ((n : Int) / 16777216) 0]⟩) ++ ⟨#[oct ((n : Int) / 65536) 0]⟩) ++ ⟨#[oct ((n : Int) / 256) 0]⟩) ++ ⟨#[oct (n : Int) 0]⟩ = ⟨L.toArray⟩ := by
        rw [HL.out, H4.out]
        show (((((⟨l.toArray⟩ : ByteArray) ++ ⟨[oct ((n : Int) / 16777216) 0].toArray⟩) ++ ⟨[oct ((n : Int) / 65536) 0].toArray⟩) ++ ⟨[oct ((n : Int) / 256) 0].toArray⟩) ++ ⟨[oct (n : Int) 0].toArray⟩) = _
        rw [ba_app, ba_app, ba_app, ba_app]
        simp
      have HC := hid hcat
      clear hcat
      have KB : Hid (∀ (u : World) (x : Int), Below w2.heap.size w2 u → Calls Tryd.prog 15 #[.int .i64 x] u fun e w' => e = .returned (.string ⟨#[oct x 0]⟩) ∧ Below w2.heap.size w2 w') := fun u x hu => by
        refine (byte_any x u).mono ?_
        rintro e w' ⟨rfl, hb⟩
        exact ⟨rfl, hu.trans (hb.mono hu.size)⟩
      have hb0 : Below w2.heap.size w2 w2 := Below.refl _ _
      go_wp2_with (go_at_call 15; refine (KB.out _ _ (by assumption)).mono ?_; rintro e u ⟨rfl, hbu⟩)
      rw [HC.out]
      have BU := hid (B1.out.trans (hbu.mono B1.out.size))
      clear hbu KB hb0 H4 HC HL hn0 K14
      rcases HR.out with ⟨k, hE⟩ | ⟨m, hO⟩
      · have KD := hid (hE.dec B u (HS.out.at BU.out))
        have KU := hid hE.un
        have hk12 := hE.lt
        clear HR hE
        refine KD.out.mono ?_
        rintro e w3 ⟨rfl, hb3⟩
        have B3 := hid (BU.out.trans (hb3.mono BU.out.size))
        clear hb3 KD
        go_wp2_with fail
        refine (KU.out _).mono ?_
        rintro e w4 ⟨rfl, hb4⟩
        have hs4 : w3.heap.size + 1 ≤ w4.heap.size := by have := hb4.size; simp at this; omega
        have G1 : w4.heap[w3.heap.size]? = some (.cells #[.int .i64 0, .int .i64 0, .int .i64 0, .int .i64 0, .int .i64 0, .bool false, .slice none 0 0, .int .i64 0, .slice none 0 0] 34 (0, 0)) := by
          rw [hb4.block _ (by simp)]
          exact heap_new _ _
        obtain ⟨w5, hw5⟩ : ∃ w5, w5 = w4.alloc (.cells #[.int .i64 0, .int .i64 0, .int .i64 0, .int .i64 0, .int .i64 0, .bool false, .slice none 0 0, .int .i64 0, .slice none 0 0] 27) := ⟨_, rfl⟩
        have hs5 : w5.heap.size = w4.heap.size + 1 := by rw [hw5]; simp
        have G1' : w5.heap[w3.heap.size]? = some (.cells #[.int .i64 0, .int .i64 0, .int .i64 0, .int .i64 0, .int .i64 0, .bool false, .slice none 0 0, .int .i64 0, .slice none 0 0] 34 (0, 0)) := by rw [hw5]; exact heap_old G1 _
        have G2' : w5.heap[w4.heap.size]? = some (.cells #[.int .i64 0, .int .i64 0, .int .i64 0, .int .i64 0, .int .i64 0, .bool false, .slice none 0 0, .int .i64 0, .slice none 0 0] 27 (0, 0)) := by rw [hw5]; exact heap_new _ _
        have hb45 : Below w4.heap.size w4 w5 := by rw [hw5]; exact below_alloc _ _
        have hb35 : Below w3.heap.size w3 w5 := ((below_alloc w3 _).trans (hb4.mono (by simp))).trans (hb45.mono (by omega))
        have B5 := hid (B3.out.trans (hb35.mono B3.out.size))
        have HS5 := hid (HS.out.at B5.out)
        have HELD : Hid (∀ u, Below w5.heap.size w5 u → (u.cell? ⟨w3.heap.size, 0, none⟩ = some (.int .i64 0) ∧ u.cell? ⟨w3.heap.size, 1, none⟩ = some (.int .i64 0) ∧ u.cell? ⟨w3.heap.size, 2, none⟩ = some (.int .i64 0) ∧ u.cell? ⟨w3.heap.size, 3, none⟩ = some (.int .i64 0) ∧ u.cell? ⟨w3.heap.size, 4, none⟩ = some (.int .i64 0) ∧ u.cell? ⟨w3.heap.size, 5, none⟩ = some (.bool false) ∧ u.cell? ⟨w3.heap.size, 6, none⟩ = some (.slice none 0 0) ∧ u.cell? ⟨w3.heap.size, 7, none⟩ = some (.int .i64 0) ∧ u.cell? ⟨w3.heap.size, 8, none⟩ = some (.slice none 0 0) ∧ u.cell? ⟨w4.heap.size, 0, none⟩ = some (.int .i64 0) ∧ u.cell? ⟨w4.heap.size, 1, none⟩ = some (.int .i64 0) ∧ u.cell? ⟨w4.heap.size, 2, none⟩ = some (.int .i64 0) ∧ u.cell? ⟨w4.heap.size, 3, none⟩ = some (.int .i64 0) ∧ u.cell? ⟨w4.heap.size, 4, none⟩ = some (.int .i64 0) ∧ u.cell? ⟨w4.heap.size, 5, none⟩ = some (.bool false) ∧ u.cell? ⟨w4.heap.size, 6, none⟩ = some (.slice none 0 0) ∧ u.cell? ⟨w4.heap.size, 7, none⟩ = some (.int .i64 0) ∧ u.cell? ⟨w4.heap.size, 8, none⟩ = some (.slice none 0 0))) := fun u hu => by
          have e1 : u.heap[w3.heap.size]? = _ := (hu.block _ (by omega)).trans G1'
          have e2 : u.heap[w4.heap.size]? = _ := (hu.block _ (by omega)).trans G2'
          exact ⟨(cell_of e1).trans rfl, (cell_of e1).trans rfl, (cell_of e1).trans rfl, (cell_of e1).trans rfl, (cell_of e1).trans rfl, (cell_of e1).trans rfl, (cell_of e1).trans rfl, (cell_of e1).trans rfl, (cell_of e1).trans rfl, (cell_of e2).trans rfl, (cell_of e2).trans rfl, (cell_of e2).trans rfl, (cell_of e2).trans rfl, (cell_of e2).trans rfl, (cell_of e2).trans rfl, (cell_of e2).trans rfl, (cell_of e2).trans rfl, (cell_of e2).trans rfl⟩
        have hb0 : Below w5.heap.size w5 w5.drew := (Below.refl _ _).drew
        have K10 : Hid (∀ u, Below w5.heap.size w5 u → Calls Tryd.prog 10 #[.iface 131 (.pointer (some (A k))), .int .i64 ((k : Int) + 1)] u fun e w' => e = .returned (.bool true) ∧ Below w5.heap.size w5 w') := fun u hu => by
          refine (coded_sent A B u k _ (HS5.out.at hu) hk12 rfl).mono ?_
          rintro e w' ⟨rfl, hb⟩
          exact ⟨rfl, hu.trans (hb.mono hu.size)⟩
        have K13 : Hid (∀ u, Below w5.heap.size w5 u → Calls Tryd.prog 13 #[.agg #[.int .i64 0, .int .i64 0, .int .i64 0, .int .i64 0, .int .i64 0, .bool false, .slice none 0 0, .int .i64 0, .slice none 0 0]] u fun e w' => e = .returned (.agg #[.int .i64 0, .int .i64 0, .int .i64 0, .int .i64 0, .int .i64 0, .bool false, .slice none 0 0, .int .i64 0, .slice none 0 0]) ∧ Below w5.heap.size w5 w') := fun u hu => by
          refine (backWire_any u 0 0 0 0 0 0 false none none 0 0 0 0).mono ?_
          rintro e w' ⟨rfl, hb⟩
          exact ⟨rfl, hu.trans (hb.mono hu.size)⟩
        have K12 : Hid (∀ u, Below w5.heap.size w5 u → Calls Tryd.prog 12 #[.agg #[.int .i64 0, .int .i64 0, .int .i64 0, .int .i64 0, .int .i64 0, .bool false, .slice none 0 0, .int .i64 0, .slice none 0 0], .agg #[.int .i64 0, .int .i64 0, .int .i64 0, .int .i64 0, .int .i64 0, .bool false, .slice none 0 0, .int .i64 0, .slice none 0 0]] u fun e w' => e = .returned (.bool true) ∧ Below w5.heap.size w5 w') := fun u hu => by
          refine (sameMessage_same u ⟨0, 0, 0, 0, 0, false, ⟨[], 0, []⟩⟩ _ _ _ _ (ints_nil u) (ops_nil u) (ints_nil u) (ops_nil u) (Nat.zero_le _) (Nat.zero_le _) (fun o ho => by simp at ho)).mono ?_
          rintro e w' ⟨rfl, hb⟩
          exact ⟨rfl, hu.trans (hb.mono hu.size)⟩
        go_upto_region 9 with (fail)
        rw [← hw5]
        have hk0 : (0 : Int) < (k : Int) + 1 := by omega
        clear hw5 G1 G1' G2' hb4 hb45 hb35 hs4 hs5 B3 HS5 KU hk12
        go_region_held (fun u => u.cell? ⟨w3.heap.size, 0, none⟩ = some (.int .i64 0) ∧ u.cell? ⟨w3.heap.size, 1, none⟩ = some (.int .i64 0) ∧ u.cell? ⟨w3.heap.size, 2, none⟩ = some (.int .i64 0) ∧ u.cell? ⟨w3.heap.size, 3, none⟩ = some (.int .i64 0) ∧ u.cell? ⟨w3.heap.size, 4, none⟩ = some (.int .i64 0) ∧ u.cell? ⟨w3.heap.size, 5, none⟩ = some (.bool false) ∧ u.cell? ⟨w3.heap.size, 6, none⟩ = some (.slice none 0 0) ∧ u.cell? ⟨w3.heap.size, 7, none⟩ = some (.int .i64 0) ∧ u.cell? ⟨w3.heap.size, 8, none⟩ = some (.slice none 0 0) ∧ u.cell? ⟨w4.heap.size, 0, none⟩ = some (.int .i64 0) ∧ u.cell? ⟨w4.heap.size, 1, none⟩ = some (.int .i64 0) ∧ u.cell? ⟨w4.heap.size, 2, none⟩ = some (.int .i64 0) ∧ u.cell? ⟨w4.heap.size, 3, none⟩ = some (.int .i64 0) ∧ u.cell? ⟨w4.heap.size, 4, none⟩ = some (.int .i64 0) ∧ u.cell? ⟨w4.heap.size, 5, none⟩ = some (.bool false) ∧ u.cell? ⟨w4.heap.size, 6, none⟩ = some (.slice none 0 0) ∧ u.cell? ⟨w4.heap.size, 7, none⟩ = some (.int .i64 0) ∧ u.cell? ⟨w4.heap.size, 8, none⟩ = some (.slice none 0 0))
          ((refine HELD.out _ ?_; assumption))
          (first
            | (go_at_call 10; refine (K10.out _ (by assumption)).mono ?_; rintro e u1 ⟨rfl, hb1⟩)
            | (go_at_call 13; refine (K13.out _ (by assumption)).mono ?_; rintro e u2 ⟨rfl, hb2⟩)
            | (go_at_call 12; refine (K12.out _ (by assumption)).mono ?_; rintro e u3 ⟨rfl, hb3⟩))
        have BF := hid (B5.out.trans (hb3.mono B5.out.size))
        clear hb3
        go_wp2
        go_ret
        exact ⟨rfl, BF.out⟩
      · have KD := hid (hO.dec B u (HS.out.at BU.out))
        have KU := hid hO.un
        have HEQ := hid hO.eq
        have HLE := hid hO.le
        obtain ⟨q1, q2, q3⟩ := msg_bounds hO.le
        have Q1 := hid q1
        have Q2 := hid q2
        have Q3 := hid q3
        clear HR hO q1 q2 q3
        refine KD.out.mono ?_
        rintro e w3 ⟨a1, c1, a2, c2, rfl, hown, hb3⟩
        have B3 := hid (BU.out.trans (hb3.mono BU.out.size))
        have W3 := hid hown.ints
        have O3 := hid hown.opsAt
        obtain ⟨x1, x2, x3, x4, x5, x6, ⟨wl, pl, os⟩⟩ := m
        simp only at KU W3 O3 HEQ HLE Q1 Q2 Q3 ⊢
        obtain ⟨n1, hn1⟩ : ∃ n1, n1 = wl.length := ⟨_, rfl⟩
        obtain ⟨n2, hn2⟩ : ∃ n2, n2 = os.length := ⟨_, rfl⟩
        rw [← hn1] at W3 KU Q1
        rw [← hn2] at O3 KU Q2
        rw [← hn1, ← hn2]
        have HN1 := hid hn1
        have HN2 := hid hn2
        clear hb3 KD hown hn1 hn2
        go_wp2_with fail
        refine (KU.out _).mono ?_
        rintro e w4 ⟨b1, d1, b2, d2, rfl, hi4, ho4, hb4⟩
        have hs4 : w3.heap.size + 1 ≤ w4.heap.size := by have := hb4.size; simp at this; omega
        have G1 : w4.heap[w3.heap.size]? = some (.cells #[.int .i64 x1, .int .i64 x2, .int .i64 x3, .int .i64 x4, .int .i64 x5, .bool x6, .slice a1 n1 c1, .int .i64 pl, .slice a2 n2 c2] 34 (0, 0)) := by
          rw [hb4.block _ (by simp)]
          exact heap_new _ _
        obtain ⟨w5, hw5⟩ : ∃ w5, w5 = w4.alloc (.cells #[.int .i64 x1, .int .i64 x2, .int .i64 x3, .int .i64 x4, .int .i64 x5, .bool x6, .slice b1 n1 d1, .int .i64 pl, .slice b2 n2 d2] 27) := ⟨_, rfl⟩
        have hs5 : w5.heap.size = w4.heap.size + 1 := by rw [hw5]; simp
        have G1' : w5.heap[w3.heap.size]? = some (.cells #[.int .i64 x1, .int .i64 x2, .int .i64 x3, .int .i64 x4, .int .i64 x5, .bool x6, .slice a1 n1 c1, .int .i64 pl, .slice a2 n2 c2] 34 (0, 0)) := by rw [hw5]; exact heap_old G1 _
        have G2' : w5.heap[w4.heap.size]? = some (.cells #[.int .i64 x1, .int .i64 x2, .int .i64 x3, .int .i64 x4, .int .i64 x5, .bool x6, .slice b1 n1 d1, .int .i64 pl, .slice b2 n2 d2] 27 (0, 0)) := by rw [hw5]; exact heap_new _ _
        have hb45 : Below w4.heap.size w4 w5 := by rw [hw5]; exact below_alloc _ _
        have hb35 : Below w3.heap.size w3 w5 := ((below_alloc w3 _).trans (hb4.mono (by simp))).trans (hb45.mono (by omega))
        have B5 := hid (B3.out.trans (hb35.mono B3.out.size))
        have HS5 := hid (HS.out.at B5.out)
        have HELD : Hid (∀ u, Below w5.heap.size w5 u → (u.cell? ⟨w3.heap.size, 0, none⟩ = some (.int .i64 x1) ∧ u.cell? ⟨w3.heap.size, 1, none⟩ = some (.int .i64 x2) ∧ u.cell? ⟨w3.heap.size, 2, none⟩ = some (.int .i64 x3) ∧ u.cell? ⟨w3.heap.size, 3, none⟩ = some (.int .i64 x4) ∧ u.cell? ⟨w3.heap.size, 4, none⟩ = some (.int .i64 x5) ∧ u.cell? ⟨w3.heap.size, 5, none⟩ = some (.bool x6) ∧ u.cell? ⟨w3.heap.size, 6, none⟩ = some (.slice a1 n1 c1) ∧ u.cell? ⟨w3.heap.size, 7, none⟩ = some (.int .i64 pl) ∧ u.cell? ⟨w3.heap.size, 8, none⟩ = some (.slice a2 n2 c2) ∧ u.cell? ⟨w4.heap.size, 0, none⟩ = some (.int .i64 x1) ∧ u.cell? ⟨w4.heap.size, 1, none⟩ = some (.int .i64 x2) ∧ u.cell? ⟨w4.heap.size, 2, none⟩ = some (.int .i64 x3) ∧ u.cell? ⟨w4.heap.size, 3, none⟩ = some (.int .i64 x4) ∧ u.cell? ⟨w4.heap.size, 4, none⟩ = some (.int .i64 x5) ∧ u.cell? ⟨w4.heap.size, 5, none⟩ = some (.bool x6) ∧ u.cell? ⟨w4.heap.size, 6, none⟩ = some (.slice b1 n1 d1) ∧ u.cell? ⟨w4.heap.size, 7, none⟩ = some (.int .i64 pl) ∧ u.cell? ⟨w4.heap.size, 8, none⟩ = some (.slice b2 n2 d2))) := fun u hu => by
          have e1 : u.heap[w3.heap.size]? = _ := (hu.block _ (by omega)).trans G1'
          have e2 : u.heap[w4.heap.size]? = _ := (hu.block _ (by omega)).trans G2'
          exact ⟨(cell_of e1).trans rfl, (cell_of e1).trans rfl, (cell_of e1).trans rfl, (cell_of e1).trans rfl, (cell_of e1).trans rfl, (cell_of e1).trans rfl, (cell_of e1).trans rfl, (cell_of e1).trans rfl, (cell_of e1).trans rfl, (cell_of e2).trans rfl, (cell_of e2).trans rfl, (cell_of e2).trans rfl, (cell_of e2).trans rfl, (cell_of e2).trans rfl, (cell_of e2).trans rfl, (cell_of e2).trans rfl, (cell_of e2).trans rfl, (cell_of e2).trans rfl⟩
        have hb0 : Below w5.heap.size w5 w5.drew := (Below.refl _ _).drew
        have W5 := hid (W3.out.mono hb35 (Nat.le_refl _))
        have O5 := hid (O3.out.mono hb35 (Nat.le_refl _))
        have V5 := hid (hi4.mono hb45 (Nat.le_refl _))
        have P5 := hid (ho4.mono hb45 (Nat.le_refl _))
        have K10 : Hid (∀ u, Below w5.heap.size w5 u → Calls Tryd.prog 10 #[.nilIface, .int .i64 0] u fun e w' => e = .returned (.bool true) ∧ Below w5.heap.size w5 w') := fun u hu => by
          refine (coded_nil u).mono ?_
          rintro e w' ⟨rfl, rfl⟩
          exact ⟨rfl, hu⟩
        have K13 : Hid (∀ u, Below w5.heap.size w5 u → Calls Tryd.prog 13 #[.agg #[.int .i64 x1, .int .i64 x2, .int .i64 x3, .int .i64 x4, .int .i64 x5, .bool x6, .slice a1 n1 c1, .int .i64 pl, .slice a2 n2 c2]] u fun e w' => e = .returned (.agg #[.int .i64 x1, .int .i64 x2, .int .i64 x3, .int .i64 x4, .int .i64 x5, .bool x6, .slice a1 n1 c1, .int .i64 pl, .slice a2 n2 c2]) ∧ Below w5.heap.size w5 w') := fun u hu => by
          refine (backWire_any u x1 x2 x3 x4 x5 pl x6 a1 a2 n1 c1 n2 c2).mono ?_
          rintro e w' ⟨rfl, hb⟩
          exact ⟨rfl, hu.trans (hb.mono hu.size)⟩
        have K12 : Hid (∀ u, Below w5.heap.size w5 u → Calls Tryd.prog 12 #[.agg #[.int .i64 x1, .int .i64 x2, .int .i64 x3, .int .i64 x4, .int .i64 x5, .bool x6, .slice a1 n1 c1, .int .i64 pl, .slice a2 n2 c2], .agg #[.int .i64 x1, .int .i64 x2, .int .i64 x3, .int .i64 x4, .int .i64 x5, .bool x6, .slice b1 n1 d1, .int .i64 pl, .slice b2 n2 d2]] u fun e w' => e = .returned (.bool true) ∧ Below w5.heap.size w5 w') := fun u hu => by
          refine (sameMessage_same u ⟨x1, x2, x3, x4, x5, x6, ⟨wl, pl, os⟩⟩ _ _ _ _ (W5.out.mono hu (Nat.le_refl _)) (O5.out.mono hu (Nat.le_refl _)) (V5.out.mono hu (Nat.le_refl _)) (P5.out.mono hu (Nat.le_refl _)) (by rw [← HN1.out]; exact Q1.out) (by rw [← HN2.out]; exact Q2.out) (fun o ho => (Q3.out o ho).1)).mono ?_
          rintro e w' ⟨rfl, hb⟩
          exact ⟨rfl, hu.trans (hb.mono hu.size)⟩
        have K7 : Hid (∀ u, Below w5.heap.size w5 u → Calls Tryd.prog 7 #[.agg #[.int .i64 x1, .int .i64 x2, .int .i64 x3, .int .i64 x4, .int .i64 x5, .bool x6, .slice a1 n1 c1, .int .i64 pl, .slice a2 n2 c2]] u fun e w' => e = .returned (.tuple #[.string ⟨L.toArray⟩, .nilIface]) ∧ Below w5.heap.size w5 w') := fun u hu => by
          have W6 := W5.out.mono hu (Nat.le_refl _)
          have O6 := O5.out.mono hu (Nat.le_refl _)
          rw [HN1.out] at W6 ⊢
          rw [HN2.out] at O6 ⊢
          refine (encode_ok u (A 6) ⟨x1, x2, x3, x4, x5, x6, ⟨wl, pl, os⟩⟩ a1 a2 c1 c2 ((HS5.out.at hu).cell 6 (by decide)) W6 O6 (by rw [← HN1.out]; exact Q1.out) (by rw [← HN2.out]; exact Q2.out) Q3.out HLE.out).mono ?_
          rintro e w' ⟨rfl, hb⟩
          exact ⟨by rw [← HEQ.out], hu.trans (hb.mono hu.size)⟩
        go_upto_region 9 with (fail)
        rw [← hw5]
        clear hw5 G1 G1' G2' hb4 hb45 hb35 hs4 hs5 B3 HS5 KU hi4 ho4 W3 O3 W5 O5 V5 P5 HEQ HLE Q1 Q2 Q3 HN1 HN2
        go_region_held (fun u => u.cell? ⟨w3.heap.size, 0, none⟩ = some (.int .i64 x1) ∧ u.cell? ⟨w3.heap.size, 1, none⟩ = some (.int .i64 x2) ∧ u.cell? ⟨w3.heap.size, 2, none⟩ = some (.int .i64 x3) ∧ u.cell? ⟨w3.heap.size, 3, none⟩ = some (.int .i64 x4) ∧ u.cell? ⟨w3.heap.size, 4, none⟩ = some (.int .i64 x5) ∧ u.cell? ⟨w3.heap.size, 5, none⟩ = some (.bool x6) ∧ u.cell? ⟨w3.heap.size, 6, none⟩ = some (.slice a1 n1 c1) ∧ u.cell? ⟨w3.heap.size, 7, none⟩ = some (.int .i64 pl) ∧ u.cell? ⟨w3.heap.size, 8, none⟩ = some (.slice a2 n2 c2) ∧ u.cell? ⟨w4.heap.size, 0, none⟩ = some (.int .i64 x1) ∧ u.cell? ⟨w4.heap.size, 1, none⟩ = some (.int .i64 x2) ∧ u.cell? ⟨w4.heap.size, 2, none⟩ = some (.int .i64 x3) ∧ u.cell? ⟨w4.heap.size, 3, none⟩ = some (.int .i64 x4) ∧ u.cell? ⟨w4.heap.size, 4, none⟩ = some (.int .i64 x5) ∧ u.cell? ⟨w4.heap.size, 5, none⟩ = some (.bool x6) ∧ u.cell? ⟨w4.heap.size, 6, none⟩ = some (.slice b1 n1 d1) ∧ u.cell? ⟨w4.heap.size, 7, none⟩ = some (.int .i64 pl) ∧ u.cell? ⟨w4.heap.size, 8, none⟩ = some (.slice b2 n2 d2))
          ((refine HELD.out _ ?_; assumption))
          (first
            | (go_at_call 10; refine (K10.out _ (by assumption)).mono ?_; rintro e u1 ⟨rfl, hb1⟩)
            | (go_at_call 13; refine (K13.out _ (by assumption)).mono ?_; rintro e u2 ⟨rfl, hb2⟩)
            | (go_at_call 12; refine (K12.out _ (by assumption)).mono ?_; rintro e u3 ⟨rfl, hb3⟩))
        have BF := hid hb3
        have HC3 := HELD.out _ hb3
        obtain ⟨t0, t1, t2, t3, t4, t5, t6, t7, t8, t9, t10, t11, t12, t13, t14, t15, t16, t17⟩ := HC3
        have K7' := hid (K7.out _ hb3)
        clear hb3 K7 K10 K12 K13 HELD
        go_wp2_with (go_at_call 7; refine K7'.out.mono ?_; rintro e u7 ⟨rfl, hb7⟩)
        go_ret
        exact ⟨rfl, B5.out.trans (hb7.mono B5.out.size)⟩
end Go.Proofs.YtkonjpcgfdcfbaaDoor
