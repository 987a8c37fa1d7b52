/- causewaylaw1.VectorAhead answers true, at any two vectors and places. -/
import Derived.Test.YtfechdagacmliaaDoorLattice
import Derived.Test.YtfechdagacmliaaDoorTwoWalk
namespace Go.Proofs.YtfechdagacmliaaDoor
open Go.RowKit
set_option maxRecDepth 100000

set_option maxHeartbeats 4000000 in
theorem ahead_long (A : Nat → Addr) (w : World) (hE : E2 A w) (v u : Value) (p q : Int) (za zb : List Int) (ha : IntsAt w v za) (hb : IntsAt w u zb) (h20 : 20 < za.length ∨ 20 < zb.length) :
    Calls Tryd.prog 6 #[v, .int .i64 p, u, .int .i64 q] w fun e w' => e = .returned (.bool true) ∧ Below w.heap.size w w' := by
  obtain ⟨a1, c1, rfl⟩ := ha.slice
  obtain ⟨a2, c2, rfl⟩ := hb.slice
  by_cases h1 : 20 < za.length
  · go_enter Tryd.func6, Tryd.ntmps6
    go_wp2_with (go_at_call 13; refine (timed_any A _ hE).mono ?_; rintro e w1 ⟨rfl, hb1⟩)
    go_ret
    exact ⟨rfl, hb1⟩
  · have h2 : 20 < zb.length := by omega
    go_enter Tryd.func6, Tryd.ntmps6
    go_wp2_with (go_at_call 13; refine (timed_any A _ hE).mono ?_; rintro e w1 ⟨rfl, hb1⟩)
    go_ret
    exact ⟨rfl, hb1⟩

set_option maxHeartbeats 16000000 in
theorem ahead_worse (A : Nat → Addr) (w : World) (hS : Sents A w.heap.size w) (v u : Value) (p q : Int) (za zb : List Int) (ha : IntsAt w v za) (hb0 : IntsAt w u zb) (h1 : za.length ≤ 20) (h2 : zb.length ≤ 20) (h0 : two za zb ≠ 0) (hk : chk za ≠ 0) :
    Calls Tryd.prog 6 #[v, .int .i64 p, u, .int .i64 q] w fun e w' => e = .returned (.bool true) ∧ Below w.heap.size w w' := by
  have hE := hS.e2
  have h3 : 3 ≤ w.heap.size := lt_of_cell hE.shape
  obtain ⟨a1, c1, rfl⟩ := ha.slice
  obtain ⟨a2, c2, rfl⟩ := hb0.slice
  have HB0 : Hid (Below w.heap.size w w) := Below.refl _ _
  have hla : za.length ≤ 1000000 := by omega
  have hlb : zb.length ≤ 1000000 := by omega
  have H0 := hid h0
  have HK := hid hk
  obtain ⟨m, hm⟩ : ∃ m, m = two za zb := ⟨_, rfl⟩
  have hm0 : 0 < m := by rw [hm]; rcases two_cases za zb with e | e | e <;> omega
  have hme : (m == 0) = false := by rw [beq_eq_false_iff_ne]; omega
  have M := hid hm
  have NT := hid (num_of_two h0)
  rw [← hm] at NT
  obtain ⟨c, hc⟩ : ∃ c, c = chk za := ⟨_, rfl⟩
  have hc0 : 0 < c := by rw [hc]; rcases chk_cases za with e | e | e <;> omega
  have C := hid hc
  have NK := hid (num_of_chk hk)
  rw [← hc] at NK
  clear hc
  clear hm h0 hk
  go_enter Tryd.func6, Tryd.ntmps6
  go_wp2_with fail
  refine (timed_any A _ hE).mono ?_
  rintro e w1 ⟨rfl, hb⟩
  have HB1 : Hid (Below w.heap.size w w1) := HB0.out.trans (hb.mono HB0.out.size)
  clear hb
  go_wp2_with fail
  refine (own_any _ _ za (ha.mono HB1.out (Nat.le_refl _)) hla).mono ?_
  rintro e w2 ⟨v2, rfl, hv, hb⟩
  have HB2 : Hid (Below w.heap.size w w2) := HB1.out.trans (hb.mono HB1.out.size)
  have L1 := hid hv
  clear hv hb
  go_wp2_with fail
  refine (Weight_bad A _ (hE.below HB2.out h3) _ za L1.out hla HK.out).mono ?_
  rintro e wx ⟨rfl, hw⟩
  rw [hw]
  rw [← C.out]
  clear hw wx
  clear L1
  go_wp2_with fail
  refine (own_any _ _ za (ha.mono HB2.out (Nat.le_refl _)) hla).mono ?_
  rintro e w3 ⟨v3, rfl, hv, hb⟩
  have HB3 : Hid (Below w.heap.size w w3) := HB2.out.trans (hb.mono HB2.out.size)
  have L2 := hid hv
  clear hv hb
  go_wp2_with fail
  refine (own_any _ _ zb (hb0.mono HB3.out (Nat.le_refl _)) hlb).mono ?_
  rintro e w4 ⟨v4, rfl, hv, hb⟩
  have L3 := hid (L2.out.mono hb (Nat.le_refl _))
  clear L2
  have HB4 : Hid (Below w.heap.size w w4) := HB3.out.trans (hb.mono HB3.out.size)
  have L4 := hid hv
  clear hv hb
  go_wp2_with fail
  refine (Ahead_bad A _ (hE.below HB4.out h3) _ _ p q za zb L3.out L4.out hla hlb H0.out).mono ?_
  rintro e wx ⟨rfl, hw⟩
  rw [hw]
  clear hw wx
  rw [← M.out]
  clear L3
  clear L4
  go_wp2_with fail
  refine (vectorError _ _ za (ha.mono HB4.out (Nat.le_refl _)) hla).mono ?_
  rintro e wx ⟨rfl, hw⟩
  rw [hw]
  clear hw wx
  rw [← C.out]
  go_wp2_with fail
  refine (vectorError _ _ za (ha.mono HB4.out (Nat.le_refl _)) hla).mono ?_
  rintro e wx ⟨rfl, hw⟩
  rw [hw]
  clear hw wx
  rw [← C.out]
  go_wp2_with fail
  refine (coded_sent A _ _ _ _ (hS.below (HB4.out.mono hS.size)) NK.out.1 NK.out.2).mono ?_
  rintro e w5 ⟨rfl, hb⟩
  have HB5 : Hid (Below w.heap.size w w5) := HB4.out.trans (hb.mono HB4.out.size)
  clear hb
  go_wp2_with fail
  refine (twoError _ _ _ za zb (ha.mono HB5.out (Nat.le_refl _)) (hb0.mono HB5.out (Nat.le_refl _)) hla hlb).mono ?_
  rintro e wx ⟨rfl, hw⟩
  rw [hw]
  clear hw wx
  rw [← M.out]
  go_wp2_with fail
  refine (coded_sent A _ _ _ _ (hS.below (HB5.out.mono hS.size)) NT.out.1 NT.out.2).mono ?_
  rintro e w6 ⟨rfl, hb⟩
  have HB6 : Hid (Below w.heap.size w w6) := HB5.out.trans (hb.mono HB5.out.size)
  clear hb
  go_wp2
  go_ret
  exact ⟨rfl, HB6.out⟩

set_option maxHeartbeats 16000000 in
theorem ahead_bad (A : Nat → Addr) (w : World) (hS : Sents A w.heap.size w) (v u : Value) (p q : Int) (za zb : List Int) (ha : IntsAt w v za) (hb0 : IntsAt w u zb) (h1 : za.length ≤ 20) (h2 : zb.length ≤ 20) (h0 : two za zb ≠ 0) (hk : chk za = 0) :
    Calls Tryd.prog 6 #[v, .int .i64 p, u, .int .i64 q] w fun e w' => e = .returned (.bool true) ∧ Below w.heap.size w w' := by
  have hE := hS.e2
  have h3 : 3 ≤ w.heap.size := lt_of_cell hE.shape
  obtain ⟨a1, c1, rfl⟩ := ha.slice
  obtain ⟨a2, c2, rfl⟩ := hb0.slice
  have HB0 : Hid (Below w.heap.size w w) := Below.refl _ _
  have hla : za.length ≤ 1000000 := by omega
  have hlb : zb.length ≤ 1000000 := by omega
  have H0 := hid h0
  have HK := hid hk
  obtain ⟨m, hm⟩ : ∃ m, m = two za zb := ⟨_, rfl⟩
  have hm0 : 0 < m := by rw [hm]; rcases two_cases za zb with e | e | e <;> omega
  have hme : (m == 0) = false := by rw [beq_eq_false_iff_ne]; omega
  have M := hid hm
  have NT := hid (num_of_two h0)
  rw [← hm] at NT
  clear hm h0 hk
  go_enter Tryd.func6, Tryd.ntmps6
  go_wp2_with fail
  refine (timed_any A _ hE).mono ?_
  rintro e w1 ⟨rfl, hb⟩
  have HB1 : Hid (Below w.heap.size w w1) := HB0.out.trans (hb.mono HB0.out.size)
  clear hb
  go_wp2_with fail
  refine (own_any _ _ za (ha.mono HB1.out (Nat.le_refl _)) hla).mono ?_
  rintro e w2 ⟨v2, rfl, hv, hb⟩
  have HB2 : Hid (Below w.heap.size w w2) := HB1.out.trans (hb.mono HB1.out.size)
  have L1 := hid hv
  clear hv hb
  go_wp2_with fail
  refine (Weight_ok A _ (hE.below HB2.out h3) _ za L1.out HK.out).mono ?_
  rintro e wx ⟨rfl, hw⟩
  rw [hw]
  clear hw wx
  clear L1
  go_wp2_with fail
  refine (own_any _ _ za (ha.mono HB2.out (Nat.le_refl _)) hla).mono ?_
  rintro e w3 ⟨v3, rfl, hv, hb⟩
  have HB3 : Hid (Below w.heap.size w w3) := HB2.out.trans (hb.mono HB2.out.size)
  have L2 := hid hv
  clear hv hb
  go_wp2_with fail
  refine (own_any _ _ zb (hb0.mono HB3.out (Nat.le_refl _)) hlb).mono ?_
  rintro e w4 ⟨v4, rfl, hv, hb⟩
  have L3 := hid (L2.out.mono hb (Nat.le_refl _))
  clear L2
  have HB4 : Hid (Below w.heap.size w w4) := HB3.out.trans (hb.mono HB3.out.size)
  have L4 := hid hv
  clear hv hb
  go_wp2_with fail
  refine (Ahead_bad A _ (hE.below HB4.out h3) _ _ p q za zb L3.out L4.out hla hlb H0.out).mono ?_
  rintro e wx ⟨rfl, hw⟩
  rw [hw]
  clear hw wx
  rw [← M.out]
  clear L3
  clear L4
  go_wp2_with fail
  refine (vectorError _ _ za (ha.mono HB4.out (Nat.le_refl _)) hla).mono ?_
  rintro e wx ⟨rfl, hw⟩
  rw [hw]
  clear hw wx
  rw [HK.out]
  go_wp2_with fail
  refine (refWeight_any _ _ za (ha.mono HB4.out (Nat.le_refl _)) HK.out).mono ?_
  rintro e wx ⟨rfl, hw⟩
  rw [hw]
  clear hw wx
  go_wp2_with fail
  refine (twoError _ _ _ za zb (ha.mono HB4.out (Nat.le_refl _)) (hb0.mono HB4.out (Nat.le_refl _)) hla hlb).mono ?_
  rintro e wx ⟨rfl, hw⟩
  rw [hw]
  clear hw wx
  rw [← M.out]
  go_wp2_with fail
  refine (coded_sent A _ _ _ _ (hS.below (HB4.out.mono hS.size)) NT.out.1 NT.out.2).mono ?_
  rintro e w5 ⟨rfl, hb⟩
  have HB5 : Hid (Below w.heap.size w w5) := HB4.out.trans (hb.mono HB4.out.size)
  clear hb
  go_wp2
  go_ret
  exact ⟨rfl, HB5.out⟩

set_option maxHeartbeats 16000000 in
theorem ahead_none (A : Nat → Addr) (w : World) (hS : Sents A w.heap.size w) (v u : Value) (p q : Int) (za zb : List Int) (ha : IntsAt w v za) (hb0 : IntsAt w u zb) (h1 : za.length ≤ 20) (h2 : zb.length ≤ 20) (h0 : two za zb = 0) (hp : ¬ (0 ≤ p ∧ p < za.length ∧ 0 ≤ q ∧ q < za.length)) :
    Calls Tryd.prog 6 #[v, .int .i64 p, u, .int .i64 q] w fun e w' => e = .returned (.bool true) ∧ Below w.heap.size w w' := by
  have hE := hS.e2
  have h3 : 3 ≤ w.heap.size := lt_of_cell hE.shape
  obtain ⟨a1, c1, rfl⟩ := ha.slice
  obtain ⟨a2, c2, rfl⟩ := hb0.slice
  have HB0 : Hid (Below w.heap.size w w) := Below.refl _ _
  have hla : za.length ≤ 1000000 := by omega
  have hlb : zb.length ≤ 1000000 := by omega
  have H0 := hid h0
  obtain ⟨hz, hy, hn⟩ := two_zero.1 h0
  have HK := hid hz
  have HP := hid hp
  clear h0 hz hy hn
  go_enter Tryd.func6, Tryd.ntmps6
  go_wp2_with fail
  refine (timed_any A _ hE).mono ?_
  rintro e w1 ⟨rfl, hb⟩
  have HB1 : Hid (Below w.heap.size w w1) := HB0.out.trans (hb.mono HB0.out.size)
  clear hb
  go_wp2_with fail
  refine (own_any _ _ za (ha.mono HB1.out (Nat.le_refl _)) hla).mono ?_
  rintro e w2 ⟨v2, rfl, hv, hb⟩
  have HB2 : Hid (Below w.heap.size w w2) := HB1.out.trans (hb.mono HB1.out.size)
  have L1 := hid hv
  clear hv hb
  go_wp2_with fail
  refine (Weight_ok A _ (hE.below HB2.out h3) _ za L1.out HK.out).mono ?_
  rintro e wx ⟨rfl, hw⟩
  rw [hw]
  clear hw wx
  clear L1
  go_wp2_with fail
  refine (own_any _ _ za (ha.mono HB2.out (Nat.le_refl _)) hla).mono ?_
  rintro e w3 ⟨v3, rfl, hv, hb⟩
  have HB3 : Hid (Below w.heap.size w w3) := HB2.out.trans (hb.mono HB2.out.size)
  have L2 := hid hv
  clear hv hb
  go_wp2_with fail
  refine (own_any _ _ zb (hb0.mono HB3.out (Nat.le_refl _)) hlb).mono ?_
  rintro e w4 ⟨v4, rfl, hv, hb⟩
  have L3 := hid (L2.out.mono hb (Nat.le_refl _))
  clear L2
  have HB4 : Hid (Below w.heap.size w w4) := HB3.out.trans (hb.mono HB3.out.size)
  have L4 := hid hv
  clear hv hb
  go_wp2_with fail
  refine (Ahead_none A _ (hE.below HB4.out h3) _ _ p q za zb L3.out L4.out H0.out HP.out).mono ?_
  rintro e w5 ⟨rfl, dq, hq⟩
  have hb : Below w4.heap.size w4 w5 := by rw [hq]; exact below_draws (Below.refl _ _) dq
  clear hq
  have L5 := hid (L3.out.mono hb (Nat.le_refl _))
  clear L3
  have L6 := hid (L4.out.mono hb (Nat.le_refl _))
  clear L4
  have HB5 : Hid (Below w.heap.size w w5) := HB4.out.trans (hb.mono HB4.out.size)
  clear hb
  clear L5
  clear L6
  go_wp2_with fail
  refine (vectorError _ _ za (ha.mono HB5.out (Nat.le_refl _)) hla).mono ?_
  rintro e wx ⟨rfl, hw⟩
  rw [hw]
  clear hw wx
  rw [HK.out]
  go_wp2_with fail
  refine (refWeight_any _ _ za (ha.mono HB5.out (Nat.le_refl _)) HK.out).mono ?_
  rintro e wx ⟨rfl, hw⟩
  rw [hw]
  clear hw wx
  go_wp2_with fail
  refine (twoError _ _ _ za zb (ha.mono HB5.out (Nat.le_refl _)) (hb0.mono HB5.out (Nat.le_refl _)) hla hlb).mono ?_
  rintro e wx ⟨rfl, hw⟩
  rw [hw]
  clear hw wx
  rw [H0.out]
  by_cases q1 : p < 0
  · have d1 : decide (p < 0) = true := decide_eq_true q1
    go_wp2_with fail
    refine (coded_sent A _ _ 1 _ (hS.below (HB5.out.mono hS.size)) (by decide) (by decide)).mono ?_
    rintro e w6 ⟨rfl, hb⟩
    have HB6 : Hid (Below w.heap.size w w6) := HB5.out.trans (hb.mono HB5.out.size)
    clear hb
    go_wp2
    go_ret
    exact ⟨rfl, HB6.out⟩
  by_cases q2 : (za.length : Int) ≤ p
  · have d1 : decide (p < 0) = false := decide_eq_false q1
    have d2 : decide ((za.length : Int) ≤ p) = true := decide_eq_true q2
    go_wp2_with fail
    refine (coded_sent A _ _ 1 _ (hS.below (HB5.out.mono hS.size)) (by decide) (by decide)).mono ?_
    rintro e w6 ⟨rfl, hb⟩
    have HB6 : Hid (Below w.heap.size w w6) := HB5.out.trans (hb.mono HB5.out.size)
    clear hb
    go_wp2
    go_ret
    exact ⟨rfl, HB6.out⟩
  by_cases q3 : q < 0
  · have d1 : decide (p < 0) = false := decide_eq_false q1
    have d2 : decide ((za.length : Int) ≤ p) = false := decide_eq_false q2
    have d3 : decide (q < 0) = true := decide_eq_true q3
    go_wp2_with fail
    refine (coded_sent A _ _ 1 _ (hS.below (HB5.out.mono hS.size)) (by decide) (by decide)).mono ?_
    rintro e w6 ⟨rfl, hb⟩
    have HB6 : Hid (Below w.heap.size w w6) := HB5.out.trans (hb.mono HB5.out.size)
    clear hb
    go_wp2
    go_ret
    exact ⟨rfl, HB6.out⟩
  · have d1 : decide (p < 0) = false := decide_eq_false q1
    have d2 : decide ((za.length : Int) ≤ p) = false := decide_eq_false q2
    have d3 : decide (q < 0) = false := decide_eq_false q3
    have q4 : (za.length : Int) ≤ q := by have := HP.out; omega
    have d4 : decide ((za.length : Int) ≤ q) = true := decide_eq_true q4
    go_wp2_with fail
    refine (coded_sent A _ _ 1 _ (hS.below (HB5.out.mono hS.size)) (by decide) (by decide)).mono ?_
    rintro e w6 ⟨rfl, hb⟩
    have HB6 : Hid (Below w.heap.size w w6) := HB5.out.trans (hb.mono HB5.out.size)
    clear hb
    go_wp2
    go_ret
    exact ⟨rfl, HB6.out⟩


end Go.Proofs.YtfechdagacmliaaDoor
