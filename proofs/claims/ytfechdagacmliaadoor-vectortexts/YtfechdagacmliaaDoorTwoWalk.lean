/- causewaylaw1.VectorTwo answers true, at any two vectors. -/
import Derived.Test.YtfechdagacmliaaDoorLattice
import Derived.Test.YtfechdagacmliaaDoorLe
import Derived.Test.YtfechdagacmliaaDoorTimed
import Derived.Test.YtfechdagacmliaaDoorCode
namespace Go.Proofs.YtfechdagacmliaaDoor
open Go.RowKit
set_option maxRecDepth 100000

set_option maxHeartbeats 4000000 in
theorem two_long (A : Nat → Addr) (w : World) (hE : E2 A w) (v u : Value) (za zb : List Int) (ha : IntsAt w v za) (hb : IntsAt w u zb) (h20 : 20 < za.length ∨ 20 < zb.length) :
    Calls Tryd.prog 4 #[v, u] w fun e w' => e = .returned (.bool true) ∧ Below w.heap.size w w' := by
  obtain ⟨a1, c1, rfl⟩ := ha.slice
  obtain ⟨a2, c2, rfl⟩ := hb.slice
  by_cases h1 : 20 < za.length
  · go_enter Tryd.func4, Tryd.ntmps4
    go_wp2_with (go_at_call 13; refine (timed_any A _ hE).mono ?_; rintro e w1 ⟨rfl, hb1⟩)
    go_ret
    exact ⟨rfl, hb1⟩
  · have h2 : 20 < zb.length := by omega
    go_enter Tryd.func4, Tryd.ntmps4
    go_wp2_with (go_at_call 13; refine (timed_any A _ hE).mono ?_; rintro e w1 ⟨rfl, hb1⟩)
    go_ret
    exact ⟨rfl, hb1⟩

/-- An error's number, as the codes have it. -/
theorem num_of_chk {zs : List Int} (h : chk zs ≠ 0) : (chk zs).toNat - 1 < 12 ∧ chk zs = (((chk zs).toNat - 1 : Nat) : Int) + 1 := by
  rcases chk_cases zs with e | e | e
  · exact absurd e h
  · rw [e]; decide
  · rw [e]; decide
theorem num_of_two {zs ys : List Int} (h : two zs ys ≠ 0) : (two zs ys).toNat - 1 < 12 ∧ two zs ys = (((two zs ys).toNat - 1 : Nat) : Int) + 1 := by
  rcases two_cases zs ys with e | e | e
  · exact absurd e h
  · rw [e]; decide
  · rw [e]; decide

set_option maxHeartbeats 16000000 in
theorem two_bad (A : Nat → Addr) (w : World) (hS : Sents A w.heap.size w) (v u : Value) (za zb : List Int) (ha : IntsAt w v za) (hb0 : IntsAt w u zb) (h1 : za.length ≤ 20) (h2 : zb.length ≤ 20) (h0 : two za zb ≠ 0) (hk : chk za = 0) :
    Calls Tryd.prog 4 #[v, u] w fun e w' => e = .returned (.bool true) ∧ Below w.heap.size w w' := by
  have hE := hS.e2
  have h3 : 3 ≤ w.heap.size := lt_of_cell hE.shape
  obtain ⟨a1, c1, rfl⟩ := ha.slice
  obtain ⟨a2, c2, rfl⟩ := hb0.slice
  have HB0 : Hid (Below w.heap.size w w) := Below.refl _ _
  have hla : za.length ≤ 1000000 := by omega
  have hlb : zb.length ≤ 1000000 := by omega
  have H0 := hid h0
  have HK := hid hk
  obtain ⟨m, hm⟩ : ∃ m, m = two za zb := ⟨_, rfl⟩
  have hm0 : 0 < m := by rw [hm]; rcases two_cases za zb with e | e | e <;> omega
  have M := hid hm
  have NT := hid (num_of_two h0)
  rw [← hm] at NT
  clear hm
  clear h0 hk
  go_enter Tryd.func4, Tryd.ntmps4
  go_wp2_with fail
  refine (timed_any A _ hE).mono ?_
  rintro e w1 ⟨rfl, hb⟩
  have HB1 : Hid (Below w.heap.size w w1) := HB0.out.trans (hb.mono HB0.out.size)
  clear hb
  go_wp2_with fail
  refine (own_any _ _ za (ha.mono HB1.out (Nat.le_refl _)) hla).mono ?_
  rintro e w2 ⟨v2, rfl, hv, hb⟩
  have HB2 : Hid (Below w.heap.size w w2) := HB1.out.trans (hb.mono HB1.out.size)
  have L1 := hid hv
  clear hv hb
  go_wp2_with fail
  refine (own_any _ _ zb (hb0.mono HB2.out (Nat.le_refl _)) hlb).mono ?_
  rintro e w3 ⟨v3, rfl, hv, hb⟩
  have L2 := hid (L1.out.mono hb (Nat.le_refl _))
  clear L1
  have HB3 : Hid (Below w.heap.size w w3) := HB2.out.trans (hb.mono HB2.out.size)
  have L3 := hid hv
  clear hv hb
  go_wp2_with fail
  refine (Least_bad A _ (hE.below HB3.out h3) _ _ za zb L2.out L3.out hla hlb H0.out).mono ?_
  rintro e wx ⟨rfl, hw⟩
  rw [hw]
  rw [← M.out]
  clear hw wx
  clear L2
  clear L3
  go_wp2_with fail
  refine (own_any _ _ za (ha.mono HB3.out (Nat.le_refl _)) hla).mono ?_
  rintro e w4 ⟨v4, rfl, hv, hb⟩
  have HB4 : Hid (Below w.heap.size w w4) := HB3.out.trans (hb.mono HB3.out.size)
  have L4 := hid hv
  clear hv hb
  go_wp2_with fail
  refine (own_any _ _ zb (hb0.mono HB4.out (Nat.le_refl _)) hlb).mono ?_
  rintro e w5 ⟨v5, rfl, hv, hb⟩
  have L5 := hid (L4.out.mono hb (Nat.le_refl _))
  clear L4
  have HB5 : Hid (Below w.heap.size w w5) := HB4.out.trans (hb.mono HB4.out.size)
  have L6 := hid hv
  clear hv hb
  go_wp2_with fail
  refine (Most_bad A _ (hE.below HB5.out h3) _ _ za zb L5.out L6.out hla hlb H0.out).mono ?_
  rintro e wx ⟨rfl, hw⟩
  rw [hw]
  rw [← M.out]
  clear hw wx
  clear L5
  clear L6
  go_wp2_with fail
  refine (own_any _ _ za (ha.mono HB5.out (Nat.le_refl _)) hla).mono ?_
  rintro e w6 ⟨v6, rfl, hv, hb⟩
  have HB6 : Hid (Below w.heap.size w w6) := HB5.out.trans (hb.mono HB5.out.size)
  have L7 := hid hv
  clear hv hb
  go_wp2_with fail
  refine (own_any _ _ zb (hb0.mono HB6.out (Nat.le_refl _)) hlb).mono ?_
  rintro e w7 ⟨v7, rfl, hv, hb⟩
  have L8 := hid (L7.out.mono hb (Nat.le_refl _))
  clear L7
  have HB7 : Hid (Below w.heap.size w w7) := HB6.out.trans (hb.mono HB6.out.size)
  have L9 := hid hv
  clear hv hb
  go_wp2_with fail
  refine (Within_bad A _ (hE.below HB7.out h3) _ _ za zb L8.out L9.out hla hlb H0.out).mono ?_
  rintro e wx ⟨rfl, hw⟩
  rw [hw]
  rw [← M.out]
  clear hw wx
  clear L8
  clear L9
  go_wp2_with fail
  refine (own_any _ _ za (ha.mono HB7.out (Nat.le_refl _)) hla).mono ?_
  rintro e w8 ⟨v8, rfl, hv, hb⟩
  have HB8 : Hid (Below w.heap.size w w8) := HB7.out.trans (hb.mono HB7.out.size)
  have L10 := hid hv
  clear hv hb
  go_wp2_with fail
  refine (own_any _ _ zb (hb0.mono HB8.out (Nat.le_refl _)) hlb).mono ?_
  rintro e w9 ⟨v9, rfl, hv, hb⟩
  have L11 := hid (L10.out.mono hb (Nat.le_refl _))
  clear L10
  have HB9 : Hid (Below w.heap.size w w9) := HB8.out.trans (hb.mono HB8.out.size)
  have L12 := hid hv
  clear hv hb
  go_wp2_with fail
  refine (Order_bad A _ (hE.below HB9.out h3) _ _ za zb L11.out L12.out hla hlb H0.out).mono ?_
  rintro e wx ⟨rfl, hw⟩
  rw [hw]
  rw [← M.out]
  clear hw wx
  clear L11
  clear L12
  go_wp2_with fail
  refine (twoError _ _ _ za zb (ha.mono HB9.out (Nat.le_refl _)) (hb0.mono HB9.out (Nat.le_refl _)) hla hlb).mono ?_
  rintro e wx ⟨rfl, hw⟩
  rw [hw]
  clear hw wx
  rw [← M.out]
  go_wp2_with fail
  refine (own_any _ _ za (ha.mono HB9.out (Nat.le_refl _)) hla).mono ?_
  rintro e w10 ⟨v10, rfl, hv, hb⟩
  have HB10 : Hid (Below w.heap.size w w10) := HB9.out.trans (hb.mono HB9.out.size)
  have L13 := hid hv
  clear hv hb
  go_wp2_with fail
  refine (check_ok A _ (hE.below HB10.out h3) _ za L13.out HK.out).mono ?_
  rintro e wx ⟨rfl, hw⟩
  rw [hw]
  clear hw wx
  clear L13
  go_wp2_with fail
  refine (vectorError _ _ za (ha.mono HB10.out (Nat.le_refl _)) hla).mono ?_
  rintro e wx ⟨rfl, hw⟩
  rw [hw]
  clear hw wx
  rw [HK.out]
  go_wp2_with fail
  refine (coded_nil _).mono ?_
  rintro e wx ⟨rfl, hw⟩
  rw [hw]
  clear hw wx
  go_wp2_with fail
  refine (coded_sent A _ _ _ _ (hS.below (HB10.out.mono hS.size)) NT.out.1 NT.out.2).mono ?_
  rintro e w11 ⟨rfl, hb⟩
  have HB11 : Hid (Below w.heap.size w w11) := HB10.out.trans (hb.mono HB10.out.size)
  clear hb
  go_wp2_with fail
  refine (coded_sent A _ _ _ _ (hS.below (HB11.out.mono hS.size)) NT.out.1 NT.out.2).mono ?_
  rintro e w12 ⟨rfl, hb⟩
  have HB12 : Hid (Below w.heap.size w w12) := HB11.out.trans (hb.mono HB11.out.size)
  clear hb
  go_wp2_with fail
  refine (coded_sent A _ _ _ _ (hS.below (HB12.out.mono hS.size)) NT.out.1 NT.out.2).mono ?_
  rintro e w13 ⟨rfl, hb⟩
  have HB13 : Hid (Below w.heap.size w w13) := HB12.out.trans (hb.mono HB12.out.size)
  clear hb
  go_wp2_with fail
  refine (coded_sent A _ _ _ _ (hS.below (HB13.out.mono hS.size)) NT.out.1 NT.out.2).mono ?_
  rintro e w14 ⟨rfl, hb⟩
  have HB14 : Hid (Below w.heap.size w w14) := HB13.out.trans (hb.mono HB13.out.size)
  clear hb
  go_wp2
  go_ret
  exact ⟨rfl, HB14.out⟩

set_option maxHeartbeats 16000000 in
theorem two_worse (A : Nat → Addr) (w : World) (hS : Sents A w.heap.size w) (v u : Value) (za zb : List Int) (ha : IntsAt w v za) (hb0 : IntsAt w u zb) (h1 : za.length ≤ 20) (h2 : zb.length ≤ 20) (h0 : two za zb ≠ 0) (hk : chk za ≠ 0) :
    Calls Tryd.prog 4 #[v, u] w fun e w' => e = .returned (.bool true) ∧ Below w.heap.size w w' := by
  have hE := hS.e2
  have h3 : 3 ≤ w.heap.size := lt_of_cell hE.shape
  obtain ⟨a1, c1, rfl⟩ := ha.slice
  obtain ⟨a2, c2, rfl⟩ := hb0.slice
  have HB0 : Hid (Below w.heap.size w w) := Below.refl _ _
  have hla : za.length ≤ 1000000 := by omega
  have hlb : zb.length ≤ 1000000 := by omega
  have H0 := hid h0
  have HK := hid hk
  obtain ⟨m, hm⟩ : ∃ m, m = two za zb := ⟨_, rfl⟩
  have hm0 : 0 < m := by rw [hm]; rcases two_cases za zb with e | e | e <;> omega
  have M := hid hm
  have NT := hid (num_of_two h0)
  rw [← hm] at NT
  have NK := hid (num_of_chk hk)
  clear hm
  clear h0 hk
  go_enter Tryd.func4, Tryd.ntmps4
  go_wp2_with fail
  refine (timed_any A _ hE).mono ?_
  rintro e w1 ⟨rfl, hb⟩
  have HB1 : Hid (Below w.heap.size w w1) := HB0.out.trans (hb.mono HB0.out.size)
  clear hb
  go_wp2_with fail
  refine (own_any _ _ za (ha.mono HB1.out (Nat.le_refl _)) hla).mono ?_
  rintro e w2 ⟨v2, rfl, hv, hb⟩
  have HB2 : Hid (Below w.heap.size w w2) := HB1.out.trans (hb.mono HB1.out.size)
  have L1 := hid hv
  clear hv hb
  go_wp2_with fail
  refine (own_any _ _ zb (hb0.mono HB2.out (Nat.le_refl _)) hlb).mono ?_
  rintro e w3 ⟨v3, rfl, hv, hb⟩
  have L2 := hid (L1.out.mono hb (Nat.le_refl _))
  clear L1
  have HB3 : Hid (Below w.heap.size w w3) := HB2.out.trans (hb.mono HB2.out.size)
  have L3 := hid hv
  clear hv hb
  go_wp2_with fail
  refine (Least_bad A _ (hE.below HB3.out h3) _ _ za zb L2.out L3.out hla hlb H0.out).mono ?_
  rintro e wx ⟨rfl, hw⟩
  rw [hw]
  rw [← M.out]
  clear hw wx
  clear L2
  clear L3
  go_wp2_with fail
  refine (own_any _ _ za (ha.mono HB3.out (Nat.le_refl _)) hla).mono ?_
  rintro e w4 ⟨v4, rfl, hv, hb⟩
  have HB4 : Hid (Below w.heap.size w w4) := HB3.out.trans (hb.mono HB3.out.size)
  have L4 := hid hv
  clear hv hb
  go_wp2_with fail
  refine (own_any _ _ zb (hb0.mono HB4.out (Nat.le_refl _)) hlb).mono ?_
  rintro e w5 ⟨v5, rfl, hv, hb⟩
  have L5 := hid (L4.out.mono hb (Nat.le_refl _))
  clear L4
  have HB5 : Hid (Below w.heap.size w w5) := HB4.out.trans (hb.mono HB4.out.size)
  have L6 := hid hv
  clear hv hb
  go_wp2_with fail
  refine (Most_bad A _ (hE.below HB5.out h3) _ _ za zb L5.out L6.out hla hlb H0.out).mono ?_
  rintro e wx ⟨rfl, hw⟩
  rw [hw]
  rw [← M.out]
  clear hw wx
  clear L5
  clear L6
  go_wp2_with fail
  refine (own_any _ _ za (ha.mono HB5.out (Nat.le_refl _)) hla).mono ?_
  rintro e w6 ⟨v6, rfl, hv, hb⟩
  have HB6 : Hid (Below w.heap.size w w6) := HB5.out.trans (hb.mono HB5.out.size)
  have L7 := hid hv
  clear hv hb
  go_wp2_with fail
  refine (own_any _ _ zb (hb0.mono HB6.out (Nat.le_refl _)) hlb).mono ?_
  rintro e w7 ⟨v7, rfl, hv, hb⟩
  have L8 := hid (L7.out.mono hb (Nat.le_refl _))
  clear L7
  have HB7 : Hid (Below w.heap.size w w7) := HB6.out.trans (hb.mono HB6.out.size)
  have L9 := hid hv
  clear hv hb
  go_wp2_with fail
  refine (Within_bad A _ (hE.below HB7.out h3) _ _ za zb L8.out L9.out hla hlb H0.out).mono ?_
  rintro e wx ⟨rfl, hw⟩
  rw [hw]
  rw [← M.out]
  clear hw wx
  clear L8
  clear L9
  go_wp2_with fail
  refine (own_any _ _ za (ha.mono HB7.out (Nat.le_refl _)) hla).mono ?_
  rintro e w8 ⟨v8, rfl, hv, hb⟩
  have HB8 : Hid (Below w.heap.size w w8) := HB7.out.trans (hb.mono HB7.out.size)
  have L10 := hid hv
  clear hv hb
  go_wp2_with fail
  refine (own_any _ _ zb (hb0.mono HB8.out (Nat.le_refl _)) hlb).mono ?_
  rintro e w9 ⟨v9, rfl, hv, hb⟩
  have L11 := hid (L10.out.mono hb (Nat.le_refl _))
  clear L10
  have HB9 : Hid (Below w.heap.size w w9) := HB8.out.trans (hb.mono HB8.out.size)
  have L12 := hid hv
  clear hv hb
  go_wp2_with fail
  refine (Order_bad A _ (hE.below HB9.out h3) _ _ za zb L11.out L12.out hla hlb H0.out).mono ?_
  rintro e wx ⟨rfl, hw⟩
  rw [hw]
  rw [← M.out]
  clear hw wx
  clear L11
  clear L12
  go_wp2_with fail
  refine (twoError _ _ _ za zb (ha.mono HB9.out (Nat.le_refl _)) (hb0.mono HB9.out (Nat.le_refl _)) hla hlb).mono ?_
  rintro e wx ⟨rfl, hw⟩
  rw [hw]
  clear hw wx
  rw [← M.out]
  go_wp2_with fail
  refine (own_any _ _ za (ha.mono HB9.out (Nat.le_refl _)) hla).mono ?_
  rintro e w10 ⟨v10, rfl, hv, hb⟩
  have HB10 : Hid (Below w.heap.size w w10) := HB9.out.trans (hb.mono HB9.out.size)
  have L13 := hid hv
  clear hv hb
  go_wp2_with fail
  refine (check_bad A _ (hE.below HB10.out h3) _ za L13.out hla HK.out).mono ?_
  rintro e wx ⟨rfl, hw⟩
  rw [hw]
  clear hw wx
  clear L13
  go_wp2_with fail
  refine (vectorError _ _ za (ha.mono HB10.out (Nat.le_refl _)) hla).mono ?_
  rintro e wx ⟨rfl, hw⟩
  rw [hw]
  clear hw wx
  go_wp2_with fail
  refine (coded_sent A _ _ _ _ (hS.below (HB10.out.mono hS.size)) NK.out.1 NK.out.2).mono ?_
  rintro e w11 ⟨rfl, hb⟩
  have HB11 : Hid (Below w.heap.size w w11) := HB10.out.trans (hb.mono HB10.out.size)
  clear hb
  go_wp2_with fail
  refine (coded_sent A _ _ _ _ (hS.below (HB11.out.mono hS.size)) NT.out.1 NT.out.2).mono ?_
  rintro e w12 ⟨rfl, hb⟩
  have HB12 : Hid (Below w.heap.size w w12) := HB11.out.trans (hb.mono HB11.out.size)
  clear hb
  go_wp2_with fail
  refine (coded_sent A _ _ _ _ (hS.below (HB12.out.mono hS.size)) NT.out.1 NT.out.2).mono ?_
  rintro e w13 ⟨rfl, hb⟩
  have HB13 : Hid (Below w.heap.size w w13) := HB12.out.trans (hb.mono HB12.out.size)
  clear hb
  go_wp2_with fail
  refine (coded_sent A _ _ _ _ (hS.below (HB13.out.mono hS.size)) NT.out.1 NT.out.2).mono ?_
  rintro e w14 ⟨rfl, hb⟩
  have HB14 : Hid (Below w.heap.size w w14) := HB13.out.trans (hb.mono HB13.out.size)
  clear hb
  go_wp2_with fail
  refine (coded_sent A _ _ _ _ (hS.below (HB14.out.mono hS.size)) NT.out.1 NT.out.2).mono ?_
  rintro e w15 ⟨rfl, hb⟩
  have HB15 : Hid (Below w.heap.size w w15) := HB14.out.trans (hb.mono HB14.out.size)
  clear hb
  go_wp2
  go_ret
  exact ⟨rfl, HB15.out⟩

set_option maxHeartbeats 16000000 in
theorem two_ok (A : Nat → Addr) (w : World) (hS : Sents A w.heap.size w) (v u : Value) (za zb : List Int) (ha : IntsAt w v za) (hb0 : IntsAt w u zb) (h1 : za.length ≤ 20) (h2 : zb.length ≤ 20) (h0 : two za zb = 0) (hk : chk za = 0) :
    Calls Tryd.prog 4 #[v, u] w fun e w' => e = .returned (.bool true) ∧ Below w.heap.size w w' := by
  have hE := hS.e2
  have h3 : 3 ≤ w.heap.size := lt_of_cell hE.shape
  obtain ⟨a1, c1, rfl⟩ := ha.slice
  obtain ⟨a2, c2, rfl⟩ := hb0.slice
  have HB0 : Hid (Below w.heap.size w w) := Below.refl _ _
  have hla : za.length ≤ 1000000 := by omega
  have hlb : zb.length ≤ 1000000 := by omega
  have H0 := hid h0
  have HK := hid hk
  obtain ⟨hz, hy, hn⟩ := two_zero.1 h0
  have hz1 := chk_zero.1 hz
  have HZ1 := hid hz1
  have HN := hid hn
  obtain ⟨m, hm⟩ : ∃ m, m = two za zb := ⟨_, rfl⟩
  have M := hid hm
  have hm0 : m = 0 := hm.trans h0
  have M0 := hid hm0
  have hlm : (comb mnI za zb).length ≤ 1000000 := by rw [comb_length]; exact hla
  have hlx : (comb mxI za zb).length ≤ 1000000 := by rw [comb_length]; exact hla
  clear hz hy hn hz1 hm hm0
  clear h0 hk
  go_enter Tryd.func4, Tryd.ntmps4
  go_wp2_with fail
  refine (timed_any A _ hE).mono ?_
  rintro e w1 ⟨rfl, hb⟩
  have HB1 : Hid (Below w.heap.size w w1) := HB0.out.trans (hb.mono HB0.out.size)
  clear hb
  go_wp2_with fail
  refine (own_any _ _ za (ha.mono HB1.out (Nat.le_refl _)) hla).mono ?_
  rintro e w2 ⟨v2, rfl, hv, hb⟩
  have HB2 : Hid (Below w.heap.size w w2) := HB1.out.trans (hb.mono HB1.out.size)
  have L1 := hid hv
  clear hv hb
  go_wp2_with fail
  refine (own_any _ _ zb (hb0.mono HB2.out (Nat.le_refl _)) hlb).mono ?_
  rintro e w3 ⟨v3, rfl, hv, hb⟩
  have L2 := hid (L1.out.mono hb (Nat.le_refl _))
  clear L1
  have HB3 : Hid (Below w.heap.size w w3) := HB2.out.trans (hb.mono HB2.out.size)
  have L3 := hid hv
  clear hv hb
  go_wp2_with fail
  refine (Least_ok A _ (hE.below HB3.out h3) _ _ za zb L2.out L3.out H0.out).mono ?_
  rintro e w4 ⟨r4, rfl, hv, hb⟩
  have L4 := hid (L2.out.mono hb (Nat.le_refl _))
  clear L2
  have L5 := hid (L3.out.mono hb (Nat.le_refl _))
  clear L3
  have HB4 : Hid (Below w.heap.size w w4) := HB3.out.trans (hb.mono HB3.out.size)
  have L6 := hid hv
  clear hv hb
  clear L4
  clear L5
  go_wp2_with fail
  refine (own_any _ _ za (ha.mono HB4.out (Nat.le_refl _)) hla).mono ?_
  rintro e w5 ⟨v5, rfl, hv, hb⟩
  have L7 := hid (L6.out.mono hb (Nat.le_refl _))
  clear L6
  have HB5 : Hid (Below w.heap.size w w5) := HB4.out.trans (hb.mono HB4.out.size)
  have L8 := hid hv
  clear hv hb
  go_wp2_with fail
  refine (own_any _ _ zb (hb0.mono HB5.out (Nat.le_refl _)) hlb).mono ?_
  rintro e w6 ⟨v6, rfl, hv, hb⟩
  have L9 := hid (L7.out.mono hb (Nat.le_refl _))
  clear L7
  have L10 := hid (L8.out.mono hb (Nat.le_refl _))
  clear L8
  have HB6 : Hid (Below w.heap.size w w6) := HB5.out.trans (hb.mono HB5.out.size)
  have L11 := hid hv
  clear hv hb
  go_wp2_with fail
  refine (Most_ok A _ (hE.below HB6.out h3) _ _ za zb L10.out L11.out H0.out).mono ?_
  rintro e w7 ⟨r7, rfl, hv, hb⟩
  have L12 := hid (L9.out.mono hb (Nat.le_refl _))
  clear L9
  have L13 := hid (L10.out.mono hb (Nat.le_refl _))
  clear L10
  have L14 := hid (L11.out.mono hb (Nat.le_refl _))
  clear L11
  have HB7 : Hid (Below w.heap.size w w7) := HB6.out.trans (hb.mono HB6.out.size)
  have L15 := hid hv
  clear hv hb
  clear L13
  clear L14
  go_wp2_with fail
  refine (own_any _ _ za (ha.mono HB7.out (Nat.le_refl _)) hla).mono ?_
  rintro e w8 ⟨v8, rfl, hv, hb⟩
  have L16 := hid (L12.out.mono hb (Nat.le_refl _))
  clear L12
  have L17 := hid (L15.out.mono hb (Nat.le_refl _))
  clear L15
  have HB8 : Hid (Below w.heap.size w w8) := HB7.out.trans (hb.mono HB7.out.size)
  have L18 := hid hv
  clear hv hb
  go_wp2_with fail
  refine (own_any _ _ zb (hb0.mono HB8.out (Nat.le_refl _)) hlb).mono ?_
  rintro e w9 ⟨v9, rfl, hv, hb⟩
  have L19 := hid (L16.out.mono hb (Nat.le_refl _))
  clear L16
  have L20 := hid (L17.out.mono hb (Nat.le_refl _))
  clear L17
  have L21 := hid (L18.out.mono hb (Nat.le_refl _))
  clear L18
  have HB9 : Hid (Below w.heap.size w w9) := HB8.out.trans (hb.mono HB8.out.size)
  have L22 := hid hv
  clear hv hb
  go_wp2_with fail
  refine (Within_ok A _ (hE.below HB9.out h3) _ _ za zb L21.out L22.out H0.out).mono ?_
  rintro e w10 ⟨rfl, q, hq⟩
  have hb : Below w9.heap.size w9 w10 := by rw [hq]; exact below_draws (Below.refl _ _) q
  clear hq
  have L23 := hid (L19.out.mono hb (Nat.le_refl _))
  clear L19
  have L24 := hid (L20.out.mono hb (Nat.le_refl _))
  clear L20
  have L25 := hid (L21.out.mono hb (Nat.le_refl _))
  clear L21
  have L26 := hid (L22.out.mono hb (Nat.le_refl _))
  clear L22
  have HB10 : Hid (Below w.heap.size w w10) := HB9.out.trans (hb.mono HB9.out.size)
  clear hb
  clear L25
  clear L26
  go_wp2_with fail
  refine (own_any _ _ za (ha.mono HB10.out (Nat.le_refl _)) hla).mono ?_
  rintro e w11 ⟨v11, rfl, hv, hb⟩
  have L27 := hid (L23.out.mono hb (Nat.le_refl _))
  clear L23
  have L28 := hid (L24.out.mono hb (Nat.le_refl _))
  clear L24
  have HB11 : Hid (Below w.heap.size w w11) := HB10.out.trans (hb.mono HB10.out.size)
  have L29 := hid hv
  clear hv hb
  go_wp2_with fail
  refine (own_any _ _ zb (hb0.mono HB11.out (Nat.le_refl _)) hlb).mono ?_
  rintro e w12 ⟨v12, rfl, hv, hb⟩
  have L30 := hid (L27.out.mono hb (Nat.le_refl _))
  clear L27
  have L31 := hid (L28.out.mono hb (Nat.le_refl _))
  clear L28
  have L32 := hid (L29.out.mono hb (Nat.le_refl _))
  clear L29
  have HB12 : Hid (Below w.heap.size w w12) := HB11.out.trans (hb.mono HB11.out.size)
  have L33 := hid hv
  clear hv hb
  go_wp2_with fail
  refine (Order_ok A _ (hE.below HB12.out h3) _ _ za zb L32.out L33.out H0.out).mono ?_
  rintro e w13 ⟨rfl, q, hq⟩
  have hb : Below w12.heap.size w12 w13 := by rw [hq]; exact below_draws (Below.refl _ _) q
  clear hq
  have L34 := hid (L30.out.mono hb (Nat.le_refl _))
  clear L30
  have L35 := hid (L31.out.mono hb (Nat.le_refl _))
  clear L31
  have L36 := hid (L32.out.mono hb (Nat.le_refl _))
  clear L32
  have L37 := hid (L33.out.mono hb (Nat.le_refl _))
  clear L33
  have HB13 : Hid (Below w.heap.size w w13) := HB12.out.trans (hb.mono HB12.out.size)
  clear hb
  clear L36
  clear L37
  go_wp2_with fail
  refine (twoError _ _ _ za zb (ha.mono HB13.out (Nat.le_refl _)) (hb0.mono HB13.out (Nat.le_refl _)) hla hlb).mono ?_
  rintro e wx ⟨rfl, hw⟩
  rw [hw]
  clear hw wx
  rw [H0.out]
  go_wp2_with fail
  refine (own_any _ _ za (ha.mono HB13.out (Nat.le_refl _)) hla).mono ?_
  rintro e w14 ⟨v14, rfl, hv, hb⟩
  have L38 := hid (L34.out.mono hb (Nat.le_refl _))
  clear L34
  have L39 := hid (L35.out.mono hb (Nat.le_refl _))
  clear L35
  have HB14 : Hid (Below w.heap.size w w14) := HB13.out.trans (hb.mono HB13.out.size)
  have L40 := hid hv
  clear hv hb
  go_wp2_with fail
  refine (check_ok A _ (hE.below HB14.out h3) _ za L40.out HK.out).mono ?_
  rintro e wx ⟨rfl, hw⟩
  rw [hw]
  clear hw wx
  clear L40
  go_wp2_with fail
  refine (vectorError _ _ za (ha.mono HB14.out (Nat.le_refl _)) hla).mono ?_
  rintro e wx ⟨rfl, hw⟩
  rw [hw]
  clear hw wx
  rw [HK.out]
  go_wp2_with fail
  refine (coded_nil _).mono ?_
  rintro e wx ⟨rfl, hw⟩
  rw [hw]
  clear hw wx
  go_wp2_with fail
  refine (in_any _ _ _ za zb (ha.mono HB14.out (Nat.le_refl _)) (hb0.mono HB14.out (Nat.le_refl _)) HN.out HZ1.out.1 hla).mono ?_
  rintro e w15 ⟨rfl, q, hq⟩
  have hb : Below w14.heap.size w14 w15 := by rw [hq]; exact below_draws (Below.refl _ _) q
  clear hq
  have L41 := hid (L38.out.mono hb (Nat.le_refl _))
  clear L38
  have L42 := hid (L39.out.mono hb (Nat.le_refl _))
  clear L39
  have HB15 : Hid (Below w.heap.size w w15) := HB14.out.trans (hb.mono HB14.out.size)
  clear hb
  go_wp2_with fail
  refine (in_any _ _ _ zb za (hb0.mono HB15.out (Nat.le_refl _)) (ha.mono HB15.out (Nat.le_refl _)) HN.out.symm (by have := HN.out; have := HZ1.out.1; omega) hlb).mono ?_
  rintro e w16 ⟨rfl, q, hq⟩
  have hb : Below w15.heap.size w15 w16 := by rw [hq]; exact below_draws (Below.refl _ _) q
  clear hq
  have L43 := hid (L41.out.mono hb (Nat.le_refl _))
  clear L41
  have L44 := hid (L42.out.mono hb (Nat.le_refl _))
  clear L42
  have HB16 : Hid (Below w.heap.size w w16) := HB15.out.trans (hb.mono HB15.out.size)
  clear hb
  generalize leB za zb = p
  generalize leB zb za = q
  cases p <;> cases q
  all_goals
    go_wp2_with fail
    refine (refLeast_any _ _ _ za zb (ha.mono HB16.out (Nat.le_refl _)) (hb0.mono HB16.out (Nat.le_refl _)) H0.out).mono ?_
    rintro e w17 ⟨r17, rfl, hv, hb⟩
    have L45 := hid (L43.out.mono hb (Nat.le_refl _))
    clear L43
    have L46 := hid (L44.out.mono hb (Nat.le_refl _))
    clear L44
    have HB17 : Hid (Below w.heap.size w w17) := HB16.out.trans (hb.mono HB16.out.size)
    have L47 := hid hv
    clear hv hb
    go_wp2_with fail
    refine (sameInts _ _ _ _ _ L45.out L47.out hlm).mono ?_
    rintro e w18 ⟨rfl, q, hq⟩
    have hb : Below w17.heap.size w17 w18 := by rw [hq]; exact below_draws (Below.refl _ _) q
    clear hq
    have L48 := hid (L45.out.mono hb (Nat.le_refl _))
    clear L45
    have L49 := hid (L46.out.mono hb (Nat.le_refl _))
    clear L46
    have L50 := hid (L47.out.mono hb (Nat.le_refl _))
    clear L47
    have HB18 : Hid (Below w.heap.size w w18) := HB17.out.trans (hb.mono HB17.out.size)
    clear hb
    clear L48
    clear L50
    rw [show decide (comb mnI za zb = comb mnI za zb) = true from decide_eq_true rfl]
    go_wp2_with fail
    refine (refMost_any _ _ _ za zb (ha.mono HB18.out (Nat.le_refl _)) (hb0.mono HB18.out (Nat.le_refl _)) H0.out).mono ?_
    rintro e w19 ⟨r19, rfl, hv, hb⟩
    have L51 := hid (L49.out.mono hb (Nat.le_refl _))
    clear L49
    have HB19 : Hid (Below w.heap.size w w19) := HB18.out.trans (hb.mono HB18.out.size)
    have L52 := hid hv
    clear hv hb
    go_wp2_with fail
    refine (sameInts _ _ _ _ _ L51.out L52.out hlx).mono ?_
    rintro e w20 ⟨rfl, q, hq⟩
    have hb : Below w19.heap.size w19 w20 := by rw [hq]; exact below_draws (Below.refl _ _) q
    clear hq
    have L53 := hid (L51.out.mono hb (Nat.le_refl _))
    clear L51
    have L54 := hid (L52.out.mono hb (Nat.le_refl _))
    clear L52
    have HB20 : Hid (Below w.heap.size w w20) := HB19.out.trans (hb.mono HB19.out.size)
    clear hb
    clear L53
    clear L54
    rw [show decide (comb mxI za zb = comb mxI za zb) = true from decide_eq_true rfl]
    go_wp2
    go_ret
    exact ⟨rfl, HB20.out⟩


/-- VectorTwo: any two slices. -/
theorem two_any (A : Nat → Addr) (w : World) (hS : Sents A w.heap.size w) (v u : Value) (za zb : List Int) (ha : IntsAt w v za) (hb : IntsAt w u zb) :
    Calls Tryd.prog 4 #[v, u] w fun e w' => e = .returned (.bool true) ∧ Below w.heap.size w w' := by
  by_cases h : 20 < za.length ∨ 20 < zb.length
  · exact two_long A w hS.e2 v u za zb ha hb h
  · by_cases h0 : two za zb = 0
    · exact two_ok A w hS v u za zb ha hb (by omega) (by omega) h0 (two_zero.1 h0).1
    · by_cases hk : chk za = 0
      · exact two_bad A w hS v u za zb ha hb (by omega) (by omega) h0 hk
      · exact two_worse A w hS v u za zb ha hb (by omega) (by omega) h0 hk
end Go.Proofs.YtfechdagacmliaaDoor
