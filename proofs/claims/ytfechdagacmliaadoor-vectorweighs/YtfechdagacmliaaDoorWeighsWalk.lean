/- causewaylaw1.VectorWeighs answers true, at any two vectors. -/
import Derived.Test.YtfechdagacmliaaDoorLattice
import Derived.Test.YtfechdagacmliaaDoorLe
import Derived.Test.YtfechdagacmliaaDoorTimed
namespace Go.Proofs.YtfechdagacmliaaDoor
open Go.RowKit

set_option maxHeartbeats 4000000 in
theorem weighs_long (A : Nat → Addr) (w : World) (hE : E2 A w) (v u : Value) (za zb : List Int) (ha : IntsAt w v za) (hb : IntsAt w u zb) (h20 : 20 < za.length ∨ 20 < zb.length) :
    Calls Tryd.prog 8 #[v, u] w fun e w' => e = .returned (.bool true) ∧ Below w.heap.size w w' := by
  obtain ⟨a1, c1, rfl⟩ := ha.slice
  obtain ⟨a2, c2, rfl⟩ := hb.slice
  by_cases h1 : 20 < za.length
  · go_enter Tryd.func8, Tryd.ntmps8
    go_wp2_with (go_at_call 13; refine (timed_any A _ hE).mono ?_; rintro e w1 ⟨rfl, hb1⟩)
    go_ret
    exact ⟨rfl, hb1⟩
  · have h2 : 20 < zb.length := by omega
    go_enter Tryd.func8, Tryd.ntmps8
    go_wp2_with (go_at_call 13; refine (timed_any A _ hE).mono ?_; rintro e w1 ⟨rfl, hb1⟩)
    go_ret
    exact ⟨rfl, hb1⟩

set_option maxHeartbeats 8000000 in
theorem weighs_bad (A : Nat → Addr) (w : World) (hE : E2 A w) (v u : Value) (za zb : List Int) (ha : IntsAt w v za) (hb0 : IntsAt w u zb) (h1 : za.length ≤ 20) (h2 : zb.length ≤ 20) (h0 : two za zb ≠ 0) :
    Calls Tryd.prog 8 #[v, u] w fun e w' => e = .returned (.bool true) ∧ Below w.heap.size w w' := by
  have h3 : 3 ≤ w.heap.size := lt_of_cell hE.shape
  obtain ⟨a1, c1, rfl⟩ := ha.slice
  obtain ⟨a2, c2, rfl⟩ := hb0.slice
  have HB0 : Hid (Below w.heap.size w w) := Below.refl _ _
  have hla : za.length ≤ 1000000 := by omega
  have hlb : zb.length ≤ 1000000 := by omega

  go_enter Tryd.func8, Tryd.ntmps8
  go_wp2_with fail
  refine (timed_any A _ hE).mono ?_
  rintro e w1 ⟨rfl, hb⟩
  have HB1 : Hid (Below w.heap.size w w1) := HB0.out.trans (hb.mono HB0.out.size)
  clear hb
  go_wp2_with fail
  refine (own_any _ _ za (ha.mono HB1.out (Nat.le_refl _)) hla).mono ?_
  rintro e w2 ⟨v2, rfl, hv, hb⟩
  have HB2 : Hid (Below w.heap.size w w2) := HB1.out.trans (hb.mono HB1.out.size)
  have L1 := hid hv
  clear hv hb
  go_wp2_with fail
  refine (own_any _ _ zb (hb0.mono HB2.out (Nat.le_refl _)) hlb).mono ?_
  rintro e w3 ⟨v3, rfl, hv, hb⟩
  have L2 := hid (L1.out.mono hb (Nat.le_refl _))
  clear L1
  have HB3 : Hid (Below w.heap.size w w3) := HB2.out.trans (hb.mono HB2.out.size)
  have L3 := hid hv
  clear hv hb
  go_wp2_with fail
  refine (Least_bad A _ (hE.below HB3.out h3) _ _ za zb L2.out L3.out hla hlb h0).mono ?_
  rintro e wx ⟨rfl, hw⟩
  rw [hw]
  clear hw wx
  clear L2
  clear L3
  go_wp2_with fail
  refine (own_any _ _ za (ha.mono HB3.out (Nat.le_refl _)) hla).mono ?_
  rintro e w4 ⟨v4, rfl, hv, hb⟩
  have HB4 : Hid (Below w.heap.size w w4) := HB3.out.trans (hb.mono HB3.out.size)
  have L4 := hid hv
  clear hv hb
  go_wp2_with fail
  refine (own_any _ _ zb (hb0.mono HB4.out (Nat.le_refl _)) hlb).mono ?_
  rintro e w5 ⟨v5, rfl, hv, hb⟩
  have L5 := hid (L4.out.mono hb (Nat.le_refl _))
  clear L4
  have HB5 : Hid (Below w.heap.size w w5) := HB4.out.trans (hb.mono HB4.out.size)
  have L6 := hid hv
  clear hv hb
  go_wp2_with fail
  refine (Most_bad A _ (hE.below HB5.out h3) _ _ za zb L5.out L6.out hla hlb h0).mono ?_
  rintro e wx ⟨rfl, hw⟩
  rw [hw]
  clear hw wx
  clear L5
  clear L6
  go_wp2
  go_ret
  exact ⟨rfl, HB5.out⟩

set_option maxHeartbeats 8000000 in
theorem weighs_ok (A : Nat → Addr) (w : World) (hE : E2 A w) (v u : Value) (za zb : List Int) (ha : IntsAt w v za) (hb0 : IntsAt w u zb) (h1 : za.length ≤ 20) (h2 : zb.length ≤ 20) (h0 : two za zb = 0) :
    Calls Tryd.prog 8 #[v, u] w fun e w' => e = .returned (.bool true) ∧ Below w.heap.size w w' := by
  have h3 : 3 ≤ w.heap.size := lt_of_cell hE.shape
  obtain ⟨a1, c1, rfl⟩ := ha.slice
  obtain ⟨a2, c2, rfl⟩ := hb0.slice
  have HB0 : Hid (Below w.heap.size w w) := Below.refl _ _
  have hla : za.length ≤ 1000000 := by omega
  have hlb : zb.length ≤ 1000000 := by omega
  obtain ⟨hz, hy, hn⟩ := two_zero.1 h0
  have HS := hid (sum_comb hn)
  have HL := hid (chk_least h0)
  have HM := hid (chk_most h0)
  have HZ := hid hz
  have HY := hid hy
  have HN := hid hn
  have H0 := hid h0
  have b1 := sum_bd hz
  have b2 := sum_bd hy
  have b3 := sum_bd (chk_least h0)
  have b4 := sum_bd (chk_most h0)
  obtain ⟨s1, e1⟩ : ∃ s, s = sum za := ⟨_, rfl⟩
  obtain ⟨s2, e2⟩ : ∃ s, s = sum zb := ⟨_, rfl⟩
  obtain ⟨s3, e3⟩ : ∃ s, s = sum (comb mnI za zb) := ⟨_, rfl⟩
  obtain ⟨s4, e4⟩ : ∃ s, s = sum (comb mxI za zb) := ⟨_, rfl⟩
  rw [← e1] at b1
  rw [← e2] at b2
  rw [← e3] at b3
  rw [← e4] at b4
  have hs : s3 + s4 = s1 + s2 := by rw [e1, e2, e3, e4]; exact HS.out
  obtain ⟨b1a, b1b⟩ := b1
  obtain ⟨b2a, b2b⟩ := b2
  obtain ⟨b3a, b3b⟩ := b3
  obtain ⟨b4a, b4b⟩ := b4
  have hne : (s1 + s2 != s3 + s4) = false := by rw [hs]; simp
  have HSS := hid hs
  have E1 := hid e1
  have E2' := hid e2
  have E3 := hid e3
  have E4 := hid e4
  clear hz hy hn h0 hs e1 e2 e3 e4
  go_enter Tryd.func8, Tryd.ntmps8
  go_wp2_with fail
  refine (timed_any A _ hE).mono ?_
  rintro e w1 ⟨rfl, hb⟩
  have HB1 : Hid (Below w.heap.size w w1) := HB0.out.trans (hb.mono HB0.out.size)
  clear hb
  go_wp2_with fail
  refine (own_any _ _ za (ha.mono HB1.out (Nat.le_refl _)) hla).mono ?_
  rintro e w2 ⟨v2, rfl, hv, hb⟩
  have HB2 : Hid (Below w.heap.size w w2) := HB1.out.trans (hb.mono HB1.out.size)
  have L1 := hid hv
  clear hv hb
  go_wp2_with fail
  refine (own_any _ _ zb (hb0.mono HB2.out (Nat.le_refl _)) hlb).mono ?_
  rintro e w3 ⟨v3, rfl, hv, hb⟩
  have L2 := hid (L1.out.mono hb (Nat.le_refl _))
  clear L1
  have HB3 : Hid (Below w.heap.size w w3) := HB2.out.trans (hb.mono HB2.out.size)
  have L3 := hid hv
  clear hv hb
  go_wp2_with fail
  refine (Least_ok A _ (hE.below HB3.out h3) _ _ za zb L2.out L3.out H0.out).mono ?_
  rintro e w4 ⟨r4, rfl, hv, hb⟩
  have L4 := hid (L2.out.mono hb (Nat.le_refl _))
  clear L2
  have L5 := hid (L3.out.mono hb (Nat.le_refl _))
  clear L3
  have HB4 : Hid (Below w.heap.size w w4) := HB3.out.trans (hb.mono HB3.out.size)
  have L6 := hid hv
  clear hv hb
  clear L4
  clear L5
  go_wp2_with fail
  refine (own_any _ _ za (ha.mono HB4.out (Nat.le_refl _)) hla).mono ?_
  rintro e w5 ⟨v5, rfl, hv, hb⟩
  have L7 := hid (L6.out.mono hb (Nat.le_refl _))
  clear L6
  have HB5 : Hid (Below w.heap.size w w5) := HB4.out.trans (hb.mono HB4.out.size)
  have L8 := hid hv
  clear hv hb
  go_wp2_with fail
  refine (own_any _ _ zb (hb0.mono HB5.out (Nat.le_refl _)) hlb).mono ?_
  rintro e w6 ⟨v6, rfl, hv, hb⟩
  have L9 := hid (L7.out.mono hb (Nat.le_refl _))
  clear L7
  have L10 := hid (L8.out.mono hb (Nat.le_refl _))
  clear L8
  have HB6 : Hid (Below w.heap.size w w6) := HB5.out.trans (hb.mono HB5.out.size)
  have L11 := hid hv
  clear hv hb
  go_wp2_with fail
  refine (Most_ok A _ (hE.below HB6.out h3) _ _ za zb L10.out L11.out H0.out).mono ?_
  rintro e w7 ⟨r7, rfl, hv, hb⟩
  have L12 := hid (L9.out.mono hb (Nat.le_refl _))
  clear L9
  have L13 := hid (L10.out.mono hb (Nat.le_refl _))
  clear L10
  have L14 := hid (L11.out.mono hb (Nat.le_refl _))
  clear L11
  have HB7 : Hid (Below w.heap.size w w7) := HB6.out.trans (hb.mono HB6.out.size)
  have L15 := hid hv
  clear hv hb
  clear L13
  clear L14
  go_wp2_with fail
  refine (own_any _ _ za (ha.mono HB7.out (Nat.le_refl _)) hla).mono ?_
  rintro e w8 ⟨v8, rfl, hv, hb⟩
  have L16 := hid (L12.out.mono hb (Nat.le_refl _))
  clear L12
  have L17 := hid (L15.out.mono hb (Nat.le_refl _))
  clear L15
  have HB8 : Hid (Below w.heap.size w w8) := HB7.out.trans (hb.mono HB7.out.size)
  have L18 := hid hv
  clear hv hb
  go_wp2_with fail
  refine (Weight_ok A _ (hE.below HB8.out h3) _ za L18.out HZ.out).mono ?_
  rintro e wx ⟨rfl, hw⟩
  rw [hw]
  clear hw wx
  clear L18
  rw [← E1.out]
  go_wp2_with fail
  refine (own_any _ _ zb (hb0.mono HB8.out (Nat.le_refl _)) hlb).mono ?_
  rintro e w9 ⟨v9, rfl, hv, hb⟩
  have L19 := hid (L16.out.mono hb (Nat.le_refl _))
  clear L16
  have L20 := hid (L17.out.mono hb (Nat.le_refl _))
  clear L17
  have HB9 : Hid (Below w.heap.size w w9) := HB8.out.trans (hb.mono HB8.out.size)
  have L21 := hid hv
  clear hv hb
  go_wp2_with fail
  refine (Weight_ok A _ (hE.below HB9.out h3) _ zb L21.out HY.out).mono ?_
  rintro e wx ⟨rfl, hw⟩
  rw [hw]
  clear hw wx
  clear L21
  rw [← E2'.out]
  go_wp2_with fail
  refine (Weight_ok A _ (hE.below HB9.out h3) _ _ L19.out HL.out).mono ?_
  rintro e wx ⟨rfl, hw⟩
  rw [hw]
  clear hw wx
  rw [← E3.out]
  go_wp2_with fail
  refine (Weight_ok A _ (hE.below HB9.out h3) _ _ L20.out HM.out).mono ?_
  rintro e wx ⟨rfl, hw⟩
  rw [hw]
  clear hw wx
  rw [← E4.out]
  clear L19
  clear L20
  go_wp2_with fail
  refine (own_any _ _ za (ha.mono HB9.out (Nat.le_refl _)) hla).mono ?_
  rintro e w10 ⟨v10, rfl, hv, hb⟩
  have HB10 : Hid (Below w.heap.size w w10) := HB9.out.trans (hb.mono HB9.out.size)
  have L22 := hid hv
  clear hv hb
  go_wp2_with fail
  refine (own_any _ _ zb (hb0.mono HB10.out (Nat.le_refl _)) hlb).mono ?_
  rintro e w11 ⟨v11, rfl, hv, hb⟩
  have L23 := hid (L22.out.mono hb (Nat.le_refl _))
  clear L22
  have HB11 : Hid (Below w.heap.size w w11) := HB10.out.trans (hb.mono HB10.out.size)
  have L24 := hid hv
  clear hv hb
  go_wp2_with fail
  refine (Within_ok A _ (hE.below HB11.out h3) _ _ za zb L23.out L24.out H0.out).mono ?_
  rintro e w12 ⟨rfl, q, hq⟩
  have hb : Below w11.heap.size w11 w12 := by rw [hq]; exact below_draws (Below.refl _ _) q
  clear hq
  have L25 := hid (L23.out.mono hb (Nat.le_refl _))
  clear L23
  have L26 := hid (L24.out.mono hb (Nat.le_refl _))
  clear L24
  have HB12 : Hid (Below w.heap.size w w12) := HB11.out.trans (hb.mono HB11.out.size)
  clear hb
  clear L25
  clear L26
  by_cases hle : leB za zb = true
  · rw [hle]
    have hss : s1 ≤ s2 := by rw [E1.out, E2'.out]; exact sum_le HN.out hle
    have hd1 : decide (s1 ≤ s2) = true := decide_eq_true hss
    by_cases hlt : s1 < s2
    · have hd2 : decide (s1 < s2) = true := decide_eq_true hlt
      have HLE := hid hle
      clear hle
      go_wp2
      go_ret
      exact ⟨rfl, HB12.out⟩
    · have hd2 : decide (s1 < s2) = false := decide_eq_false hlt
      have HEQ : Hid (za = zb) := sum_same HN.out hle (by rw [← E1.out, ← E2'.out]; omega)
      have HLE := hid hle
      clear hle
      go_wp2_with fail
      refine (sameInts _ _ _ za zb (ha.mono HB12.out (Nat.le_refl _)) (hb0.mono HB12.out (Nat.le_refl _)) hla).mono ?_
      rintro e wl ⟨rfl, q, hq⟩
      have HBL : Hid (Below w.heap.size w wl) := by
        rw [hq]
        exact below_draws HB12.out q
      clear hq
      rw [show decide (za = zb) = true from decide_eq_true HEQ.out]
      go_wp2
      go_ret
      exact ⟨rfl, HBL.out⟩
  · have hle' : leB za zb = false := by simpa using hle
    rw [hle']
    clear hle hle'
    go_wp2
    go_ret
    exact ⟨rfl, HB12.out⟩


/-- VectorWeighs: any two slices. -/
theorem weighs_any (A : Nat → Addr) (w : World) (hE : E2 A w) (v u : Value) (za zb : List Int) (ha : IntsAt w v za) (hb : IntsAt w u zb) :
    Calls Tryd.prog 8 #[v, u] w fun e w' => e = .returned (.bool true) ∧ Below w.heap.size w w' := by
  by_cases h : 20 < za.length ∨ 20 < zb.length
  · exact weighs_long A w hE v u za zb ha hb h
  · by_cases h0 : two za zb = 0
    · exact weighs_ok A w hE v u za zb ha hb (by omega) (by omega) h0
    · exact weighs_bad A w hE v u za zb ha hb (by omega) (by omega) h0
end Go.Proofs.YtfechdagacmliaaDoor
