/- causewaylaw1.VectorLaws answers true, at any three vectors. -/
import Derived.Test.YtfechdagacmliaaDoorLattice
import Derived.Test.YtfechdagacmliaaDoorLe
import Derived.Test.YtfechdagacmliaaDoorTimed
namespace Go.Proofs.YtfechdagacmliaaDoor
open Go.RowKit
set_option maxRecDepth 100000

set_option maxHeartbeats 4000000 in
theorem laws_long (A : Nat → Addr) (w : World) (hE : E2 A w) (v u x : Value) (za zb zc : List Int) (ha : IntsAt w v za) (hb : IntsAt w u zb) (hc : IntsAt w x zc) (h20 : 20 < za.length ∨ 20 < zb.length ∨ 20 < zc.length) :
    Calls Tryd.prog 5 #[v, u, x] w fun e w' => e = .returned (.bool true) ∧ Below w.heap.size w w' := by
  obtain ⟨a1, c1, rfl⟩ := ha.slice
  obtain ⟨a2, c2, rfl⟩ := hb.slice
  obtain ⟨a3, c3, rfl⟩ := hc.slice
  by_cases h1 : 20 < za.length
  · go_enter Tryd.func5, Tryd.ntmps5
    go_wp2_with (go_at_call 13; refine (timed_any A _ hE).mono ?_; rintro e w1 ⟨rfl, hb1⟩)
    go_ret
    exact ⟨rfl, hb1⟩
  · by_cases h2 : 20 < zb.length
    · go_enter Tryd.func5, Tryd.ntmps5
      go_wp2_with (go_at_call 13; refine (timed_any A _ hE).mono ?_; rintro e w1 ⟨rfl, hb1⟩)
      go_ret
      exact ⟨rfl, hb1⟩
    · have h3 : 20 < zc.length := by omega
      go_enter Tryd.func5, Tryd.ntmps5
      go_wp2_with (go_at_call 13; refine (timed_any A _ hE).mono ?_; rintro e w1 ⟨rfl, hb1⟩)
      go_ret
      exact ⟨rfl, hb1⟩

set_option maxHeartbeats 16000000 in
theorem laws_bad (A : Nat → Addr) (w : World) (hE : E2 A w) (v u x : Value) (za zb zc : List Int) (ha : IntsAt w v za) (hb0 : IntsAt w u zb) (hc : IntsAt w x zc) (h1 : za.length ≤ 20) (h2 : zb.length ≤ 20) (h20c : zc.length ≤ 20) (h0 : two za zb ≠ 0) (h00 : two za zc ≠ 0) :
    Calls Tryd.prog 5 #[v, u, x] w fun e w' => e = .returned (.bool true) ∧ Below w.heap.size w w' := by
  have h3 : 3 ≤ w.heap.size := lt_of_cell hE.shape
  obtain ⟨a1, c1, rfl⟩ := ha.slice
  obtain ⟨a2, c2, rfl⟩ := hb0.slice
  obtain ⟨a3, c3, rfl⟩ := hc.slice
  have HB0 : Hid (Below w.heap.size w w) := Below.refl _ _
  have hla : za.length ≤ 1000000 := by omega
  have hlb : zb.length ≤ 1000000 := by omega
  have hlc : zc.length ≤ 1000000 := by omega
  have H0 := hid h0
  have H00 := hid h00
  clear h0 h00
  go_enter Tryd.func5, Tryd.ntmps5
  go_wp2_with fail
  refine (timed_any A _ hE).mono ?_
  rintro e w1 ⟨rfl, hb⟩
  have HB1 : Hid (Below w.heap.size w w1) := HB0.out.trans (hb.mono HB0.out.size)
  clear hb
  go_wp2_with fail
  refine (own_any _ _ za (ha.mono HB1.out (Nat.le_refl _)) hla).mono ?_
  rintro e w2 ⟨v2, rfl, hv, hb⟩
  have HB2 : Hid (Below w.heap.size w w2) := HB1.out.trans (hb.mono HB1.out.size)
  have L1 := hid hv
  clear hv hb
  go_wp2_with fail
  refine (own_any _ _ zb (hb0.mono HB2.out (Nat.le_refl _)) hlb).mono ?_
  rintro e w3 ⟨v3, rfl, hv, hb⟩
  have L2 := hid (L1.out.mono hb (Nat.le_refl _))
  clear L1
  have HB3 : Hid (Below w.heap.size w w3) := HB2.out.trans (hb.mono HB2.out.size)
  have L3 := hid hv
  clear hv hb
  go_wp2_with fail
  refine (Most_bad A _ (hE.below HB3.out h3) _ _ za zb L2.out L3.out hla hlb H0.out).mono ?_
  rintro e wx ⟨rfl, hw⟩
  rw [hw]
  clear hw wx
  clear L2
  clear L3
  go_wp2_with fail
  refine (own_any _ _ za (ha.mono HB3.out (Nat.le_refl _)) hla).mono ?_
  rintro e w4 ⟨v4, rfl, hv, hb⟩
  have HB4 : Hid (Below w.heap.size w w4) := HB3.out.trans (hb.mono HB3.out.size)
  have L4 := hid hv
  clear hv hb
  go_wp2_with fail
  refine (own_any _ _ zb (hb0.mono HB4.out (Nat.le_refl _)) hlb).mono ?_
  rintro e w5 ⟨v5, rfl, hv, hb⟩
  have L5 := hid (L4.out.mono hb (Nat.le_refl _))
  clear L4
  have HB5 : Hid (Below w.heap.size w w5) := HB4.out.trans (hb.mono HB4.out.size)
  have L6 := hid hv
  clear hv hb
  go_wp2_with fail
  refine (Least_bad A _ (hE.below HB5.out h3) _ _ za zb L5.out L6.out hla hlb H0.out).mono ?_
  rintro e wx ⟨rfl, hw⟩
  rw [hw]
  clear hw wx
  clear L5
  clear L6
  go_wp2_with fail
  refine (own_any _ _ za (ha.mono HB5.out (Nat.le_refl _)) hla).mono ?_
  rintro e w6 ⟨v6, rfl, hv, hb⟩
  have HB6 : Hid (Below w.heap.size w w6) := HB5.out.trans (hb.mono HB5.out.size)
  have L7 := hid hv
  clear hv hb
  go_wp2_with fail
  refine (own_any _ _ zc (hc.mono HB6.out (Nat.le_refl _)) hlc).mono ?_
  rintro e w7 ⟨v7, rfl, hv, hb⟩
  have L8 := hid (L7.out.mono hb (Nat.le_refl _))
  clear L7
  have HB7 : Hid (Below w.heap.size w w7) := HB6.out.trans (hb.mono HB6.out.size)
  have L9 := hid hv
  clear hv hb
  go_wp2_with fail
  refine (Most_bad A _ (hE.below HB7.out h3) _ _ za zc L8.out L9.out hla hlc H00.out).mono ?_
  rintro e wx ⟨rfl, hw⟩
  rw [hw]
  clear hw wx
  clear L8
  clear L9
  go_wp2
  go_ret
  exact ⟨rfl, HB7.out⟩

set_option maxHeartbeats 16000000 in
theorem laws_badok (A : Nat → Addr) (w : World) (hE : E2 A w) (v u x : Value) (za zb zc : List Int) (ha : IntsAt w v za) (hb0 : IntsAt w u zb) (hc : IntsAt w x zc) (h1 : za.length ≤ 20) (h2 : zb.length ≤ 20) (h20c : zc.length ≤ 20) (h0 : two za zb ≠ 0) (h00 : two za zc = 0) :
    Calls Tryd.prog 5 #[v, u, x] w fun e w' => e = .returned (.bool true) ∧ Below w.heap.size w w' := by
  have h3 : 3 ≤ w.heap.size := lt_of_cell hE.shape
  obtain ⟨a1, c1, rfl⟩ := ha.slice
  obtain ⟨a2, c2, rfl⟩ := hb0.slice
  obtain ⟨a3, c3, rfl⟩ := hc.slice
  have HB0 : Hid (Below w.heap.size w w) := Below.refl _ _
  have hla : za.length ≤ 1000000 := by omega
  have hlb : zb.length ≤ 1000000 := by omega
  have hlc : zc.length ≤ 1000000 := by omega
  have H0 := hid h0
  have H00 := hid h00
  clear h0 h00
  go_enter Tryd.func5, Tryd.ntmps5
  go_wp2_with fail
  refine (timed_any A _ hE).mono ?_
  rintro e w1 ⟨rfl, hb⟩
  have HB1 : Hid (Below w.heap.size w w1) := HB0.out.trans (hb.mono HB0.out.size)
  clear hb
  go_wp2_with fail
  refine (own_any _ _ za (ha.mono HB1.out (Nat.le_refl _)) hla).mono ?_
  rintro e w2 ⟨v2, rfl, hv, hb⟩
  have HB2 : Hid (Below w.heap.size w w2) := HB1.out.trans (hb.mono HB1.out.size)
  have L1 := hid hv
  clear hv hb
  go_wp2_with fail
  refine (own_any _ _ zb (hb0.mono HB2.out (Nat.le_refl _)) hlb).mono ?_
  rintro e w3 ⟨v3, rfl, hv, hb⟩
  have L2 := hid (L1.out.mono hb (Nat.le_refl _))
  clear L1
  have HB3 : Hid (Below w.heap.size w w3) := HB2.out.trans (hb.mono HB2.out.size)
  have L3 := hid hv
  clear hv hb
  go_wp2_with fail
  refine (Most_bad A _ (hE.below HB3.out h3) _ _ za zb L2.out L3.out hla hlb H0.out).mono ?_
  rintro e wx ⟨rfl, hw⟩
  rw [hw]
  clear hw wx
  clear L2
  clear L3
  go_wp2_with fail
  refine (own_any _ _ za (ha.mono HB3.out (Nat.le_refl _)) hla).mono ?_
  rintro e w4 ⟨v4, rfl, hv, hb⟩
  have HB4 : Hid (Below w.heap.size w w4) := HB3.out.trans (hb.mono HB3.out.size)
  have L4 := hid hv
  clear hv hb
  go_wp2_with fail
  refine (own_any _ _ zb (hb0.mono HB4.out (Nat.le_refl _)) hlb).mono ?_
  rintro e w5 ⟨v5, rfl, hv, hb⟩
  have L5 := hid (L4.out.mono hb (Nat.le_refl _))
  clear L4
  have HB5 : Hid (Below w.heap.size w w5) := HB4.out.trans (hb.mono HB4.out.size)
  have L6 := hid hv
  clear hv hb
  go_wp2_with fail
  refine (Least_bad A _ (hE.below HB5.out h3) _ _ za zb L5.out L6.out hla hlb H0.out).mono ?_
  rintro e wx ⟨rfl, hw⟩
  rw [hw]
  clear hw wx
  clear L5
  clear L6
  go_wp2_with fail
  refine (own_any _ _ za (ha.mono HB5.out (Nat.le_refl _)) hla).mono ?_
  rintro e w6 ⟨v6, rfl, hv, hb⟩
  have HB6 : Hid (Below w.heap.size w w6) := HB5.out.trans (hb.mono HB5.out.size)
  have L7 := hid hv
  clear hv hb
  go_wp2_with fail
  refine (own_any _ _ zc (hc.mono HB6.out (Nat.le_refl _)) hlc).mono ?_
  rintro e w7 ⟨v7, rfl, hv, hb⟩
  have L8 := hid (L7.out.mono hb (Nat.le_refl _))
  clear L7
  have HB7 : Hid (Below w.heap.size w w7) := HB6.out.trans (hb.mono HB6.out.size)
  have L9 := hid hv
  clear hv hb
  go_wp2_with fail
  refine (Most_ok A _ (hE.below HB7.out h3) _ _ za zc L8.out L9.out H00.out).mono ?_
  rintro e w8 ⟨r8, rfl, hv, hb⟩
  have L10 := hid (L8.out.mono hb (Nat.le_refl _))
  clear L8
  have L11 := hid (L9.out.mono hb (Nat.le_refl _))
  clear L9
  have HB8 : Hid (Below w.heap.size w w8) := HB7.out.trans (hb.mono HB7.out.size)
  have L12 := hid hv
  clear hv hb
  clear L10
  clear L11
  clear L12
  go_wp2
  go_ret
  exact ⟨rfl, HB8.out⟩

set_option maxHeartbeats 16000000 in
theorem laws_okbad (A : Nat → Addr) (w : World) (hE : E2 A w) (v u x : Value) (za zb zc : List Int) (ha : IntsAt w v za) (hb0 : IntsAt w u zb) (hc : IntsAt w x zc) (h1 : za.length ≤ 20) (h2 : zb.length ≤ 20) (h20c : zc.length ≤ 20) (h0 : two za zb = 0) (h00 : two za zc ≠ 0) :
    Calls Tryd.prog 5 #[v, u, x] w fun e w' => e = .returned (.bool true) ∧ Below w.heap.size w w' := by
  have h3 : 3 ≤ w.heap.size := lt_of_cell hE.shape
  obtain ⟨a1, c1, rfl⟩ := ha.slice
  obtain ⟨a2, c2, rfl⟩ := hb0.slice
  obtain ⟨a3, c3, rfl⟩ := hc.slice
  have HB0 : Hid (Below w.heap.size w w) := Below.refl _ _
  have hla : za.length ≤ 1000000 := by omega
  have hlb : zb.length ≤ 1000000 := by omega
  have hlc : zc.length ≤ 1000000 := by omega
  have H0 := hid h0
  have H00 := hid h00
  clear h0 h00
  go_enter Tryd.func5, Tryd.ntmps5
  go_wp2_with fail
  refine (timed_any A _ hE).mono ?_
  rintro e w1 ⟨rfl, hb⟩
  have HB1 : Hid (Below w.heap.size w w1) := HB0.out.trans (hb.mono HB0.out.size)
  clear hb
  go_wp2_with fail
  refine (own_any _ _ za (ha.mono HB1.out (Nat.le_refl _)) hla).mono ?_
  rintro e w2 ⟨v2, rfl, hv, hb⟩
  have HB2 : Hid (Below w.heap.size w w2) := HB1.out.trans (hb.mono HB1.out.size)
  have L1 := hid hv
  clear hv hb
  go_wp2_with fail
  refine (own_any _ _ zb (hb0.mono HB2.out (Nat.le_refl _)) hlb).mono ?_
  rintro e w3 ⟨v3, rfl, hv, hb⟩
  have L2 := hid (L1.out.mono hb (Nat.le_refl _))
  clear L1
  have HB3 : Hid (Below w.heap.size w w3) := HB2.out.trans (hb.mono HB2.out.size)
  have L3 := hid hv
  clear hv hb
  go_wp2_with fail
  refine (Most_ok A _ (hE.below HB3.out h3) _ _ za zb L2.out L3.out H0.out).mono ?_
  rintro e w4 ⟨r4, rfl, hv, hb⟩
  have L4 := hid (L2.out.mono hb (Nat.le_refl _))
  clear L2
  have L5 := hid (L3.out.mono hb (Nat.le_refl _))
  clear L3
  have HB4 : Hid (Below w.heap.size w w4) := HB3.out.trans (hb.mono HB3.out.size)
  have L6 := hid hv
  clear hv hb
  clear L4
  clear L5
  go_wp2_with fail
  refine (own_any _ _ za (ha.mono HB4.out (Nat.le_refl _)) hla).mono ?_
  rintro e w5 ⟨v5, rfl, hv, hb⟩
  have L7 := hid (L6.out.mono hb (Nat.le_refl _))
  clear L6
  have HB5 : Hid (Below w.heap.size w w5) := HB4.out.trans (hb.mono HB4.out.size)
  have L8 := hid hv
  clear hv hb
  go_wp2_with fail
  refine (own_any _ _ zb (hb0.mono HB5.out (Nat.le_refl _)) hlb).mono ?_
  rintro e w6 ⟨v6, rfl, hv, hb⟩
  have L9 := hid (L7.out.mono hb (Nat.le_refl _))
  clear L7
  have L10 := hid (L8.out.mono hb (Nat.le_refl _))
  clear L8
  have HB6 : Hid (Below w.heap.size w w6) := HB5.out.trans (hb.mono HB5.out.size)
  have L11 := hid hv
  clear hv hb
  go_wp2_with fail
  refine (Least_ok A _ (hE.below HB6.out h3) _ _ za zb L10.out L11.out H0.out).mono ?_
  rintro e w7 ⟨r7, rfl, hv, hb⟩
  have L12 := hid (L9.out.mono hb (Nat.le_refl _))
  clear L9
  have L13 := hid (L10.out.mono hb (Nat.le_refl _))
  clear L10
  have L14 := hid (L11.out.mono hb (Nat.le_refl _))
  clear L11
  have HB7 : Hid (Below w.heap.size w w7) := HB6.out.trans (hb.mono HB6.out.size)
  have L15 := hid hv
  clear hv hb
  clear L13
  clear L14
  go_wp2_with fail
  refine (own_any _ _ za (ha.mono HB7.out (Nat.le_refl _)) hla).mono ?_
  rintro e w8 ⟨v8, rfl, hv, hb⟩
  have L16 := hid (L12.out.mono hb (Nat.le_refl _))
  clear L12
  have L17 := hid (L15.out.mono hb (Nat.le_refl _))
  clear L15
  have HB8 : Hid (Below w.heap.size w w8) := HB7.out.trans (hb.mono HB7.out.size)
  have L18 := hid hv
  clear hv hb
  go_wp2_with fail
  refine (own_any _ _ zc (hc.mono HB8.out (Nat.le_refl _)) hlc).mono ?_
  rintro e w9 ⟨v9, rfl, hv, hb⟩
  have L19 := hid (L16.out.mono hb (Nat.le_refl _))
  clear L16
  have L20 := hid (L17.out.mono hb (Nat.le_refl _))
  clear L17
  have L21 := hid (L18.out.mono hb (Nat.le_refl _))
  clear L18
  have HB9 : Hid (Below w.heap.size w w9) := HB8.out.trans (hb.mono HB8.out.size)
  have L22 := hid hv
  clear hv hb
  go_wp2_with fail
  refine (Most_bad A _ (hE.below HB9.out h3) _ _ za zc L21.out L22.out hla hlc H00.out).mono ?_
  rintro e wx ⟨rfl, hw⟩
  rw [hw]
  clear hw wx
  clear L21
  clear L22
  clear L19
  clear L20
  go_wp2
  go_ret
  exact ⟨rfl, HB9.out⟩

set_option maxHeartbeats 16000000 in
theorem laws_ok (A : Nat → Addr) (w : World) (hE : E2 A w) (v u x : Value) (za zb zc : List Int) (ha : IntsAt w v za) (hb0 : IntsAt w u zb) (hc : IntsAt w x zc) (h1 : za.length ≤ 20) (h2 : zb.length ≤ 20) (h20c : zc.length ≤ 20) (h0 : two za zb = 0) (h00 : two za zc = 0) :
    Calls Tryd.prog 5 #[v, u, x] w fun e w' => e = .returned (.bool true) ∧ Below w.heap.size w w' := by
  have h3 : 3 ≤ w.heap.size := lt_of_cell hE.shape
  obtain ⟨a1, c1, rfl⟩ := ha.slice
  obtain ⟨a2, c2, rfl⟩ := hb0.slice
  obtain ⟨a3, c3, rfl⟩ := hc.slice
  have HB0 : Hid (Below w.heap.size w w) := Below.refl _ _
  have hla : za.length ≤ 1000000 := by omega
  have hlb : zb.length ≤ 1000000 := by omega
  have hlc : zc.length ≤ 1000000 := by omega
  have H0 := hid h0
  have H00 := hid h00
  obtain ⟨hz, hy, hn⟩ := two_zero.1 h0
  obtain ⟨_, hx, hn2⟩ := two_zero.1 h00
  have HM := hid (chk_most h0)
  have HL := hid (chk_least h0)
  have TAM := hid (two_mk hz (chk_most h0) (comb_length mxI za zb).symm)
  have TBM := hid (two_mk hy (chk_most h0) (hn.symm.trans (comb_length mxI za zb).symm))
  have TBC := hid (two_mk hy hx (hn.symm.trans hn2))
  have TMC := hid (two_mk (chk_most h0) hx ((comb_length mxI za zb).trans hn2))
  have TAL := hid (two_mk hz (chk_least h0) (comb_length mnI za zb).symm)
  have HR := hid (most_le (xs := zc) hn)
  have HN := hid hn
  have hlm : (comb mxI za zb).length ≤ 1000000 := by rw [comb_length]; exact hla
  have hll : (comb mnI za zb).length ≤ 1000000 := by rw [comb_length]; exact hla
  clear hz hy hn hx hn2
  clear h0 h00
  go_enter Tryd.func5, Tryd.ntmps5
  go_wp2_with fail
  refine (timed_any A _ hE).mono ?_
  rintro e w1 ⟨rfl, hb⟩
  have HB1 : Hid (Below w.heap.size w w1) := HB0.out.trans (hb.mono HB0.out.size)
  clear hb
  go_wp2_with fail
  refine (own_any _ _ za (ha.mono HB1.out (Nat.le_refl _)) hla).mono ?_
  rintro e w2 ⟨v2, rfl, hv, hb⟩
  have HB2 : Hid (Below w.heap.size w w2) := HB1.out.trans (hb.mono HB1.out.size)
  have L1 := hid hv
  clear hv hb
  go_wp2_with fail
  refine (own_any _ _ zb (hb0.mono HB2.out (Nat.le_refl _)) hlb).mono ?_
  rintro e w3 ⟨v3, rfl, hv, hb⟩
  have L2 := hid (L1.out.mono hb (Nat.le_refl _))
  clear L1
  have HB3 : Hid (Below w.heap.size w w3) := HB2.out.trans (hb.mono HB2.out.size)
  have L3 := hid hv
  clear hv hb
  go_wp2_with fail
  refine (Most_ok A _ (hE.below HB3.out h3) _ _ za zb L2.out L3.out H0.out).mono ?_
  rintro e w4 ⟨r4, rfl, hv, hb⟩
  have L4 := hid (L2.out.mono hb (Nat.le_refl _))
  clear L2
  have L5 := hid (L3.out.mono hb (Nat.le_refl _))
  clear L3
  have HB4 : Hid (Below w.heap.size w w4) := HB3.out.trans (hb.mono HB3.out.size)
  have L6 := hid hv
  clear hv hb
  clear L4
  clear L5
  go_wp2_with fail
  refine (own_any _ _ za (ha.mono HB4.out (Nat.le_refl _)) hla).mono ?_
  rintro e w5 ⟨v5, rfl, hv, hb⟩
  have L7 := hid (L6.out.mono hb (Nat.le_refl _))
  clear L6
  have HB5 : Hid (Below w.heap.size w w5) := HB4.out.trans (hb.mono HB4.out.size)
  have L8 := hid hv
  clear hv hb
  go_wp2_with fail
  refine (own_any _ _ zb (hb0.mono HB5.out (Nat.le_refl _)) hlb).mono ?_
  rintro e w6 ⟨v6, rfl, hv, hb⟩
  have L9 := hid (L7.out.mono hb (Nat.le_refl _))
  clear L7
  have L10 := hid (L8.out.mono hb (Nat.le_refl _))
  clear L8
  have HB6 : Hid (Below w.heap.size w w6) := HB5.out.trans (hb.mono HB5.out.size)
  have L11 := hid hv
  clear hv hb
  go_wp2_with fail
  refine (Least_ok A _ (hE.below HB6.out h3) _ _ za zb L10.out L11.out H0.out).mono ?_
  rintro e w7 ⟨r7, rfl, hv, hb⟩
  have L12 := hid (L9.out.mono hb (Nat.le_refl _))
  clear L9
  have L13 := hid (L10.out.mono hb (Nat.le_refl _))
  clear L10
  have L14 := hid (L11.out.mono hb (Nat.le_refl _))
  clear L11
  have HB7 : Hid (Below w.heap.size w w7) := HB6.out.trans (hb.mono HB6.out.size)
  have L15 := hid hv
  clear hv hb
  clear L13
  clear L14
  go_wp2_with fail
  refine (own_any _ _ za (ha.mono HB7.out (Nat.le_refl _)) hla).mono ?_
  rintro e w8 ⟨v8, rfl, hv, hb⟩
  have L16 := hid (L12.out.mono hb (Nat.le_refl _))
  clear L12
  have L17 := hid (L15.out.mono hb (Nat.le_refl _))
  clear L15
  have HB8 : Hid (Below w.heap.size w w8) := HB7.out.trans (hb.mono HB7.out.size)
  have L18 := hid hv
  clear hv hb
  go_wp2_with fail
  refine (own_any _ _ zc (hc.mono HB8.out (Nat.le_refl _)) hlc).mono ?_
  rintro e w9 ⟨v9, rfl, hv, hb⟩
  have L19 := hid (L16.out.mono hb (Nat.le_refl _))
  clear L16
  have L20 := hid (L17.out.mono hb (Nat.le_refl _))
  clear L17
  have L21 := hid (L18.out.mono hb (Nat.le_refl _))
  clear L18
  have HB9 : Hid (Below w.heap.size w w9) := HB8.out.trans (hb.mono HB8.out.size)
  have L22 := hid hv
  clear hv hb
  go_wp2_with fail
  refine (Most_ok A _ (hE.below HB9.out h3) _ _ za zc L21.out L22.out H00.out).mono ?_
  rintro e w10 ⟨r10, rfl, hv, hb⟩
  have L23 := hid (L19.out.mono hb (Nat.le_refl _))
  clear L19
  have L24 := hid (L20.out.mono hb (Nat.le_refl _))
  clear L20
  have L25 := hid (L21.out.mono hb (Nat.le_refl _))
  clear L21
  have L26 := hid (L22.out.mono hb (Nat.le_refl _))
  clear L22
  have HB10 : Hid (Below w.heap.size w w10) := HB9.out.trans (hb.mono HB9.out.size)
  have L27 := hid hv
  clear hv hb
  clear L25
  clear L26
  clear L27
  go_wp2_with fail
  refine (own_any _ _ za (ha.mono HB10.out (Nat.le_refl _)) hla).mono ?_
  rintro e w11 ⟨v11, rfl, hv, hb⟩
  have L28 := hid (L23.out.mono hb (Nat.le_refl _))
  clear L23
  have L29 := hid (L24.out.mono hb (Nat.le_refl _))
  clear L24
  have HB11 : Hid (Below w.heap.size w w11) := HB10.out.trans (hb.mono HB10.out.size)
  have L30 := hid hv
  clear hv hb
  go_wp2_with fail
  refine (own_any _ _ (comb mxI za zb) L28.out hlm).mono ?_
  rintro e w12 ⟨v12, rfl, hv, hb⟩
  have L31 := hid (L28.out.mono hb (Nat.le_refl _))
  clear L28
  have L32 := hid (L29.out.mono hb (Nat.le_refl _))
  clear L29
  have L33 := hid (L30.out.mono hb (Nat.le_refl _))
  clear L30
  have HB12 : Hid (Below w.heap.size w w12) := HB11.out.trans (hb.mono HB11.out.size)
  have L34 := hid hv
  clear hv hb
  go_wp2_with fail
  refine (Within_ok A _ (hE.below HB12.out h3) _ _ za (comb mxI za zb) L33.out L34.out TAM.out).mono ?_
  rintro e w13 ⟨rfl, q, hq⟩
  have hb : Below w12.heap.size w12 w13 := by rw [hq]; exact below_draws (Below.refl _ _) q
  clear hq
  have L35 := hid (L31.out.mono hb (Nat.le_refl _))
  clear L31
  have L36 := hid (L32.out.mono hb (Nat.le_refl _))
  clear L32
  have L37 := hid (L33.out.mono hb (Nat.le_refl _))
  clear L33
  have L38 := hid (L34.out.mono hb (Nat.le_refl _))
  clear L34
  have HB13 : Hid (Below w.heap.size w w13) := HB12.out.trans (hb.mono HB12.out.size)
  clear hb
  clear L37
  clear L38
  rw [le_most_left]
  go_wp2_with fail
  refine (own_any _ _ zb (hb0.mono HB13.out (Nat.le_refl _)) hlb).mono ?_
  rintro e w14 ⟨v14, rfl, hv, hb⟩
  have L39 := hid (L35.out.mono hb (Nat.le_refl _))
  clear L35
  have L40 := hid (L36.out.mono hb (Nat.le_refl _))
  clear L36
  have HB14 : Hid (Below w.heap.size w w14) := HB13.out.trans (hb.mono HB13.out.size)
  have L41 := hid hv
  clear hv hb
  go_wp2_with fail
  refine (own_any _ _ (comb mxI za zb) L39.out hlm).mono ?_
  rintro e w15 ⟨v15, rfl, hv, hb⟩
  have L42 := hid (L39.out.mono hb (Nat.le_refl _))
  clear L39
  have L43 := hid (L40.out.mono hb (Nat.le_refl _))
  clear L40
  have L44 := hid (L41.out.mono hb (Nat.le_refl _))
  clear L41
  have HB15 : Hid (Below w.heap.size w w15) := HB14.out.trans (hb.mono HB14.out.size)
  have L45 := hid hv
  clear hv hb
  go_wp2_with fail
  refine (Within_ok A _ (hE.below HB15.out h3) _ _ zb (comb mxI za zb) L44.out L45.out TBM.out).mono ?_
  rintro e w16 ⟨rfl, q, hq⟩
  have hb : Below w15.heap.size w15 w16 := by rw [hq]; exact below_draws (Below.refl _ _) q
  clear hq
  have L46 := hid (L42.out.mono hb (Nat.le_refl _))
  clear L42
  have L47 := hid (L43.out.mono hb (Nat.le_refl _))
  clear L43
  have L48 := hid (L44.out.mono hb (Nat.le_refl _))
  clear L44
  have L49 := hid (L45.out.mono hb (Nat.le_refl _))
  clear L45
  have HB16 : Hid (Below w.heap.size w w16) := HB15.out.trans (hb.mono HB15.out.size)
  clear hb
  clear L48
  clear L49
  rw [le_most_right HN.out]
  go_wp2_with fail
  refine (own_any _ _ za (ha.mono HB16.out (Nat.le_refl _)) hla).mono ?_
  rintro e w17 ⟨v17, rfl, hv, hb⟩
  have L50 := hid (L46.out.mono hb (Nat.le_refl _))
  clear L46
  have L51 := hid (L47.out.mono hb (Nat.le_refl _))
  clear L47
  have HB17 : Hid (Below w.heap.size w w17) := HB16.out.trans (hb.mono HB16.out.size)
  have L52 := hid hv
  clear hv hb
  go_wp2_with fail
  refine (own_any _ _ zc (hc.mono HB17.out (Nat.le_refl _)) hlc).mono ?_
  rintro e w18 ⟨v18, rfl, hv, hb⟩
  have L53 := hid (L50.out.mono hb (Nat.le_refl _))
  clear L50
  have L54 := hid (L51.out.mono hb (Nat.le_refl _))
  clear L51
  have L55 := hid (L52.out.mono hb (Nat.le_refl _))
  clear L52
  have HB18 : Hid (Below w.heap.size w w18) := HB17.out.trans (hb.mono HB17.out.size)
  have L56 := hid hv
  clear hv hb
  go_wp2_with fail
  refine (Within_ok A _ (hE.below HB18.out h3) _ _ za zc L55.out L56.out H00.out).mono ?_
  rintro e w19 ⟨rfl, q, hq⟩
  have hb : Below w18.heap.size w18 w19 := by rw [hq]; exact below_draws (Below.refl _ _) q
  clear hq
  have L57 := hid (L53.out.mono hb (Nat.le_refl _))
  clear L53
  have L58 := hid (L54.out.mono hb (Nat.le_refl _))
  clear L54
  have L59 := hid (L55.out.mono hb (Nat.le_refl _))
  clear L55
  have L60 := hid (L56.out.mono hb (Nat.le_refl _))
  clear L56
  have HB19 : Hid (Below w.heap.size w w19) := HB18.out.trans (hb.mono HB18.out.size)
  clear hb
  clear L59
  clear L60
  go_wp2_with fail
  refine (own_any _ _ zb (hb0.mono HB19.out (Nat.le_refl _)) hlb).mono ?_
  rintro e w20 ⟨v20, rfl, hv, hb⟩
  have L61 := hid (L57.out.mono hb (Nat.le_refl _))
  clear L57
  have L62 := hid (L58.out.mono hb (Nat.le_refl _))
  clear L58
  have HB20 : Hid (Below w.heap.size w w20) := HB19.out.trans (hb.mono HB19.out.size)
  have L63 := hid hv
  clear hv hb
  go_wp2_with fail
  refine (own_any _ _ zc (hc.mono HB20.out (Nat.le_refl _)) hlc).mono ?_
  rintro e w21 ⟨v21, rfl, hv, hb⟩
  have L64 := hid (L61.out.mono hb (Nat.le_refl _))
  clear L61
  have L65 := hid (L62.out.mono hb (Nat.le_refl _))
  clear L62
  have L66 := hid (L63.out.mono hb (Nat.le_refl _))
  clear L63
  have HB21 : Hid (Below w.heap.size w w21) := HB20.out.trans (hb.mono HB20.out.size)
  have L67 := hid hv
  clear hv hb
  go_wp2_with fail
  refine (Within_ok A _ (hE.below HB21.out h3) _ _ zb zc L66.out L67.out TBC.out).mono ?_
  rintro e w22 ⟨rfl, q, hq⟩
  have hb : Below w21.heap.size w21 w22 := by rw [hq]; exact below_draws (Below.refl _ _) q
  clear hq
  have L68 := hid (L64.out.mono hb (Nat.le_refl _))
  clear L64
  have L69 := hid (L65.out.mono hb (Nat.le_refl _))
  clear L65
  have L70 := hid (L66.out.mono hb (Nat.le_refl _))
  clear L66
  have L71 := hid (L67.out.mono hb (Nat.le_refl _))
  clear L67
  have HB22 : Hid (Below w.heap.size w w22) := HB21.out.trans (hb.mono HB21.out.size)
  clear hb
  clear L70
  clear L71
  go_wp2_with fail
  refine (own_any _ _ (comb mxI za zb) L68.out hlm).mono ?_
  rintro e w23 ⟨v23, rfl, hv, hb⟩
  have L72 := hid (L68.out.mono hb (Nat.le_refl _))
  clear L68
  have L73 := hid (L69.out.mono hb (Nat.le_refl _))
  clear L69
  have HB23 : Hid (Below w.heap.size w w23) := HB22.out.trans (hb.mono HB22.out.size)
  have L74 := hid hv
  clear hv hb
  go_wp2_with fail
  refine (own_any _ _ zc (hc.mono HB23.out (Nat.le_refl _)) hlc).mono ?_
  rintro e w24 ⟨v24, rfl, hv, hb⟩
  have L75 := hid (L72.out.mono hb (Nat.le_refl _))
  clear L72
  have L76 := hid (L73.out.mono hb (Nat.le_refl _))
  clear L73
  have L77 := hid (L74.out.mono hb (Nat.le_refl _))
  clear L74
  have HB24 : Hid (Below w.heap.size w w24) := HB23.out.trans (hb.mono HB23.out.size)
  have L78 := hid hv
  clear hv hb
  go_wp2_with fail
  refine (Within_ok A _ (hE.below HB24.out h3) _ _ (comb mxI za zb) zc L77.out L78.out TMC.out).mono ?_
  rintro e w25 ⟨rfl, q, hq⟩
  have hb : Below w24.heap.size w24 w25 := by rw [hq]; exact below_draws (Below.refl _ _) q
  clear hq
  have L79 := hid (L75.out.mono hb (Nat.le_refl _))
  clear L75
  have L80 := hid (L76.out.mono hb (Nat.le_refl _))
  clear L76
  have L81 := hid (L77.out.mono hb (Nat.le_refl _))
  clear L77
  have L82 := hid (L78.out.mono hb (Nat.le_refl _))
  clear L78
  have HB25 : Hid (Below w.heap.size w w25) := HB24.out.trans (hb.mono HB24.out.size)
  clear hb
  clear L81
  clear L82
  rw [← HR.out]
  generalize leB za zc = p
  generalize leB zb zc = q
  clear HR
  cases p <;> cases q
  all_goals
    go_wp2_with fail
    refine (own_any _ _ za (ha.mono HB25.out (Nat.le_refl _)) hla).mono ?_
    rintro e w26 ⟨v26, rfl, hv, hb⟩
    have L83 := hid (L79.out.mono hb (Nat.le_refl _))
    clear L79
    have L84 := hid (L80.out.mono hb (Nat.le_refl _))
    clear L80
    have HB26 : Hid (Below w.heap.size w w26) := HB25.out.trans (hb.mono HB25.out.size)
    have L85 := hid hv
    clear hv hb
    go_wp2_with fail
    refine (own_any _ _ (comb mnI za zb) L84.out hll).mono ?_
    rintro e w27 ⟨v27, rfl, hv, hb⟩
    have L86 := hid (L83.out.mono hb (Nat.le_refl _))
    clear L83
    have L87 := hid (L84.out.mono hb (Nat.le_refl _))
    clear L84
    have L88 := hid (L85.out.mono hb (Nat.le_refl _))
    clear L85
    have HB27 : Hid (Below w.heap.size w w27) := HB26.out.trans (hb.mono HB26.out.size)
    have L89 := hid hv
    clear hv hb
    go_wp2_with fail
    refine (Most_ok A _ (hE.below HB27.out h3) _ _ za _ L88.out L89.out TAL.out).mono ?_
    rintro e w28 ⟨r28, rfl, hv, hb⟩
    have L90 := hid (L86.out.mono hb (Nat.le_refl _))
    clear L86
    have L91 := hid (L87.out.mono hb (Nat.le_refl _))
    clear L87
    have L92 := hid (L88.out.mono hb (Nat.le_refl _))
    clear L88
    have L93 := hid (L89.out.mono hb (Nat.le_refl _))
    clear L89
    have HB28 : Hid (Below w.heap.size w w28) := HB27.out.trans (hb.mono HB27.out.size)
    have L94 := hid hv
    clear hv hb
    clear L92
    clear L93
    rw [most_least] at L94
    clear L91
    go_wp2_with fail
    refine (own_any _ _ za (ha.mono HB28.out (Nat.le_refl _)) hla).mono ?_
    rintro e w29 ⟨v29, rfl, hv, hb⟩
    have L95 := hid (L90.out.mono hb (Nat.le_refl _))
    clear L90
    have L96 := hid (L94.out.mono hb (Nat.le_refl _))
    clear L94
    have HB29 : Hid (Below w.heap.size w w29) := HB28.out.trans (hb.mono HB28.out.size)
    have L97 := hid hv
    clear hv hb
    go_wp2_with fail
    refine (own_any _ _ (comb mxI za zb) L95.out hlm).mono ?_
    rintro e w30 ⟨v30, rfl, hv, hb⟩
    have L98 := hid (L95.out.mono hb (Nat.le_refl _))
    clear L95
    have L99 := hid (L96.out.mono hb (Nat.le_refl _))
    clear L96
    have L100 := hid (L97.out.mono hb (Nat.le_refl _))
    clear L97
    have HB30 : Hid (Below w.heap.size w w30) := HB29.out.trans (hb.mono HB29.out.size)
    have L101 := hid hv
    clear hv hb
    go_wp2_with fail
    refine (Least_ok A _ (hE.below HB30.out h3) _ _ za _ L100.out L101.out TAM.out).mono ?_
    rintro e w31 ⟨r31, rfl, hv, hb⟩
    have L102 := hid (L98.out.mono hb (Nat.le_refl _))
    clear L98
    have L103 := hid (L99.out.mono hb (Nat.le_refl _))
    clear L99
    have L104 := hid (L100.out.mono hb (Nat.le_refl _))
    clear L100
    have L105 := hid (L101.out.mono hb (Nat.le_refl _))
    clear L101
    have HB31 : Hid (Below w.heap.size w w31) := HB30.out.trans (hb.mono HB30.out.size)
    have L106 := hid hv
    clear hv hb
    clear L104
    clear L105
    rw [least_most] at L106
    clear L102
    go_wp2_with fail
    refine (sameInts _ _ _ za za L103.out (ha.mono HB31.out (Nat.le_refl _)) hla).mono ?_
    rintro e w32 ⟨rfl, q, hq⟩
    have hb : Below w31.heap.size w31 w32 := by rw [hq]; exact below_draws (Below.refl _ _) q
    clear hq
    have L107 := hid (L103.out.mono hb (Nat.le_refl _))
    clear L103
    have L108 := hid (L106.out.mono hb (Nat.le_refl _))
    clear L106
    have HB32 : Hid (Below w.heap.size w w32) := HB31.out.trans (hb.mono HB31.out.size)
    clear hb
    clear L107
    rw [show decide (za = za) = true from decide_eq_true rfl]
    go_wp2_with fail
    refine (sameInts _ _ _ za za L108.out (ha.mono HB32.out (Nat.le_refl _)) hla).mono ?_
    rintro e w33 ⟨rfl, q, hq⟩
    have hb : Below w32.heap.size w32 w33 := by rw [hq]; exact below_draws (Below.refl _ _) q
    clear hq
    have L109 := hid (L108.out.mono hb (Nat.le_refl _))
    clear L108
    have HB33 : Hid (Below w.heap.size w w33) := HB32.out.trans (hb.mono HB32.out.size)
    clear hb
    clear L109
    rw [show decide (za = za) = true from decide_eq_true rfl]
    go_wp2
    go_ret
    exact ⟨rfl, HB33.out⟩


/-- VectorLaws: any three slices. -/
theorem laws_any (A : Nat → Addr) (w : World) (hE : E2 A w) (v u x : Value) (za zb zc : List Int) (ha : IntsAt w v za) (hb : IntsAt w u zb) (hc : IntsAt w x zc) :
    Calls Tryd.prog 5 #[v, u, x] w fun e w' => e = .returned (.bool true) ∧ Below w.heap.size w w' := by
  by_cases h : 20 < za.length ∨ 20 < zb.length ∨ 20 < zc.length
  · exact laws_long A w hE v u x za zb zc ha hb hc h
  · by_cases h0 : two za zb = 0
    · by_cases h00 : two za zc = 0
      · exact laws_ok A w hE v u x za zb zc ha hb hc (by omega) (by omega) (by omega) h0 h00
      · exact laws_okbad A w hE v u x za zb zc ha hb hc (by omega) (by omega) (by omega) h0 h00
    · by_cases h00 : two za zc = 0
      · exact laws_badok A w hE v u x za zb zc ha hb hc (by omega) (by omega) (by omega) h0 h00
      · exact laws_bad A w hE v u x za zb zc ha hb hc (by omega) (by omega) (by omega) h0 h00
end Go.Proofs.YtfechdagacmliaaDoor
