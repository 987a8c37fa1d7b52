/- causewaylaw1.VectorAhead answers true: two vectors of one length, two places. -/
import Derived.Test.YtfechdagacmliaaDoorAheadWalk1
namespace Go.Proofs.YtfechdagacmliaaDoor
open Go.RowKit
set_option maxRecDepth 100000

set_option maxHeartbeats 16000000 in
theorem ahead_c4 (A : Nat → Addr) (w : World) (hS : Sents A w.heap.size w) (b1 o1 c1 b2 o2 c2 n pn : Nat) (q : Int) (za zb : List Int) (hza : za.length = n) (hzb : zb.length = n) (h6 : n ≤ 6) (h0 : two za zb = 0)
    (g1 : ∀ t, t < n → w.cell? ⟨b1, o1 + t, none⟩ = some (.int .i64 (za.getD t 0))) (g2 : ∀ t, t < n → w.cell? ⟨b2, o2 + t, none⟩ = some (.int .i64 (zb.getD t 0)))
    (hpn : pn < n) (hq0 : 0 ≤ q) (hqn : q < n) (hs : sum za = sum zb) (hpq : q < (pn : Int)) :
    Calls Tryd.prog 6 #[.slice (some ⟨b1, o1, none⟩) n c1, .int .i64 pn, .slice (some ⟨b2, o2, none⟩) n c2, .int .i64 q] w fun e w' => e = .returned (.bool true) ∧ Below w.heap.size w w' := by
  have hE := hS.e2
  have h3 : 3 ≤ w.heap.size := lt_of_cell hE.shape
  have HB0 : Hid (Below w.heap.size w w) := Below.refl _ _
  have ha : IntsAt w (.slice (some ⟨b1, o1, none⟩) n c1) za := ⟨_, c1, by rw [hza], (fun h => by cases h), .inr ⟨b1, o1, rfl, by rw [hza]; exact g1⟩⟩
  have hb0 : IntsAt w (.slice (some ⟨b2, o2, none⟩) n c2) zb := ⟨_, c2, by rw [hzb], (fun h => by cases h), .inr ⟨b2, o2, rfl, by rw [hzb]; exact g2⟩⟩
  have hla : za.length ≤ 1000000 := by omega
  have hlb : zb.length ≤ 1000000 := by omega
  have H0 := hid h0
  obtain ⟨hz, hy, hn⟩ := two_zero.1 h0
  have H0' := hid (two_mk hy hz hn.symm)
  have HK := hid hz
  have HY := hid hy
  have HN := hid hn
  have HZ1 := hid (chk_zero.1 hz)
  have HP : Hid (0 ≤ (pn : Int) ∧ (pn : Int) < za.length ∧ 0 ≤ q ∧ q < za.length) := ⟨by omega, by omega, hq0, by omega⟩
  have HP' : Hid (0 ≤ q ∧ q < zb.length ∧ 0 ≤ (pn : Int) ∧ (pn : Int) < zb.length) := ⟨hq0, by omega, by omega, by omega⟩
  have e1 := g1 pn hpn
  have e2 := g2 pn hpn
  have I : Hid (aheadB za zb pn q = false) := by
    show aheadB za zb pn q = false
    simp [aheadB, hs]; omega
  have J : Hid (aheadB zb za q pn = true) := by
    show aheadB zb za q pn = true
    simp [aheadB, hs, hpq]
  obtain ⟨s1, es1⟩ : ∃ s, s = sum za := ⟨_, rfl⟩
  obtain ⟨s2, es2⟩ : ∃ s, s = sum zb := ⟨_, rfl⟩
  obtain ⟨x, ex⟩ : ∃ s, s = za.getD pn 0 := ⟨_, rfl⟩
  obtain ⟨y, ey⟩ : ∃ s, s = zb.getD pn 0 := ⟨_, rfl⟩
  rw [← ex] at e1
  rw [← ey] at e2
  have LE : Hid (leB za zb = true → za = zb) := by
    show leB za zb = true → za = zb
    intro h
    have := sum_le hn h; exact sum_same hn h (by omega)
  rw [← es1, ← es2] at hs
  have d1 : decide (s1 < s2) = false := decide_eq_false (by omega)
  have d2 : (s1 == s2) = true := beq_iff_eq.2 (by omega)
  have d3 : decide ((pn : Int) < q) = false := decide_eq_false (by omega)
  have d4 : ((pn : Int) == q) = false := beq_eq_false_iff_ne.2 (by omega)
  have E1 := hid es1
  have E2 := hid es2
  have H1 := hid e1
  have H2 := hid e2
  have hpi : (pn : Int) < (n : Int) := by omega
  clear es1 es2 ex ey hs h0 hz hy hn g1 g2 hza hzb e1 e2
  clear hpq
  go_enter Tryd.func6, Tryd.ntmps6
  go_wp2_with fail
  refine (timed_any A _ hE).mono ?_
  rintro e w1 ⟨rfl, hb⟩
  have HB1 : Hid (Below w.heap.size w w1) := HB0.out.trans (hb.mono HB0.out.size)
  clear hb
  go_wp2_with fail
  refine (own_any _ _ za (ha.mono HB1.out (Nat.le_refl _)) hla).mono ?_
  rintro e w2 ⟨v2, rfl, hv, hb⟩
  have HB2 : Hid (Below w.heap.size w w2) := HB1.out.trans (hb.mono HB1.out.size)
  have L1 := hid hv
  clear hv hb
  go_wp2_with fail
  refine (Weight_ok A _ (hE.below HB2.out h3) _ za L1.out HK.out).mono ?_
  rintro e wx ⟨rfl, hw⟩
  rw [hw]
  clear hw wx
  clear L1
  rw [← E1.out]
  go_wp2_with fail
  refine (own_any _ _ za (ha.mono HB2.out (Nat.le_refl _)) hla).mono ?_
  rintro e w3 ⟨v3, rfl, hv, hb⟩
  have HB3 : Hid (Below w.heap.size w w3) := HB2.out.trans (hb.mono HB2.out.size)
  have L2 := hid hv
  clear hv hb
  go_wp2_with fail
  refine (own_any _ _ zb (hb0.mono HB3.out (Nat.le_refl _)) hlb).mono ?_
  rintro e w4 ⟨v4, rfl, hv, hb⟩
  have L3 := hid (L2.out.mono hb (Nat.le_refl _))
  clear L2
  have HB4 : Hid (Below w.heap.size w w4) := HB3.out.trans (hb.mono HB3.out.size)
  have L4 := hid hv
  clear hv hb
  go_wp2_with fail
  refine (Ahead_ok A _ (hE.below HB4.out h3) _ _ pn q za zb L3.out L4.out H0.out HP.out).mono ?_
  rintro e w5 ⟨rfl, dq, hq⟩
  have hb : Below w4.heap.size w4 w5 := by rw [hq]; exact below_draws (Below.refl _ _) dq
  clear hq
  have L5 := hid (L3.out.mono hb (Nat.le_refl _))
  clear L3
  have L6 := hid (L4.out.mono hb (Nat.le_refl _))
  clear L4
  have HB5 : Hid (Below w.heap.size w w5) := HB4.out.trans (hb.mono HB4.out.size)
  clear hb
  clear L5
  clear L6
  rw [I.out]
  go_wp2_with fail
  refine (vectorError _ _ za (ha.mono HB5.out (Nat.le_refl _)) hla).mono ?_
  rintro e wx ⟨rfl, hw⟩
  rw [hw]
  clear hw wx
  rw [HK.out]
  go_wp2_with fail
  refine (refWeight_any _ _ za (ha.mono HB5.out (Nat.le_refl _)) HK.out).mono ?_
  rintro e wx ⟨rfl, hw⟩
  rw [hw]
  clear hw wx
  rw [← E1.out]
  go_wp2_with fail
  refine (twoError _ _ _ za zb (ha.mono HB5.out (Nat.le_refl _)) (hb0.mono HB5.out (Nat.le_refl _)) hla hlb).mono ?_
  rintro e wx ⟨rfl, hw⟩
  rw [hw]
  clear hw wx
  rw [H0.out]
  go_wp2_with fail
  refine (refWeight_any _ _ za (ha.mono HB5.out (Nat.le_refl _)) HK.out).mono ?_
  rintro e wx ⟨rfl, hw⟩
  rw [hw]
  clear hw wx
  rw [← E1.out]
  go_wp2_with fail
  refine (refWeight_any _ _ zb (hb0.mono HB5.out (Nat.le_refl _)) HY.out).mono ?_
  rintro e wx ⟨rfl, hw⟩
  rw [hw]
  clear hw wx
  rw [← E2.out]
  have m11 : w5.cell? ⟨b1, o1 + pn, none⟩ = some (.int .i64 x) := by rw [HB5.out.cell (p := ⟨b1, o1 + pn, none⟩) (lt_of_cell H1.out)]; exact H1.out
  have m12 : w5.cell? ⟨b2, o2 + pn, none⟩ = some (.int .i64 y) := by rw [HB5.out.cell (p := ⟨b2, o2 + pn, none⟩) (lt_of_cell H2.out)]; exact H2.out
  go_wp2
  go_quiet (fail)
  have HB6 : Hid (Below w.heap.size w (w5.drewN nq)) := below_draws HB5.out nq
  clear m11 m12
  go_wp2_with fail
  refine (own_any _ _ zb (hb0.mono HB6.out (Nat.le_refl _)) hlb).mono ?_
  rintro e w7 ⟨v7, rfl, hv, hb⟩
  have HB7 : Hid (Below w.heap.size w w7) := HB6.out.trans (hb.mono HB6.out.size)
  have L7 := hid hv
  clear hv hb
  go_wp2_with fail
  refine (own_any _ _ za (ha.mono HB7.out (Nat.le_refl _)) hla).mono ?_
  rintro e w8 ⟨v8, rfl, hv, hb⟩
  have L8 := hid (L7.out.mono hb (Nat.le_refl _))
  clear L7
  have HB8 : Hid (Below w.heap.size w w8) := HB7.out.trans (hb.mono HB7.out.size)
  have L9 := hid hv
  clear hv hb
  go_wp2_with fail
  refine (Ahead_ok A _ (hE.below HB8.out h3) _ _ q pn zb za L8.out L9.out H0'.out HP'.out).mono ?_
  rintro e w9 ⟨rfl, dq, hq⟩
  have hb : Below w8.heap.size w8 w9 := by rw [hq]; exact below_draws (Below.refl _ _) dq
  clear hq
  have L10 := hid (L8.out.mono hb (Nat.le_refl _))
  clear L8
  have L11 := hid (L9.out.mono hb (Nat.le_refl _))
  clear L9
  have HB9 : Hid (Below w.heap.size w w9) := HB8.out.trans (hb.mono HB8.out.size)
  clear hb
  clear L10
  clear L11
  rw [J.out]
  go_wp2_with fail
  refine (in_any _ _ _ za zb (ha.mono HB9.out (Nat.le_refl _)) (hb0.mono HB9.out (Nat.le_refl _)) HN.out HZ1.out.1 hla).mono ?_
  rintro e w10 ⟨rfl, dq, hq⟩
  have hb : Below w9.heap.size w9 w10 := by rw [hq]; exact below_draws (Below.refl _ _) dq
  clear hq
  have HB10 : Hid (Below w.heap.size w w10) := HB9.out.trans (hb.mono HB9.out.size)
  clear hb
  by_cases hle : leB za zb = true
  · rw [hle]
    have HLE := hid (LE.out hle)
    clear hle
    go_wp2_with fail
    refine (sameInts _ _ _ za zb (ha.mono HB10.out (Nat.le_refl _)) (hb0.mono HB10.out (Nat.le_refl _)) hla).mono ?_
    rintro e w11 ⟨rfl, dq, hq⟩
    have hb : Below w10.heap.size w10 w11 := by rw [hq]; exact below_draws (Below.refl _ _) dq
    clear hq
    have HB11 : Hid (Below w.heap.size w w11) := HB10.out.trans (hb.mono HB10.out.size)
    clear hb
    rw [show decide (za = zb) = true from decide_eq_true HLE.out]
    have m21 : w11.cell? ⟨b1, o1 + pn, none⟩ = some (.int .i64 x) := by rw [HB11.out.cell (p := ⟨b1, o1 + pn, none⟩) (lt_of_cell H1.out)]; exact H1.out
    have m22 : w11.cell? ⟨b2, o2 + pn, none⟩ = some (.int .i64 y) := by rw [HB11.out.cell (p := ⟨b2, o2 + pn, none⟩) (lt_of_cell H2.out)]; exact H2.out
    go_wp2
    go_quiet (fail)
    go_wp2
    go_ret
    exact ⟨rfl, below_draws HB11.out _⟩
  · rw [show leB za zb = false by simpa using hle]
    clear hle
    have m21 : w10.cell? ⟨b1, o1 + pn, none⟩ = some (.int .i64 x) := by rw [HB10.out.cell (p := ⟨b1, o1 + pn, none⟩) (lt_of_cell H1.out)]; exact H1.out
    have m22 : w10.cell? ⟨b2, o2 + pn, none⟩ = some (.int .i64 y) := by rw [HB10.out.cell (p := ⟨b2, o2 + pn, none⟩) (lt_of_cell H2.out)]; exact H2.out
    go_wp2
    go_quiet (fail)
    go_wp2
    go_ret
    exact ⟨rfl, below_draws HB10.out _⟩


end Go.Proofs.YtfechdagacmliaaDoor
