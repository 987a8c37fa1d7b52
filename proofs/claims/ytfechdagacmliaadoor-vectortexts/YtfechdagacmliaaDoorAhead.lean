/- vector.Ahead by its contracts. -/
import Derived.Test.YtfechdagacmliaaDoorSum
import Derived.Test.YtfechdagacmliaaDoorComb
namespace Go.Proofs.YtfechdagacmliaaDoor
open Go.RowKit

theorem hasPlace_yes (w : World) (ad : Option Addr) (n c : Nat) (p : Int) (h1 : 0 ≤ p) (h2 : p < n) :
    Calls Tryd.prog 40 #[.slice ad n c, .int .i64 p] w fun e w' => e = .returned (.bool true) ∧ w' = w := by
  have hb : decide (0 ≤ p) = true := decide_eq_true h1
  have hb2 : decide (p < (n : Int)) = true := decide_eq_true h2
  go_enter Tryd.func40, Tryd.ntmps40
  go_wp2
  go_ret
  exact ⟨rfl, rfl⟩
theorem hasPlace_no (w : World) (ad : Option Addr) (n c : Nat) (p : Int) (h : ¬ (0 ≤ p ∧ p < n)) :
    Calls Tryd.prog 40 #[.slice ad n c, .int .i64 p] w fun e w' => e = .returned (.bool false) ∧ w' = w := by
  by_cases h1 : 0 ≤ p
  · have hb : decide (0 ≤ p) = true := decide_eq_true h1
    have hb2 : decide (p < (n : Int)) = false := decide_eq_false (fun h2 => h ⟨h1, h2⟩)
    clear h
    go_enter Tryd.func40, Tryd.ntmps40
    go_wp2
    go_ret
    exact ⟨rfl, rfl⟩
  · have hb : decide (0 ≤ p) = false := decide_eq_false h1
    clear h
    go_enter Tryd.func40, Tryd.ntmps40
    go_wp2
    go_ret
    exact ⟨rfl, rfl⟩

set_option maxHeartbeats 1000000 in
theorem Ahead_bad (A : Nat → Addr) (w : World) (hE : E2 A w) (v u : Value) (p q : Int) (zs ys : List Int) (h1 : IntsAt w v zs) (h2 : IntsAt w u ys) (hl1 : zs.length ≤ 1000000) (hl2 : ys.length ≤ 1000000) (h0 : two zs ys ≠ 0) :
    Calls Tryd.prog 26 #[v, .int .i64 p, u, .int .i64 q] w fun e w' => e = .returned (.tuple #[.bool false, .iface 60 (.pointer (some (A ((two zs ys).toNat - 1))))]) ∧ w' = w := by
  have K1 := hid (checkPair_bad A w hE v u zs ys h1 h2 hl1 hl2 h0)
  clear h0
  go_enter Tryd.func26, Tryd.ntmps26
  go_wp2_with fail
  refine K1.out.mono ?_
  rintro e w' ⟨rfl, rfl⟩
  go_wp2
  go_ret2
  exact ⟨rfl, rfl⟩

set_option maxHeartbeats 2000000 in
theorem Ahead_none (A : Nat → Addr) (w : World) (hE : E2 A w) (v u : Value) (p q : Int) (zs ys : List Int) (h1 : IntsAt w v zs) (h2 : IntsAt w u ys) (h0 : two zs ys = 0) (hp : ¬ (0 ≤ p ∧ p < zs.length ∧ 0 ≤ q ∧ q < zs.length)) :
    Calls Tryd.prog 26 #[v, .int .i64 p, u, .int .i64 q] w fun e w' => e = .returned (.tuple #[.bool false, .iface 60 (.pointer (some (A 1)))]) ∧ ∃ k, w' = w.drewN k := by
  obtain ⟨hz, hy, hn⟩ := two_zero.1 h0
  have K1 := hid (checkPair_ok A w hE v u zs ys h1 h2 h0)
  obtain ⟨a1, c1, rfl⟩ := h1.slice
  obtain ⟨a2, c2, rfl⟩ := h2.slice
  have g1 := hE.bound
  by_cases hp1 : 0 ≤ p ∧ p < zs.length
  · have K2 := hid (hasPlace_yes w a1 zs.length c1 p hp1.1 hp1.2)
    have K3 := hid (hasPlace_no w a2 ys.length c2 q (fun h => hp ⟨hp1.1, hp1.2, h.1, by omega⟩))
    clear h0 hz hy hn hp hp1 h1 h2
    go_enter Tryd.func26, Tryd.ntmps26
    go_wp2_with fail
    refine K1.out.mono ?_
    rintro e w' ⟨rfl, rfl⟩
    go_wp2_with fail
    refine K2.out.mono ?_
    rintro e w' ⟨rfl, rfl⟩
    go_wp2_with fail
    refine K3.out.mono ?_
    rintro e w' ⟨rfl, rfl⟩
    go_wp2
    go_quiet (fail)
    go_wp2
    go_ret2
    exact ⟨rfl, _, rfl⟩
  · have K2 := hid (hasPlace_no w a1 zs.length c1 p hp1)
    clear h0 hz hy hn hp hp1 h1 h2
    go_enter Tryd.func26, Tryd.ntmps26
    go_wp2_with fail
    refine K1.out.mono ?_
    rintro e w' ⟨rfl, rfl⟩
    go_wp2_with fail
    refine K2.out.mono ?_
    rintro e w' ⟨rfl, rfl⟩
    go_wp2
    go_quiet (fail)
    go_wp2
    go_ret2
    exact ⟨rfl, _, rfl⟩

def aheadB (zs ys : List Int) (p q : Int) : Bool := decide (sum zs < sum ys) || (decide (sum zs = sum ys) && decide (p < q)) || (decide (sum zs = sum ys) && decide (p = q) && decide (zs.getD p.toNat 0 < ys.getD p.toNat 0))

set_option maxHeartbeats 4000000 in
theorem Ahead_ok (A : Nat → Addr) (w : World) (hE : E2 A w) (v u : Value) (p q : Int) (zs ys : List Int) (h1 : IntsAt w v zs) (h2 : IntsAt w u ys) (h0 : two zs ys = 0) (hp : 0 ≤ p ∧ p < zs.length ∧ 0 ≤ q ∧ q < zs.length) :
    Calls Tryd.prog 26 #[v, .int .i64 p, u, .int .i64 q] w fun e w' => e = .returned (.tuple #[.bool (aheadB zs ys p q), .nilIface]) ∧ ∃ k, w' = w.drewN k := by
  obtain ⟨hz, hy, hn⟩ := two_zero.1 h0
  have hz' := chk_zero.1 hz
  have K1 := hid (checkPair_ok A w hE v u zs ys h1 h2 h0)
  have K4 := hid (weigh_any w v zs h1 hz)
  have K5 := hid (weigh_any w u ys h2 hy)
  obtain ⟨b1, o1, c1, rfl, g1⟩ := h1.some hz'.1
  obtain ⟨b2, o2, c2, rfl, g2⟩ := h2.some (by omega)
  have K2 := hid (hasPlace_yes w (some ⟨b1, o1, none⟩) zs.length c1 p hp.1 hp.2.1)
  have K3 := hid (hasPlace_yes w (some ⟨b2, o2, none⟩) ys.length c2 q hp.2.2.1 (by omega))
  obtain ⟨pn, rfl⟩ := Int.eq_ofNat_of_zero_le hp.1
  have e1 := g1 pn (by omega)
  have e2 := g2 pn (by omega)
  have hi1 : (pn : Int) < (zs.length : Int) := by omega
  have hi2 : (pn : Int) < (ys.length : Int) := by omega
  have hpn : pn < zs.length := by omega
  have hpn2 : pn < ys.length := by omega
  obtain ⟨r, hr⟩ : ∃ r, r = aheadB zs ys pn q := ⟨_, rfl⟩
  rw [← hr]
  unfold aheadB at hr
  rw [Int.toNat_natCast] at hr
  obtain ⟨x, hx⟩ : ∃ x, x = zs.getD pn 0 := ⟨_, rfl⟩
  obtain ⟨y, hyy⟩ : ∃ y, y = ys.getD pn 0 := ⟨_, rfl⟩
  obtain ⟨n1, hn1⟩ : ∃ k, k = zs.length := ⟨_, rfl⟩
  obtain ⟨n2, hn2⟩ : ∃ k, k = ys.length := ⟨_, rfl⟩
  rw [← hx] at e1 hr
  rw [← hyy] at e2 hr
  rw [← hn1] at hi1 hpn K1 K2 K4 ⊢
  rw [← hn2] at hi2 hpn2 K1 K3 K5 ⊢
  generalize sum zs = s1 at hr K4
  generalize sum ys = s2 at hr K5
  clear h0 hz hy hn hz' h1 h2 g1 g2 hx hyy hn1 hn2 hp
  by_cases hs : s1 = s2
  · have hsb : (s1 != s2) = false := by rw [hs]; simp
    by_cases hq : (pn : Int) = q
    · have hqb : ((pn : Int) != q) = false := by rw [hq]; simp
      have HR : Hid (r = decide (x < y)) := by show r = _; rw [hr, hs, hq]; simp
      clear hr hs hq
      go_enter Tryd.func26, Tryd.ntmps26
      go_wp2_with fail
      refine K1.out.mono ?_
      rintro e w' ⟨rfl, rfl⟩
      go_wp2_with fail
      refine K2.out.mono ?_
      rintro e w' ⟨rfl, rfl⟩
      go_wp2_with fail
      refine K3.out.mono ?_
      rintro e w' ⟨rfl, rfl⟩
      go_wp2_with fail
      refine K4.out.mono ?_
      rintro e w' ⟨rfl, rfl⟩
      go_wp2_with fail
      refine K5.out.mono ?_
      rintro e w' ⟨rfl, rfl⟩
      go_wp2
      go_quiet (fail)
      go_wp2
      go_ret2
      exact ⟨by rw [HR.out]; rfl, _, rfl⟩
    · have hqb : ((pn : Int) != q) = true := by rw [bne_iff_ne]; exact hq
      have HR : Hid (r = decide ((pn : Int) < q)) := by show r = _; rw [hr, hs]; simp [hq]
      clear hr hs hq
      go_enter Tryd.func26, Tryd.ntmps26
      go_wp2_with fail
      refine K1.out.mono ?_
      rintro e w' ⟨rfl, rfl⟩
      go_wp2_with fail
      refine K2.out.mono ?_
      rintro e w' ⟨rfl, rfl⟩
      go_wp2_with fail
      refine K3.out.mono ?_
      rintro e w' ⟨rfl, rfl⟩
      go_wp2_with fail
      refine K4.out.mono ?_
      rintro e w' ⟨rfl, rfl⟩
      go_wp2_with fail
      refine K5.out.mono ?_
      rintro e w' ⟨rfl, rfl⟩
      go_wp2
      go_ret2
      exact ⟨by rw [HR.out]; rfl, 0, rfl⟩
  · have hsb : (s1 != s2) = true := by rw [bne_iff_ne]; exact hs
    have HR : Hid (r = decide (s1 < s2)) := by show r = _; rw [hr]; simp [hs]
    clear hr hs
    go_enter Tryd.func26, Tryd.ntmps26
    go_wp2_with fail
    refine K1.out.mono ?_
    rintro e w' ⟨rfl, rfl⟩
    go_wp2_with fail
    refine K2.out.mono ?_
    rintro e w' ⟨rfl, rfl⟩
    go_wp2_with fail
    refine K3.out.mono ?_
    rintro e w' ⟨rfl, rfl⟩
    go_wp2_with fail
    refine K4.out.mono ?_
    rintro e w' ⟨rfl, rfl⟩
    go_wp2_with fail
    refine K5.out.mono ?_
    rintro e w' ⟨rfl, rfl⟩
    go_wp2
    go_ret2
    exact ⟨by rw [HR.out]; rfl, 0, rfl⟩
end Go.Proofs.YtfechdagacmliaaDoor
