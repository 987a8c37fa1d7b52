/- vector.checkPair and Within by their contracts. -/
import Derived.Test.YtdnebclemngdcaaGreatDoorFVSum
namespace Go.Proofs.YtdnebclemngdcaaGreatDoor
open Go.RowKit

theorem ret_errW {a b : Addr} (h : a = b) : Ending.returned (.iface 255 (.pointer (some a))) = .returned (.iface 255 (.pointer (some b))) := by rw [h]

theorem IntsAt.slice {w : World} {v : Value} {zs : List Int} (h : IntsAt w v zs) : ∃ ad c, v = .slice ad zs.length c := by
  obtain ⟨ad, c, rfl, _⟩ := h
  exact ⟨ad, c, rfl⟩

set_option maxHeartbeats 1000000 in
theorem checkPair_ok (A : Nat → Addr) (w : World) (hE : E4 A w) (v u : Value) (zs ys : List Int) (h1 : IntsAt w v zs) (h2 : IntsAt w u ys) (h0 : two zs ys = 0) :
    Calls Tryz.prog 48 #[v, u] w fun e w' => e = .returned .nilIface ∧ w' = w := by
  obtain ⟨hz, hy, hn⟩ := two_zero.1 h0
  have k1 := check_ok A w hE v zs h1 hz
  have k2 := check_ok A w hE u ys h2 hy
  obtain ⟨a1, c1, rfl⟩ := h1.slice
  obtain ⟨a2, c2, rfl⟩ := h2.slice
  have K1 := hid k1
  have K2 := hid k2
  have hb : ((zs.length : Int) != (ys.length : Int)) = false := by rw [bne_eq_false_iff_eq]; omega
  clear k1 k2 h0 hz hy hn
  go_enter Tryz.func48, Tryz.ntmps48
  go_wp2_with fail
  refine K1.out.mono ?_
  rintro e w' ⟨rfl, rfl⟩
  go_wp2_with fail
  refine K2.out.mono ?_
  rintro e w' ⟨rfl, rfl⟩
  go_wp2
  go_ret
  exact ⟨rfl, rfl⟩

set_option maxHeartbeats 1000000 in
theorem checkPair_bad (A : Nat → Addr) (w : World) (hE : E4 A w) (v u : Value) (zs ys : List Int) (h1 : IntsAt w v zs) (h2 : IntsAt w u ys) (hl1 : zs.length ≤ 1000000) (hl2 : ys.length ≤ 1000000) (h0 : two zs ys ≠ 0) :
    Calls Tryz.prog 48 #[v, u] w fun e w' => e = .returned (.iface 255 (.pointer (some (A ((two zs ys).toNat - 1))))) ∧ w' = w := by
  have g2 := hE.shape
  obtain ⟨m, hm⟩ : ∃ m, m = two zs ys := ⟨_, rfl⟩
  rw [← hm]
  by_cases hz : chk zs = 0
  · have k1 := check_ok A w hE v zs h1 hz
    by_cases hy : chk ys = 0
    · have k2 := check_ok A w hE u ys h2 hy
      obtain ⟨a1, c1, rfl⟩ := h1.slice
      obtain ⟨a2, c2, rfl⟩ := h2.slice
      have hne : zs.length ≠ ys.length := fun e => h0 (two_zero.2 ⟨hz, hy, e⟩)
      have HM : Hid (m = 3) := by rw [hm]; unfold two; rw [if_neg (by simpa using hz), if_neg (by simpa using hy), if_pos hne]; rfl
      have hb : ((zs.length : Int) != (ys.length : Int)) = true := by rw [bne_iff_ne]; omega
      have K1 := hid k1
      have K2 := hid k2
      clear k1 k2 h0 hz hy hm
      go_enter Tryz.func48, Tryz.ntmps48
      go_wp2_with fail
      refine K1.out.mono ?_
      rintro e w' ⟨rfl, rfl⟩
      go_wp2_with fail
      refine K2.out.mono ?_
      rintro e w' ⟨rfl, rfl⟩
      go_wp2
      go_ret
      exact ⟨ret_errW (by rw [HM.out]; rfl), rfl⟩
    · have k2 := check_bad A w hE u ys h2 hl2 hy
      have hmm : m = chk ys := by rw [hm]; unfold two; rw [if_neg (by simpa using hz), if_pos hy]
      rw [← hmm] at k2
      have K1 := hid k1
      have K2 := hid k2
      clear k1 k2 h0 hz hy hm hmm g2
      go_enter Tryz.func48, Tryz.ntmps48
      go_wp2_with fail
      refine K1.out.mono ?_
      rintro e w' ⟨rfl, rfl⟩
      go_wp2_with fail
      refine K2.out.mono ?_
      rintro e w' ⟨rfl, rfl⟩
      go_wp2
      go_ret
      exact ⟨rfl, rfl⟩
  · have k1 := check_bad A w hE v zs h1 hl1 hz
    have hmm : m = chk zs := by rw [hm]; unfold two; rw [if_pos hz]
    rw [← hmm] at k1
    have K1 := hid k1
    clear k1 h0 hz hm hmm g2
    go_enter Tryz.func48, Tryz.ntmps48
    go_wp2_with fail
    refine K1.out.mono ?_
    rintro e w' ⟨rfl, rfl⟩
    go_wp2
    go_ret
    exact ⟨rfl, rfl⟩

/-! ### the reference -/
theorem draws2 {w wr : World} {q n : Nat} (h : wr = w.drewN q) : wr.drewN n = w.drewN (q + n) := by rw [h]; exact World.drewN_drewN _ _ _

theorem le_any (x y : Int) (w : World) : Calls Tryz.prog 80 #[.int .i64 x, .int .i64 y] w fun e w' => e = .returned (.bool (decide (x ≤ y))) ∧ w' = w := by
  go_enter Tryz.func80, Tryz.ntmps80
  go_wp2
  go_ret
  exact ⟨rfl, rfl⟩

set_option maxHeartbeats 1000000 in
theorem within_n (w : World) (b1 o1 c1 b2 o2 c2 n : Nat) (zs ys : List Int) (hz : zs.length = n) (hy : ys.length = n) (hl : n ≤ 1000000)
    (h1 : ∀ t, t < n → w.cell? ⟨b1, o1 + t, none⟩ = some (.int .i64 (zs.getD t 0)))
    (h2 : ∀ t, t < n → w.cell? ⟨b2, o2 + t, none⟩ = some (.int .i64 (ys.getD t 0))) :
    Calls Tryz.prog 49 #[.slice (some ⟨b1, o1, none⟩) n c1, .slice (some ⟨b2, o2, none⟩) n c2] w fun e w' => e = .returned (.bool (leB zs ys)) ∧ ∃ q, w' = w.drewN q := by
  have HZ : Hid (zs.length = n) := hz
  have HY : Hid (ys.length = n) := hy
  have H1 := hid h1
  have H2 := hid h2
  clear hz hy h1 h2
  go_enter Tryz.func49, Tryz.ntmps49
  go_wp2
  go_loopw [10] (fun i wr => ∃ k q : Nat, k ≤ n ∧ i = .int .i64 k ∧ (∀ t, t < k → zs.getD t 0 ≤ ys.getD t 0) ∧ wr = w.drewN q) (fun i _ => n - (intOf i).toNat)
  case atStart => exact ⟨0, 0, Nat.zero_le _, rfl, fun t ht => absurd ht (Nat.not_lt_zero _), rfl⟩
  case round =>
    obtain ⟨k, q, hk, rfl, heq, hq⟩ := hrel
    have HE := hid heq
    have HQ := hid hq
    have e1' : k < n → wr.cell? ⟨b1, o1 + k, none⟩ = some (.int .i64 (zs.getD k 0)) := fun h => by rw [hq]; exact H1.out k h
    have e2' : k < n → wr.cell? ⟨b2, o2 + k, none⟩ = some (.int .i64 (ys.getD k 0)) := fun h => by rw [hq]; exact H2.out k h
    clear heq hq
    by_cases hlt : k < n
    · have e1 := e1' hlt
      have e2 := e2' hlt
      clear e1' e2'
      obtain ⟨x, hx⟩ : ∃ x, x = zs.getD k 0 := ⟨_, rfl⟩
      obtain ⟨y, hy⟩ : ∃ y, y = ys.getD k 0 := ⟨_, rfl⟩
      rw [← hx] at e1
      rw [← hy] at e2
      have HX := hid hx
      have HYY := hid hy
      have hi : (k : Int) < (n : Int) := by omega
      clear hx hy
      by_cases hd : x ≤ y
      · have hb : decide (x ≤ y) = true := decide_eq_true hd
        go_wp2
        go_quiet ((go_at_call 80; exact Calls.quiet_of_same (le_any _ _ _)))
        go_wp2
        go_roundw
        case rel =>
          refine ⟨k + 1, _, by omega, by go_num, fun t ht => ?_, draws2 HQ.out⟩
          rcases Nat.lt_succ_iff_lt_or_eq.1 ht with h | rfl
          · exact HE.out t h
          · rw [← HX.out, ← HYY.out]; exact hd
        case measure => simp [intOf]; omega
      · have hb : decide (x ≤ y) = false := decide_eq_false hd
        go_wp2
        go_quiet ((go_at_call 80; exact Calls.quiet_of_same (le_any _ _ _)))
        go_wp2
        go_ret
        refine ⟨ret_bool ?_, _, draws2 HQ.out⟩
        rw [eq_comm, Bool.eq_false_iff]
        intro h
        have := leB_iff.1 h k (by have := HZ.out; omega)
        rw [← HX.out, ← HYY.out] at this
        omega
    · obtain rfl : k = n := by omega
      go_wp2
      go_ret
      exact ⟨ret_bool (leB_iff.2 (fun i hi => HE.out i (by have := HZ.out; omega))).symm, _, HQ.out⟩
theorem within_any (w : World) (v u : Value) (zs ys : List Int) (h1 : IntsAt w v zs) (h2 : IntsAt w u ys) (hn : zs.length = ys.length) (h0 : 1 ≤ zs.length) (hl : zs.length ≤ 1000000) :
    Calls Tryz.prog 49 #[v, u] w fun e w' => e = .returned (.bool (leB zs ys)) ∧ ∃ q, w' = w.drewN q := by
  obtain ⟨a1, c1, rfl, _, h1⟩ := h1
  obtain ⟨a2, c2, rfl, _, h2⟩ := h2
  rcases h1 with rfl | ⟨b1, o1, rfl, h1⟩
  · simp at h0
  rcases h2 with rfl | ⟨b2, o2, rfl, h2⟩
  · rw [hn] at h0; simp at h0
  rw [← hn] at h2 ⊢
  exact within_n w b1 o1 c1 b2 o2 c2 zs.length zs ys rfl hn.symm hl h1 h2
set_option maxHeartbeats 1000000 in
theorem Within_ok (A : Nat → Addr) (w : World) (hE : E4 A w) (v u : Value) (zs ys : List Int) (h1 : IntsAt w v zs) (h2 : IntsAt w u ys) (h0 : two zs ys = 0) :
    Calls Tryz.prog 15 #[v, u] w fun e w' => e = .returned (.tuple #[.bool (leB zs ys), .nilIface]) ∧ ∃ q, w' = w.drewN q := by
  obtain ⟨hz, hy, hn⟩ := two_zero.1 h0
  have hz' := chk_zero.1 hz
  have K1 := hid (checkPair_ok A w hE v u zs ys h1 h2 h0)
  have K2 := hid (within_any w v u zs ys h1 h2 hn hz'.1 (by omega))
  clear h0 hz hy hn hz'
  go_enter Tryz.func15, Tryz.ntmps15
  go_wp2_with fail
  refine K1.out.mono ?_
  rintro e w' ⟨rfl, rfl⟩
  go_wp2_with fail
  refine K2.out.mono ?_
  rintro e w' ⟨rfl, hq⟩
  go_wp2
  go_ret2
  exact ⟨rfl, hq⟩
set_option maxHeartbeats 1000000 in
theorem Within_bad (A : Nat → Addr) (w : World) (hE : E4 A w) (v u : Value) (zs ys : List Int) (h1 : IntsAt w v zs) (h2 : IntsAt w u ys) (hl1 : zs.length ≤ 1000000) (hl2 : ys.length ≤ 1000000) (h0 : two zs ys ≠ 0) :
    Calls Tryz.prog 15 #[v, u] w fun e w' => e = .returned (.tuple #[.bool false, .iface 255 (.pointer (some (A ((two zs ys).toNat - 1))))]) ∧ w' = w := by
  have K1 := hid (checkPair_bad A w hE v u zs ys h1 h2 hl1 hl2 h0)
  clear h0
  go_enter Tryz.func15, Tryz.ntmps15
  go_wp2_with fail
  refine K1.out.mono ?_
  rintro e w' ⟨rfl, rfl⟩
  go_wp2
  go_ret2
  exact ⟨rfl, rfl⟩

end Go.Proofs.YtdnebclemngdcaaGreatDoor
