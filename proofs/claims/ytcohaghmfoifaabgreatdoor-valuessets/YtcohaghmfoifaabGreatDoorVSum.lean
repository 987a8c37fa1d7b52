/- vector.weigh, Weight and the reference's Weight, by their contracts. -/
import Derived.Test.YtcohaghmfoifaabGreatDoorVVec
namespace Go.Proofs.YtcohaghmfoifaabGreatDoor
open Go.RowKit

/-- All times together. -/
def sum (zs : List Int) : Int := sumTo zs zs.length

set_option maxHeartbeats 1000000 in
theorem weigh_n (w : World) (b o n c : Nat) (zs : List Int) (hz : zs.length = n) (h6 : n ≤ 6) (hr : ∀ t, t < zs.length → 0 ≤ zs.getD t 0 ∧ zs.getD t 0 ≤ 1099511627776)
    (hc : ∀ t, t < n → w.cell? ⟨b, o + t, none⟩ = some (.int .i64 (zs.getD t 0))) :
    Calls Tryz.prog 92 #[.slice (some ⟨b, o, none⟩) n c] w fun e w' => e = .returned (.int .i64 (sum zs)) ∧ w' = w := by
  have HZ : Hid (zs.length = n) := hz
  have HC := hid hc
  have HR := hid hr
  have HB := hid (sumTo_bd hr)
  clear hz hc hr
  go_enter Tryz.func92, Tryz.ntmps92
  go_wp2
  go_loop [3, 8] (fun s i => ∃ k : Nat, k ≤ n ∧ i = .int .i64 k ∧ s = .int .i64 (sumTo zs k)) (fun _ i => n - (intOf i).toNat)
  case atStart => exact ⟨0, Nat.zero_le _, rfl, rfl⟩
  case round =>
    obtain ⟨k, hk, rfl, rfl⟩ := hrel
    obtain ⟨s, hs⟩ : ∃ s, s = sumTo zs k := ⟨_, rfl⟩
    have hb := HB.out k (by have := HZ.out; omega)
    rw [← hs] at hb ⊢
    have HS := hid hs
    clear hs
    by_cases hlt : k < n
    · have e1 := HC.out k hlt
      obtain ⟨z, hzz⟩ : ∃ z, z = zs.getD k 0 := ⟨_, rfl⟩
      have hzr := HR.out k (by have := HZ.out; omega)
      rw [← hzz] at e1 hzr
      have HZZ := hid hzz
      obtain ⟨hz1, hz2⟩ := hzr
      obtain ⟨hb1, hb2⟩ := hb
      clear hzz
      go_wp2
      go_round
      case rel => exact ⟨k + 1, by omega, by go_num, by simp only [sumTo]; rw [← HS.out, ← HZZ.out]⟩
      case measure => simp [intOf]; omega
    · obtain rfl : k = n := by omega
      go_wp2
      go_ret
      exact ⟨ret_int (by rw [HS.out, ← HZ.out]; rfl), rfl⟩

set_option maxHeartbeats 1000000 in
theorem refWeight_n (w : World) (b o n c : Nat) (zs : List Int) (hz : zs.length = n) (h6 : n ≤ 6) (hr : ∀ t, t < zs.length → 0 ≤ zs.getD t 0 ∧ zs.getD t 0 ≤ 1099511627776)
    (hc : ∀ t, t < n → w.cell? ⟨b, o + t, none⟩ = some (.int .i64 (zs.getD t 0))) :
    Calls Tryz.prog 66 #[.slice (some ⟨b, o, none⟩) n c] w fun e w' => e = .returned (.int .i64 (sum zs)) ∧ w' = w := by
  have HZ : Hid (zs.length = n) := hz
  have HC := hid hc
  have HR := hid hr
  have HB := hid (sumTo_bd hr)
  clear hz hc hr
  go_enter Tryz.func66, Tryz.ntmps66
  go_wp2
  go_loop [3, 4] (fun s i => ∃ k : Nat, k ≤ n ∧ i = .int .i64 k ∧ s = .int .i64 (sumTo zs k)) (fun _ i => n - (intOf i).toNat)
  case atStart => exact ⟨0, Nat.zero_le _, rfl, rfl⟩
  case round =>
    obtain ⟨k, hk, rfl, rfl⟩ := hrel
    obtain ⟨s, hs⟩ : ∃ s, s = sumTo zs k := ⟨_, rfl⟩
    have hb := HB.out k (by have := HZ.out; omega)
    rw [← hs] at hb ⊢
    have HS := hid hs
    clear hs
    by_cases hlt : k < n
    · have e1 := HC.out k hlt
      obtain ⟨z, hzz⟩ : ∃ z, z = zs.getD k 0 := ⟨_, rfl⟩
      have hzr := HR.out k (by have := HZ.out; omega)
      rw [← hzz] at e1 hzr
      have HZZ := hid hzz
      obtain ⟨hz1, hz2⟩ := hzr
      obtain ⟨hb1, hb2⟩ := hb
      clear hzz
      go_wp2
      go_round
      case rel => exact ⟨k + 1, by omega, by go_num, by simp only [sumTo]; rw [← HS.out, ← HZZ.out]⟩
      case measure => simp [intOf]; omega
    · obtain rfl : k = n := by omega
      go_wp2
      go_ret
      exact ⟨ret_int (by rw [HS.out, ← HZ.out]; rfl), rfl⟩

theorem weigh_any (w : World) (v : Value) (zs : List Int) (h : IntsAt w v zs) (h0 : chk zs = 0) :
    Calls Tryz.prog 92 #[v] w fun e w' => e = .returned (.int .i64 (sum zs)) ∧ w' = w := by
  obtain ⟨ad, c, rfl, _, h⟩ := h
  have hz := chk_zero.1 h0
  rcases h with rfl | ⟨b, o, rfl, h⟩
  · simp at hz
  · exact weigh_n w b o zs.length c zs rfl hz.2.1 hz.2.2 h
theorem refWeight_any (w : World) (v : Value) (zs : List Int) (h : IntsAt w v zs) (h0 : chk zs = 0) :
    Calls Tryz.prog 66 #[v] w fun e w' => e = .returned (.int .i64 (sum zs)) ∧ w' = w := by
  obtain ⟨ad, c, rfl, _, h⟩ := h
  have hz := chk_zero.1 h0
  rcases h with rfl | ⟨b, o, rfl, h⟩
  · simp at hz
  · exact refWeight_n w b o zs.length c zs rfl hz.2.1 hz.2.2 h

theorem Weight_ok (A : Nat → Addr) (w : World) (hE : E4 A w) (v : Value) (zs : List Int) (h : IntsAt w v zs) (h0 : chk zs = 0) :
    Calls Tryz.prog 75 #[v] w fun e w' => e = .returned (.tuple #[.int .i64 (sum zs), .nilIface]) ∧ w' = w := by
  have K1 := hid (check_ok A w hE v zs h h0)
  have K2 := hid (weigh_any w v zs h h0)
  clear h0
  go_enter Tryz.func75, Tryz.ntmps75
  go_wp2_with fail
  refine K1.out.mono ?_
  rintro e w' ⟨rfl, rfl⟩
  go_wp2_with fail
  refine K2.out.mono ?_
  rintro e w' ⟨rfl, rfl⟩
  go_wp2
  go_ret2
  exact ⟨rfl, rfl⟩
theorem Weight_bad (A : Nat → Addr) (w : World) (hE : E4 A w) (v : Value) (zs : List Int) (h : IntsAt w v zs) (hl : zs.length ≤ 1000000) (h0 : chk zs ≠ 0) :
    Calls Tryz.prog 75 #[v] w fun e w' => e = .returned (.tuple #[.int .i64 0, .iface 193 (.pointer (some (A ((chk zs).toNat - 1))))]) ∧ w' = w := by
  have K1 := hid (check_bad A w hE v zs h hl h0)
  clear h0
  go_enter Tryz.func75, Tryz.ntmps75
  go_wp2_with fail
  refine K1.out.mono ?_
  rintro e w' ⟨rfl, rfl⟩
  go_wp2
  go_ret2
  exact ⟨rfl, rfl⟩
end Go.Proofs.YtcohaghmfoifaabGreatDoor
