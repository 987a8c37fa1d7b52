/- vector.Check by its contracts; vector.weigh, Weight and the reference's Weight, by their contracts. -/
import Derived.Test.YtdnebclemngdcaaGreatDoorFVMath
namespace Go.Proofs.YtdnebclemngdcaaGreatDoor
open Go.RowKit

def chkV (A : Nat → Addr) (zs : List Int) : Value := if chk zs = 0 then .nilIface else .iface 255 (.pointer (some (A 1)))
theorem chkV_ok {A : Nat → Addr} {zs : List Int} (h : chk zs = 0) : chkV A zs = .nilIface := if_pos h
theorem chkV_bad {A : Nat → Addr} {zs : List Int} (h : chk zs ≠ 0) : chkV A zs = .iface 255 (.pointer (some (A 1))) := if_neg h
theorem check_shape (A : Nat → Addr) (w : World) (hE : E4 A w) (ad : Option Addr) (n c : Nat) (h : n < 1 ∨ 6 < n) (hn : n ≤ 1000000) :
    Calls Tryz.prog 63 #[.slice ad n c] w fun e w' => e = .returned (.iface 255 (.pointer (some (A 2)))) ∧ w' = w := by
  have g2 := hE.shape
  rcases h with h | h
  · obtain rfl : n = 0 := by omega
    go_enter Tryz.func63, Tryz.ntmps63
    go_wp2
    go_ret
    exact ⟨rfl, rfl⟩
  · have h1 : ¬ n < 1 := by omega
    go_enter Tryz.func63, Tryz.ntmps63
    go_wp2
    go_ret
    exact ⟨rfl, rfl⟩

set_option maxHeartbeats 1000000 in
theorem check_n (A : Nat → Addr) (w : World) (hE : E4 A w) (b o n c : Nat) (zs : List Int) (hz : zs.length = n) (h1 : 1 ≤ n) (h6 : n ≤ 6)
    (hc : ∀ t, t < n → w.cell? ⟨b, o + t, none⟩ = some (.int .i64 (zs.getD t 0))) :
    Calls Tryz.prog 63 #[.slice (some ⟨b, o, none⟩) n c] w fun e w' => e = .returned (chkV A zs) ∧ w' = w := by
  have g1 := hE.bound
  have HZ : Hid (zs.length = n) := hz
  have HC : Hid (∀ t, t < n → w.cell? ⟨b, o + t, none⟩ = some (.int .i64 (zs.getD t 0))) := hc
  clear hz hc
  go_enter Tryz.func63, Tryz.ntmps63
  go_wp2
  go_loop [16] (fun i => ∃ k : Nat, k ≤ n ∧ i = .int .i64 k ∧ ∀ t, t < k → 0 ≤ zs.getD t 0 ∧ zs.getD t 0 ≤ 1099511627776) (fun i => n - (intOf i).toNat)
  case atStart => exact ⟨0, Nat.zero_le _, rfl, fun t ht => absurd ht (Nat.not_lt_zero _)⟩
  case round =>
    obtain ⟨k, hk, rfl, hin⟩ := hrel
    have HI : Hid (∀ t, t < k → 0 ≤ zs.getD t 0 ∧ zs.getD t 0 ≤ 1099511627776) := hin
    clear hin
    by_cases hlt : k < n
    · have e1 := HC.out k hlt
      obtain ⟨z, hzz⟩ : ∃ z, z = zs.getD k 0 := ⟨_, rfl⟩
      rw [← hzz] at e1
      have HZZ : Hid (z = zs.getD k 0) := hzz
      clear hzz
      by_cases ha : z < 0
      · go_wp2
        go_ret
        exact ⟨congrArg Ending.returned (chkV_bad (by rw [chk_bad (t := k) (by have := HZ.out; omega) (by have := HZ.out; omega) (by have := HZ.out; omega) (by rw [← HZZ.out]; omega)]; decide)).symm, rfl⟩
      · by_cases hb : 1099511627776 < z
        · go_wp2
          go_ret
          exact ⟨congrArg Ending.returned (chkV_bad (by rw [chk_bad (t := k) (by have := HZ.out; omega) (by have := HZ.out; omega) (by have := HZ.out; omega) (by rw [← HZZ.out]; omega)]; decide)).symm, rfl⟩
        · go_wp2
          go_round
          case rel =>
            refine ⟨k + 1, by omega, by go_num, fun t ht => ?_⟩
            rcases Nat.lt_succ_iff_lt_or_eq.1 ht with h | rfl
            · exact HI.out t h
            · rw [← HZZ.out]; omega
          case measure => simp [intOf]; omega
    · obtain rfl : k = n := by omega
      go_wp2
      go_ret
      exact ⟨congrArg Ending.returned (chkV_ok (chk_zero.2 ⟨by have := HZ.out; omega, by have := HZ.out; omega, fun t ht => HI.out t (by have := HZ.out; omega)⟩)).symm, rfl⟩

/-- vector.Check: no error. -/
theorem check_ok (A : Nat → Addr) (w : World) (hE : E4 A w) (v : Value) (zs : List Int) (h : IntsAt w v zs) (h0 : chk zs = 0) :
    Calls Tryz.prog 63 #[v] w fun e w' => e = .returned .nilIface ∧ w' = w := by
  obtain ⟨ad, c, rfl, _, h⟩ := h
  have hz := chk_zero.1 h0
  rcases h with rfl | ⟨b, o, rfl, h⟩
  · simp at hz
  · have := check_n A w hE b o zs.length c zs rfl hz.1 hz.2.1 h
    rw [chkV_ok h0] at this
    exact this
/-- vector.Check: an error. -/
theorem check_bad (A : Nat → Addr) (w : World) (hE : E4 A w) (v : Value) (zs : List Int) (h : IntsAt w v zs) (hl : zs.length ≤ 1000000) (h0 : chk zs ≠ 0) :
    Calls Tryz.prog 63 #[v] w fun e w' => e = .returned (.iface 255 (.pointer (some (A ((chk zs).toNat - 1))))) ∧ w' = w := by
  obtain ⟨ad, c, rfl, _, h⟩ := h
  by_cases hs : zs.length < 1 ∨ 6 < zs.length
  · rw [chk_shape hs]
    exact check_shape A w hE ad _ c hs hl
  · rcases h with rfl | ⟨b, o, rfl, h⟩
    · exact absurd (.inl (by decide)) hs
    · have h2 : chk zs = 2 := by
        rcases chk_cases zs with e | e | e
        · exact absurd e h0
        · exact e
        · unfold chk at e; rw [if_neg hs] at e; split at e <;> omega
      have := check_n A w hE b o zs.length c zs rfl (by omega) (by omega) h
      rw [chkV_bad h0] at this
      rw [h2]
      exact this
end Go.Proofs.YtdnebclemngdcaaGreatDoor
namespace Go.Proofs.YtdnebclemngdcaaGreatDoor
open Go.RowKit

/-- All times together. -/
def sum (zs : List Int) : Int := sumTo zs zs.length

set_option maxHeartbeats 1000000 in
theorem weigh_n (w : World) (b o n c : Nat) (zs : List Int) (hz : zs.length = n) (h6 : n ≤ 6) (hr : ∀ t, t < zs.length → 0 ≤ zs.getD t 0 ∧ zs.getD t 0 ≤ 1099511627776)
    (hc : ∀ t, t < n → w.cell? ⟨b, o + t, none⟩ = some (.int .i64 (zs.getD t 0))) :
    Calls Tryz.prog 138 #[.slice (some ⟨b, o, none⟩) n c] w fun e w' => e = .returned (.int .i64 (sum zs)) ∧ w' = w := by
  have HZ : Hid (zs.length = n) := hz
  have HC := hid hc
  have HR := hid hr
  have HB := hid (sumTo_bd hr)
  clear hz hc hr
  go_enter Tryz.func138, Tryz.ntmps138
  go_wp2
  go_loop [3, 8] (fun s i => ∃ k : Nat, k ≤ n ∧ i = .int .i64 k ∧ s = .int .i64 (sumTo zs k)) (fun _ i => n - (intOf i).toNat)
  case atStart => exact ⟨0, Nat.zero_le _, rfl, rfl⟩
  case round =>
    obtain ⟨k, hk, rfl, rfl⟩ := hrel
    obtain ⟨s, hs⟩ : ∃ s, s = sumTo zs k := ⟨_, rfl⟩
    have hb := HB.out k (by have := HZ.out; omega)
    rw [← hs] at hb ⊢
    have HS := hid hs
    clear hs
    by_cases hlt : k < n
    · have e1 := HC.out k hlt
      obtain ⟨z, hzz⟩ : ∃ z, z = zs.getD k 0 := ⟨_, rfl⟩
      have hzr := HR.out k (by have := HZ.out; omega)
      rw [← hzz] at e1 hzr
      have HZZ := hid hzz
      obtain ⟨hz1, hz2⟩ := hzr
      obtain ⟨hb1, hb2⟩ := hb
      clear hzz
      go_wp2
      go_round
      case rel => exact ⟨k + 1, by omega, by go_num, by simp only [sumTo]; rw [← HS.out, ← HZZ.out]⟩
      case measure => simp [intOf]; omega
    · obtain rfl : k = n := by omega
      go_wp2
      go_ret
      exact ⟨ret_int (by rw [HS.out, ← HZ.out]; rfl), rfl⟩

set_option maxHeartbeats 1000000 in
theorem refWeight_n (w : World) (b o n c : Nat) (zs : List Int) (hz : zs.length = n) (h6 : n ≤ 6) (hr : ∀ t, t < zs.length → 0 ≤ zs.getD t 0 ∧ zs.getD t 0 ≤ 1099511627776)
    (hc : ∀ t, t < n → w.cell? ⟨b, o + t, none⟩ = some (.int .i64 (zs.getD t 0))) :
    Calls Tryz.prog 88 #[.slice (some ⟨b, o, none⟩) n c] w fun e w' => e = .returned (.int .i64 (sum zs)) ∧ w' = w := by
  have HZ : Hid (zs.length = n) := hz
  have HC := hid hc
  have HR := hid hr
  have HB := hid (sumTo_bd hr)
  clear hz hc hr
  go_enter Tryz.func88, Tryz.ntmps88
  go_wp2
  go_loop [3, 4] (fun s i => ∃ k : Nat, k ≤ n ∧ i = .int .i64 k ∧ s = .int .i64 (sumTo zs k)) (fun _ i => n - (intOf i).toNat)
  case atStart => exact ⟨0, Nat.zero_le _, rfl, rfl⟩
  case round =>
    obtain ⟨k, hk, rfl, rfl⟩ := hrel
    obtain ⟨s, hs⟩ : ∃ s, s = sumTo zs k := ⟨_, rfl⟩
    have hb := HB.out k (by have := HZ.out; omega)
    rw [← hs] at hb ⊢
    have HS := hid hs
    clear hs
    by_cases hlt : k < n
    · have e1 := HC.out k hlt
      obtain ⟨z, hzz⟩ : ∃ z, z = zs.getD k 0 := ⟨_, rfl⟩
      have hzr := HR.out k (by have := HZ.out; omega)
      rw [← hzz] at e1 hzr
      have HZZ := hid hzz
      obtain ⟨hz1, hz2⟩ := hzr
      obtain ⟨hb1, hb2⟩ := hb
      clear hzz
      go_wp2
      go_round
      case rel => exact ⟨k + 1, by omega, by go_num, by simp only [sumTo]; rw [← HS.out, ← HZZ.out]⟩
      case measure => simp [intOf]; omega
    · obtain rfl : k = n := by omega
      go_wp2
      go_ret
      exact ⟨ret_int (by rw [HS.out, ← HZ.out]; rfl), rfl⟩

theorem weigh_any (w : World) (v : Value) (zs : List Int) (h : IntsAt w v zs) (h0 : chk zs = 0) :
    Calls Tryz.prog 138 #[v] w fun e w' => e = .returned (.int .i64 (sum zs)) ∧ w' = w := by
  obtain ⟨ad, c, rfl, _, h⟩ := h
  have hz := chk_zero.1 h0
  rcases h with rfl | ⟨b, o, rfl, h⟩
  · simp at hz
  · exact weigh_n w b o zs.length c zs rfl hz.2.1 hz.2.2 h
theorem refWeight_any (w : World) (v : Value) (zs : List Int) (h : IntsAt w v zs) (h0 : chk zs = 0) :
    Calls Tryz.prog 88 #[v] w fun e w' => e = .returned (.int .i64 (sum zs)) ∧ w' = w := by
  obtain ⟨ad, c, rfl, _, h⟩ := h
  have hz := chk_zero.1 h0
  rcases h with rfl | ⟨b, o, rfl, h⟩
  · simp at hz
  · exact refWeight_n w b o zs.length c zs rfl hz.2.1 hz.2.2 h

theorem Weight_ok (A : Nat → Addr) (w : World) (hE : E4 A w) (v : Value) (zs : List Int) (h : IntsAt w v zs) (h0 : chk zs = 0) :
    Calls Tryz.prog 141 #[v] w fun e w' => e = .returned (.tuple #[.int .i64 (sum zs), .nilIface]) ∧ w' = w := by
  have K1 := hid (check_ok A w hE v zs h h0)
  have K2 := hid (weigh_any w v zs h h0)
  clear h0
  go_enter Tryz.func141, Tryz.ntmps141
  go_wp2_with fail
  refine K1.out.mono ?_
  rintro e w' ⟨rfl, rfl⟩
  go_wp2_with fail
  refine K2.out.mono ?_
  rintro e w' ⟨rfl, rfl⟩
  go_wp2
  go_ret2
  exact ⟨rfl, rfl⟩
theorem Weight_bad (A : Nat → Addr) (w : World) (hE : E4 A w) (v : Value) (zs : List Int) (h : IntsAt w v zs) (hl : zs.length ≤ 1000000) (h0 : chk zs ≠ 0) :
    Calls Tryz.prog 141 #[v] w fun e w' => e = .returned (.tuple #[.int .i64 0, .iface 255 (.pointer (some (A ((chk zs).toNat - 1))))]) ∧ w' = w := by
  have K1 := hid (check_bad A w hE v zs h hl h0)
  clear h0
  go_enter Tryz.func141, Tryz.ntmps141
  go_wp2_with fail
  refine K1.out.mono ?_
  rintro e w' ⟨rfl, rfl⟩
  go_wp2
  go_ret2
  exact ⟨rfl, rfl⟩
end Go.Proofs.YtdnebclemngdcaaGreatDoor
