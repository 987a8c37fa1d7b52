/- The reference's VectorError, IsName, OpError by their contracts. -/
import Derived.Test.YtilonnkohcocoaaGreatDoorJVCom
namespace Go.Proofs.YtilonnkohcocoaaGreatDoor
open Go.RowKit
set_option maxRecDepth 100000
set_option linter.unusedSectionVars false
variable [Inhabited ComV] [DecidableEq D3] [Inhabited D3] [Inhabited Dd] [Inhabited OpV]

/-! ### the reference -/
theorem vectorError_shape (w : World) (ad : Option Addr) (n c : Nat) (h : n < 1 ∨ 6 < n) (hn : n ≤ 1000000) :
    Calls Tryz.prog 48 #[.slice ad n c] w fun e w' => e = .returned (.int .i64 3) ∧ w' = w := by
  rcases h with h | h
  · obtain rfl : n = 0 := by omega
    go_enter Tryz.func48, Tryz.ntmps48
    go_wp2
    go_ret
    exact ⟨rfl, rfl⟩
  · have h1 : ¬ n < 1 := by omega
    go_enter Tryz.func48, Tryz.ntmps48
    go_wp2
    go_ret
    exact ⟨rfl, rfl⟩

set_option maxHeartbeats 1000000 in
theorem vectorError_n (w : World) (b o n c : Nat) (zs : List Int) (hz : zs.length = n) (h1 : 1 ≤ n) (h6 : n ≤ 6)
    (hc : ∀ t, t < n → w.cell? ⟨b, o + t, none⟩ = some (.int .i64 (zs.getD t 0))) :
    Calls Tryz.prog 48 #[.slice (some ⟨b, o, none⟩) n c] w fun e w' => e = .returned (.int .i64 (chk zs)) ∧ w' = w := by
  have HZ : Hid (zs.length = n) := hz
  have HC : Hid (∀ t, t < n → w.cell? ⟨b, o + t, none⟩ = some (.int .i64 (zs.getD t 0))) := hc
  clear hz hc
  go_enter Tryz.func48, Tryz.ntmps48
  go_wp2
  go_loop [3] (fun i => ∃ k : Nat, k ≤ n ∧ i = .int .i64 k ∧ ∀ t, t < k → 0 ≤ zs.getD t 0 ∧ zs.getD t 0 ≤ 1099511627776) (fun i => n - (intOf i).toNat)
  case atStart => exact ⟨0, Nat.zero_le _, rfl, fun t ht => absurd ht (Nat.not_lt_zero _)⟩
  case round =>
    obtain ⟨k, hk, rfl, hin⟩ := hrel
    have HI : Hid (∀ t, t < k → 0 ≤ zs.getD t 0 ∧ zs.getD t 0 ≤ 1099511627776) := hin
    clear hin
    by_cases hlt : k < n
    · have e1 := HC.out k hlt
      obtain ⟨z, hzz⟩ : ∃ z, z = zs.getD k 0 := ⟨_, rfl⟩
      rw [← hzz] at e1
      have HZZ : Hid (z = zs.getD k 0) := hzz
      clear hzz
      by_cases ha : z < 0
      · go_wp2
        go_ret
        exact ⟨ret_int (chk_bad (t := k) (by have := HZ.out; omega) (by have := HZ.out; omega) (by have := HZ.out; omega) (by rw [← HZZ.out]; omega)).symm, rfl⟩
      · by_cases hb : 1099511627776 < z
        · go_wp2
          go_ret
          exact ⟨ret_int (chk_bad (t := k) (by have := HZ.out; omega) (by have := HZ.out; omega) (by have := HZ.out; omega) (by rw [← HZZ.out]; omega)).symm, rfl⟩
        · go_wp2
          go_round
          case rel =>
            refine ⟨k + 1, by omega, by go_num, fun t ht => ?_⟩
            rcases Nat.lt_succ_iff_lt_or_eq.1 ht with h | rfl
            · exact HI.out t h
            · rw [← HZZ.out]; omega
          case measure => simp [intOf]; omega
    · obtain rfl : k = n := by omega
      go_wp2
      go_ret
      exact ⟨ret_int (chk_zero.2 ⟨by have := HZ.out; omega, by have := HZ.out; omega, fun t ht => HI.out t (by have := HZ.out; omega)⟩).symm, rfl⟩

theorem vectorError (w : World) (v : Value) (zs : List Int) (h : IntsAt w v zs) (hl : zs.length ≤ 1000000) :
    Calls Tryz.prog 48 #[v] w fun e w' => e = .returned (.int .i64 (chk zs)) ∧ w' = w := by
  obtain ⟨ad, c, rfl, _, h⟩ := h
  by_cases hs : zs.length < 1 ∨ 6 < zs.length
  · rw [chk_shape hs]
    exact vectorError_shape w ad _ c hs hl
  · rcases h with rfl | ⟨b, o, rfl, h⟩
    · exact absurd (.inl (by decide)) hs
    · exact vectorError_n w b o zs.length c zs rfl (by omega) (by omega) h

set_option maxHeartbeats 1000000 in
theorem rIsName (w : World) (s : ByteArray) : Calls Tryz.prog 23 #[.string s] w fun e w' => e = .returned (.bool (nameB s)) ∧ w' = w := by
  by_cases h1 : s.size < 1
  · have e1 : (s.size : Int) < 1 := by omega
    go_enter Tryz.func23, Tryz.ntmps23
    go_wp2
    go_ret
    exact ⟨ret_bool (nameB_false (.inl h1)).symm, rfl⟩
  · have e1 : ¬ (s.size : Int) < 1 := by omega
    by_cases h2 : 16 < s.size
    · have e2 : 16 < (s.size : Int) := by omega
      go_enter Tryz.func23, Tryz.ntmps23
      go_wp2
      go_ret
      exact ⟨ret_bool (nameB_false (.inr h2)).symm, rfl⟩
    · have e2 : ¬ 16 < (s.size : Int) := by omega
      go_enter Tryz.func23, Tryz.ntmps23
      go_wp2
      go_loop [3] (fun i => ∃ k : Nat, k ≤ s.size ∧ i = .int .i64 k ∧ ∀ t (ht : t < s.size), t < k → letterB s[t] = true) (fun i => s.size - (intOf i).toNat)
      case atStart => exact ⟨0, Nat.zero_le _, rfl, fun t _ ht => absurd ht (Nat.not_lt_zero _)⟩
      case round =>
        obtain ⟨k, hk, rfl, hin⟩ := hrel
        have HI := hid hin
        clear hin
        by_cases hlt : k < s.size
        · by_cases hb : letterB s[k] = true
          · have hb' := hb
            simp only [letterB, decide_eq_true_eq] at hb'
            have HB := hid hb
            clear hb
            by_cases a1 : 97 ≤ (s[k].toNat : Int)
            · have a2 : (s[k].toNat : Int) ≤ 122 := by omega
              clear hb'
              go_wp2
              go_round
              case rel => exact ⟨k + 1, by omega, by go_num, fun t ht h => by rcases Nat.lt_succ_iff_lt_or_eq.1 h with h | rfl; exact HI.out t ht h; exact HB.out⟩
              case measure => simp [intOf]; omega
            · by_cases a3 : 48 ≤ (s[k].toNat : Int)
              · have a4 : (s[k].toNat : Int) ≤ 57 := by omega
                clear hb'
                go_wp2
                go_round
                case rel => exact ⟨k + 1, by omega, by go_num, fun t ht h => by rcases Nat.lt_succ_iff_lt_or_eq.1 h with h | rfl; exact HI.out t ht h; exact HB.out⟩
                case measure => simp [intOf]; omega
              · have a5 : (s[k].toNat : Int) = 45 := by omega
                have a6 : ((s[k].toNat : Int) == 45) = true := by rw [a5]; rfl
                clear hb' a5
                go_wp2
                go_round
                case rel => exact ⟨k + 1, by omega, by go_num, fun t ht h => by rcases Nat.lt_succ_iff_lt_or_eq.1 h with h | rfl; exact HI.out t ht h; exact HB.out⟩
                case measure => simp [intOf]; omega
          · have hf : letterB s[k] = false := by simpa using hb
            have hb' := hf
            simp only [letterB, decide_eq_false_iff_not] at hb'
            have a6 : ((s[k].toNat : Int) == 45) = false := by simp; omega
            have HF := hid (letters_bad hlt hf)
            have HN := hid hb'
            clear hf hb hb'
            by_cases a1 : 97 ≤ (s[k].toNat : Int)
            · have a2 : ¬ (s[k].toNat : Int) ≤ 122 := by have := HN.out; omega
              have a3 : 48 ≤ (s[k].toNat : Int) := by omega
              have a4 : ¬ (s[k].toNat : Int) ≤ 57 := by omega
              go_wp2
              go_ret
              exact ⟨ret_bool HF.out.symm, rfl⟩
            · by_cases a3 : 48 ≤ (s[k].toNat : Int)
              · have a4 : ¬ (s[k].toNat : Int) ≤ 57 := by have := HN.out; omega
                go_wp2
                go_ret
                exact ⟨ret_bool HF.out.symm, rfl⟩
              · go_wp2
                go_ret
                exact ⟨ret_bool HF.out.symm, rfl⟩
        · obtain rfl : k = s.size := by omega
          go_wp2
          go_ret
          exact ⟨ret_bool (letters_ok (by omega) (by omega) fun t ht => HI.out t ht ht).symm, rfl⟩
end Go.Proofs.YtilonnkohcocoaaGreatDoor
