/- vector.checkPair and the reference's VectorError and TwoError, by their contracts. -/
import Derived.Test.YtfechdagacmliaaDoorCheck
namespace Go.Proofs.YtfechdagacmliaaDoor
open Go.RowKit

theorem ret_err {a b : Addr} (h : a = b) : Ending.returned (.iface 60 (.pointer (some a))) = .returned (.iface 60 (.pointer (some b))) := by rw [h]

theorem IntsAt.slice {w : World} {v : Value} {zs : List Int} (h : IntsAt w v zs) : ∃ ad c, v = .slice ad zs.length c := by
  obtain ⟨ad, c, rfl, _⟩ := h
  exact ⟨ad, c, rfl⟩

set_option maxHeartbeats 1000000 in
theorem checkPair_ok (A : Nat → Addr) (w : World) (hE : E2 A w) (v u : Value) (zs ys : List Int) (h1 : IntsAt w v zs) (h2 : IntsAt w u ys) (h0 : two zs ys = 0) :
    Calls Tryd.prog 37 #[v, u] w fun e w' => e = .returned .nilIface ∧ w' = w := by
  obtain ⟨hz, hy, hn⟩ := two_zero.1 h0
  have k1 := check_ok A w hE v zs h1 hz
  have k2 := check_ok A w hE u ys h2 hy
  obtain ⟨a1, c1, rfl⟩ := h1.slice
  obtain ⟨a2, c2, rfl⟩ := h2.slice
  have K1 := hid k1
  have K2 := hid k2
  have hb : ((zs.length : Int) != (ys.length : Int)) = false := by rw [bne_eq_false_iff_eq]; omega
  clear k1 k2 h0 hz hy hn
  go_enter Tryd.func37, Tryd.ntmps37
  go_wp2_with fail
  refine K1.out.mono ?_
  rintro e w' ⟨rfl, rfl⟩
  go_wp2_with fail
  refine K2.out.mono ?_
  rintro e w' ⟨rfl, rfl⟩
  go_wp2
  go_ret
  exact ⟨rfl, rfl⟩

set_option maxHeartbeats 1000000 in
theorem checkPair_bad (A : Nat → Addr) (w : World) (hE : E2 A w) (v u : Value) (zs ys : List Int) (h1 : IntsAt w v zs) (h2 : IntsAt w u ys) (hl1 : zs.length ≤ 1000000) (hl2 : ys.length ≤ 1000000) (h0 : two zs ys ≠ 0) :
    Calls Tryd.prog 37 #[v, u] w fun e w' => e = .returned (.iface 60 (.pointer (some (A ((two zs ys).toNat - 1))))) ∧ w' = w := by
  have g2 := hE.shape
  obtain ⟨m, hm⟩ : ∃ m, m = two zs ys := ⟨_, rfl⟩
  rw [← hm]
  by_cases hz : chk zs = 0
  · have k1 := check_ok A w hE v zs h1 hz
    by_cases hy : chk ys = 0
    · have k2 := check_ok A w hE u ys h2 hy
      obtain ⟨a1, c1, rfl⟩ := h1.slice
      obtain ⟨a2, c2, rfl⟩ := h2.slice
      have hne : zs.length ≠ ys.length := fun e => h0 (two_zero.2 ⟨hz, hy, e⟩)
      have HM : Hid (m = 3) := by rw [hm]; unfold two; rw [if_neg (by simpa using hz), if_neg (by simpa using hy), if_pos hne]; rfl
      have hb : ((zs.length : Int) != (ys.length : Int)) = true := by rw [bne_iff_ne]; omega
      have K1 := hid k1
      have K2 := hid k2
      clear k1 k2 h0 hz hy hm
      go_enter Tryd.func37, Tryd.ntmps37
      go_wp2_with fail
      refine K1.out.mono ?_
      rintro e w' ⟨rfl, rfl⟩
      go_wp2_with fail
      refine K2.out.mono ?_
      rintro e w' ⟨rfl, rfl⟩
      go_wp2
      go_ret
      exact ⟨ret_err (by rw [HM.out]; rfl), rfl⟩
    · have k2 := check_bad A w hE u ys h2 hl2 hy
      have hmm : m = chk ys := by rw [hm]; unfold two; rw [if_neg (by simpa using hz), if_pos hy]
      rw [← hmm] at k2
      have K1 := hid k1
      have K2 := hid k2
      clear k1 k2 h0 hz hy hm hmm g2
      go_enter Tryd.func37, Tryd.ntmps37
      go_wp2_with fail
      refine K1.out.mono ?_
      rintro e w' ⟨rfl, rfl⟩
      go_wp2_with fail
      refine K2.out.mono ?_
      rintro e w' ⟨rfl, rfl⟩
      go_wp2
      go_ret
      exact ⟨rfl, rfl⟩
  · have k1 := check_bad A w hE v zs h1 hl1 hz
    have hmm : m = chk zs := by rw [hm]; unfold two; rw [if_pos hz]
    rw [← hmm] at k1
    have K1 := hid k1
    clear k1 h0 hz hm hmm g2
    go_enter Tryd.func37, Tryd.ntmps37
    go_wp2_with fail
    refine K1.out.mono ?_
    rintro e w' ⟨rfl, rfl⟩
    go_wp2
    go_ret
    exact ⟨rfl, rfl⟩

/-! ### the reference -/
theorem vectorError_shape (w : World) (ad : Option Addr) (n c : Nat) (h : n < 1 ∨ 6 < n) (hn : n ≤ 1000000) :
    Calls Tryd.prog 21 #[.slice ad n c] w fun e w' => e = .returned (.int .i64 3) ∧ w' = w := by
  rcases h with h | h
  · obtain rfl : n = 0 := by omega
    go_enter Tryd.func21, Tryd.ntmps21
    go_wp2
    go_ret
    exact ⟨rfl, rfl⟩
  · have h1 : ¬ n < 1 := by omega
    go_enter Tryd.func21, Tryd.ntmps21
    go_wp2
    go_ret
    exact ⟨rfl, rfl⟩

set_option maxHeartbeats 1000000 in
theorem vectorError_n (w : World) (b o n c : Nat) (zs : List Int) (hz : zs.length = n) (h1 : 1 ≤ n) (h6 : n ≤ 6)
    (hc : ∀ t, t < n → w.cell? ⟨b, o + t, none⟩ = some (.int .i64 (zs.getD t 0))) :
    Calls Tryd.prog 21 #[.slice (some ⟨b, o, none⟩) n c] w fun e w' => e = .returned (.int .i64 (chk zs)) ∧ w' = w := by
  have HZ : Hid (zs.length = n) := hz
  have HC : Hid (∀ t, t < n → w.cell? ⟨b, o + t, none⟩ = some (.int .i64 (zs.getD t 0))) := hc
  clear hz hc
  go_enter Tryd.func21, Tryd.ntmps21
  go_wp2
  go_loop [3] (fun i => ∃ k : Nat, k ≤ n ∧ i = .int .i64 k ∧ ∀ t, t < k → 0 ≤ zs.getD t 0 ∧ zs.getD t 0 ≤ 1099511627776) (fun i => n - (intOf i).toNat)
  case atStart => exact ⟨0, Nat.zero_le _, rfl, fun t ht => absurd ht (Nat.not_lt_zero _)⟩
  case round =>
    obtain ⟨k, hk, rfl, hin⟩ := hrel
    have HI : Hid (∀ t, t < k → 0 ≤ zs.getD t 0 ∧ zs.getD t 0 ≤ 1099511627776) := hin
    clear hin
    by_cases hlt : k < n
    · have e1 := HC.out k hlt
      obtain ⟨z, hzz⟩ : ∃ z, z = zs.getD k 0 := ⟨_, rfl⟩
      rw [← hzz] at e1
      have HZZ : Hid (z = zs.getD k 0) := hzz
      clear hzz
      by_cases ha : z < 0
      · go_wp2
        go_ret
        exact ⟨ret_int (chk_bad (t := k) (by have := HZ.out; omega) (by have := HZ.out; omega) (by have := HZ.out; omega) (by rw [← HZZ.out]; omega)).symm, rfl⟩
      · by_cases hb : 1099511627776 < z
        · go_wp2
          go_ret
          exact ⟨ret_int (chk_bad (t := k) (by have := HZ.out; omega) (by have := HZ.out; omega) (by have := HZ.out; omega) (by rw [← HZZ.out]; omega)).symm, rfl⟩
        · go_wp2
          go_round
          case rel =>
            refine ⟨k + 1, by omega, by go_num, fun t ht => ?_⟩
            rcases Nat.lt_succ_iff_lt_or_eq.1 ht with h | rfl
            · exact HI.out t h
            · rw [← HZZ.out]; omega
          case measure => simp [intOf]; omega
    · obtain rfl : k = n := by omega
      go_wp2
      go_ret
      exact ⟨ret_int (chk_zero.2 ⟨by have := HZ.out; omega, by have := HZ.out; omega, fun t ht => HI.out t (by have := HZ.out; omega)⟩).symm, rfl⟩

theorem vectorError (w : World) (v : Value) (zs : List Int) (h : IntsAt w v zs) (hl : zs.length ≤ 1000000) :
    Calls Tryd.prog 21 #[v] w fun e w' => e = .returned (.int .i64 (chk zs)) ∧ w' = w := by
  obtain ⟨ad, c, rfl, _, h⟩ := h
  by_cases hs : zs.length < 1 ∨ 6 < zs.length
  · rw [chk_shape hs]
    exact vectorError_shape w ad _ c hs hl
  · rcases h with rfl | ⟨b, o, rfl, h⟩
    · exact absurd (.inl (by decide)) hs
    · exact vectorError_n w b o zs.length c zs rfl (by omega) (by omega) h

set_option maxHeartbeats 1000000 in
theorem twoError (w : World) (v u : Value) (zs ys : List Int) (h1 : IntsAt w v zs) (h2 : IntsAt w u ys) (hl1 : zs.length ≤ 1000000) (hl2 : ys.length ≤ 1000000) :
    Calls Tryd.prog 19 #[v, u] w fun e w' => e = .returned (.int .i64 (two zs ys)) ∧ w' = w := by
  have k1 := vectorError w v zs h1 hl1
  have k2 := vectorError w u ys h2 hl2
  obtain ⟨a1, c1, rfl⟩ := h1.slice
  obtain ⟨a2, c2, rfl⟩ := h2.slice
  have K1 := hid k1
  have K2 := hid k2
  clear k1 k2
  by_cases hz : chk zs = 0
  · have hz' : (chk zs == 0) = true := by rw [hz]; rfl
    by_cases hy : chk ys = 0
    · have hy' : (chk ys == 0) = true := by rw [hy]; rfl
      by_cases hn : zs.length = ys.length
      · have hb : ((zs.length : Int) != (ys.length : Int)) = false := by rw [bne_eq_false_iff_eq]; omega
        have HT : Hid (two zs ys = 0) := two_zero.2 ⟨hz, hy, hn⟩
        have HY : Hid (chk ys = 0) := hy
        clear hz hy hn
        go_enter Tryd.func19, Tryd.ntmps19
        go_wp2_with fail
        refine K1.out.mono ?_
        rintro e w' ⟨rfl, rfl⟩
        go_wp2_with fail
        refine K2.out.mono ?_
        rintro e w' ⟨rfl, rfl⟩
        go_wp2
        go_ret
        exact ⟨ret_int (by rw [HT.out, HY.out]), rfl⟩
      · have hb : ((zs.length : Int) != (ys.length : Int)) = true := by rw [bne_iff_ne]; omega
        have HT : Hid (two zs ys = 3) := by show two zs ys = 3; unfold two; rw [if_neg (by simpa using hz), if_neg (by simpa using hy), if_pos hn]
        clear hz hy hn
        go_enter Tryd.func19, Tryd.ntmps19
        go_wp2_with fail
        refine K1.out.mono ?_
        rintro e w' ⟨rfl, rfl⟩
        go_wp2_with fail
        refine K2.out.mono ?_
        rintro e w' ⟨rfl, rfl⟩
        go_wp2
        go_ret
        exact ⟨ret_int HT.out.symm, rfl⟩
    · have hy' : (chk ys == 0) = false := by simpa using hy
      have HT : Hid (two zs ys = chk ys) := by show two zs ys = chk ys; unfold two; rw [if_neg (by simpa using hz), if_pos hy]
      clear hz hy
      go_enter Tryd.func19, Tryd.ntmps19
      go_wp2_with fail
      refine K1.out.mono ?_
      rintro e w' ⟨rfl, rfl⟩
      go_wp2_with fail
      refine K2.out.mono ?_
      rintro e w' ⟨rfl, rfl⟩
      go_wp2
      go_ret
      exact ⟨ret_int HT.out.symm, rfl⟩
  · have hz' : (chk zs == 0) = false := by simpa using hz
    have HT : Hid (two zs ys = chk zs) := by show two zs ys = chk zs; unfold two; rw [if_pos hz]
    clear hz
    go_enter Tryd.func19, Tryd.ntmps19
    go_wp2_with fail
    refine K1.out.mono ?_
    rintro e w' ⟨rfl, rfl⟩
    go_wp2
    go_ret
    exact ⟨ret_int HT.out.symm, rfl⟩
end Go.Proofs.YtfechdagacmliaaDoor
