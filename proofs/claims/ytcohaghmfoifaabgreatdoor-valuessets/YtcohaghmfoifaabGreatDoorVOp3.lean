/- hasForeignField and Check by their contracts. -/
import Derived.Test.YtcohaghmfoifaabGreatDoorVOp2
namespace Go.Proofs.YtcohaghmfoifaabGreatDoor
open Go.RowKit Go.Shelf
set_option maxRecDepth 100000

theorem empty_ne {a : ByteArray} (h : a ≠ ByteArray.empty) : ¬ a.toList = [] := fun e => h (WideShapes.bytes_inj (by rw [← Lib.toList_data a, e]; rfl))
set_option maxHeartbeats 1000000 in
theorem foreign_any (w : World) (x1 : Int) (x2 : ByteArray) (x3 : Int) (x4 : ByteArray) (x5 : Int) (x6 : Bool) (xp : Option Addr) (xc : Nat) (ds : List D3) (hl : ds.length ≤ 1000000) :
    Calls Tryz.prog 34 #[.agg #[.int .i64 x1, .string x2, .int .i64 x3, .string x4, .int .i64 x5, .bool x6, .slice xp ds.length xc]] w
    fun e w' => e = .returned (.bool (foreignB ⟨x1, x2, x3, x4, x5, x6, ds⟩)) ∧ w' = w.alloc (.cells #[.int .i64 x1, .string x2, .int .i64 x3, .string x4, .int .i64 x5, .bool x6, .slice xp ds.length xc] 24) := by
  obtain ⟨n, hn⟩ : ∃ n, n = ds.length := ⟨_, rfl⟩
  rw [← hn] at hl ⊢
  have HN := hid hn
  clear hn
  by_cases k1 : x3 = 1
  · subst k1
    by_cases h5 : x5 = 0
    · subst h5
      cases x6 with
      | true =>
        go_enter Tryz.func34, Tryz.ntmps34
        go_wp2
        go_ret
        exact ⟨ret_bool (by simp [foreignB]), rfl⟩
      | false =>
        by_cases h7 : 0 < n
        · have e7 : 0 < (n : Int) := by omega
          go_enter Tryz.func34, Tryz.ntmps34
          go_wp2
          go_ret
          exact ⟨ret_bool (by simp [foreignB, ← HN.out, h7]), rfl⟩
        · have e7 : ¬ 0 < (n : Int) := by omega
          go_enter Tryz.func34, Tryz.ntmps34
          go_wp2
          go_ret
          exact ⟨ret_bool (by have := HN.out; simp [foreignB, ← HN.out]; omega), rfl⟩
    · have b5 : (x5 != 0) = true := by simpa using h5
      go_enter Tryz.func34, Tryz.ntmps34
      go_wp2
      go_ret
      exact ⟨ret_bool (by simp [foreignB, h5]), rfl⟩
  · have c1 : (x3 == 1) = false := by simpa using k1
    by_cases k2 : x3 = 2
    · subst k2
      by_cases h4 : x4 = ByteArray.empty
      · subst h4
        cases x6 with
        | true =>
          go_enter Tryz.func34, Tryz.ntmps34
          go_wp2
          go_ret
          exact ⟨ret_bool (by simp [foreignB]), rfl⟩
        | false =>
          by_cases h7 : 0 < n
          · have e7 : 0 < (n : Int) := by omega
            go_enter Tryz.func34, Tryz.ntmps34
            go_wp2
            go_ret
            exact ⟨ret_bool (by simp [foreignB, ← HN.out, h7]), rfl⟩
          · have e7 : ¬ 0 < (n : Int) := by omega
            go_enter Tryz.func34, Tryz.ntmps34
            go_wp2
            go_ret
            exact ⟨ret_bool (by have := HN.out; simp [foreignB, ← HN.out]; omega), rfl⟩
      · have b4 := empty_ne h4
        go_enter Tryz.func34, Tryz.ntmps34
        go_wp2
        go_ret
        exact ⟨ret_bool (by simp [foreignB, h4]), rfl⟩
    · have c2 : (x3 == 2) = false := by simpa using k2
      by_cases h5 : x5 = 0
      · subst h5
        cases x6 with
        | true =>
          go_enter Tryz.func34, Tryz.ntmps34
          go_wp2
          go_ret
          exact ⟨ret_bool (by simp [foreignB, k1, k2]), rfl⟩
        | false =>
          by_cases h7 : 0 < n
          · have e7 : 0 < (n : Int) := by omega
            go_enter Tryz.func34, Tryz.ntmps34
            go_wp2
            go_ret
            exact ⟨ret_bool (by simp [foreignB, k1, k2, ← HN.out, h7]), rfl⟩
          · have e7 : ¬ 0 < (n : Int) := by omega
            go_enter Tryz.func34, Tryz.ntmps34
            go_wp2
            go_ret
            exact ⟨ret_bool (by have := HN.out; simp [foreignB, k1, k2, ← HN.out]; omega), rfl⟩
      · have b5 : (x5 != 0) = true := by simpa using h5
        go_enter Tryz.func34, Tryz.ntmps34
        go_wp2
        go_ret
        exact ⟨ret_bool (by simp [foreignB, k1, k2, h5]), rfl⟩
end Go.Proofs.YtcohaghmfoifaabGreatDoor
