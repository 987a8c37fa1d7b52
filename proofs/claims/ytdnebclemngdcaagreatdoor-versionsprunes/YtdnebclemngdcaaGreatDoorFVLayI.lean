/- isAt, isKind, isName, isDot, hasForeignField by their contracts; Contracts of Go's library at this program's numbers, by the kit's own layings. -/
import Derived.Test.YtdnebclemngdcaaGreatDoorFVCmpD
import Derived.Test.YtdnebclemngdcaaGreatDoorFVDel
import Derived.Shelf.SlicesQ.IndexFunc
import Derived.Test.YtdnebclemngdcaaGreatDoorProg
namespace Go.Proofs.YtdnebclemngdcaaGreatDoor
open Go.RowKit
set_option maxRecDepth 100000
set_option linter.unusedSectionVars false
variable [Inhabited ComV] [DecidableEq D3] [Inhabited D3] [Inhabited Dd] [Inhabited OpV]

theorem isAt_any (w : World) (x : Int) : Calls Tryz.prog 92 #[.int .i64 x] w fun e w' => e = .returned (.bool (decide (0 ≤ x) && decide (x < 12))) ∧ w' = w := by
  by_cases h1 : 0 ≤ x
  · by_cases h2 : x < 12
    · go_enter Tryz.func92, Tryz.ntmps92
      go_wp2
      go_ret
      exact ⟨ret_bool (by simp [h1, h2]), rfl⟩
    · go_enter Tryz.func92, Tryz.ntmps92
      go_wp2
      go_ret
      exact ⟨ret_bool (by simp; omega), rfl⟩
  · go_enter Tryz.func92, Tryz.ntmps92
    go_wp2
    go_ret
    exact ⟨ret_bool (by simp; omega), rfl⟩
theorem isKind_any (w : World) (x : Int) : Calls Tryz.prog 94 #[.int .i64 x] w fun e w' => e = .returned (.bool (kindB x)) ∧ w' = w := by
  by_cases h1 : x = 1
  · subst h1
    go_enter Tryz.func94, Tryz.ntmps94
    go_wp2
    go_ret
    exact ⟨rfl, rfl⟩
  · have b1 : (x == 1) = false := by simpa using h1
    by_cases h2 : x = 2
    · subst h2
      go_enter Tryz.func94, Tryz.ntmps94
      go_wp2
      go_ret
      exact ⟨rfl, rfl⟩
    · have b2 : (x == 2) = false := by simpa using h2
      by_cases h3 : x = 3
      · subst h3
        go_enter Tryz.func94, Tryz.ntmps94
        go_wp2
        go_ret
        exact ⟨rfl, rfl⟩
      · have b3 : (x == 3) = false := by simpa using h3
        go_enter Tryz.func94, Tryz.ntmps94
        go_wp2
        go_ret
        exact ⟨ret_bool (by simp [kindB, h1, h2, h3]), rfl⟩

set_option maxHeartbeats 1000000 in
theorem isName_any (w : World) (s : ByteArray) : Calls Tryz.prog 93 #[.string s] w fun e w' => e = .returned (.bool (nameB s)) ∧ w' = w := by
  by_cases h1 : s.size < 1
  · have e1 : (s.size : Int) < 1 := by omega
    go_enter Tryz.func93, Tryz.ntmps93
    go_wp2
    go_ret
    exact ⟨ret_bool (nameB_false (.inl h1)).symm, rfl⟩
  · have e1 : ¬ (s.size : Int) < 1 := by omega
    by_cases h2 : 16 < s.size
    · have e2 : 16 < (s.size : Int) := by omega
      go_enter Tryz.func93, Tryz.ntmps93
      go_wp2
      go_ret
      exact ⟨ret_bool (nameB_false (.inr h2)).symm, rfl⟩
    · have e2 : ¬ 16 < (s.size : Int) := by omega
      go_enter Tryz.func93, Tryz.ntmps93
      go_wp2
      go_loop [15] (fun i => ∃ k : Nat, k ≤ s.size ∧ i = .int .i64 k ∧ ∀ t (ht : t < s.size), t < k → letterB s[t] = true) (fun i => s.size - (intOf i).toNat)
      case atStart => exact ⟨0, Nat.zero_le _, rfl, fun t _ ht => absurd ht (Nat.not_lt_zero _)⟩
      case round =>
        obtain ⟨k, hk, rfl, hin⟩ := hrel
        have HI := hid hin
        clear hin
        by_cases hlt : k < s.size
        · by_cases hb : letterB s[k] = true
          · have hb' := hb
            simp only [letterB, decide_eq_true_eq] at hb'
            by_cases a1 : (s[k].toNat : Int) < 97
            · by_cases a3 : (s[k].toNat : Int) < 48
              · have a5 : (s[k].toNat : Int) = 45 := by omega
                have a6 : ((s[k].toNat : Int) != 45) = false := by rw [a5]; rfl
                go_wp2
                go_round
                case rel => exact ⟨k + 1, by omega, by go_num, fun t ht h => by rcases Nat.lt_succ_iff_lt_or_eq.1 h with h | rfl; exact HI.out t ht h; exact hb⟩
                case measure => simp [intOf]; omega
              · have a4 : ¬ 57 < (s[k].toNat : Int) := by omega
                go_wp2
                go_round
                case rel => exact ⟨k + 1, by omega, by go_num, fun t ht h => by rcases Nat.lt_succ_iff_lt_or_eq.1 h with h | rfl; exact HI.out t ht h; exact hb⟩
                case measure => simp [intOf]; omega
            · have a2 : ¬ 122 < (s[k].toNat : Int) := by omega
              go_wp2
              go_round
              case rel => exact ⟨k + 1, by omega, by go_num, fun t ht h => by rcases Nat.lt_succ_iff_lt_or_eq.1 h with h | rfl; exact HI.out t ht h; exact hb⟩
              case measure => simp [intOf]; omega
          · have hf : letterB s[k] = false := by simpa using hb
            have hb' := hf
            simp only [letterB, decide_eq_false_iff_not] at hb'
            have a6 : ((s[k].toNat : Int) != 45) = true := by simp; omega
            have HF := hid (letters_bad hlt hf)
            clear hf hb
            by_cases a1 : (s[k].toNat : Int) < 97
            · by_cases a3 : (s[k].toNat : Int) < 48
              · go_wp2
                go_ret
                exact ⟨ret_bool HF.out.symm, rfl⟩
              · have a4 : 57 < (s[k].toNat : Int) := by omega
                go_wp2
                go_ret
                exact ⟨ret_bool HF.out.symm, rfl⟩
            · have a2 : 122 < (s[k].toNat : Int) := by omega
              have a3 : ¬ (s[k].toNat : Int) < 48 := by omega
              have a4 : 57 < (s[k].toNat : Int) := by omega
              go_wp2
              go_ret
              exact ⟨ret_bool HF.out.symm, rfl⟩
        · obtain rfl : k = s.size := by omega
          go_wp2
          go_ret
          exact ⟨ret_bool (letters_ok (by omega) (by omega) fun t ht => HI.out t ht ht).symm, rfl⟩
end Go.Proofs.YtdnebclemngdcaaGreatDoor
namespace Go.Proofs
open Go.Shelf
def Tryz.idxDd_ren : Go.Shelf.Ren := ⟨fun | 6 => 142 | n => n, fun | 22 => 127 | 23 => 131 | 25 => 165 | 3 => 3 | 0 => 0 | 4 => 4 | n => n, fun | n => n⟩
theorem Tryz.idxDd : Go.Proofs.SlLaysH0.n6 Tryz.prog Tryz.idxDd_ren := {
  mixed := by kernel_rfl
  f6 := ⟨Tryz.f142.name, by decide, Tryz.func142.trans (congrArg some (by kernel_rfl))⟩
  t0 := Tryz.underlying0
  a0 := Tryz.isAgg0
  z0 := Tryz.sizeOf0
  v0 := Tryz.zeroValue0
  t3 := Tryz.underlying3
  a3 := Tryz.isAgg3
  z3 := Tryz.sizeOf3
  v3 := Tryz.zeroValue3
  t4 := Tryz.underlying4
  a4 := Tryz.isAgg4
  z4 := Tryz.sizeOf4
  v4 := Tryz.zeroValue4
  t22 := Tryz.underlying127
  a22 := Tryz.isAgg127
  z22 := Tryz.sizeOf127
  v22 := Tryz.zeroValue127
  t25 := Tryz.underlying165
  a25 := Tryz.isAgg165
  z25 := Tryz.sizeOf165
  v25 := Tryz.zeroValue165 }
def Tryz.hasDot_ren : Go.Shelf.Ren := ⟨fun | 8 => 96 | 6 => 126 | n => n, fun | 22 => 65 | 23 => 87 | 25 => 108 | 4 => 4 | 3 => 3 | 0 => 0 | n => n, fun | n => n⟩
theorem Tryz.hasDot : Go.Proofs.SlLaysH0.n8 Tryz.prog Tryz.hasDot_ren := {
  mixed := by kernel_rfl
  f6 := ⟨Tryz.f126.name, by decide, Tryz.func126.trans (congrArg some (by kernel_rfl))⟩
  f8 := ⟨Tryz.f96.name, by decide, Tryz.func96.trans (congrArg some (by kernel_rfl))⟩
  t0 := Tryz.underlying0
  a0 := Tryz.isAgg0
  z0 := Tryz.sizeOf0
  v0 := Tryz.zeroValue0
  t3 := Tryz.underlying3
  a3 := Tryz.isAgg3
  z3 := Tryz.sizeOf3
  v3 := Tryz.zeroValue3
  t4 := Tryz.underlying4
  a4 := Tryz.isAgg4
  z4 := Tryz.sizeOf4
  v4 := Tryz.zeroValue4
  t22 := Tryz.underlying65
  a22 := Tryz.isAgg65
  z22 := Tryz.sizeOf65
  v22 := Tryz.zeroValue65
  t25 := Tryz.underlying108
  a25 := Tryz.isAgg108
  z25 := Tryz.sizeOf108
  v25 := Tryz.zeroValue108 }
end Go.Proofs
