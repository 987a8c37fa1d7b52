/- The reference's sum. -/
import Derived.Test.YtkonjpcgfdcfbaaDoorJXEi
namespace Go.Proofs.YtkonjpcgfdcfbaaDoor
open Go.RowKit
set_option maxRecDepth 100000

theorem refStep_lt {c : UInt8} {k x : Nat} (h : x < 4294967296) : refStep c k x < 4294967296 := by
  unfold refStep
  split
  · exact Nat.xor_lt_two_pow (n := 32) (by omega) (by decide)
  · omega
theorem refSteps_lt {c : UInt8} {x : Nat} (h : x < 4294967296) : ∀ k, refSteps c k x < 4294967296
  | 0 => h
  | k + 1 => refStep_lt (refSteps_lt h k)

set_option maxHeartbeats 4000000 in
theorem rsum_any (w : World) (l : List UInt8) (hl : l.length ≤ 7000) :
    Calls Tryd.prog 14 #[.string ⟨l.toArray⟩] w fun e w' => e = .returned (.int .i64 (sumN l : Nat)) ∧ w' = w := by
  go_enter Tryd.func14, Tryd.ntmps14
  go_wp2
  go_loopw [3, 4] (fun a i wr => ∃ k : Nat, k ≤ l.length ∧ i = .int .i64 k ∧ a = .int .i64 ((l.take k).foldl crcByte 4294967295 : Nat) ∧ wr = w) (fun _ i _ => l.length - (intOf i).toNat)
  case atStart => exact ⟨0, Nat.zero_le _, rfl, rfl, rfl⟩
  case round =>
    obtain ⟨k, hk, rfl, rfl, rfl⟩ := hrel
    by_cases hlt : k < l.length
    · have HT := hid (crc_take hlt)
      have HX := hid (crc_lt (l.take k) 4294967295 (by decide))
      obtain ⟨x, hx⟩ : ∃ x, x = (l.take k).foldl crcByte 4294967295 := ⟨_, rfl⟩
      rw [← hx] at HT HX ⊢
      clear hx
      have hz := l[k].toNat_lt
      obtain ⟨c, hc⟩ : ∃ c, c = l[k] := ⟨_, rfl⟩
      have e1 : (⟨l.toArray⟩ : ByteArray)[k]'hlt = c := hc.symm
      rw [← hc] at HT hz
      have HZ := hid hz
      clear hz hc
      go_wp2
      go_loopw [3, 5] (fun a i u => ∃ j : Nat, j ≤ 8 ∧ i = .int .i64 j ∧ a = .int .i64 (refSteps c j x : Nat) ∧ u = wr) (fun _ i _ => 8 - (intOf i).toNat)
      case atStart => exact ⟨0, Nat.zero_le _, rfl, rfl, rfl⟩
      case round =>
        obtain ⟨j, hj, rfl, rfl, rfl⟩ := hrel
        by_cases hlt8 : j < 8
        · have HS := hid (refSteps_lt (c := c) HX.out j)
          have HE : Hid (refSteps c (j + 1) x = refStep c j (refSteps c j x)) := rfl
          obtain ⟨y, hy⟩ : ∃ y, y = refSteps c j x := ⟨_, rfl⟩
          rw [← hy] at HS HE ⊢
          clear hy
          have hq : wrap64 (c.toNat : Int) / 2 ^ j = ((c.toNat >>> j : Nat) : Int) := by
            rw [wrap64_eq, i64_of (by unfold In64; have := HZ.out; omega), Nat.shiftRight_eq_div_pow]
            simp
          have hb : bits .xor .i64 (y : Int) (wrap64 (c.toNat : Int) / 2 ^ j) = ((y ^^^ (c.toNat >>> j) : Nat) : Int) := by
            rw [hq]
            refine xor_i64 _ _ HS.out (Nat.lt_of_le_of_lt (by rw [Nat.shiftRight_eq_div_pow]; exact Nat.div_le_self _ _) (by have := HZ.out; omega : c.toNat < 4294967296))
          have hw : wrap64 ((y : Int) / 2) = ((y / 2 : Nat) : Int) := by
            rw [wrap64_eq, i64_of (by unfold In64; have := HS.out; omega)]
            omega
          have HXO := hid (xor_i64 (y / 2) 3988292384 (by have := HS.out; omega) (by decide))
          have HW := hid hw
          clear hq
          by_cases ho : (y ^^^ (c.toNat >>> j)) % 2 = 1
          · have hm : (((y ^^^ (c.toNat >>> j) : Nat) : Int) % 2 == 1) = true := by
              rw [beq_iff_eq]
              omega
            have HO : Hid (refStep c j y = (y / 2) ^^^ 3988292384) := if_pos ho
            obtain ⟨q, hqq⟩ : ∃ q, q = y ^^^ (c.toNat >>> j) := ⟨_, rfl⟩
            rw [← hqq] at hb hm
            clear hqq ho hw
            go_wp2
            go_roundw
            case rel =>
              refine ⟨j + 1, by omega, by go_num, ?_, trivial⟩
              rw [HE.out, HO.out, HW.out]
              exact congrArg (Value.int .i64) HXO.out
            case measure => simp [intOf]; omega
          · have hm : (((y ^^^ (c.toNat >>> j) : Nat) : Int) % 2 == 1) = false := by
              rw [beq_eq_false_iff_ne]
              omega
            have HO : Hid (refStep c j y = y / 2) := if_neg ho
            obtain ⟨q, hqq⟩ : ∃ q, q = y ^^^ (c.toNat >>> j) := ⟨_, rfl⟩
            rw [← hqq] at hb hm
            clear hqq ho hw
            go_wp2
            go_roundw
            case rel =>
              refine ⟨j + 1, by omega, by go_num, ?_, trivial⟩
              rw [HE.out, HO.out, HW.out]
            case measure => simp [intOf]; omega
        · obtain rfl : j = 8 := by omega
          have HB := hid (refByte c x)
          obtain ⟨y, hy⟩ : ∃ y, y = refSteps c 8 x := ⟨_, rfl⟩
          rw [← hy] at HB ⊢
          clear hy
          go_wp2
          go_roundw
          case rel =>
            refine ⟨k + 1, by omega, by go_num, ?_, trivial⟩
            rw [HT.out, HB.out]
          case measure => simp [intOf]; omega
    · obtain rfl : k = l.length := by omega
      rw [List.take_length]
      have hx := xor_i64 (crcOf l) 4294967295 (crcOf_lt l) (by decide)
      go_wp2
      go_ret
      exact ⟨ret_int hx, rfl⟩
end Go.Proofs.YtkonjpcgfdcfbaaDoor
