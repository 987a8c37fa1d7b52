/- Words of bits as the model has them, as numbers. -/
import Derived.Test.YtkonjpcgfdcfbaaDoorJXSt
namespace Go.Proofs.YtkonjpcgfdcfbaaDoor
open Go.RowKit

theorem wr_u8 (n : Int) : IntKind.u8.wrap n = n % 256 := by simp [IntKind.wrap, IntKind.bits, IntKind.signed]
theorem wr_u32 (n : Int) : IntKind.u32.wrap n = n % 4294967296 := by simp [IntKind.wrap, IntKind.bits, IntKind.signed]
theorem wr_u64 (n : Int) : IntKind.u64.wrap n = n % 18446744073709551616 := by simp [IntKind.wrap, IntKind.bits, IntKind.signed]
theorem wr_i64 (n : Int) : IntKind.i64.wrap n = i64 n := by
  unfold i64
  simp [IntKind.wrap, IntKind.bits, IntKind.signed]
  split <;> omega
theorem or_low (a z : Nat) (hz : z < 256) : a * 256 ||| z = a * 256 + z := by
  rw [show a * 256 = a <<< 8 by rw [Nat.shiftLeft_eq]]
  exact (Nat.shiftLeft_add_eq_or_of_lt (by omega) a).symm
theorem bv64 (n : Int) : (BitVec.ofInt 64 n).toNat = (n % 18446744073709551616).toNat := by rw [BitVec.toNat_ofInt]; rfl
theorem bv32 (n : Int) : (BitVec.ofInt 32 n).toNat = (n % 4294967296).toNat := by rw [BitVec.toNat_ofInt]; rfl
theorem or_u64 (a z : Nat) (ha : a < 72057594037927936) (hz : z < 256) : bits .or .u64 (IntKind.u64.wrap ((a : Int) * 256)) (IntKind.u64.wrap (z : Int)) = ((a * 256 + z : Nat) : Int) := by
  show IntKind.u64.wrap ((BitVec.ofInt 64 (IntKind.u64.wrap ((a : Int) * 256)) ||| BitVec.ofInt 64 (IntKind.u64.wrap (z : Int))).toNat : Int) = _
  rw [BitVec.toNat_or, bv64, bv64, wr_u64, wr_u64, wr_u64, show ((a : Int) * 256 % 18446744073709551616 % 18446744073709551616).toNat = a * 256 by omega, show ((z : Int) % 18446744073709551616 % 18446744073709551616).toNat = z by omega, or_low a z hz]
  omega
theorem or_i64 (n : Int) (z : Nat) (hz : z < 256) : bits .or .i64 (IntKind.i64.wrap (n * 256)) (z : Int) = i64 (n * 256 + z) := by
  show IntKind.i64.wrap ((BitVec.ofInt 64 (IntKind.i64.wrap (n * 256)) ||| BitVec.ofInt 64 (z : Int)).toNat : Int) = _
  obtain ⟨m, hm⟩ : ∃ m : Nat, (m : Int) = n % 72057594037927936 := ⟨(n % 72057594037927936).toNat, by omega⟩
  rw [BitVec.toNat_or, bv64, bv64, wr_i64, wr_i64, show (i64 (n * 256) % 18446744073709551616).toNat = m * 256 by unfold i64; omega, show ((z : Int) % 18446744073709551616).toNat = z by omega, or_low m z hz]
  unfold i64
  omega
theorem xor_u32 (a b : Nat) (ha : a < 4294967296) (hb : b < 4294967296) : bits .xor .u32 (a : Int) (b : Int) = ((a ^^^ b : Nat) : Int) := by
  have hx : a ^^^ b < 2 ^ 32 := Nat.xor_lt_two_pow (by omega) (by omega)
  show IntKind.u32.wrap ((BitVec.ofInt 32 (a : Int) ^^^ BitVec.ofInt 32 (b : Int)).toNat : Int) = _
  rw [BitVec.toNat_xor, bv32, bv32, wr_u32, show ((a : Int) % 4294967296).toNat = a by omega, show ((b : Int) % 4294967296).toNat = b by omega]
  omega
theorem xor_i64 (a b : Nat) (ha : a < 4294967296) (hb : b < 4294967296) : bits .xor .i64 (a : Int) (b : Int) = ((a ^^^ b : Nat) : Int) := by
  have hx : a ^^^ b < 2 ^ 32 := Nat.xor_lt_two_pow (by omega) (by omega)
  show IntKind.i64.wrap ((BitVec.ofInt 64 (a : Int) ^^^ BitVec.ofInt 64 (b : Int)).toNat : Int) = _
  rw [BitVec.toNat_xor, bv64, bv64, wr_i64, show ((a : Int) % 18446744073709551616).toNat = a by omega, show ((b : Int) % 18446744073709551616).toNat = b by omega]
  unfold i64
  omega
theorem and_u32 (a : Nat) (ha : a < 4294967296) : bits .and .u32 (a : Int) 1 = ((a % 2 : Nat) : Int) := by
  show IntKind.u32.wrap ((BitVec.ofInt 32 (a : Int) &&& BitVec.ofInt 32 1).toNat : Int) = _
  rw [BitVec.toNat_and, bv32, bv32, wr_u32, show ((a : Int) % 4294967296).toNat = a by omega, show ((1 : Int) % 4294967296).toNat = 1 by decide, Nat.and_one_is_mod]
  omega

/-! ### the sum of a text -/
def poly : Nat := 3988292384
def crcStep (x : Nat) : Nat := if x % 2 = 1 then (x / 2) ^^^ 3988292384 else x / 2
def crcSteps : Nat → Nat → Nat
  | 0, x => x
  | k + 1, x => crcStep (crcSteps k x)
def crcByte (x : Nat) (c : UInt8) : Nat := crcSteps 8 (x ^^^ c.toNat)
def crcOf (l : List UInt8) : Nat := l.foldl crcByte 4294967295
def sumN (l : List UInt8) : Nat := crcOf l ^^^ 4294967295
theorem crcStep_lt {x : Nat} (h : x < 4294967296) : crcStep x < 4294967296 := by
  unfold crcStep
  split
  · exact Nat.xor_lt_two_pow (n := 32) (by omega) (by decide)
  · omega
theorem crcSteps_lt {x : Nat} (h : x < 4294967296) : ∀ k, crcSteps k x < 4294967296
  | 0 => h
  | k + 1 => crcStep_lt (crcSteps_lt h k)
theorem crcByte_lt {x : Nat} (h : x < 4294967296) (c : UInt8) : crcByte x c < 4294967296 := crcSteps_lt (Nat.xor_lt_two_pow (n := 32) h (by have := c.toNat_lt; omega)) 8
theorem crc_lt : ∀ (l : List UInt8) (x : Nat), x < 4294967296 → l.foldl crcByte x < 4294967296
  | [], _, h => h
  | c :: l, _, h => crc_lt l _ (crcByte_lt h c)
theorem crcOf_lt (l : List UInt8) : crcOf l < 4294967296 := crc_lt l _ (by decide)
theorem sumN_lt (l : List UInt8) : sumN l < 4294967296 := Nat.xor_lt_two_pow (n := 32) (crcOf_lt l) (by decide)
/-- The reference's way: bit by bit. -/
def refStep (c : UInt8) (k x : Nat) : Nat := if (x ^^^ (c.toNat >>> k)) % 2 = 1 then (x / 2) ^^^ 3988292384 else x / 2
def refSteps (c : UInt8) : Nat → Nat → Nat
  | 0, x => x
  | k + 1, x => refStep c k (refSteps c k x)
theorem xor_half (a b : Nat) : (a ^^^ b) / 2 = a / 2 ^^^ b / 2 := by
  have := Nat.shiftRight_xor_distrib (a := a) (b := b) (i := 1)
  simpa [Nat.shiftRight_eq_div_pow] using this
theorem ref_same (c : UInt8) (x : Nat) : ∀ k, crcSteps k (x ^^^ c.toNat) = refSteps c k x ^^^ (c.toNat >>> k)
  | 0 => rfl
  | k + 1 => by
    show crcStep _ = refStep c k _ ^^^ _
    rw [ref_same c x k]
    unfold crcStep refStep
    rw [xor_half, show c.toNat >>> k / 2 = c.toNat >>> (k + 1) from rfl]
    split
    · rw [Nat.xor_assoc, Nat.xor_assoc, Nat.xor_comm 3988292384]
    · rfl
theorem refByte (c : UInt8) (x : Nat) : refSteps c 8 x = crcByte x c := by
  unfold crcByte
  rw [ref_same]
  have : c.toNat >>> 8 = 0 := by rw [Nat.shiftRight_eq_div_pow]; have := c.toNat_lt; omega
  rw [this, Nat.xor_zero]
def sum4 (l : List UInt8) : List UInt8 := [UInt8.ofNat (sumN l / 16777216), UInt8.ofNat (sumN l / 65536), UInt8.ofNat (sumN l / 256), UInt8.ofNat (sumN l)]
end Go.Proofs.YtkonjpcgfdcfbaaDoor
