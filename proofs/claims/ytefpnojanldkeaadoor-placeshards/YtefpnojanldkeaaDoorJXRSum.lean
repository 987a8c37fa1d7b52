/- Worlds, rows, ops and commits in memory; The bytes of messages, and their reading: plain mathematics; What is read is what was written, and the other way around: plain mathematics; Words of bits as the model has them, as numbers; The reader's leaves by their contracts; The sums of texts, the program's and the reference's; The reference's sum. -/
import Derived.Test.YtefpnojanldkeaaDoorProg
import Derived.Test.YtefpnojanldkeaaDoorJVOp2
import Derived.Test.YtefpnojanldkeaaDoorJHC
import Derived.Test.YtefpnojanldkeaaDoorJCA
import Derived.Test.YtefpnojanldkeaaDoorJVCom
import Derived.WalkKit
import Derived.Deep.Draws
import Derived.Handy
import Derived.Deep.QuietTactic
import Derived.BigQuiet
import Derived.Laws.AppendOwnNone
import Derived.WalkLawsBesides
import Derived.WalkSpells
import Derived.Laws.IdiomStrings
import Derived.Test.YtefpnojanldkeaaDoorJVCmp
namespace Go.Proofs.YtefpnojanldkeaaDoor
open Go.RowKit
set_option linter.unusedSectionVars false
variable [Inhabited ComV] [DecidableEq D3] [Inhabited D3] [Inhabited Dn] [Inhabited OpV]

/-- The shape of a slice of ops, and its op j. -/
theorem OpsAt.shapeX {w : World} {v : Value} {os : List OpV} (h : OpsAt w v os) : ∃ ad cap, v = .slice ad os.length cap ∧ (ad = none → cap = 0) ∧ os.length ≤ cap ∧
    (os = [] ∨ ∃ b off, ad = some ⟨b, off, none⟩ ∧ ∀ j o, os[j]? = some o → ∃ dp dc, DotsAt w (.slice dp o.dots.length dc) o.dots ∧
      w.cell? ⟨b, off + j * 7, none⟩ = some (.int .i64 o.at_) ∧ w.cell? ⟨b, off + j * 7 + 1, none⟩ = some (.string o.key) ∧ w.cell? ⟨b, off + j * 7 + 2, none⟩ = some (.int .i64 o.kind) ∧ w.cell? ⟨b, off + j * 7 + 3, none⟩ = some (.string o.text) ∧
      w.cell? ⟨b, off + j * 7 + 4, none⟩ = some (.int .i64 o.n) ∧ w.cell? ⟨b, off + j * 7 + 5, none⟩ = some (.bool o.rem) ∧ w.cell? ⟨b, off + j * 7 + 6, none⟩ = some (.slice dp o.dots.length dc)) := by
  obtain ⟨rows, ⟨ad, cap, rfl, h1, h2, h3⟩, hf⟩ := h
  have hl := f2_len hf
  refine ⟨ad, cap, by rw [hl], h1, by omega, ?_⟩
  rcases h3 with rfl | ⟨b, off, rfl, h3⟩
  · exact .inl (List.eq_nil_of_length_eq_zero hl.symm)
  · refine .inr ⟨b, off, rfl, fun j o hj => ?_⟩
    obtain ⟨r, hr, dv, rfl, hd⟩ := f2_get hf j o hj
    obtain ⟨dp, dc, rfl⟩ := hd.len
    have hc := (h3 j _ hr).2
    exact ⟨dp, dc, hd, hc 0 _ rfl, hc 1 _ rfl, hc 2 _ rfl, hc 3 _ rfl, hc 4 _ rfl, hc 5 _ rfl, hc 6 _ rfl⟩
end Go.Proofs.YtefpnojanldkeaaDoor
namespace Go.Proofs.YtefpnojanldkeaaDoor
set_option maxRecDepth 100000
set_option linter.unusedSectionVars false
variable [Inhabited ComV] [DecidableEq D3] [Inhabited D3] [Inhabited Dn] [Inhabited OpV]

/-- The whole number of eight bytes, as Go's int has it. -/
def i64 (n : Int) : Int := (n + 9223372036854775808) % 18446744073709551616 - 9223372036854775808
def In64 (n : Int) : Prop := -9223372036854775808 ≤ n ∧ n < 9223372036854775808
theorem i64_of {n : Int} (h : In64 n) : i64 n = n := by unfold In64 at h; unfold i64; omega
/-- A reading: what was read, and what is left. -/
abbrev Pa (α : Type) := List UInt8 → Option (α × List UInt8)
/-! ### what is read is what was written -/
end Go.Proofs.YtefpnojanldkeaaDoor
namespace Go.Proofs.YtefpnojanldkeaaDoor
set_option linter.unusedSectionVars false
variable [Inhabited ComV] [DecidableEq D3] [Inhabited D3] [Inhabited Dn] [Inhabited OpV]

/-! ### and the other way around -/
theorem step {α β : Type} {p : Pa α} {l : List UInt8} {x : α} {r : List UInt8} {f : α × List UInt8 → Option β} (h : p l = some (x, r)) : (p l).bind f = f (x, r) := by rw [h]; rfl
end Go.Proofs.YtefpnojanldkeaaDoor
namespace Go.Proofs.YtefpnojanldkeaaDoor
open Go.RowKit
set_option linter.unusedSectionVars false
variable [Inhabited ComV] [DecidableEq D3] [Inhabited D3] [Inhabited Dn] [Inhabited OpV]

theorem wr_u32 (n : Int) : IntKind.u32.wrap n = n % 4294967296 := by simp [IntKind.wrap, IntKind.bits, IntKind.signed]
theorem wr_i64 (n : Int) : IntKind.i64.wrap n = i64 n := by
  unfold i64
  simp [IntKind.wrap, IntKind.bits, IntKind.signed]
  split <;> omega
theorem bv64 (n : Int) : (BitVec.ofInt 64 n).toNat = (n % 18446744073709551616).toNat := by rw [BitVec.toNat_ofInt]; rfl
theorem bv32 (n : Int) : (BitVec.ofInt 32 n).toNat = (n % 4294967296).toNat := by rw [BitVec.toNat_ofInt]; rfl
theorem xor_u32 (a b : Nat) (ha : a < 4294967296) (hb : b < 4294967296) : bits .xor .u32 (a : Int) (b : Int) = ((a ^^^ b : Nat) : Int) := by
  have hx : a ^^^ b < 2 ^ 32 := Nat.xor_lt_two_pow (by omega) (by omega)
  show IntKind.u32.wrap ((BitVec.ofInt 32 (a : Int) ^^^ BitVec.ofInt 32 (b : Int)).toNat : Int) = _
  rw [BitVec.toNat_xor, bv32, bv32, wr_u32, show ((a : Int) % 4294967296).toNat = a by omega, show ((b : Int) % 4294967296).toNat = b by omega]
  omega
theorem xor_i64 (a b : Nat) (ha : a < 4294967296) (hb : b < 4294967296) : bits .xor .i64 (a : Int) (b : Int) = ((a ^^^ b : Nat) : Int) := by
  have hx : a ^^^ b < 2 ^ 32 := Nat.xor_lt_two_pow (by omega) (by omega)
  show IntKind.i64.wrap ((BitVec.ofInt 64 (a : Int) ^^^ BitVec.ofInt 64 (b : Int)).toNat : Int) = _
  rw [BitVec.toNat_xor, bv64, bv64, wr_i64, show ((a : Int) % 18446744073709551616).toNat = a by omega, show ((b : Int) % 18446744073709551616).toNat = b by omega]
  unfold i64
  omega
theorem and_u32 (a : Nat) (ha : a < 4294967296) : bits .and .u32 (a : Int) 1 = ((a % 2 : Nat) : Int) := by
  show IntKind.u32.wrap ((BitVec.ofInt 32 (a : Int) &&& BitVec.ofInt 32 1).toNat : Int) = _
  rw [BitVec.toNat_and, bv32, bv32, wr_u32, show ((a : Int) % 4294967296).toNat = a by omega, show ((1 : Int) % 4294967296).toNat = 1 by decide, Nat.and_one_is_mod]
  omega
/-! ### the sum of a text -/
def crcStep (x : Nat) : Nat := if x % 2 = 1 then (x / 2) ^^^ 3988292384 else x / 2
def crcSteps : Nat → Nat → Nat
  | 0, x => x
  | k + 1, x => crcStep (crcSteps k x)
def crcByte (x : Nat) (c : UInt8) : Nat := crcSteps 8 (x ^^^ c.toNat)
def crcOf (l : List UInt8) : Nat := l.foldl crcByte 4294967295
def sumNX (l : List UInt8) : Nat := crcOf l ^^^ 4294967295
theorem crcStep_lt {x : Nat} (h : x < 4294967296) : crcStep x < 4294967296 := by
  unfold crcStep
  split
  · exact Nat.xor_lt_two_pow (n := 32) (by omega) (by decide)
  · omega
theorem crcSteps_lt {x : Nat} (h : x < 4294967296) : ∀ k, crcSteps k x < 4294967296
  | 0 => h
  | k + 1 => crcStep_lt (crcSteps_lt h k)
theorem crcByte_lt {x : Nat} (h : x < 4294967296) (c : UInt8) : crcByte x c < 4294967296 := crcSteps_lt (Nat.xor_lt_two_pow (n := 32) h (by have := c.toNat_lt; omega)) 8
theorem crc_lt : ∀ (l : List UInt8) (x : Nat), x < 4294967296 → l.foldl crcByte x < 4294967296
  | [], _, h => h
  | c :: l, _, h => crc_lt l _ (crcByte_lt h c)
theorem crcOf_lt (l : List UInt8) : crcOf l < 4294967296 := crc_lt l _ (by decide)
/-- The reference's way: bit by bit. -/
def refStep (c : UInt8) (k x : Nat) : Nat := if (x ^^^ (c.toNat >>> k)) % 2 = 1 then (x / 2) ^^^ 3988292384 else x / 2
def refSteps (c : UInt8) : Nat → Nat → Nat
  | 0, x => x
  | k + 1, x => refStep c k (refSteps c k x)
theorem xor_half (a b : Nat) : (a ^^^ b) / 2 = a / 2 ^^^ b / 2 := by
  have := Nat.shiftRight_xor_distrib (a := a) (b := b) (i := 1)
  simpa [Nat.shiftRight_eq_div_pow] using this
theorem ref_same (c : UInt8) (x : Nat) : ∀ k, crcSteps k (x ^^^ c.toNat) = refSteps c k x ^^^ (c.toNat >>> k)
  | 0 => rfl
  | k + 1 => by
    show crcStep _ = refStep c k _ ^^^ _
    rw [ref_same c x k]
    unfold crcStep refStep
    rw [xor_half, show c.toNat >>> k / 2 = c.toNat >>> (k + 1) from rfl]
    split
    · rw [Nat.xor_assoc, Nat.xor_assoc, Nat.xor_comm 3988292384]
    · rfl
theorem refByte (c : UInt8) (x : Nat) : refSteps c 8 x = crcByte x c := by
  unfold crcByte
  rw [ref_same]
  have : c.toNat >>> 8 = 0 := by rw [Nat.shiftRight_eq_div_pow]; have := c.toNat_lt; omega
  rw [this, Nat.xor_zero]
end Go.Proofs.YtefpnojanldkeaaDoor
namespace Go.Proofs.YtefpnojanldkeaaDoor
open Go.RowKit
set_option maxRecDepth 100000
set_option linter.unusedSectionVars false
variable [Inhabited ComV] [DecidableEq D3] [Inhabited D3] [Inhabited Dn] [Inhabited OpV]

theorem wrap64_eq (n : Int) : wrap64 n = i64 n := by unfold wrap64 i64; rfl
end Go.Proofs.YtefpnojanldkeaaDoor
namespace Go.Proofs.YtefpnojanldkeaaDoor
open Go.RowKit
set_option maxRecDepth 100000
set_option linter.unusedSectionVars false
variable [Inhabited ComV] [DecidableEq D3] [Inhabited D3] [Inhabited Dn] [Inhabited OpV]

theorem crc_take {l : List UInt8} {k : Nat} (h : k < l.length) : (l.take (k + 1)).foldl crcByte 4294967295 = crcByte ((l.take k).foldl crcByte 4294967295) l[k] := by
  rw [List.take_succ_eq_append_getElem h, List.foldl_append]
  rfl
theorem crcStep_odd {x : Nat} (h : x % 2 = 1) : crcStep x = (x / 2) ^^^ 3988292384 := if_pos h
theorem crcStep_even {x : Nat} (h : ¬ x % 2 = 1) : crcStep x = x / 2 := if_neg h
set_option maxHeartbeats 4000000 in
theorem remainder_any (w : World) (l : List UInt8) (hl : l.length ≤ 7000) :
    Calls Tryd.prog 25 #[.string ⟨l.toArray⟩] w fun e w' => e = .returned (.int .u32 (sumNX l : Nat)) ∧ w' = w := by
  go_enter Tryd.func25, Tryd.ntmps25
  go_wp2
  go_loopw [3, 8] (fun a i wr => ∃ k : Nat, k ≤ l.length ∧ i = .int .i64 k ∧ a = .int .u32 ((l.take k).foldl crcByte 4294967295 : Nat) ∧ wr = w) (fun _ i _ => l.length - (intOf i).toNat)
  case atStart => exact ⟨0, Nat.zero_le _, rfl, rfl, rfl⟩
  case round =>
    obtain ⟨k, hk, rfl, rfl, rfl⟩ := hrel
    by_cases hlt : k < l.length
    · have HT := hid (crc_take hlt)
      have HX := hid (crc_lt (l.take k) 4294967295 (by decide))
      obtain ⟨x, hx⟩ : ∃ x, x = (l.take k).foldl crcByte 4294967295 := ⟨_, rfl⟩
      rw [← hx] at HT HX ⊢
      clear hx
      have hz := l[k].toNat_lt
      obtain ⟨c, hc⟩ : ∃ c, c = l[k] := ⟨_, rfl⟩
      have e1 : (⟨l.toArray⟩ : ByteArray)[k]'hlt = c := hc.symm
      rw [← hc] at HT hz
      have HZ := hid hz
      clear hz hc
      go_wp2
      go_loopw [3, 17] (fun a i u => ∃ j : Nat, j ≤ 8 ∧ i = .int .i64 j ∧ a = .int .u32 (crcSteps j (x ^^^ c.toNat) : Nat) ∧ u = wr) (fun _ i _ => 8 - (intOf i).toNat)
      case atStart =>
        refine ⟨0, Nat.zero_le _, rfl, ?_, rfl⟩
        rw [show ((c.toNat : Int) % 4294967296) = (c.toNat : Int) by have := HZ.out; omega, xor_u32 x c.toNat HX.out (by have := HZ.out; omega)]
        rfl
      case round =>
        obtain ⟨j, hj, rfl, rfl, rfl⟩ := hrel
        by_cases hlt8 : j < 8
        · have HS := hid (crcSteps_lt (x := x ^^^ c.toNat) (Nat.xor_lt_two_pow (n := 32) HX.out (by have := HZ.out; omega)) j)
          have HE : Hid (crcSteps (j + 1) (x ^^^ c.toNat) = crcStep (crcSteps j (x ^^^ c.toNat))) := rfl
          obtain ⟨y, hy⟩ : ∃ y, y = crcSteps j (x ^^^ c.toNat) := ⟨_, rfl⟩
          rw [← hy] at HS HE ⊢
          clear hy
          have ha := and_u32 y HS.out
          by_cases ho : y % 2 = 1
          · rw [ho] at ha
            have HO := hid ho
            go_wp2
            go_roundw
            case rel =>
              refine ⟨j + 1, by omega, by go_num, ?_, trivial⟩
              rw [HE.out, crcStep_odd HO.out, show ((y : Int) / 2) = ((y / 2 : Nat) : Int) by omega, show (3988292384 : Int) = ((3988292384 : Nat) : Int) from rfl, xor_u32 (y / 2) 3988292384 (by have := HS.out; omega) (by decide)]
            case measure => simp [intOf]; omega
          · rw [show y % 2 = 0 by omega] at ha
            have HO := hid ho
            go_wp2
            go_roundw
            case rel =>
              refine ⟨j + 1, by omega, by go_num, ?_, trivial⟩
              rw [HE.out, crcStep_even HO.out, show ((y : Int) / 2) = ((y / 2 : Nat) : Int) by omega]
            case measure => simp [intOf]; omega
        · obtain rfl : j = 8 := by omega
          have HB : Hid (crcByte x c = crcSteps 8 (x ^^^ c.toNat)) := rfl
          obtain ⟨y, hy⟩ : ∃ y, y = crcSteps 8 (x ^^^ c.toNat) := ⟨_, rfl⟩
          rw [← hy] at HB ⊢
          clear hy
          go_wp2
          go_roundw
          case rel =>
            refine ⟨k + 1, by omega, by go_num, ?_, trivial⟩
            rw [HT.out, HB.out]
          case measure => simp [intOf]; omega
    · obtain rfl : k = l.length := by omega
      rw [List.take_length]
      obtain ⟨n, hn⟩ : ∃ n, n = l.foldl crcByte 4294967295 := ⟨_, rfl⟩
      rw [← hn]
      have HN : Hid (n = crcOf l) := hn
      clear hn
      obtain ⟨m, hm⟩ : ∃ m, m = n ^^^ 4294967295 := ⟨_, rfl⟩
      have hx : bits .xor .u32 IntKind.u32.max (n : Int) = (m : Int) := by
        rw [show IntKind.u32.max = ((4294967295 : Nat) : Int) by decide, xor_u32 _ _ (by decide) (by rw [HN.out]; exact crcOf_lt l), Nat.xor_comm, hm]
      have HM : Hid (m = sumNX l) := (show m = _ from by rw [hm, HN.out]; rfl)
      clear hm
      go_wp2
      go_ret
      exact ⟨congrArg (fun x : Nat => Ending.returned (.int .u32 (x : Int))) HM.out, rfl⟩
end Go.Proofs.YtefpnojanldkeaaDoor
namespace Go.Proofs.YtefpnojanldkeaaDoor
open Go.RowKit
set_option maxRecDepth 100000
set_option linter.unusedSectionVars false
variable [Inhabited ComV] [DecidableEq D3] [Inhabited D3] [Inhabited Dn] [Inhabited OpV]

theorem refStep_lt {c : UInt8} {k x : Nat} (h : x < 4294967296) : refStep c k x < 4294967296 := by
  unfold refStep
  split
  · exact Nat.xor_lt_two_pow (n := 32) (by omega) (by decide)
  · omega
theorem refSteps_lt {c : UInt8} {x : Nat} (h : x < 4294967296) : ∀ k, refSteps c k x < 4294967296
  | 0 => h
  | k + 1 => refStep_lt (refSteps_lt h k)
set_option maxHeartbeats 4000000 in
theorem rsum_any (w : World) (l : List UInt8) (hl : l.length ≤ 7000) :
    Calls Tryd.prog 17 #[.string ⟨l.toArray⟩] w fun e w' => e = .returned (.int .i64 (sumNX l : Nat)) ∧ w' = w := by
  go_enter Tryd.func17, Tryd.ntmps17
  go_wp2
  go_loopw [3, 4] (fun a i wr => ∃ k : Nat, k ≤ l.length ∧ i = .int .i64 k ∧ a = .int .i64 ((l.take k).foldl crcByte 4294967295 : Nat) ∧ wr = w) (fun _ i _ => l.length - (intOf i).toNat)
  case atStart => exact ⟨0, Nat.zero_le _, rfl, rfl, rfl⟩
  case round =>
    obtain ⟨k, hk, rfl, rfl, rfl⟩ := hrel
    by_cases hlt : k < l.length
    · have HT := hid (crc_take hlt)
      have HX := hid (crc_lt (l.take k) 4294967295 (by decide))
      obtain ⟨x, hx⟩ : ∃ x, x = (l.take k).foldl crcByte 4294967295 := ⟨_, rfl⟩
      rw [← hx] at HT HX ⊢
      clear hx
      have hz := l[k].toNat_lt
      obtain ⟨c, hc⟩ : ∃ c, c = l[k] := ⟨_, rfl⟩
      have e1 : (⟨l.toArray⟩ : ByteArray)[k]'hlt = c := hc.symm
      rw [← hc] at HT hz
      have HZ := hid hz
      clear hz hc
      go_wp2
      go_loopw [3, 5] (fun a i u => ∃ j : Nat, j ≤ 8 ∧ i = .int .i64 j ∧ a = .int .i64 (refSteps c j x : Nat) ∧ u = wr) (fun _ i _ => 8 - (intOf i).toNat)
      case atStart => exact ⟨0, Nat.zero_le _, rfl, rfl, rfl⟩
      case round =>
        obtain ⟨j, hj, rfl, rfl, rfl⟩ := hrel
        by_cases hlt8 : j < 8
        · have HS := hid (refSteps_lt (c := c) HX.out j)
          have HE : Hid (refSteps c (j + 1) x = refStep c j (refSteps c j x)) := rfl
          obtain ⟨y, hy⟩ : ∃ y, y = refSteps c j x := ⟨_, rfl⟩
          rw [← hy] at HS HE ⊢
          clear hy
          have hq : wrap64 (c.toNat : Int) / 2 ^ j = ((c.toNat >>> j : Nat) : Int) := by
            rw [wrap64_eq, i64_of (by unfold In64; have := HZ.out; omega), Nat.shiftRight_eq_div_pow]
            simp
          have hb : bits .xor .i64 (y : Int) (wrap64 (c.toNat : Int) / 2 ^ j) = ((y ^^^ (c.toNat >>> j) : Nat) : Int) := by
            rw [hq]
            refine xor_i64 _ _ HS.out (Nat.lt_of_le_of_lt (by rw [Nat.shiftRight_eq_div_pow]; exact Nat.div_le_self _ _) (by have := HZ.out; omega : c.toNat < 4294967296))
          have hw : wrap64 ((y : Int) / 2) = ((y / 2 : Nat) : Int) := by
            rw [wrap64_eq, i64_of (by unfold In64; have := HS.out; omega)]
            omega
          have HXO := hid (xor_i64 (y / 2) 3988292384 (by have := HS.out; omega) (by decide))
          have HW := hid hw
          clear hq
          by_cases ho : (y ^^^ (c.toNat >>> j)) % 2 = 1
          · have hm : (((y ^^^ (c.toNat >>> j) : Nat) : Int) % 2 == 1) = true := by
              rw [beq_iff_eq]
              omega
            have HO : Hid (refStep c j y = (y / 2) ^^^ 3988292384) := if_pos ho
            obtain ⟨q, hqq⟩ : ∃ q, q = y ^^^ (c.toNat >>> j) := ⟨_, rfl⟩
            rw [← hqq] at hb hm
            clear hqq ho hw
            go_wp2
            go_roundw
            case rel =>
              refine ⟨j + 1, by omega, by go_num, ?_, trivial⟩
              rw [HE.out, HO.out, HW.out]
              exact congrArg (Value.int .i64) HXO.out
            case measure => simp [intOf]; omega
          · have hm : (((y ^^^ (c.toNat >>> j) : Nat) : Int) % 2 == 1) = false := by
              rw [beq_eq_false_iff_ne]
              omega
            have HO : Hid (refStep c j y = y / 2) := if_neg ho
            obtain ⟨q, hqq⟩ : ∃ q, q = y ^^^ (c.toNat >>> j) := ⟨_, rfl⟩
            rw [← hqq] at hb hm
            clear hqq ho hw
            go_wp2
            go_roundw
            case rel =>
              refine ⟨j + 1, by omega, by go_num, ?_, trivial⟩
              rw [HE.out, HO.out, HW.out]
            case measure => simp [intOf]; omega
        · obtain rfl : j = 8 := by omega
          have HB := hid (refByte c x)
          obtain ⟨y, hy⟩ : ∃ y, y = refSteps c 8 x := ⟨_, rfl⟩
          rw [← hy] at HB ⊢
          clear hy
          go_wp2
          go_roundw
          case rel =>
            refine ⟨k + 1, by omega, by go_num, ?_, trivial⟩
            rw [HT.out, HB.out]
          case measure => simp [intOf]; omega
    · obtain rfl : k = l.length := by omega
      rw [List.take_length]
      have hx := xor_i64 (crcOf l) 4294967295 (crcOf_lt l) (by decide)
      go_wp2
      go_ret
      exact ⟨ret_int hx, rfl⟩
end Go.Proofs.YtefpnojanldkeaaDoor
