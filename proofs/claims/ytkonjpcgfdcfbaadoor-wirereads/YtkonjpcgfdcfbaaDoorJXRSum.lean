/- The reader's leaves by their contracts; The sums of texts, the program's and the reference's; The four bytes of a text's sum; the reference's; The reference's sum. -/
import Derived.Test.YtkonjpcgfdcfbaaDoorJXSt
import Derived.Test.YtkonjpcgfdcfbaaDoorJXBits
import Derived.Laws.IdiomStrings
namespace Go.Proofs.YtkonjpcgfdcfbaaDoor
open Go.RowKit
set_option maxRecDepth 100000

theorem throw_any (t : TypeId) (p : Option Addr) (w : World) : Calls Tryd.prog 40 #[.iface t (.pointer p)] w fun e w' => e = thrown (.iface t (.pointer p)) ∧ w' = w := by
  go_enter Tryd.func40, Tryd.ntmps40
  go_wp2
  exact ⟨rfl, rfl, rfl⟩

theorem take_any (w : World) (a0 : Addr) (b : Nat) (l : List UInt8) (n : Nat) (h : Rs a0 b w l) (hn : n ≤ 6000) :
    Calls Tryd.prog 58 #[.pointer (some ⟨b, 0, none⟩), .int .i64 n] w fun e w' => RdPost a0 b w (takeP n l) (fun x e _ => e = .returned (.string ⟨x.toArray⟩)) e w' := by
  have H := hid h
  have hc := h.cell
  have hz := h.free
  have he := h.err
  have hl := h.len
  by_cases hnl : n ≤ l.length
  · go_enter Tryd.func58, Tryd.ntmps58
    go_wp2
    go_ret
    refine .inl ⟨_, _, if_pos hnl, ret_str (ext_take _ _), ?_, ?_⟩
    · rw [ext_drop]
      exact H.out.put (by rw [List.length_drop]; omega)
    · exact (Aside.refl b _ w).set (p := ⟨b, 0, none⟩) (.inl rfl) _
  · go_enter Tryd.func58, Tryd.ntmps58
    go_wp2_with (go_at_call 40; refine (throw_any _ _ _).mono ?_; rintro e w' ⟨rfl, rfl⟩)
    exact ⟨rfl, .inr ⟨if_neg hnl, rfl, Aside.refl _ _ _⟩⟩

/-- The bytes of a text, as a slice of their own. -/
theorem conv_bytes (w : World) (l : List UInt8) : ∃ w' c, (convert 9 53 (.string ⟨l.toArray⟩)).run Tryd.prog w = .ok (.slice (some ⟨w.heap.size, 0, none⟩) l.length c) w' ∧ Below w.heap.size w w' ∧ ∀ j (hj : j < l.length), w'.cell? ⟨w.heap.size, j, none⟩ = some (.int .u8 (l[j].toNat : Int)) := by
  refine ⟨_, _, run_bytes_of_string w 9 53 5 ⟨l.toArray⟩ Tryd.underlying9 Tryd.underlying53 Tryd.underlying5, ?_, fun j hj => ?_⟩
  · exact (Below.refl _ w).drew.alloc (Nat.le_refl _) _
  · have hh := heap_new w.drew (.cells (bytesRow ⟨l.toArray⟩ (grownCap w (⟨l.toArray⟩ : ByteArray).size 0 5)) 5 ((bytesRow ⟨l.toArray⟩ (grownCap w (⟨l.toArray⟩ : ByteArray).size 0 5)).size, (bytesRow ⟨l.toArray⟩ (grownCap w (⟨l.toArray⟩ : ByteArray).size 0 5)).size + 1))
    have hz : w.drew.heap.size = w.heap.size := rfl
    rw [hz] at hh
    have := bytesRow_at ⟨l.toArray⟩ (grownCap w (⟨l.toArray⟩ : ByteArray).size 0 5) j (by simpa using hj)
    simp only [World.cell?, hh]
    exact this
theorem wrap64_eq (n : Int) : wrap64 n = i64 n := by unfold wrap64 i64; rfl
theorem val_take {x : List UInt8} {k : Nat} (h : k < x.length) : val (x.take (k + 1)) = val (x.take k) * 256 + x[k].toNat := by
  unfold val
  rw [List.take_succ_eq_append_getElem h, List.foldl_append]
  rfl
theorem val_small {x : List UInt8} {k : Nat} (hk : k < 8) (hx : k ≤ x.length) : val (x.take k) < 72057594037927936 := by
  have := val_lt (x.take k) 0 0 (by decide)
  rw [List.length_take, Nat.min_eq_left hx] at this
  exact Nat.lt_of_lt_of_le this (by
    have : 256 ^ (0 + k) ≤ 256 ^ 7 := Nat.pow_le_pow_right (by decide) (by omega)
    exact this)

set_option maxHeartbeats 1000000 in
theorem number_any (w : World) (a0 : Addr) (b : Nat) (l : List UInt8) (h : Rs a0 b w l) :
    Calls Tryd.prog 51 #[.pointer (some ⟨b, 0, none⟩)] w fun e w' => RdPost a0 b w (numP l) (fun x e _ => e = .returned (.int .i64 x)) e w' := by
  have K := hid (take_any w a0 b l 8 h (by decide))
  go_enter Tryd.func51, Tryd.ntmps51
  go_wp2_with fail
  refine K.out.mono ?_
  rintro e w1 (⟨x, l1, hq, rfl, hs, ha⟩ | ⟨hq, rfl, ha⟩)
  · have hx : x.length = 8 ∧ numP l = some (i64 (val x), l1) := by
      unfold takeP at hq
      split at hq
      · next h8 =>
        have e := Prod.mk.inj (Option.some.inj hq)
        rw [← e.1, ← e.2]
        exact ⟨by rw [List.length_take]; omega, num_yes h8⟩
      · cases hq
    obtain ⟨w2, cp, hcv, hb2, hcs⟩ := conv_bytes w1 x
    rw [hx.1] at hcv
    have HS := hid hs
    have HA := hid ha
    have HB := hid hb2
    have HC := hid hcs
    have HX := hid hx
    clear hs ha hb2 hcs hx hq
    go_wp2
    go_loopw [3, 10] (fun a i wr => ∃ k : Nat, k ≤ 8 ∧ i = .int .i64 k ∧ a = .int .u64 (val (x.take k) : Nat) ∧ wr = w2) (fun _ i _ => 8 - (intOf i).toNat)
    case atStart => exact ⟨0, Nat.zero_le _, rfl, rfl, rfl⟩
    case round =>
      obtain ⟨k, hk, rfl, rfl, rfl⟩ := hrel
      by_cases hlt : k < 8
      · have hkx : k < x.length := by have := HX.out; omega
        have e1 := HC.out k hkx
        have HV := hid (val_take hkx)
        have HM := hid (val_small hlt (Nat.le_of_lt hkx))
        obtain ⟨z, hz⟩ : ∃ z, z = x[k] := ⟨_, rfl⟩
        rw [← hz] at e1 HV
        clear hz hkx
        obtain ⟨v, hv⟩ : ∃ v, v = val (x.take k) := ⟨_, rfl⟩
        rw [← hv] at HV HM ⊢
        clear hv
        go_wp2
        go_roundw
        case rel =>
          refine ⟨k + 1, by omega, by go_num, ?_, trivial⟩
          rw [HV.out, or_u64 v z.toNat HM.out z.toNat_lt]
        case measure => simp [intOf]; omega
      · obtain rfl : k = 8 := by omega
        have HT : Hid (x.take 8 = x) := List.take_of_length_le (by have := HX.out.1; omega)
        obtain ⟨v, hv⟩ : ∃ v, v = val (x.take 8) := ⟨_, rfl⟩
        rw [← hv]
        have HV := hid hv
        clear hv
        go_wp2
        go_ret
        have hlt1 := HS.out.lt
        exact .inl ⟨i64 (val x), l1, HX.out.2, ret_int (by rw [HV.out, HT.out, wrap64_eq]), HS.out.moved HB.out hlt1, HA.out.then HB.out HA.out.size⟩
  · go_wp2
    have hn : numP l = none := by
      unfold takeP at hq
      split at hq
      · cases hq
      · next h8 => exact num_none h8
    exact ⟨rfl, .inr ⟨hn, rfl, ha⟩⟩

set_option maxHeartbeats 1000000 in
theorem truth_any (w : World) (a0 : Addr) (b : Nat) (l : List UInt8) (h : Rs a0 b w l) :
    Calls Tryd.prog 52 #[.pointer (some ⟨b, 0, none⟩)] w fun e w' => RdPost a0 b w (bitP l) (fun x e _ => e = .returned (.bool x)) e w' := by
  have K := hid (number_any w a0 b l h)
  go_enter Tryd.func52, Tryd.ntmps52
  go_wp2_with fail
  refine K.out.mono ?_
  rintro e w1 (⟨x, l1, hq, rfl, hs, ha⟩ | ⟨hq, rfl, ha⟩)
  · have he := hs.err
    have HS := hid hs
    have HA := hid ha
    have HQ : Hid (bitP l = if x = 0 ∨ x = 1 then some (decide (x = 1), l1) else none) := by show bitP l = _; unfold bitP; rw [hq]; rfl
    clear hs ha hq
    by_cases h0 : x = 0
    · subst h0
      go_wp2
      go_ret
      exact .inl ⟨false, l1, HQ.out.trans (if_pos (by simp)), rfl, HS.out, HA.out⟩
    · by_cases h1 : x = 1
      · subst h1
        go_wp2
        go_ret
        exact .inl ⟨true, l1, HQ.out.trans (if_pos (by simp)), rfl, HS.out, HA.out⟩
      · have hb0 : (x != 0) = true := by rw [bne_iff_ne]; exact h0
        have hb1 : (x != 1) = true := by rw [bne_iff_ne]; exact h1
        have HN := hid (And.intro h0 h1)
        go_wp2_with (go_at_call 40; refine (throw_any _ _ _).mono ?_; rintro e w' ⟨rfl, rfl⟩)
        exact ⟨rfl, .inr ⟨HQ.out.trans (if_neg fun e => e.elim HN.out.1 HN.out.2), rfl, HA.out⟩⟩
  · go_wp2
    exact ⟨rfl, .inr ⟨by unfold bitP; rw [hq]; rfl, rfl, ha⟩⟩

set_option maxHeartbeats 1000000 in
theorem count_any (w : World) (a0 : Addr) (b : Nat) (l : List UInt8) (h : Rs a0 b w l) :
    Calls Tryd.prog 59 #[.pointer (some ⟨b, 0, none⟩)] w fun e w' => RdPost a0 b w (cntP l) (fun x e _ => e = .returned (.int .i64 (x : Nat)) ∧ x ≤ 6000) e w' := by
  have K := hid (number_any w a0 b l h)
  go_enter Tryd.func59, Tryd.ntmps59
  go_wp2_with fail
  refine K.out.mono ?_
  rintro e w1 (⟨x, l1, hq, rfl, hs, ha⟩ | ⟨hq, rfl, ha⟩)
  · have he := hs.err
    have hc := hs.cell
    have hl := hs.len
    have HS := hid hs
    have HA := hid ha
    have HQ : Hid (cntP l = if x < 0 ∨ (l1.length : Int) < x then none else some (x.toNat, l1)) := by show cntP l = _; unfold cntP; rw [hq]; rfl
    clear hs ha hq
    by_cases h0 : x < 0
    · go_wp2_with (go_at_call 40; refine (throw_any _ _ _).mono ?_; rintro e w' ⟨rfl, rfl⟩)
      exact ⟨rfl, .inr ⟨HQ.out.trans (if_pos (.inl h0)), rfl, HA.out⟩⟩
    · by_cases h1 : (l1.length : Int) < x
      · go_wp2_with (go_at_call 40; refine (throw_any _ _ _).mono ?_; rintro e w' ⟨rfl, rfl⟩)
        exact ⟨rfl, .inr ⟨HQ.out.trans (if_pos (.inr h1)), rfl, HA.out⟩⟩
      · go_wp2
        go_ret
        refine .inl ⟨x.toNat, l1, HQ.out.trans (if_neg (by omega)), ⟨ret_int (Int.toNat_of_nonneg (by omega)).symm, by omega⟩, HS.out, HA.out⟩
  · go_wp2
    exact ⟨rfl, .inr ⟨by unfold cntP; rw [hq]; rfl, rfl, ha⟩⟩
end Go.Proofs.YtkonjpcgfdcfbaaDoor
namespace Go.Proofs.YtkonjpcgfdcfbaaDoor
open Go.RowKit
set_option maxRecDepth 100000

theorem crc_take {l : List UInt8} {k : Nat} (h : k < l.length) : (l.take (k + 1)).foldl crcByte 4294967295 = crcByte ((l.take k).foldl crcByte 4294967295) l[k] := by
  rw [List.take_succ_eq_append_getElem h, List.foldl_append]
  rfl
theorem crcStep_odd {x : Nat} (h : x % 2 = 1) : crcStep x = (x / 2) ^^^ 3988292384 := if_pos h
theorem crcStep_even {x : Nat} (h : ¬ x % 2 = 1) : crcStep x = x / 2 := if_neg h

set_option maxHeartbeats 4000000 in
theorem remainder_any (w : World) (l : List UInt8) (hl : l.length ≤ 7000) :
    Calls Tryd.prog 36 #[.string ⟨l.toArray⟩] w fun e w' => e = .returned (.int .u32 (sumN l : Nat)) ∧ w' = w := by
  go_enter Tryd.func36, Tryd.ntmps36
  go_wp2
  go_loopw [3, 8] (fun a i wr => ∃ k : Nat, k ≤ l.length ∧ i = .int .i64 k ∧ a = .int .u32 ((l.take k).foldl crcByte 4294967295 : Nat) ∧ wr = w) (fun _ i _ => l.length - (intOf i).toNat)
  case atStart => exact ⟨0, Nat.zero_le _, rfl, rfl, rfl⟩
  case round =>
    obtain ⟨k, hk, rfl, rfl, rfl⟩ := hrel
    by_cases hlt : k < l.length
    · have HT := hid (crc_take hlt)
      have HX := hid (crc_lt (l.take k) 4294967295 (by decide))
      obtain ⟨x, hx⟩ : ∃ x, x = (l.take k).foldl crcByte 4294967295 := ⟨_, rfl⟩
      rw [← hx] at HT HX ⊢
      clear hx
      have hz := l[k].toNat_lt
      obtain ⟨c, hc⟩ : ∃ c, c = l[k] := ⟨_, rfl⟩
      have e1 : (⟨l.toArray⟩ : ByteArray)[k]'hlt = c := hc.symm
      rw [← hc] at HT hz
      have HZ := hid hz
      clear hz hc
      go_wp2
      go_loopw [3, 17] (fun a i u => ∃ j : Nat, j ≤ 8 ∧ i = .int .i64 j ∧ a = .int .u32 (crcSteps j (x ^^^ c.toNat) : Nat) ∧ u = wr) (fun _ i _ => 8 - (intOf i).toNat)
      case atStart =>
        refine ⟨0, Nat.zero_le _, rfl, ?_, rfl⟩
        rw [show ((c.toNat : Int) % 4294967296) = (c.toNat : Int) by have := HZ.out; omega, xor_u32 x c.toNat HX.out (by have := HZ.out; omega)]
        rfl
      case round =>
        obtain ⟨j, hj, rfl, rfl, rfl⟩ := hrel
        by_cases hlt8 : j < 8
        · have HS := hid (crcSteps_lt (x := x ^^^ c.toNat) (Nat.xor_lt_two_pow (n := 32) HX.out (by have := HZ.out; omega)) j)
          have HE : Hid (crcSteps (j + 1) (x ^^^ c.toNat) = crcStep (crcSteps j (x ^^^ c.toNat))) := rfl
          obtain ⟨y, hy⟩ : ∃ y, y = crcSteps j (x ^^^ c.toNat) := ⟨_, rfl⟩
          rw [← hy] at HS HE ⊢
          clear hy
          have ha := and_u32 y HS.out
          by_cases ho : y % 2 = 1
          · rw [ho] at ha
            have HO := hid ho
            go_wp2
            go_roundw
            case rel =>
              refine ⟨j + 1, by omega, by go_num, ?_, trivial⟩
              rw [HE.out, crcStep_odd HO.out, show ((y : Int) / 2) = ((y / 2 : Nat) : Int) by omega, show (3988292384 : Int) = ((3988292384 : Nat) : Int) from rfl, xor_u32 (y / 2) 3988292384 (by have := HS.out; omega) (by decide)]
            case measure => simp [intOf]; omega
          · rw [show y % 2 = 0 by omega] at ha
            have HO := hid ho
            go_wp2
            go_roundw
            case rel =>
              refine ⟨j + 1, by omega, by go_num, ?_, trivial⟩
              rw [HE.out, crcStep_even HO.out, show ((y : Int) / 2) = ((y / 2 : Nat) : Int) by omega]
            case measure => simp [intOf]; omega
        · obtain rfl : j = 8 := by omega
          have HB : Hid (crcByte x c = crcSteps 8 (x ^^^ c.toNat)) := rfl
          obtain ⟨y, hy⟩ : ∃ y, y = crcSteps 8 (x ^^^ c.toNat) := ⟨_, rfl⟩
          rw [← hy] at HB ⊢
          clear hy
          go_wp2
          go_roundw
          case rel =>
            refine ⟨k + 1, by omega, by go_num, ?_, trivial⟩
            rw [HT.out, HB.out]
          case measure => simp [intOf]; omega
    · obtain rfl : k = l.length := by omega
      rw [List.take_length]
      obtain ⟨n, hn⟩ : ∃ n, n = l.foldl crcByte 4294967295 := ⟨_, rfl⟩
      rw [← hn]
      have HN : Hid (n = crcOf l) := hn
      clear hn
      obtain ⟨m, hm⟩ : ∃ m, m = n ^^^ 4294967295 := ⟨_, rfl⟩
      have hx : bits .xor .u32 IntKind.u32.max (n : Int) = (m : Int) := by
        rw [show IntKind.u32.max = ((4294967295 : Nat) : Int) by decide, xor_u32 _ _ (by decide) (by rw [HN.out]; exact crcOf_lt l), Nat.xor_comm, hm]
      have HM : Hid (m = sumN l) := (show m = _ from by rw [hm, HN.out]; rfl)
      clear hm
      go_wp2
      go_ret
      exact ⟨congrArg (fun x : Nat => Ending.returned (.int .u32 (x : Int))) HM.out, rfl⟩
end Go.Proofs.YtkonjpcgfdcfbaaDoor
namespace Go.Proofs.YtkonjpcgfdcfbaaDoor
open Go.RowKit
set_option maxRecDepth 100000

set_option maxHeartbeats 1000000 in
theorem sumOf_any (w : World) (l : List UInt8) (hl : l.length ≤ 7000) :
    Calls Tryd.prog 20 #[.string ⟨l.toArray⟩] w fun e w' => e = .returned (.string ⟨(sum4 l).toArray⟩) ∧ Below w.heap.size w w' := by
  have K := hid (remainder_any w l hl)
  go_enter Tryd.func20, Tryd.ntmps20
  go_wp2_with fail
  refine K.out.mono ?_
  rintro e w1 ⟨rfl, rfl⟩
  obtain ⟨m, hm2⟩ : ∃ m, m = sumN l := ⟨_, rfl⟩
  rw [← hm2]
  have hc := run_convert_bytes_back (P := Tryd.prog) (w1.alloc (.cells #[.int .u8 ((m : Int) / 16777216 % 256), .int .u8 ((m : Int) / 65536 % 256), .int .u8 ((m : Int) / 256 % 256), .int .u8 ((m : Int) % 256)] 5)) 53 9 5 ⟨w1.heap.size, 0, none⟩ 4 [UInt8.ofNat (m / 16777216), UInt8.ofNat (m / 65536), UInt8.ofNat (m / 256), UInt8.ofNat m] Tryd.underlying53 Tryd.underlying5 Tryd.underlying9 (fun j hj => by
    have h4 : j < 4 := hj
    rw [Addr.add_lit, Nat.zero_add, cell_of (heap_new _ _)]
    rcases (by omega : j = 0 ∨ j = 1 ∨ j = 2 ∨ j = 3) with rfl | rfl | rfl | rfl <;> simp [UInt8.toNat_ofNat'] <;> omega)
  simp only [List.length_cons, List.length_nil] at hc
  have HM := hid hm2
  clear hm2
  go_wp2
  go_ret
  exact ⟨ret_str (by unfold sum4; rw [← HM.out]), below_alloc _ _⟩
theorem byte_any (n : Int) (w : World) : Calls Tryd.prog 15 #[.int .i64 n] w fun e w' => e = .returned (.string ⟨#[oct n 0]⟩) ∧ Below w.heap.size w w' := by
  have hc := run_convert_bytes_back (P := Tryd.prog) (w.alloc (.cells #[.int .u8 (n % 256)] 5)) 53 9 5 ⟨w.heap.size, 0, none⟩ 1 [oct n 0] Tryd.underlying53 Tryd.underlying5 Tryd.underlying9 (fun j hj => by
    have h1 : j < 1 := hj
    obtain rfl : j = 0 := by omega
    rw [Addr.add_lit, Nat.zero_add, cell_of (heap_new _ _)]
    have := oct_nat n 0
    simp only [List.getElem_cons_zero]
    rw [this]
    simp)
  simp only [List.length_singleton] at hc
  go_enter Tryd.func15, Tryd.ntmps15
  go_wp2
  go_ret
  exact ⟨rfl, below_alloc _ _⟩
end Go.Proofs.YtkonjpcgfdcfbaaDoor
namespace Go.Proofs.YtkonjpcgfdcfbaaDoor
open Go.RowKit
set_option maxRecDepth 100000

theorem refStep_lt {c : UInt8} {k x : Nat} (h : x < 4294967296) : refStep c k x < 4294967296 := by
  unfold refStep
  split
  · exact Nat.xor_lt_two_pow (n := 32) (by omega) (by decide)
  · omega
theorem refSteps_lt {c : UInt8} {x : Nat} (h : x < 4294967296) : ∀ k, refSteps c k x < 4294967296
  | 0 => h
  | k + 1 => refStep_lt (refSteps_lt h k)

set_option maxHeartbeats 4000000 in
theorem rsum_any (w : World) (l : List UInt8) (hl : l.length ≤ 7000) :
    Calls Tryd.prog 14 #[.string ⟨l.toArray⟩] w fun e w' => e = .returned (.int .i64 (sumN l : Nat)) ∧ w' = w := by
  go_enter Tryd.func14, Tryd.ntmps14
  go_wp2
  go_loopw [3, 4] (fun a i wr => ∃ k : Nat, k ≤ l.length ∧ i = .int .i64 k ∧ a = .int .i64 ((l.take k).foldl crcByte 4294967295 : Nat) ∧ wr = w) (fun _ i _ => l.length - (intOf i).toNat)
  case atStart => exact ⟨0, Nat.zero_le _, rfl, rfl, rfl⟩
  case round =>
    obtain ⟨k, hk, rfl, rfl, rfl⟩ := hrel
    by_cases hlt : k < l.length
    · have HT := hid (crc_take hlt)
      have HX := hid (crc_lt (l.take k) 4294967295 (by decide))
      obtain ⟨x, hx⟩ : ∃ x, x = (l.take k).foldl crcByte 4294967295 := ⟨_, rfl⟩
      rw [← hx] at HT HX ⊢
      clear hx
      have hz := l[k].toNat_lt
      obtain ⟨c, hc⟩ : ∃ c, c = l[k] := ⟨_, rfl⟩
      have e1 : (⟨l.toArray⟩ : ByteArray)[k]'hlt = c := hc.symm
      rw [← hc] at HT hz
      have HZ := hid hz
      clear hz hc
      go_wp2
      go_loopw [3, 5] (fun a i u => ∃ j : Nat, j ≤ 8 ∧ i = .int .i64 j ∧ a = .int .i64 (refSteps c j x : Nat) ∧ u = wr) (fun _ i _ => 8 - (intOf i).toNat)
      case atStart => exact ⟨0, Nat.zero_le _, rfl, rfl, rfl⟩
      case round =>
        obtain ⟨j, hj, rfl, rfl, rfl⟩ := hrel
        by_cases hlt8 : j < 8
        · have HS := hid (refSteps_lt (c := c) HX.out j)
          have HE : Hid (refSteps c (j + 1) x = refStep c j (refSteps c j x)) := rfl
          obtain ⟨y, hy⟩ : ∃ y, y = refSteps c j x := ⟨_, rfl⟩
          rw [← hy] at HS HE ⊢
          clear hy
          have hq : wrap64 (c.toNat : Int) / 2 ^ j = ((c.toNat >>> j : Nat) : Int) := by
            rw [wrap64_eq, i64_of (by unfold In64; have := HZ.out; omega), Nat.shiftRight_eq_div_pow]
            simp
          have hb : bits .xor .i64 (y : Int) (wrap64 (c.toNat : Int) / 2 ^ j) = ((y ^^^ (c.toNat >>> j) : Nat) : Int) := by
            rw [hq]
            refine xor_i64 _ _ HS.out (Nat.lt_of_le_of_lt (by rw [Nat.shiftRight_eq_div_pow]; exact Nat.div_le_self _ _) (by have := HZ.out; omega : c.toNat < 4294967296))
          have hw : wrap64 ((y : Int) / 2) = ((y / 2 : Nat) : Int) := by
            rw [wrap64_eq, i64_of (by unfold In64; have := HS.out; omega)]
            omega
          have HXO := hid (xor_i64 (y / 2) 3988292384 (by have := HS.out; omega) (by decide))
          have HW := hid hw
          clear hq
          by_cases ho : (y ^^^ (c.toNat >>> j)) % 2 = 1
          · have hm : (((y ^^^ (c.toNat >>> j) : Nat) : Int) % 2 == 1) = true := by
              rw [beq_iff_eq]
              omega
            have HO : Hid (refStep c j y = (y / 2) ^^^ 3988292384) := if_pos ho
            obtain ⟨q, hqq⟩ : ∃ q, q = y ^^^ (c.toNat >>> j) := ⟨_, rfl⟩
            rw [← hqq] at hb hm
            clear hqq ho hw
            go_wp2
            go_roundw
            case rel =>
              refine ⟨j + 1, by omega, by go_num, ?_, trivial⟩
              rw [HE.out, HO.out, HW.out]
              exact congrArg (Value.int .i64) HXO.out
            case measure => simp [intOf]; omega
          · have hm : (((y ^^^ (c.toNat >>> j) : Nat) : Int) % 2 == 1) = false := by
              rw [beq_eq_false_iff_ne]
              omega
            have HO : Hid (refStep c j y = y / 2) := if_neg ho
            obtain ⟨q, hqq⟩ : ∃ q, q = y ^^^ (c.toNat >>> j) := ⟨_, rfl⟩
            rw [← hqq] at hb hm
            clear hqq ho hw
            go_wp2
            go_roundw
            case rel =>
              refine ⟨j + 1, by omega, by go_num, ?_, trivial⟩
              rw [HE.out, HO.out, HW.out]
            case measure => simp [intOf]; omega
        · obtain rfl : j = 8 := by omega
          have HB := hid (refByte c x)
          obtain ⟨y, hy⟩ : ∃ y, y = refSteps c 8 x := ⟨_, rfl⟩
          rw [← hy] at HB ⊢
          clear hy
          go_wp2
          go_roundw
          case rel =>
            refine ⟨k + 1, by omega, by go_num, ?_, trivial⟩
            rw [HT.out, HB.out]
          case measure => simp [intOf]; omega
    · obtain rfl : k = l.length := by omega
      rw [List.take_length]
      have hx := xor_i64 (crcOf l) 4294967295 (crcOf_lt l) (by decide)
      go_wp2
      go_ret
      exact ⟨ret_int hx, rfl⟩
end Go.Proofs.YtkonjpcgfdcfbaaDoor
