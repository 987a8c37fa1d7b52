/- The reference's Unwire of what is too long or too short, or whose sum is another one. -/
import Derived.Test.YtkonjpcgfdcfbaaDoorJXUnI
import Derived.Test.YtkonjpcgfdcfbaaDoorJXRSum
import Derived.Test.YtkonjpcgfdcfbaaDoorJXDec
import Derived.Deep.RegionHeld
namespace Go.Proofs.YtkonjpcgfdcfbaaDoor
open Go.RowKit
set_option maxRecDepth 100000

theorem oct_sum (n k : Nat) : oct ((n : Int) / (k : Nat)) 0 = UInt8.ofNat (n / k) := by
  unfold oct
  rw [show ((n : Int) / (k : Nat)) / 2 ^ 0 % 256 = ((n / k % 256 : Nat) : Int) by simp, Int.toNat_natCast]
  apply UInt8.toNat.inj
  rw [UInt8.toNat_ofNat', UInt8.toNat_ofNat']
  omega
theorem oct_sum1 (n : Nat) : oct (n : Int) 0 = UInt8.ofNat n := by
  have := oct_sum n 1
  simpa using this
abbrev zero9 : List Value := [.int .i64 0, .int .i64 0, .int .i64 0, .int .i64 0, .int .i64 0, .bool false, .slice none 0 0, .int .i64 0, .slice none 0 0]
set_option maxHeartbeats 2000000 in
theorem unwire_early (w : World) (l : List UInt8) (h : 6000 < l.length ∨ l.length < 4) :
    Calls Tryd.prog 16 #[.string ⟨l.toArray⟩] w fun e w' => e = .returned (.tuple #[.agg #[.int .i64 0, .int .i64 0, .int .i64 0, .int .i64 0, .int .i64 0, .bool false, .slice none 0 0, .int .i64 0, .slice none 0 0], .int .i64 1]) ∧ Below w.heap.size w w' := by
  obtain ⟨wz, STORE, HZ⟩ := store_row (heap_new w (.cells #[.int .i64 0, .int .i64 0, .int .i64 0, .int .i64 0, .int .i64 0, .bool false, .slice none 0 0, .int .i64 0, .slice none 0 0] 27)) [.int .i64 0, .int .i64 0, .int .i64 0, .int .i64 0, .int .i64 0, .bool false, .slice none 0 0, .int .i64 0, .slice none 0 0] rfl rfl 27 9 rfl Tryd.sizeOf27
  rcases h with h6 | h4
  case inr => 
    have h6 : ¬ 6000 < l.length := by omega
    go_enter Tryd.func16, Tryd.ntmps16
    go_wp2_with (refine STORE _ _ _ _ _ (.tmp 2) (.tmp 24) rfl rfl rfl rfl ?_)
    refine bodyPost_ret (ret_cell_tmp (k := 9) Tryd.results16 Tryd.isAgg27 Tryd.sizeOf27 _ _ w.heap.size [.int .i64 0, .int .i64 0, .int .i64 0, .int .i64 0, .int .i64 0, .bool false, .slice none 0 0, .int .i64 0, .slice none 0 0] _ rfl rfl rfl HZ.out.1) rfl ⟨rfl, by rw [HZ.out.2]; exact below_setCells (Nat.le_refl _) _ _ (below_alloc _ _)⟩
  case inl =>
    go_enter Tryd.func16, Tryd.ntmps16
    go_wp2_with (refine STORE _ _ _ _ _ (.tmp 2) (.tmp 24) rfl rfl rfl rfl ?_)
    refine bodyPost_ret (ret_cell_tmp (k := 9) Tryd.results16 Tryd.isAgg27 Tryd.sizeOf27 _ _ w.heap.size [.int .i64 0, .int .i64 0, .int .i64 0, .int .i64 0, .int .i64 0, .bool false, .slice none 0 0, .int .i64 0, .slice none 0 0] _ rfl rfl rfl HZ.out.1) rfl ⟨rfl, by rw [HZ.out.2]; exact below_setCells (Nat.le_refl _) _ _ (below_alloc _ _)⟩
set_option maxHeartbeats 2000000 in
theorem unwire_sum (w : World) (l t s : List UInt8) (h6 : ¬ 6000 < l.length) (h4 : ¬ l.length < 4) (ht : t = l.take (l.length - 4)) (hs : s = l.drop (l.length - 4)) (hne : ¬ sum4 t = s) :
    Calls Tryd.prog 16 #[.string ⟨l.toArray⟩] w fun e w' => e = .returned (.tuple #[.agg #[.int .i64 0, .int .i64 0, .int .i64 0, .int .i64 0, .int .i64 0, .bool false, .slice none 0 0, .int .i64 0, .slice none 0 0], .int .i64 8]) ∧ Below w.heap.size w w' := by
  have HT := hid ht
  have HS := hid hs
  have K := hid (fun W => rsum_any W t (by rw [ht, List.length_take]; omega))
  have H4 : Hid (sum4 t = [oct ((sumN t : Nat) / 16777216 : Int) 0, oct ((sumN t : Nat) / 65536 : Int) 0, oct ((sumN t : Nat) / 256 : Int) 0, oct (sumN t : Nat) 0]) := by
    show sum4 t = _
    rw [oct_sum1]
    have e1 := oct_sum (sumN t) 16777216
    have e2 := oct_sum (sumN t) 65536
    have e3 := oct_sum (sumN t) 256
    simp only [Int.cast_ofNat_Int] at e1 e2 e3
    rw [e1, e2, e3]
    rfl
  have HNE := hid hne
  have hn0 := sumN_lt t
  have i1 : (0 : Int) ≤ (l.length : Int) - 4 := by omega
  have i2 : (l.length : Int) - 4 ≤ (l.length : Int) := by omega
  have i4 : (4 : Int) ≤ (l.length : Int) := by omega
  have i5 : 4 ≤ l.length := by omega
  have i6 : IntKind.i64.wrap ((l.length : Int) - 4) = (l.length : Int) - 4 := by rw [wr_i64, i64_of (by unfold In64; omega)]
  have i7 : ((l.length : Int) - 4).toNat = l.length - 4 := by omega
  clear ht hs hne
  obtain ⟨w1, hw1⟩ : ∃ w1, w1 = (w.alloc (.cells #[.int .i64 0, .int .i64 0, .int .i64 0, .int .i64 0, .int .i64 0, .bool false, .slice none 0 0, .int .i64 0, .slice none 0 0] 27)) := ⟨_, rfl⟩
  have HW1 := hid hw1
  go_enter Tryd.func16, Tryd.ntmps16
  go_wp2_with fail
  rw [ext_take, ← HT.out, ← hw1]
  clear hw1
  refine (K.out _).mono ?_
  rintro e w2 ⟨rfl, h21⟩
  subst h21
  obtain ⟨n, hn⟩ : ∃ n, n = sumN t := ⟨_, rfl⟩
  rw [← hn] at H4 hn0 ⊢
  clear hn
  have hcat : (((⟨#[oct ((n : Int) / 16777216) 0]⟩ : ByteArray) ++ ⟨#[oct ((n : Int) / 65536) 0]⟩) ++ ⟨#[oct ((n : Int) / 256) 0]⟩) ++ ⟨#[oct (n : Int) 0]⟩ = ⟨(sum4 t).toArray⟩ := by rw [H4.out]; rfl
  have hext : (⟨l.toArray⟩ : ByteArray).extract (l.length - 4) l.length = ⟨s.toArray⟩ := by rw [ext_drop, ← HS.out]
  have hne : (sum4 t == s) = false := beq_eq_false_iff_ne.2 HNE.out
  have KB : Hid (∀ (u : World) (x : Int), Below w2.heap.size w2 u → Calls Tryd.prog 15 #[.int .i64 x] u fun e w' => e = .returned (.string ⟨#[oct x 0]⟩) ∧ Below w2.heap.size w2 w') := fun u x hu => by
    refine (byte_any x u).mono ?_
    rintro e w' ⟨rfl, hb⟩
    exact ⟨rfl, hu.trans (hb.mono hu.size)⟩
  have hb0 : Below w2.heap.size w2 w2.drew := (Below.refl _ _).drew
  go_wp2_with fail
  go_region_held (fun _ => True) ((trivial)) ((first | (go_at_call 15; refine (KB.out _ _ (by assumption)).mono ?_; rintro e u ⟨rfl, hbu⟩)))
  have hsz : w2.heap.size = w.heap.size + 1 := by rw [HW1.out]; simp
  have hh : u.heap[w.heap.size]? = some (.cells #[.int .i64 0, .int .i64 0, .int .i64 0, .int .i64 0, .int .i64 0, .bool false, .slice none 0 0, .int .i64 0, .slice none 0 0] 27 (0, 0)) := by
    rw [hbu.block _ (by omega), HW1.out]
    exact heap_new _ _
  have HB : Hid (Below w.heap.size w u) := (show Below w.heap.size w w2 by rw [HW1.out]; exact below_alloc _ _).trans (hbu.mono (by omega))
  obtain ⟨wz, STORE, HZ⟩ := store_row hh [.int .i64 0, .int .i64 0, .int .i64 0, .int .i64 0, .int .i64 0, .bool false, .slice none 0 0, .int .i64 0, .slice none 0 0] rfl rfl 27 9 rfl Tryd.sizeOf27
  clear hh hbu hsz
  go_wp2_with (refine STORE _ _ _ _ _ (.tmp 2) (.tmp 52) rfl rfl rfl rfl ?_)
  refine bodyPost_ret (ret_cell_tmp (k := 9) Tryd.results16 Tryd.isAgg27 Tryd.sizeOf27 _ _ w.heap.size [.int .i64 0, .int .i64 0, .int .i64 0, .int .i64 0, .int .i64 0, .bool false, .slice none 0 0, .int .i64 0, .slice none 0 0] _ rfl rfl rfl HZ.out.1) rfl ⟨rfl, by rw [HZ.out.2]; exact below_setCells (Nat.le_refl _) _ _ HB.out⟩
end Go.Proofs.YtkonjpcgfdcfbaaDoor
