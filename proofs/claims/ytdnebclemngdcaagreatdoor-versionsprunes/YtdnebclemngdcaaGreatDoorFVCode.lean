/- plain.Code by its contracts. -/
import Derived.Test.YtdnebclemngdcaaGreatDoorFVAs
import Derived.Test.YtdnebclemngdcaaGreatDoorFVMath
import Derived.Handy
namespace Go.Proofs.YtdnebclemngdcaaGreatDoor
open Go.RowKit

theorem code_nil (w : World) : Calls Tryz.prog 50 #[.nilIface] w fun e w' => e = .returned (.tuple #[.int .i64 0, .int .i64 (-1)]) ∧ w' = w := by
  go_enter Tryz.func50, Tryz.ntmps50
  go_wp2
  go_ret2
  exact ⟨rfl, rfl⟩

/-- The twelve errors, as a row. -/
def twelve (A : Nat → Addr) : Obj := .cells #[.iface 255 (.pointer (some (A 0))), .iface 255 (.pointer (some (A 1))), .iface 255 (.pointer (some (A 2))), .iface 255 (.pointer (some (A 3))), .iface 255 (.pointer (some (A 4))), .iface 255 (.pointer (some (A 5))), .iface 255 (.pointer (some (A 6))), .iface 255 (.pointer (some (A 7))), .iface 255 (.pointer (some (A 8))), .iface 255 (.pointer (some (A 9))), .iface 255 (.pointer (some (A 10))), .iface 255 (.pointer (some (A 11)))] 28

theorem twelve_cell (A : Nat → Addr) (w : World) (n m : Nat) (hn : n = w.heap.size) (h : m < 12) : (w.alloc (twelve A)).cell? ⟨n, m, none⟩ = some (.iface 255 (.pointer (some (A m)))) := by
  unfold twelve
  rw [World.cell?_alloc_at _ _ _ _ hn]
  rcases (by omega : m = 0 ∨ m = 1 ∨ m = 2 ∨ m = 3 ∨ m = 4 ∨ m = 5 ∨ m = 6 ∨ m = 7 ∨ m = 8 ∨ m = 9 ∨ m = 10 ∨ m = 11) with rfl | rfl | rfl | rfl | rfl | rfl | rfl | rfl | rfl | rfl | rfl | rfl <;> rfl

set_option maxHeartbeats 4000000 in
theorem code_sent (A : Nat → Addr) (B : Nat) (w : World) (k : Nat) (hS : Sents A B w) (hk : k < 12) :
    Calls Tryz.prog 50 #[.iface 255 (.pointer (some (A k)))] w fun e w' => e = .returned (.tuple #[.int .i64 (k + 1), .int .i64 (-1)]) ∧ Below w.heap.size w w' := by
  have g0 : ∀ o1 o2 o3 o4, ((((w.alloc o1).alloc o2).alloc o3).alloc o4).cell? ⟨4, 0, none⟩ = some (.iface 255 (.pointer (some (A 0)))) := fun _ _ _ _ => cell_alloc (cell_alloc (cell_alloc (cell_alloc (hS.cell 0 (by omega)) _) _) _) _
  have g1 : ∀ o1 o2 o3 o4, ((((w.alloc o1).alloc o2).alloc o3).alloc o4).cell? ⟨0, 0, none⟩ = some (.iface 255 (.pointer (some (A 1)))) := fun _ _ _ _ => cell_alloc (cell_alloc (cell_alloc (cell_alloc (hS.cell 1 (by omega)) _) _) _) _
  have g2 : ∀ o1 o2 o3 o4, ((((w.alloc o1).alloc o2).alloc o3).alloc o4).cell? ⟨3, 0, none⟩ = some (.iface 255 (.pointer (some (A 2)))) := fun _ _ _ _ => cell_alloc (cell_alloc (cell_alloc (cell_alloc (hS.cell 2 (by omega)) _) _) _) _
  have g3 : ∀ o1 o2 o3 o4, ((((w.alloc o1).alloc o2).alloc o3).alloc o4).cell? ⟨5, 0, none⟩ = some (.iface 255 (.pointer (some (A 3)))) := fun _ _ _ _ => cell_alloc (cell_alloc (cell_alloc (cell_alloc (hS.cell 3 (by omega)) _) _) _) _
  have g4 : ∀ o1 o2 o3 o4, ((((w.alloc o1).alloc o2).alloc o3).alloc o4).cell? ⟨6, 0, none⟩ = some (.iface 255 (.pointer (some (A 4)))) := fun _ _ _ _ => cell_alloc (cell_alloc (cell_alloc (cell_alloc (hS.cell 4 (by omega)) _) _) _) _
  have g5 : ∀ o1 o2 o3 o4, ((((w.alloc o1).alloc o2).alloc o3).alloc o4).cell? ⟨2, 0, none⟩ = some (.iface 255 (.pointer (some (A 5)))) := fun _ _ _ _ => cell_alloc (cell_alloc (cell_alloc (cell_alloc (hS.cell 5 (by omega)) _) _) _) _
  have g6 : ∀ o1 o2 o3 o4, ((((w.alloc o1).alloc o2).alloc o3).alloc o4).cell? ⟨7, 0, none⟩ = some (.iface 255 (.pointer (some (A 6)))) := fun _ _ _ _ => cell_alloc (cell_alloc (cell_alloc (cell_alloc (hS.cell 6 (by omega)) _) _) _) _
  have g7 : ∀ o1 o2 o3 o4, ((((w.alloc o1).alloc o2).alloc o3).alloc o4).cell? ⟨8, 0, none⟩ = some (.iface 255 (.pointer (some (A 7)))) := fun _ _ _ _ => cell_alloc (cell_alloc (cell_alloc (cell_alloc (hS.cell 7 (by omega)) _) _) _) _
  have g8 : ∀ o1 o2 o3 o4, ((((w.alloc o1).alloc o2).alloc o3).alloc o4).cell? ⟨1, 0, none⟩ = some (.iface 255 (.pointer (some (A 8)))) := fun _ _ _ _ => cell_alloc (cell_alloc (cell_alloc (cell_alloc (hS.cell 8 (by omega)) _) _) _) _
  have g9 : ∀ o1 o2 o3 o4, ((((w.alloc o1).alloc o2).alloc o3).alloc o4).cell? ⟨9, 0, none⟩ = some (.iface 255 (.pointer (some (A 9)))) := fun _ _ _ _ => cell_alloc (cell_alloc (cell_alloc (cell_alloc (hS.cell 9 (by omega)) _) _) _) _
  have g10 : ∀ o1 o2 o3 o4, ((((w.alloc o1).alloc o2).alloc o3).alloc o4).cell? ⟨10, 0, none⟩ = some (.iface 255 (.pointer (some (A 10)))) := fun _ _ _ _ => cell_alloc (cell_alloc (cell_alloc (cell_alloc (hS.cell 10 (by omega)) _) _) _) _
  have g11 : ∀ o1 o2 o3 o4, ((((w.alloc o1).alloc o2).alloc o3).alloc o4).cell? ⟨11, 0, none⟩ = some (.iface 255 (.pointer (some (A 11)))) := fun _ _ _ _ => cell_alloc (cell_alloc (cell_alloc (cell_alloc (hS.cell 11 (by omega)) _) _) _) _
  have hg := hS.handle
  have hz : 12 < w.heap.size := by have := hS.gl; have := hS.size; omega
  go_enter Tryz.func50, Tryz.ntmps50
  go_wp2_with (go_at_call 81; refine (as_miss _ _ _ (cell_alloc hg _)).mono ?_; rintro e w' ⟨rfl, rfl⟩)
  go_loopw [3, 30] (fun a i wr => ∃ m : Nat, m ≤ k ∧ i = .int .i64 m ∧ a = .int .i64 (-1) ∧ (∀ j, j < 12 → wr.cell? ⟨w.heap.size + 1 + 1 + 1 + 1, j, none⟩ = some (.iface 255 (.pointer (some (A j))))) ∧ Sents A B wr ∧ Below w.heap.size w wr) (fun _ i _ => 12 - (intOf i).toNat)
  case atStart =>
    refine ⟨0, Nat.zero_le _, rfl, rfl, fun j hj => ?_, ?_, ?_⟩
    · exact twelve_cell A _ _ j (by simp) hj
    · refine hS.below ?_
      refine Below.mono ?_ hS.size
      go_grown
    · go_grown
  case round =>
    obtain ⟨m, hm, rfl, rfl, hrow, hSr, hbl⟩ := hrel
    have hc := hrow m (by omega)
    have h12 : m < 12 := by omega
    have HR : Hid (∀ j, j < 12 → wr.cell? ⟨w.heap.size + 1 + 1 + 1 + 1, j, none⟩ = some (.iface 255 (.pointer (some (A j))))) := hrow
    clear hrow g0 g1 g2 g3 g4 g5 g6 g7 g8 g9 g10 g11 hg
    by_cases e : m = k
    · subst e
      go_wp2_with (go_at_call 82; refine (is_same _ _).mono ?_; rintro e w' ⟨rfl, rfl⟩)
      go_ret2
      exact ⟨rfl, hbl⟩
    · have hne : A k ≠ A m := hSr.ne k m hk (by omega) (Ne.symm e)
      obtain ⟨ca, ta, ha⟩ := hSr.row k hk
      obtain ⟨cb, tb, hb⟩ := hSr.row m (by omega)
      go_wp2_with (go_at_call 82; refine (is_other _ _ _ _ _ _ _ hne ha hb).mono ?_; rintro e w' ⟨rfl, rfl⟩)
      go_roundw
      case rel => exact ⟨m + 1, by omega, by go_num, rfl, HR.out, hSr, hbl⟩
      case measure => simp [intOf]; omega

set_option maxHeartbeats 4000000 in
theorem code_other (A : Nat → Addr) (B : Nat) (w : World) (a : Addr) (hS : Sents A B w) (hne : ∀ j, j < 12 → a ≠ A j) (hra : ∃ c t, w.heap[a.block]? = some (.cells c t (0, 0))) :
    Calls Tryz.prog 50 #[.iface 255 (.pointer (some a))] w fun e w' => e = .returned (.tuple #[.int .i64 (-1), .int .i64 (-1)]) ∧ Below w.heap.size w w' := by
  obtain ⟨ca, ta, ha0⟩ := hra
  have hal : a.block < w.heap.size := (Array.getElem?_eq_some_iff.1 ha0).1
  have g0 : ∀ o1 o2 o3 o4, ((((w.alloc o1).alloc o2).alloc o3).alloc o4).cell? ⟨4, 0, none⟩ = some (.iface 255 (.pointer (some (A 0)))) := fun _ _ _ _ => (cell_alloc (cell_alloc (cell_alloc (cell_alloc (hS.cell 0 (by omega)) _) _) _) _)
  have g1 : ∀ o1 o2 o3 o4, ((((w.alloc o1).alloc o2).alloc o3).alloc o4).cell? ⟨0, 0, none⟩ = some (.iface 255 (.pointer (some (A 1)))) := fun _ _ _ _ => (cell_alloc (cell_alloc (cell_alloc (cell_alloc (hS.cell 1 (by omega)) _) _) _) _)
  have g2 : ∀ o1 o2 o3 o4, ((((w.alloc o1).alloc o2).alloc o3).alloc o4).cell? ⟨3, 0, none⟩ = some (.iface 255 (.pointer (some (A 2)))) := fun _ _ _ _ => (cell_alloc (cell_alloc (cell_alloc (cell_alloc (hS.cell 2 (by omega)) _) _) _) _)
  have g3 : ∀ o1 o2 o3 o4, ((((w.alloc o1).alloc o2).alloc o3).alloc o4).cell? ⟨5, 0, none⟩ = some (.iface 255 (.pointer (some (A 3)))) := fun _ _ _ _ => (cell_alloc (cell_alloc (cell_alloc (cell_alloc (hS.cell 3 (by omega)) _) _) _) _)
  have g4 : ∀ o1 o2 o3 o4, ((((w.alloc o1).alloc o2).alloc o3).alloc o4).cell? ⟨6, 0, none⟩ = some (.iface 255 (.pointer (some (A 4)))) := fun _ _ _ _ => (cell_alloc (cell_alloc (cell_alloc (cell_alloc (hS.cell 4 (by omega)) _) _) _) _)
  have g5 : ∀ o1 o2 o3 o4, ((((w.alloc o1).alloc o2).alloc o3).alloc o4).cell? ⟨2, 0, none⟩ = some (.iface 255 (.pointer (some (A 5)))) := fun _ _ _ _ => (cell_alloc (cell_alloc (cell_alloc (cell_alloc (hS.cell 5 (by omega)) _) _) _) _)
  have g6 : ∀ o1 o2 o3 o4, ((((w.alloc o1).alloc o2).alloc o3).alloc o4).cell? ⟨7, 0, none⟩ = some (.iface 255 (.pointer (some (A 6)))) := fun _ _ _ _ => (cell_alloc (cell_alloc (cell_alloc (cell_alloc (hS.cell 6 (by omega)) _) _) _) _)
  have g7 : ∀ o1 o2 o3 o4, ((((w.alloc o1).alloc o2).alloc o3).alloc o4).cell? ⟨8, 0, none⟩ = some (.iface 255 (.pointer (some (A 7)))) := fun _ _ _ _ => (cell_alloc (cell_alloc (cell_alloc (cell_alloc (hS.cell 7 (by omega)) _) _) _) _)
  have g8 : ∀ o1 o2 o3 o4, ((((w.alloc o1).alloc o2).alloc o3).alloc o4).cell? ⟨1, 0, none⟩ = some (.iface 255 (.pointer (some (A 8)))) := fun _ _ _ _ => (cell_alloc (cell_alloc (cell_alloc (cell_alloc (hS.cell 8 (by omega)) _) _) _) _)
  have g9 : ∀ o1 o2 o3 o4, ((((w.alloc o1).alloc o2).alloc o3).alloc o4).cell? ⟨9, 0, none⟩ = some (.iface 255 (.pointer (some (A 9)))) := fun _ _ _ _ => (cell_alloc (cell_alloc (cell_alloc (cell_alloc (hS.cell 9 (by omega)) _) _) _) _)
  have g10 : ∀ o1 o2 o3 o4, ((((w.alloc o1).alloc o2).alloc o3).alloc o4).cell? ⟨10, 0, none⟩ = some (.iface 255 (.pointer (some (A 10)))) := fun _ _ _ _ => (cell_alloc (cell_alloc (cell_alloc (cell_alloc (hS.cell 10 (by omega)) _) _) _) _)
  have g11 : ∀ o1 o2 o3 o4, ((((w.alloc o1).alloc o2).alloc o3).alloc o4).cell? ⟨11, 0, none⟩ = some (.iface 255 (.pointer (some (A 11)))) := fun _ _ _ _ => (cell_alloc (cell_alloc (cell_alloc (cell_alloc (hS.cell 11 (by omega)) _) _) _) _)
  have hg := hS.handle
  have hz : 12 < w.heap.size := by have := hS.gl; have := hS.size; omega
  have HA : Hid (w.heap[a.block]? = some (.cells ca ta (0, 0))) := ha0
  clear ha0
  go_enter Tryz.func50, Tryz.ntmps50
  go_wp2_with (go_at_call 81; refine (as_miss _ _ _ (cell_alloc hg _)).mono ?_; rintro e w' ⟨rfl, rfl⟩)
  go_loopw [3, 30] (fun a i wr => ∃ m : Nat, m ≤ 12 ∧ i = .int .i64 m ∧ a = .int .i64 (-1) ∧ (∀ j, j < 12 → wr.cell? ⟨w.heap.size + 1 + 1 + 1 + 1, j, none⟩ = some (.iface 255 (.pointer (some (A j))))) ∧ Sents A B wr ∧ Below w.heap.size w wr) (fun _ i _ => 12 - (intOf i).toNat)
  case atStart =>
    refine ⟨0, Nat.zero_le _, rfl, rfl, fun j hj => ?_, ?_, ?_⟩
    · exact twelve_cell A _ _ j (by simp) hj
    · refine hS.below ?_
      refine Below.mono ?_ hS.size
      go_grown
    · go_grown
  case round =>
    obtain ⟨m, hm, rfl, rfl, hrow, hSr, hbl⟩ := hrel
    have HR : Hid (∀ j, j < 12 → wr.cell? ⟨w.heap.size + 1 + 1 + 1 + 1, j, none⟩ = some (.iface 255 (.pointer (some (A j))))) := hrow
    by_cases h12 : m < 12
    · have hc := hrow m h12
      clear hrow g0 g1 g2 g3 g4 g5 g6 g7 g8 g9 g10 g11 hg
      obtain ⟨cb, tb, hb⟩ := hSr.row m h12
      have ha : wr.heap[a.block]? = some (.cells ca ta (0, 0)) := by rw [hbl.block _ hal]; exact HA.out
      go_wp2_with (go_at_call 82; refine (is_other _ _ _ _ _ _ _ (hne m h12) ha hb).mono ?_; rintro e w' ⟨rfl, rfl⟩)
      go_roundw
      case rel => exact ⟨m + 1, by omega, by go_num, rfl, HR.out, hSr, hbl⟩
      case measure => simp [intOf]; omega
    · clear hrow g0 g1 g2 g3 g4 g5 g6 g7 g8 g9 g10 g11 hg
      obtain rfl : m = 12 := by omega
      go_wp2
      go_ret2
      exact ⟨rfl, hbl⟩

set_option maxHeartbeats 4000000 in
theorem code_fault (A : Nat → Addr) (B : Nat) (w : World) (k : Nat) (pb : Nat) (n : Int) (hS : Sents A B w) (hk : k < 12) (c0 : w.cell? ⟨pb, 0, none⟩ = some (.int .i64 n)) (c1 : w.cell? ⟨pb, 0 + 1, none⟩ = some (.iface 255 (.pointer (some (A k))))) :
    Calls Tryz.prog 50 #[.iface 89 (.pointer (some ⟨pb, 0, none⟩))] w fun e w' => e = .returned (.tuple #[.int .i64 (k + 1), .int .i64 n]) ∧ Below w.heap.size w w' := by
  have hpl : pb < w.heap.size := lt_of_cell c0
  have g0 : ∀ o1 o2 o3 o4 o5, (((((w.alloc o1).alloc o2).alloc o3).alloc o4).alloc o5).cell? ⟨4, 0, none⟩ = some (.iface 255 (.pointer (some (A 0)))) := fun _ _ _ _ _ => (cell_alloc (cell_alloc (cell_alloc (cell_alloc (cell_alloc (hS.cell 0 (by omega)) _) _) _) _) _)
  have g1 : ∀ o1 o2 o3 o4 o5, (((((w.alloc o1).alloc o2).alloc o3).alloc o4).alloc o5).cell? ⟨0, 0, none⟩ = some (.iface 255 (.pointer (some (A 1)))) := fun _ _ _ _ _ => (cell_alloc (cell_alloc (cell_alloc (cell_alloc (cell_alloc (hS.cell 1 (by omega)) _) _) _) _) _)
  have g2 : ∀ o1 o2 o3 o4 o5, (((((w.alloc o1).alloc o2).alloc o3).alloc o4).alloc o5).cell? ⟨3, 0, none⟩ = some (.iface 255 (.pointer (some (A 2)))) := fun _ _ _ _ _ => (cell_alloc (cell_alloc (cell_alloc (cell_alloc (cell_alloc (hS.cell 2 (by omega)) _) _) _) _) _)
  have g3 : ∀ o1 o2 o3 o4 o5, (((((w.alloc o1).alloc o2).alloc o3).alloc o4).alloc o5).cell? ⟨5, 0, none⟩ = some (.iface 255 (.pointer (some (A 3)))) := fun _ _ _ _ _ => (cell_alloc (cell_alloc (cell_alloc (cell_alloc (cell_alloc (hS.cell 3 (by omega)) _) _) _) _) _)
  have g4 : ∀ o1 o2 o3 o4 o5, (((((w.alloc o1).alloc o2).alloc o3).alloc o4).alloc o5).cell? ⟨6, 0, none⟩ = some (.iface 255 (.pointer (some (A 4)))) := fun _ _ _ _ _ => (cell_alloc (cell_alloc (cell_alloc (cell_alloc (cell_alloc (hS.cell 4 (by omega)) _) _) _) _) _)
  have g5 : ∀ o1 o2 o3 o4 o5, (((((w.alloc o1).alloc o2).alloc o3).alloc o4).alloc o5).cell? ⟨2, 0, none⟩ = some (.iface 255 (.pointer (some (A 5)))) := fun _ _ _ _ _ => (cell_alloc (cell_alloc (cell_alloc (cell_alloc (cell_alloc (hS.cell 5 (by omega)) _) _) _) _) _)
  have g6 : ∀ o1 o2 o3 o4 o5, (((((w.alloc o1).alloc o2).alloc o3).alloc o4).alloc o5).cell? ⟨7, 0, none⟩ = some (.iface 255 (.pointer (some (A 6)))) := fun _ _ _ _ _ => (cell_alloc (cell_alloc (cell_alloc (cell_alloc (cell_alloc (hS.cell 6 (by omega)) _) _) _) _) _)
  have g7 : ∀ o1 o2 o3 o4 o5, (((((w.alloc o1).alloc o2).alloc o3).alloc o4).alloc o5).cell? ⟨8, 0, none⟩ = some (.iface 255 (.pointer (some (A 7)))) := fun _ _ _ _ _ => (cell_alloc (cell_alloc (cell_alloc (cell_alloc (cell_alloc (hS.cell 7 (by omega)) _) _) _) _) _)
  have g8 : ∀ o1 o2 o3 o4 o5, (((((w.alloc o1).alloc o2).alloc o3).alloc o4).alloc o5).cell? ⟨1, 0, none⟩ = some (.iface 255 (.pointer (some (A 8)))) := fun _ _ _ _ _ => (cell_alloc (cell_alloc (cell_alloc (cell_alloc (cell_alloc (hS.cell 8 (by omega)) _) _) _) _) _)
  have g9 : ∀ o1 o2 o3 o4 o5, (((((w.alloc o1).alloc o2).alloc o3).alloc o4).alloc o5).cell? ⟨9, 0, none⟩ = some (.iface 255 (.pointer (some (A 9)))) := fun _ _ _ _ _ => (cell_alloc (cell_alloc (cell_alloc (cell_alloc (cell_alloc (hS.cell 9 (by omega)) _) _) _) _) _)
  have g10 : ∀ o1 o2 o3 o4 o5, (((((w.alloc o1).alloc o2).alloc o3).alloc o4).alloc o5).cell? ⟨10, 0, none⟩ = some (.iface 255 (.pointer (some (A 10)))) := fun _ _ _ _ _ => (cell_alloc (cell_alloc (cell_alloc (cell_alloc (cell_alloc (hS.cell 10 (by omega)) _) _) _) _) _)
  have g11 : ∀ o1 o2 o3 o4 o5, (((((w.alloc o1).alloc o2).alloc o3).alloc o4).alloc o5).cell? ⟨11, 0, none⟩ = some (.iface 255 (.pointer (some (A 11)))) := fun _ _ _ _ _ => (cell_alloc (cell_alloc (cell_alloc (cell_alloc (cell_alloc (hS.cell 11 (by omega)) _) _) _) _) _)
  have f0 : ∀ o1 o2 o3 o4 o5, (((((w.alloc o1).alloc o2).alloc o3).alloc o4).alloc o5).cell? ⟨pb, 0, none⟩ = some (.int .i64 n) := fun _ _ _ _ _ => (cell_alloc (cell_alloc (cell_alloc (cell_alloc (cell_alloc c0 _) _) _) _) _)
  have hg := hS.handle
  have hz : 12 < w.heap.size := by have := hS.gl; have := hS.size; omega
  have HC : Hid (w.cell? ⟨pb, 0 + 1, none⟩ = some (.iface 255 (.pointer (some (A k))))) := c1
  clear c0 c1
  go_enter Tryz.func50, Tryz.ntmps50
  go_wp2_with (go_at_call 81; refine (as_hit _ _ (.pointer none) _ (cell_alloc hg _) (by simp) (by simp)).mono ?_; rintro e w' ⟨rfl, rfl⟩)
  go_loopw [3, 30] (fun a i wr => ∃ m : Nat, m ≤ k ∧ i = .int .i64 m ∧ a = .int .i64 n ∧ (∀ j, j < 12 → wr.cell? ⟨w.heap.size + 1 + 1 + 1 + 1 + 1, j, none⟩ = some (.iface 255 (.pointer (some (A j))))) ∧ Sents A B wr ∧ Below w.heap.size w wr) (fun _ i _ => 12 - (intOf i).toNat)
  case atStart =>
    refine ⟨0, Nat.zero_le _, rfl, rfl, fun j hj => ?_, ?_, ?_⟩
    · exact twelve_cell A _ _ j (by simp) hj
    · refine hS.below ?_
      refine Below.mono ?_ hS.size
      go_grown
    · go_grown
  case round =>
    obtain ⟨m, hm, rfl, rfl, hrow, hSr, hbl⟩ := hrel
    have hc := hrow m (by omega)
    have h12 : m < 12 := by omega
    have HR : Hid (∀ j, j < 12 → wr.cell? ⟨w.heap.size + 1 + 1 + 1 + 1 + 1, j, none⟩ = some (.iface 255 (.pointer (some (A j))))) := hrow
    clear hrow g0 g1 g2 g3 g4 g5 g6 g7 g8 g9 g10 g11 hg f0
    have c1r : wr.cell? ⟨pb, 0 + 1, none⟩ = some (.iface 255 (.pointer (some (A k)))) := by rw [hbl.cell (p := ⟨pb, 0 + 1, none⟩) hpl]; exact HC.out
    have HC1 : Hid (wr.cell? ⟨pb, 0 + 1, none⟩ = some (.iface 255 (.pointer (some (A k))))) := c1r
    clear c1r
    by_cases e : m = k
    · subst e
      go_wp2_with (go_at_call 82; refine (is_fault_same _ _ _ _ HC1.out).mono ?_; rintro e w' ⟨rfl, rfl⟩)
      go_ret2
      exact ⟨rfl, hbl⟩
    · have hne : A k ≠ A m := hSr.ne k m hk (by omega) (Ne.symm e)
      obtain ⟨ca, ta, ha⟩ := hSr.row k hk
      obtain ⟨cb, tb, hb⟩ := hSr.row m (by omega)
      go_wp2_with (go_at_call 82; refine (is_fault_other _ _ _ _ _ _ _ _ _ HC1.out hne ha hb).mono ?_; rintro e w' ⟨rfl, rfl⟩)
      go_roundw
      case rel => exact ⟨m + 1, by omega, by go_num, rfl, HR.out, hSr, hbl⟩
      case measure => simp [intOf]; omega

/-! ### coded -/
theorem coded_nil (w : World) : Calls Tryz.prog 16 #[.nilIface, .int .i64 0] w fun e w' => e = .returned (.bool true) ∧ w' = w := by
  go_enter Tryz.func16, Tryz.ntmps16
  go_wp2_with (go_at_call 50; refine (code_nil _).mono ?_; rintro e w' ⟨rfl, rfl⟩)
  go_ret
  exact ⟨rfl, rfl⟩
theorem coded_sent (A : Nat → Addr) (B : Nat) (w : World) (k : Nat) (n : Int) (hS : Sents A B w) (hk : k < 12) (hn : n = k + 1) :
    Calls Tryz.prog 16 #[.iface 255 (.pointer (some (A k))), .int .i64 n] w fun e w' => e = .returned (.bool true) ∧ Below w.heap.size w w' := by
  subst hn
  go_enter Tryz.func16, Tryz.ntmps16
  go_wp2_with (go_at_call 50; refine (code_sent A B _ k hS hk).mono ?_; rintro e w' ⟨rfl, hb⟩)
  go_ret
  exact ⟨by simp, hb⟩
end Go.Proofs.YtdnebclemngdcaaGreatDoor
