/- All twelve sentinels and the type's handle: a predicate that every world of a call keeps. -/
import Derived.Test.YtkonjpcgfdcfbaaDoorJXSt
namespace Go.Proofs.YtkonjpcgfdcfbaaDoor
open Go.RowKit

/-- The place among the package variables of the error with this number less one. -/
def gix : Nat → Nat
  | 0 => 0 | 1 => 2 | 2 => 3 | 3 => 4 | 4 => 5 | 5 => 6 | 6 => 7 | 7 => 1 | 8 => 8 | 9 => 9 | 10 => 10 | _ => 11
theorem gix_lt (k : Nat) : gix k < 12 := by unfold gix; split <;> decide

structure Sents (A : Nat → Addr) (B : Nat) (w : World) : Prop where
  gl : 13 ≤ B
  size : B ≤ w.heap.size
  cell : ∀ k, k < 12 → w.cell? ⟨gix k, 0, none⟩ = some (.iface 131 (.pointer (some (A k))))
  row : ∀ k, k < 12 → ∃ c t, w.heap[(A k).block]? = some (.cells c t (0, 0))
  lt : ∀ k, k < 12 → (A k).block < B
  ne : ∀ i j, i < 12 → j < 12 → i ≠ j → A i ≠ A j
  handle : w.cell? ⟨12, 0, none⟩ = some (.iface 113 (.agg #[.pointer (some ⟨13, 31, none⟩)]))

theorem Sents.below {A : Nat → Addr} {B : Nat} {w w' : World} (h : Sents A B w) (hb : Below B w w') : Sents A B w' where
  gl := h.gl
  size := Nat.le_trans h.size hb.size
  cell := fun k hk => by rw [hb.cell (p := ⟨gix k, 0, none⟩) (by have := h.gl; have := gix_lt k; show gix k < B; omega)]; exact h.cell k hk
  row := fun k hk => by rw [hb.block _ (h.lt k hk)]; exact h.row k hk
  lt := h.lt
  ne := h.ne
  handle := by rw [hb.cell (p := ⟨12, 0, none⟩) (by have := h.gl; show 12 < B; omega)]; exact h.handle
end Go.Proofs.YtkonjpcgfdcfbaaDoor
