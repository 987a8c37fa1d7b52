/- What the listed sentinels and the type's handle give: a predicate that every world of a call keeps. -/
import Derived.Test.YtfechdagacmliaaDoorProg
import Derived.WalkKit
import Derived.Deep.Draws
namespace Go.Proofs.YtfechdagacmliaaDoor
open Go.RowKit

structure Sents (A : Nat → Addr) (B : Nat) (w : World) : Prop where
  gl : 13 ≤ B
  size : B ≤ w.heap.size
  cell : ∀ k, k < 12 → w.cell? ⟨k, 0, none⟩ = some (.iface 60 (.pointer (some (A k))))
  row : ∀ k, k < 12 → ∃ c t, w.heap[(A k).block]? = some (.cells c t (0, 0))
  lt : ∀ k, k < 12 → (A k).block < B
  ne : ∀ i j, i < 12 → j < 12 → i ≠ j → A i ≠ A j
  handle : w.cell? ⟨12, 0, none⟩ = some (.iface 97 (.agg #[.pointer (some ⟨21, 25, none⟩)]))

theorem Sents.below {A : Nat → Addr} {B : Nat} {w w' : World} (h : Sents A B w) (hb : Below B w w') : Sents A B w' where
  gl := h.gl
  size := Nat.le_trans h.size hb.size
  cell := fun k hk => by rw [hb.cell (p := ⟨k, 0, none⟩) (by have := h.gl; show k < B; omega)]; exact h.cell k hk
  row := fun k hk => by rw [hb.block _ (h.lt k hk)]; exact h.row k hk
  lt := h.lt
  ne := h.ne
  handle := by rw [hb.cell (p := ⟨12, 0, none⟩) (by have := h.gl; show 12 < B; omega)]; exact h.handle

theorem lt_of_cell {w : World} {p : Addr} {v : Value} (h : w.cell? p = some v) : p.block < w.heap.size := by
  rcases Nat.lt_or_ge p.block w.heap.size with h' | h'
  · exact h'
  · simp [World.cell?, Array.getElem?_eq_none h'] at h

theorem cell_alloc {w : World} {p : Addr} {v : Value} (h : w.cell? p = some v) (o : Obj) : (w.alloc o).cell? p = some v := by
  rw [World.cell?_alloc_lt _ _ p (lt_of_cell h)]; exact h

theorem below_alloc (w : World) (o : Obj) : Below w.heap.size w (w.alloc o) := (Below.refl _ _).alloc (Nat.le_refl _) _
theorem below_draws {B : Nat} {a w : World} (h : Below B a w) (n : Nat) : Below B a (w.drewN n) := h.trans ⟨rfl, rfl, rfl, Nat.le_refl _, fun _ _ => rfl⟩
end Go.Proofs.YtfechdagacmliaaDoor
