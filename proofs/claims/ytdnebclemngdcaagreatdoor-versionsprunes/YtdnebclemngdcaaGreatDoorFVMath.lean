/- What the listed sentinels give: a predicate that every world of a call keeps; rows of cells in memory; All twelve sentinels and the type's handle: a predicate that every world of a call keeps; Vectors as lists of numbers: plain mathematics. -/
import Derived.Test.YtdnebclemngdcaaGreatDoorProg
import Derived.WalkKit
import Derived.Deep.Draws
import Derived.Handy
import Derived.Deep.QuietTactic
import Derived.BigQuiet
import Derived.StillTailTactics
namespace Go.Proofs.YtdnebclemngdcaaGreatDoor
open Go.RowKit

theorem hid {p : Prop} (h : p) : Hid p := h

/-- The place among the package variables of the error with this number less one. -/
def gix : Nat → Nat
  | 0 => 4 | 1 => 0 | 2 => 3 | 3 => 5 | 4 => 6 | 5 => 2 | 6 => 7 | 7 => 8 | 8 => 1 | 9 => 9 | 10 => 10 | _ => 11
theorem gix_lt (k : Nat) : gix k < 12 := by unfold gix; split <;> decide

/-- Package api's ErrBound, ErrShape, ErrName and ErrKind are where the program's text lays them. -/
structure E4 (A : Nat → Addr) (w : World) : Prop where
  bound : w.cell? ⟨0, 0, none⟩ = some (.iface 255 (.pointer (some (A 1))))
  shape : w.cell? ⟨3, 0, none⟩ = some (.iface 255 (.pointer (some (A 2))))
  name : w.cell? ⟨5, 0, none⟩ = some (.iface 255 (.pointer (some (A 3))))
  kind : w.cell? ⟨11, 0, none⟩ = some (.iface 255 (.pointer (some (A 11))))
theorem E4.below {A : Nat → Addr} {B : Nat} {w w' : World} (h : E4 A w) (hb : Below B w w') (hB : 12 ≤ B) : E4 A w' :=
  ⟨by rw [hb.cell (p := ⟨0, 0, none⟩) (by show 0 < B; omega)]; exact h.bound, by rw [hb.cell (p := ⟨3, 0, none⟩) (by show 3 < B; omega)]; exact h.shape,
   by rw [hb.cell (p := ⟨5, 0, none⟩) (by show 5 < B; omega)]; exact h.name, by rw [hb.cell (p := ⟨11, 0, none⟩) (by show 11 < B; omega)]; exact h.kind⟩

theorem lt_of_cell {w : World} {p : Addr} {v : Value} (h : w.cell? p = some v) : p.block < w.heap.size := by
  rcases Nat.lt_or_ge p.block w.heap.size with h' | h'
  · exact h'
  · simp [World.cell?, Array.getElem?_eq_none h'] at h
theorem cell_alloc {w : World} {p : Addr} {v : Value} (h : w.cell? p = some v) (o : Obj) : (w.alloc o).cell? p = some v := by
  rw [World.cell?_alloc_lt _ _ p (lt_of_cell h)]; exact h
theorem below_alloc (w : World) (o : Obj) : Below w.heap.size w (w.alloc o) := (Below.refl _ _).alloc (Nat.le_refl _) _
theorem below_draws {B : Nat} {a w : World} (h : Below B a w) (n : Nat) : Below B a (w.drewN n) := h.trans ⟨rfl, rfl, rfl, Nat.le_refl _, fun _ _ => rfl⟩

theorem ret_bool {a b : Bool} (h : a = b) : Ending.returned (.bool a) = .returned (.bool b) := by rw [h]
theorem ret_int {k : IntKind} {a b : Int} (h : a = b) : Ending.returned (.int k a) = .returned (.int k b) := by rw [h]
theorem getD_ext {zs ys : List Int} {n : Nat} (h1 : zs.length = n) (h2 : ys.length = n) (h : ∀ t, t < n → zs.getD t 0 = ys.getD t 0) : zs = ys := by
  refine List.ext_getElem (by omega) fun i a b => ?_
  have := h i (by omega)
  simpa [List.getD_eq_getElem?_getD, List.getElem?_eq_getElem a, List.getElem?_eq_getElem b] using this

/-- The slice v reads, in the world w, as the numbers zs. -/
def IntsAt (w : World) (v : Value) (zs : List Int) : Prop :=
  ∃ ad cap, v = .slice ad zs.length cap ∧ (ad = none → cap = 0) ∧ (zs = [] ∨ ∃ b off, ad = some ⟨b, off, none⟩ ∧ ∀ t, t < zs.length → w.cell? ⟨b, off + t, none⟩ = some (.int .i64 (zs.getD t 0)))
theorem IntsAt.mono {w w' : World} {v : Value} {zs : List Int} {B : Nat} (h : IntsAt w v zs) (hb : Below B w w') (hB : w.heap.size ≤ B) : IntsAt w' v zs := by
  obtain ⟨ad, cap, rfl, hn, h⟩ := h
  refine ⟨ad, cap, rfl, hn, ?_⟩
  rcases h with h | ⟨b, off, rfl, h⟩
  · exact .inl h
  · exact .inr ⟨b, off, rfl, fun t ht => by rw [hb.cell (p := ⟨b, off + t, none⟩) (by have := lt_of_cell (h t ht); simp only at this ⊢; omega)]; exact h t ht⟩
theorem lit_ints (w : World) (cs : Array Value) (t : TypeId) (zs : List Int) (hcs : cs.toList = zs.map (Value.int .i64)) (n m c : Nat) (hn : n = w.heap.size) (hm : m = zs.length) : IntsAt (w.alloc (.cells cs t)) (.slice (some ⟨n, 0, none⟩) m c) zs := by
  subst hm
  refine ⟨_, c, rfl, (fun h => by cases h), .inr ⟨n, 0, rfl, fun j hj => ?_⟩⟩
  rw [World.cell?_alloc_at _ _ _ _ hn, ← Array.getElem?_toList, hcs]
  simp [List.getElem?_map, List.getD_eq_getElem?_getD, List.getElem?_eq_getElem hj]
end Go.Proofs.YtdnebclemngdcaaGreatDoor
namespace Go.Proofs.YtdnebclemngdcaaGreatDoor
open Go.RowKit

structure Sents (A : Nat → Addr) (B : Nat) (w : World) : Prop where
  gl : 13 ≤ B
  size : B ≤ w.heap.size
  cell : ∀ k, k < 12 → w.cell? ⟨gix k, 0, none⟩ = some (.iface 255 (.pointer (some (A k))))
  row : ∀ k, k < 12 → ∃ c t, w.heap[(A k).block]? = some (.cells c t (0, 0))
  lt : ∀ k, k < 12 → (A k).block < B
  ne : ∀ i j, i < 12 → j < 12 → i ≠ j → A i ≠ A j
  handle : w.cell? ⟨12, 0, none⟩ = some (.iface 208 (.agg #[.pointer (some ⟨13, 28, none⟩)]))

theorem Sents.below {A : Nat → Addr} {B : Nat} {w w' : World} (h : Sents A B w) (hb : Below B w w') : Sents A B w' where
  gl := h.gl
  size := Nat.le_trans h.size hb.size
  cell := fun k hk => by rw [hb.cell (p := ⟨gix k, 0, none⟩) (by have := h.gl; have := gix_lt k; show gix k < B; omega)]; exact h.cell k hk
  row := fun k hk => by rw [hb.block _ (h.lt k hk)]; exact h.row k hk
  lt := h.lt
  ne := h.ne
  handle := by rw [hb.cell (p := ⟨12, 0, none⟩) (by have := h.gl; show 12 < B; omega)]; exact h.handle
theorem Sents.e4 {A : Nat → Addr} {B : Nat} {w : World} (h : Sents A B w) : E4 A w := ⟨h.cell 1 (by decide), h.cell 2 (by decide), h.cell 3 (by decide), h.cell 11 (by decide)⟩
/-- What values hands out, and what errors.As reads. -/
structure E5 (A : Nat → Addr) (w : World) : Prop where
  e4 : E4 A w
  handle : w.cell? ⟨12, 0, none⟩ = some (.iface 208 (.agg #[.pointer (some ⟨13, 28, none⟩)]))
theorem E5.size {A : Nat → Addr} {w : World} (h : E5 A w) : 13 ≤ w.heap.size := lt_of_cell h.handle
theorem E5.below {A : Nat → Addr} {B : Nat} {w w' : World} (h : E5 A w) (hb : Below B w w') (hB : 13 ≤ B) : E5 A w' :=
  ⟨h.e4.below hb (by omega), by rw [hb.cell (p := ⟨12, 0, none⟩) (by show 12 < B; omega)]; exact h.handle⟩
theorem Sents.e5 {A : Nat → Addr} {B : Nat} {w : World} (h : Sents A B w) : E5 A w := ⟨h.e4, h.handle⟩
end Go.Proofs.YtdnebclemngdcaaGreatDoor
namespace Go.Proofs.YtdnebclemngdcaaGreatDoor

def inR (t : Int) : Bool := decide (0 ≤ t ∧ t ≤ 1099511627776)
/-- The number of the error of a vector: 0 none, 2 a bound, 3 a shape. -/
def chk (zs : List Int) : Int := if zs.length < 1 ∨ 6 < zs.length then 3 else if zs.all inR then 0 else 2
/-- The number of the error of two vectors. -/
def two (zs ys : List Int) : Int := if chk zs ≠ 0 then chk zs else if chk ys ≠ 0 then chk ys else if zs.length ≠ ys.length then 3 else 0
def leB (zs ys : List Int) : Bool := (List.range zs.length).all fun i => decide (zs.getD i 0 ≤ ys.getD i 0)

theorem chk_shape {zs : List Int} (h : zs.length < 1 ∨ 6 < zs.length) : chk zs = 3 := if_pos h
theorem chk_zero {zs : List Int} : chk zs = 0 ↔ 1 ≤ zs.length ∧ zs.length ≤ 6 ∧ ∀ t, t < zs.length → 0 ≤ zs.getD t 0 ∧ zs.getD t 0 ≤ 1099511627776 := by
  unfold chk
  by_cases h : zs.length < 1 ∨ 6 < zs.length
  · rw [if_pos h]
    exact ⟨fun e => by omega, fun e => by omega⟩
  · rw [if_neg h]
    by_cases ha : zs.all inR = true
    · rw [if_pos ha]
      refine ⟨fun _ => ⟨by omega, by omega, fun t ht => ?_⟩, fun _ => rfl⟩
      have := List.all_eq_true.1 ha (zs.getD t 0) (by rw [List.getD_eq_getElem?_getD, List.getElem?_eq_getElem ht]; exact List.getElem_mem ht)
      exact of_decide_eq_true this
    · rw [if_neg ha]
      refine ⟨fun e => by omega, fun ⟨_, _, e⟩ => absurd (List.all_eq_true.2 fun x hx => ?_) ha⟩
      obtain ⟨t, ht, rfl⟩ := List.getElem_of_mem hx
      have := e t ht
      rw [List.getD_eq_getElem?_getD, List.getElem?_eq_getElem ht] at this
      exact decide_eq_true this
theorem chk_bad {zs : List Int} {t : Nat} (h1 : 1 ≤ zs.length) (h2 : zs.length ≤ 6) (ht : t < zs.length) (h : ¬ (0 ≤ zs.getD t 0 ∧ zs.getD t 0 ≤ 1099511627776)) : chk zs = 2 := by
  have h0 : chk zs ≠ 0 := fun e => h ((chk_zero.1 e).2.2 t ht)
  unfold chk at h0 ⊢
  rw [if_neg (by omega)] at h0 ⊢
  by_cases ha : zs.all inR = true
  · rw [if_pos ha] at h0; exact absurd rfl h0
  · rw [if_neg ha]
theorem chk_cases (zs : List Int) : chk zs = 0 ∨ chk zs = 2 ∨ chk zs = 3 := by
  unfold chk
  split
  · exact .inr (.inr rfl)
  · split
    · exact .inl rfl
    · exact .inr (.inl rfl)
theorem two_cases (zs ys : List Int) : two zs ys = 0 ∨ two zs ys = 2 ∨ two zs ys = 3 := by
  have h1 := chk_cases zs
  have h2 := chk_cases ys
  unfold two
  split
  · exact h1
  · split
    · exact h2
    · split
      · exact .inr (.inr rfl)
      · exact .inl rfl
theorem two_zero {zs ys : List Int} : two zs ys = 0 ↔ chk zs = 0 ∧ chk ys = 0 ∧ zs.length = ys.length := by
  unfold two
  split
  · rename_i h; exact ⟨fun e => absurd e h, fun e => absurd e.1 h⟩
  · rename_i h
    split
    · rename_i h'; exact ⟨fun e => absurd e h', fun e => absurd e.2.1 h'⟩
    · rename_i h'
      split
      · rename_i h''; exact ⟨fun e => absurd e (by decide), fun e => absurd e.2.2 h''⟩
      · rename_i h''; exact ⟨fun _ => ⟨by omega, by omega, by omega⟩, fun _ => rfl⟩
theorem leB_iff {zs ys : List Int} : leB zs ys = true ↔ ∀ i, i < zs.length → zs.getD i 0 ≤ ys.getD i 0 := by
  unfold leB
  rw [List.all_eq_true]
  constructor
  · intro h i hi
    exact of_decide_eq_true (h i (List.mem_range.2 hi))
  · intro h i hi
    exact decide_eq_true (h i (List.mem_range.1 hi))

/-- The sum of the first k. -/
def sumTo (zs : List Int) : Nat → Int
  | 0 => 0
  | k + 1 => sumTo zs k + zs.getD k 0
theorem sumTo_bd {zs : List Int} (h : ∀ t, t < zs.length → 0 ≤ zs.getD t 0 ∧ zs.getD t 0 ≤ 1099511627776) : ∀ k, k ≤ zs.length → 0 ≤ sumTo zs k ∧ sumTo zs k ≤ k * 1099511627776
  | 0, _ => by simp [sumTo]
  | k + 1, hk => by
    have h1 := sumTo_bd h k (by omega)
    have h2 := h k (by omega)
    simp only [sumTo]
    omega
end Go.Proofs.YtdnebclemngdcaaGreatDoor
