/- What standing makes of ops: plain mathematics, and the walk's relation. -/
import Derived.Test.YtilonnkohcocoaaGreatDoorJVOps
namespace Go.Proofs.YtilonnkohcocoaaGreatDoor
open Go.RowKit Go.Maps
set_option linter.unusedSectionVars false
variable [Inhabited ComV] [DecidableEq D3] [Inhabited D3] [Inhabited Dd] [Inhabited Dn] [Inhabited OpV]

theorem Tryz.underlying3 : Tryz.prog.underlying 3 = some (.int .i64) := by kernel_rfl
theorem Tryz.zero3 (w : World) : (zeroValue 3).run Tryz.prog w = .ok (.int .i64 0) w := by kernel_rfl
theorem idxE_mk (k : Nat) (h : k ≤ 100000) : plainElem (H := Unit) Tryz.prog 3 (.int .i64 k) = some (.lit (.int .i64 k), []) := plainElem_int Tryz.underlying3 (WalkArith.wf_i64 (by omega))

def upd (M : D3 → Option ByteArray) (d : D3) (t : Option ByteArray) : D3 → Option ByteArray := fun e => if e = d then t else M e
def updI (I : D3 → Option Nat) (d : D3) (t : Option Nat) : D3 → Option Nat := fun e => if e = d then t else I e
/-- The map reads as I: where the ops are. -/
def IdxIs (D : DataW Unit) (I : D3 → Option Nat) : Prop := ∀ d, wf3 d → Maps.has D (klD d) = (I d).isSome ∧ D.atKey (klD d) (.lit (.int .i64 0)) = .lit (.int .i64 ((I d).getD 0 : Nat))
theorem IdxIs.start : IdxIs (.map []) (fun _ => none) := fun _ _ => ⟨rfl, rfl⟩
theorem IdxIs.put {D : DataW Unit} {I : D3 → Option Nat} (h : IdxIs D I) (hD : IsMap D) {d : D3} (hd : wf3 d) (t : Nat) : IdxIs (D.put (klD d) (.lit (.int .i64 t))) (updI I d (some t)) := fun e he => by
  unfold updI
  by_cases q : e = d
  · subst q
    rw [if_pos rfl, has_put_same hD (klD_key _), atKey_put_same hD (klD_key _)]
    exact ⟨rfl, rfl⟩
  · rw [if_neg q, has_put_other (fun x => q (klD_inj he hd x)), atKey_put_other (fun x => q (klD_inj he hd x))]
    exact h e he
theorem IdxIs.del {D : DataW Unit} {I : D3 → Option Nat} (h : IdxIs D I) {d : D3} (hd : wf3 d) : IdxIs (D.del (klD d)) (updI I d none) := fun e he => by
  unfold updI
  by_cases q : e = d
  · subst q
    rw [if_pos rfl, has_del_same, atKey_del_same]
    exact ⟨rfl, rfl⟩
  · rw [if_neg q, has_del_other (fun x => q (klD_inj he hd x)), atKey_del_other (fun x => q (klD_inj he hd x))]
    exact h e he
/-- The texts, by the places. -/
def TextsBy (xs : List Dd) (I : D3 → Option Nat) (M : D3 → Option ByteArray) : Prop := ∀ d, M d = (I d).map (fun i => xs[i]!.text) ∧ ∀ i, I d = some i → i < xs.length
theorem TextsBy.put {xs : List Dd} {I : D3 → Option Nat} {M : D3 → Option ByteArray} (h : TextsBy xs I M) (d : D3) {k : Nat} (hk : k < xs.length) {t : ByteArray} (ht : xs[k]!.text = t) : TextsBy xs (updI I d (some k)) (upd M d (some t)) := fun e => by
  unfold updI upd
  by_cases q : e = d
  · rw [if_pos q, if_pos q]
    exact ⟨by rw [← ht]; rfl, fun i hi => by cases hi; exact hk⟩
  · rw [if_neg q, if_neg q]
    exact h e
theorem TextsBy.del {xs : List Dd} {I : D3 → Option Nat} {M : D3 → Option ByteArray} (h : TextsBy xs I M) (d : D3) : TextsBy xs (updI I d none) (upd M d none) := fun e => by
  unfold updI upd
  by_cases q : e = d
  · rw [if_pos q, if_pos q]
    exact ⟨rfl, fun i hi => by cases hi⟩
  · rw [if_neg q, if_neg q]
    exact h e

/-- An op that adds puts its text at its dot. -/
def addStep (M : D3 → Option ByteArray) (x : Dn) : D3 → Option ByteArray := if x.o.rem = true then M else upd M x.dot (some x.o.text)
/-- A dot that is named goes, if its text is the one. -/
def delStep (t : ByteArray) (M : D3 → Option ByteArray) (d : D3) : D3 → Option ByteArray := if (M d).getD ByteArray.empty = t then upd M d none else M
theorem delStep_none {t : ByteArray} {M : D3 → Option ByteArray} {d : D3} (h : M d = none) : delStep t M d = M := by
  unfold delStep
  split
  · funext e
    unfold upd
    split
    · rename_i q; rw [q, h]
    · rfl
  · rfl
def remStep (M : D3 → Option ByteArray) (y : Dn) : D3 → Option ByteArray := y.o.dots.foldl (delStep y.o.text) M
def finalMap (ds : List Dn) : D3 → Option ByteArray := ds.foldl remStep (ds.foldl addStep fun _ => none)
/-- The ops that add, and that no op takes away. -/
def standA (ds : List Dn) : List Dn := ds.filter fun x => (finalMap ds x.dot).isSome

theorem foldl_take_succ {α β : Type} [Inhabited α] (f : β → α → β) (b : β) (l : List α) {k : Nat} (h : k < l.length) : (l.take (k + 1)).foldl f b = f ((l.take k).foldl f b) l[k]! := by
  rw [List.take_succ_eq_append_getElem h, List.foldl_append, getElem!_pos l k h]
  rfl
theorem map_get_abs (xs : List Dd) {k : Nat} (h : k < xs.length) : (xs.map Dd.abs)[k]! = xs[k]!.abs := by
  rw [getElem!_pos _ k (by simpa using h), getElem!_pos xs k h, List.getElem_map]

structure StInv (xs : List Dd) (w wr : World) (M : D3 → Option ByteArray) (n : Nat) : Prop where
  map : ∃ (D : DataW Unit) (I : D3 → Option Nat), wr.ownsMap Tryz.prog 65 (plainElem Tryz.prog 3) w.heap.size n D ∧ IdxIs D I ∧ TextsBy xs I M
  below : Below w.heap.size w wr
  size : w.heap.size + 1 ≤ wr.heap.size
section
variable {xs : List Dd}
theorem StInv.start (w : World) : StInv xs w (w.alloc (.map #[] 0)) (fun _ => none) 0 where
  map := ⟨.map [], fun _ => none, World.ownsMap_made _ _ _ _, IdxIs.start, fun _ => ⟨rfl, fun i hi => by cases hi⟩⟩
  below := below_alloc _ _
  size := by simp
theorem StInv.alloc {w wr : World} {M : D3 → Option ByteArray} {n : Nat} (h : StInv xs w wr M n) (o : Obj) : StInv xs w (wr.alloc o) M n where
  map := let ⟨D, I, h1, h2⟩ := h.map; ⟨D, I, h1.alloc o, h2⟩
  below := h.below.alloc (by have := h.size; omega) o
  size := by have := h.size; simp; omega
theorem StInv.draw {w wr : World} {M : D3 → Option ByteArray} {n : Nat} (h : StInv xs w wr M n) (q : Nat) : StInv xs w (wr.drewN q) M n where
  map := h.map
  below := below_draws h.below q
  size := h.size
theorem StInv.mono {w wr : World} {M : D3 → Option ByteArray} {n n' : Nat} (h : StInv xs w wr M n) (hn : n ≤ n') : StInv xs w wr M n' where
  map := let ⟨D, I, h1, h2⟩ := h.map; ⟨D, I, h1.mono hn, h2⟩
  below := h.below
  size := h.size
theorem StInv.turned {w wr w1 : World} {M M' : D3 → Option ByteArray} {n n' : Nat} {D : DataW Unit} {I : D3 → Option Nat} (h : StInv xs w wr M n) (hg : wr.grownBy w1 (some w.heap.size)) (hm : w1.ownsMap Tryz.prog 65 (plainElem Tryz.prog 3) w.heap.size n' D) (hI : IdxIs D I) (hM : TextsBy xs I M') : StInv xs w w1 M' n' where
  map := ⟨D, I, hm, hI, hM⟩
  below := h.below.grown hg (by have := h.size; omega) (fun j hj => by cases hj; exact Nat.le_refl _)
  size := Nat.le_trans h.size hg.size
/-- Another block than the map's has turned. -/
theorem StInv.beside {w wr w1 : World} {M : D3 → Option ByteArray} {n : Nat} {r : Option Nat} (h : StInv xs w wr M n) (hg : wr.grownBy w1 r) (hr : ∀ j, r = some j → w.heap.size + 1 ≤ j) : StInv xs w w1 M n where
  map := let ⟨D, I, h1, h2⟩ := h.map; ⟨D, I, h1.kept hg (fun e => by have := hr _ e.symm; omega), h2⟩
  below := h.below.grown hg (by have := h.size; omega) (fun j hj => by have := hr _ hj; omega)
  size := Nat.le_trans h.size hg.size
end
end Go.Proofs.YtilonnkohcocoaaGreatDoor
