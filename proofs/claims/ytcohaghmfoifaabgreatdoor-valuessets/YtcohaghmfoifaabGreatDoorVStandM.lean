/- What standing makes of ops: plain mathematics, and the walk's relation. -/
import Derived.Test.YtcohaghmfoifaabGreatDoorVOps
namespace Go.Proofs.YtcohaghmfoifaabGreatDoor
open Go.RowKit Go.Maps

/-- A value of the map from dots to ops reads as its text. -/
def textElem : Value → Option (DataW Unit × List MemPlace)
  | .agg cs => match cs.toList with
    | [.int .i64 _, .string _, .int .i64 _, .string s, .int .i64 _, .bool _, .slice _ _ _, .int .i64 _, .int .i64 _, .int .i64 _, .int .i64 _] => some (.lit (.string s.data.toList), [])
    | _ => none
  | _ => none
theorem textElem_mk (x : Dd) : textElem (.agg x.enc.toArray) = some (.lit (.string x.text.data.toList), []) := rfl
theorem textElem_inv {v : Value} {z : DataW Unit × List MemPlace} (h : textElem v = some z) : ∃ x : Dd, v = .agg x.enc.toArray ∧ z = (.lit (.string x.text.data.toList), []) := by
  unfold textElem at h
  split at h
  · rename_i cs
    split at h
    · rename_i a1 a2 a3 s a5 a6 p l c a8 a9 a10 a11 hcs
      refine ⟨⟨a1, a2, a3, s, a5, a6, p, l, c, ⟨a8, a9, a10⟩, a11, []⟩, ?_, (Option.some.inj h).symm⟩
      congr 1
      apply Array.ext'
      rw [hcs]
      rfl
    · cases h
  · cases h
theorem text_inj {a b : ByteArray} (h : (DataW.lit (.string a.data.toList) : DataW Unit) = .lit (.string b.data.toList)) : a = b := by
  injection h with h
  injection h with h
  exact WideShapes.bytes_inj h

def upd (M : D3 → Option ByteArray) (d : D3) (t : Option ByteArray) : D3 → Option ByteArray := fun e => if e = d then t else M e
/-- The map reads as M. -/
def MapIs (D : DataW Unit) (M : D3 → Option ByteArray) : Prop := ∀ d, wf3 d → Maps.has D (klD d) = (M d).isSome ∧ D.atKey (klD d) (.lit (.string [])) = .lit (.string ((M d).getD ByteArray.empty).data.toList)
theorem MapIs.start : MapIs (.map []) (fun _ => none) := fun _ _ => ⟨rfl, rfl⟩
theorem MapIs.put {D : DataW Unit} {M : D3 → Option ByteArray} (h : MapIs D M) (hD : IsMap D) {d : D3} (hd : wf3 d) (t : ByteArray) : MapIs (D.put (klD d) (.lit (.string t.data.toList))) (upd M d (some t)) := fun e he => by
  unfold upd
  by_cases q : e = d
  · subst q
    rw [if_pos rfl, has_put_same hD (klD_key _), atKey_put_same hD (klD_key _)]
    exact ⟨rfl, rfl⟩
  · rw [if_neg q, has_put_other (fun x => q (klD_inj he hd x)), atKey_put_other (fun x => q (klD_inj he hd x))]
    exact h e he
theorem MapIs.del {D : DataW Unit} {M : D3 → Option ByteArray} (h : MapIs D M) {d : D3} (hd : wf3 d) : MapIs (D.del (klD d)) (upd M d none) := fun e he => by
  unfold upd
  by_cases q : e = d
  · subst q
    rw [if_pos rfl, has_del_same, atKey_del_same]
    exact ⟨rfl, rfl⟩
  · rw [if_neg q, has_del_other (fun x => q (klD_inj he hd x)), atKey_del_other (fun x => q (klD_inj he hd x))]
    exact h e he

/-- An op that adds puts its text at its dot. -/
def addStep (M : D3 → Option ByteArray) (x : Dn) : D3 → Option ByteArray := if x.o.rem = true then M else upd M x.dot (some x.o.text)
/-- A dot that is named goes, if its text is the one. -/
def delStep (t : ByteArray) (M : D3 → Option ByteArray) (d : D3) : D3 → Option ByteArray := if (M d).getD ByteArray.empty = t then upd M d none else M
def remStep (M : D3 → Option ByteArray) (y : Dn) : D3 → Option ByteArray := y.o.dots.foldl (delStep y.o.text) M
def finalMap (ds : List Dn) : D3 → Option ByteArray := ds.foldl remStep (ds.foldl addStep fun _ => none)
/-- The ops that add, and that no op takes away. -/
def standA (ds : List Dn) : List Dn := ds.filter fun x => (finalMap ds x.dot).isSome

theorem foldl_take_succ {α β : Type} [Inhabited α] (f : β → α → β) (b : β) (l : List α) {k : Nat} (h : k < l.length) : (l.take (k + 1)).foldl f b = f ((l.take k).foldl f b) l[k]! := by
  rw [List.take_succ_eq_append_getElem h, List.foldl_append, getElem!_pos l k h]
  rfl
theorem map_get_abs (xs : List Dd) {k : Nat} (h : k < xs.length) : (xs.map Dd.abs)[k]! = xs[k]!.abs := by
  rw [getElem!_pos _ k (by simpa using h), getElem!_pos xs k h, List.getElem_map]

structure StInv (w wr : World) (M : D3 → Option ByteArray) (n : Nat) : Prop where
  map : ∃ D : DataW Unit, wr.ownsMap Tryz.prog 65 textElem w.heap.size n D ∧ MapIs D M
  below : Below w.heap.size w wr
  size : w.heap.size + 1 ≤ wr.heap.size
theorem StInv.start (w : World) : StInv w (w.alloc (.map #[] 0)) (fun _ => none) 0 where
  map := ⟨.map [], World.ownsMap_made _ _ _ _, MapIs.start⟩
  below := below_alloc _ _
  size := by simp
theorem StInv.alloc {w wr : World} {M : D3 → Option ByteArray} {n : Nat} (h : StInv w wr M n) (o : Obj) : StInv w (wr.alloc o) M n where
  map := let ⟨D, h1, h2⟩ := h.map; ⟨D, h1.alloc o, h2⟩
  below := h.below.alloc (by have := h.size; omega) o
  size := by have := h.size; simp; omega
theorem StInv.draw {w wr : World} {M : D3 → Option ByteArray} {n : Nat} (h : StInv w wr M n) (q : Nat) : StInv w (wr.drewN q) M n where
  map := h.map
  below := below_draws h.below q
  size := h.size
theorem StInv.mono {w wr : World} {M : D3 → Option ByteArray} {n n' : Nat} (h : StInv w wr M n) (hn : n ≤ n') : StInv w wr M n' where
  map := let ⟨D, h1, h2⟩ := h.map; ⟨D, h1.mono hn, h2⟩
  below := h.below
  size := h.size
theorem StInv.turned {w wr w1 : World} {M M' : D3 → Option ByteArray} {n n' : Nat} {D : DataW Unit} (h : StInv w wr M n) (hg : wr.grownBy w1 (some w.heap.size)) (hm : w1.ownsMap Tryz.prog 65 textElem w.heap.size n' D) (hM : MapIs D M') : StInv w w1 M' n' where
  map := ⟨D, hm, hM⟩
  below := h.below.grown hg (by have := h.size; omega) (fun j hj => by cases hj; exact Nat.le_refl _)
  size := Nat.le_trans h.size hg.size
/-- Another block than the map's has turned. -/
theorem StInv.beside {w wr w1 : World} {M : D3 → Option ByteArray} {n : Nat} {r : Option Nat} (h : StInv w wr M n) (hg : wr.grownBy w1 r) (hr : ∀ j, r = some j → w.heap.size + 1 ≤ j) : StInv w w1 M n where
  map := let ⟨D, h1, h2⟩ := h.map; ⟨D, h1.kept hg (fun e => by have := hr _ e.symm; omega), h2⟩
  below := h.below.grown hg (by have := h.size; omega) (fun j hj => by have := hr _ hj; omega)
  size := Nat.le_trans h.size hg.size
end Go.Proofs.YtcohaghmfoifaabGreatDoor
