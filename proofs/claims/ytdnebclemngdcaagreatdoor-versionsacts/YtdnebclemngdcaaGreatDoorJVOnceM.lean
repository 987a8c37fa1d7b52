/- What once makes of a list of commits: plain mathematics, and the walk's relation. -/
import Derived.Test.YtdnebclemngdcaaGreatDoorJVList
import Derived.Test.YtdnebclemngdcaaGreatDoorJVDelF
import Derived.Test.YtdnebclemngdcaaGreatDoorJWVec
import Derived.Test.YtdnebclemngdcaaGreatDoorJVSort
import Derived.Maps.AppendAt
namespace Go.Proofs.YtdnebclemngdcaaGreatDoor
open Go.RowKit Go.Maps
set_option linter.unusedSectionVars false
variable [Inhabited ComV] [DecidableEq D3] [Inhabited D3] [Inhabited Dd] [Inhabited OpV]

structure Dn where
  o : OpV
  dot : D3
  wt : Int
variable [Inhabited Dn]
def Dd.abs (x : Dd) : Dn := ⟨⟨x.at_, x.key, x.kind, x.text, x.n, x.rem, x.ds⟩, x.dot, x.wt⟩
def dnOf (c : ComV) (o : OpV) : Dn := ⟨o, ⟨c.place, c.when_.getD c.place.toNat 0, o.at_⟩, sum c.when_⟩
def hasDot (acc : List Dn) (d : D3) : Bool := acc.any fun x => decide (x.dot = d)
def addDn (acc : List Dn) (d : Dn) : List Dn := if hasDot acc d.dot = true then acc else acc ++ [d]
def addCom (acc : List Dn) (c : ComV) : List Dn := (c.ops.map (dnOf c)).foldl addDn acc
def onceA (l : List ComV) : List Dn := l.foldl addCom []
def addTo (acc : List Dn) (c : ComV) (j : Nat) : List Dn := ((c.ops.take j).map (dnOf c)).foldl addDn acc
theorem addTo_zero (acc : List Dn) (c : ComV) : addTo acc c 0 = acc := rfl
theorem addTo_succ (acc : List Dn) (c : ComV) {j : Nat} (h : j < c.ops.length) : addTo acc c (j + 1) = addDn (addTo acc c j) (dnOf c c.ops[j]!) := by
  unfold addTo; rw [List.take_succ_eq_append_getElem h, List.map_append, List.foldl_append, getElem!_pos c.ops j h]; rfl
theorem addTo_all (acc : List Dn) (c : ComV) : addTo acc c c.ops.length = addCom acc c := by
  unfold addTo addCom; rw [List.take_length]
theorem once_succ {l : List ComV} {k : Nat} (h : k < l.length) : (l.take (k + 1)).foldl addCom [] = addCom ((l.take k).foldl addCom []) l[k]! := by
  rw [List.take_succ_eq_append_getElem h, List.foldl_append, getElem!_pos l k h]; rfl
theorem hasDot_append (acc : List Dn) (x : Dn) (d : D3) : hasDot (acc ++ [x]) d = (hasDot acc d || decide (x.dot = d)) := by simp [hasDot]

def GoodD (w : World) (x : Dd) : Prop := DotsAt w (.slice x.dp x.dl x.dc) x.ds
structure OnceInv (w wr : World) (v : Value) (acc : List Dn) (n : Nat) : Prop where
  row : ∃ xs : List Dd, wr.ownsRow (w.heap.size + 1) 131 11 v xs.length (xs.flatMap Dd.enc) ∧ xs.map Dd.abs = acc ∧ ∀ x ∈ xs, GoodD w x
  map : ∃ D : DataW Unit, wr.ownsMap Tryz.prog 87 unitElem w.heap.size n D ∧ ∀ d, wf3 d → Maps.has D (klD d) = hasDot acc d
  below : Below w.heap.size w wr
  size : w.heap.size + 1 ≤ wr.heap.size
  len : acc.length ≤ n
theorem OnceInv.alloc {w wr : World} {v : Value} {acc : List Dn} {n : Nat} (h : OnceInv w wr v acc n) (o : Obj) : OnceInv w (wr.alloc o) v acc n where
  row := let ⟨xs, h1, h2⟩ := h.row; ⟨xs, h1.alloc o, h2⟩
  map := let ⟨D, h1, h2⟩ := h.map; ⟨D, h1.alloc o, h2⟩
  below := h.below.alloc (by have := h.size; omega) o
  size := by have := h.size; simp; omega
  len := h.len
theorem OnceInv.draw {w wr : World} {v : Value} {acc : List Dn} {n : Nat} (h : OnceInv w wr v acc n) (q : Nat) : OnceInv w (wr.drewN q) v acc n where
  row := h.row
  map := h.map
  below := below_draws h.below q
  size := h.size
  len := h.len
theorem OnceInv.mono {w wr : World} {v : Value} {acc : List Dn} {n n' : Nat} (h : OnceInv w wr v acc n) (hn : n ≤ n') : OnceInv w wr v acc n' where
  row := h.row
  map := let ⟨D, h1, h2⟩ := h.map; ⟨D, h1.mono hn, h2⟩
  below := h.below
  size := h.size
  len := Nat.le_trans h.len hn
theorem run_makeMap_room {t k e : TypeId} (hu : Tryz.prog.underlying t = some (.map k e)) (m : Nat) (w : World) : (Instr.makeMap t (some (.int .i64 m))).run Tryz.prog w = .ok (.map (some w.heap.size)) (w.alloc (.map #[] 0)) := by
  simp [Instr.makeMap, run_underlying hu, asInt, asIntOf, Result.andThen]
theorem OnceInv.start (w wm : World) (v : Value) (hr : wm.ownsRow (w.heap.size + 1) 131 11 v 0 []) (hg : (w.alloc (.map #[] 0)).grownBy wm none) : OnceInv w wm v [] 0 where
  row := ⟨[], hr, rfl, fun x hx => by simp at hx⟩
  map := ⟨.map [], (World.ownsMap_made _ _ _ _).kept hg (by simp), fun d _ => rfl⟩
  below := (below_alloc _ _).grown hg (by simp) (fun j hj => by cases hj)
  size := by have := hg.size; simpa using this
  len := Nat.le_refl _
theorem OnceInv.step {w wr w1 w2 : World} {v v' : Value} {acc : List Dn} {n : Nat} {o1 o2 : Obj} {D : DataW Unit} {xs : List Dd} {x : Dd} (hx : GoodD w x) (hs : w.heap.size + 1 ≤ wr.heap.size) (hb : Below w.heap.size w wr) (hlen : acc.length ≤ n)
    (hrow : wr.ownsRow (w.heap.size + 1) 131 11 v xs.length (xs.flatMap Dd.enc)) (habs : xs.map Dd.abs = acc) (hgood : ∀ x ∈ xs, GoodD w x)
    (hD : ∀ d, wf3 d → Maps.has D (klD d) = hasDot acc d) (hwf : wf3 x.dot) (his : IsMap D)
    (hg1 : (wr.alloc o1).grownBy w1 (some w.heap.size)) (hm1 : w1.ownsMap Tryz.prog 87 unitElem w.heap.size (n + 1) (D.put (klD x.dot) (.agg [])))
    (hg2 : (w1.alloc o2).grownBy w2 v.ownBlock) (hr2 : w2.ownsRow (w.heap.size + 1) 131 11 v' (xs.length + 1) (xs.flatMap Dd.enc ++ x.enc)) : OnceInv w w2 v' (acc ++ [x.abs]) (n + 1) where
  row := ⟨xs ++ [x], by simpa using hr2, by simp [habs], fun y hy => by
    rcases List.mem_append.1 hy with h | h
    · exact hgood y h
    · rw [List.mem_singleton.1 h]; exact hx⟩
  map := ⟨_, (hm1.alloc o2).kept hg2 (fun e => by have := (hrow.lt w.heap.size e.symm).1; omega), fun d hd => by
    rw [hasDot_append]
    by_cases e : x.dot = d
    · subst e; rw [has_put_same his (klD_key _), decide_eq_true (show x.abs.dot = x.dot from rfl), Bool.or_true]
    · rw [has_put_other (fun h => e (klD_inj hd hwf h).symm), hD d hd, decide_eq_false (show ¬ x.abs.dot = d from e), Bool.or_false]⟩
  below := by
    have s1 := hg1.size; have b1 : Below w.heap.size w w1 := (hb.alloc (by omega) o1).grown hg1 (by simp; omega) (fun j hj => by cases hj; exact Nat.le_refl _); exact (b1.alloc (by simp at s1; omega) o2).grown hg2 (by simp at s1 ⊢; omega) (fun j hj => Nat.le_trans (Nat.le_succ _) (hrow.lt j hj).1)
  size := by have s1 := hg1.size; have s2 := hg2.size; simp at s1 s2; omega
  len := by simp; omega
end Go.Proofs.YtdnebclemngdcaaGreatDoor
