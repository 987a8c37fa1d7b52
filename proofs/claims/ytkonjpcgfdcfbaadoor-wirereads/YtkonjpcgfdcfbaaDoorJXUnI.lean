/- The reference's Unwire: what it keeps. -/
import Derived.Test.YtkonjpcgfdcfbaaDoorJXRn
import Derived.Test.YtkonjpcgfdcfbaaDoorJXWhole
namespace Go.Proofs.YtkonjpcgfdcfbaaDoor
open Go.RowKit

/-! ### one reading behind another -/
theorem stepQ {α β : Type} {q : Option (List UInt8)} {p : Pa α} {G : α → List UInt8 → Option β} {T : Option β} (d : α) (h : T = q.bind fun l => (p l).bind fun y => G y.1 y.2) : T = (gl (q.bind p)).bind (G (gv d (q.bind p))) := by
  subst h
  cases q with
  | none => rfl
  | some l =>
    show (p l).bind _ = (gl (p l)).bind (G (gv d (p l)))
    cases p l <;> rfl
def opF (x1 : Int) (x2 : ByteArray) (x3 : Int) (x4 : ByteArray) (x5 : Int) (x6 : Bool) (n : Nat) (l : List UInt8) : Option (OpV × List UInt8) := (manyP dotP n l).bind fun ds => some (⟨x1, x2, x3, x4, x5, x6, ds.1⟩, ds.2)
def opE (x1 : Int) (x2 : ByteArray) (x3 : Int) (x4 : ByteArray) (x5 : Int) (x6 : Bool) (l : List UInt8) : Option (OpV × List UInt8) := (cntP l).bind fun y => opF x1 x2 x3 x4 x5 x6 y.1 y.2
def opD (x1 : Int) (x2 : ByteArray) (x3 : Int) (x4 : ByteArray) (x5 : Int) (l : List UInt8) : Option (OpV × List UInt8) := (bitP l).bind fun y => opE x1 x2 x3 x4 x5 y.1 y.2
def opC (x1 : Int) (x2 : ByteArray) (x3 : Int) (x4 : ByteArray) (l : List UInt8) : Option (OpV × List UInt8) := (numP l).bind fun y => opD x1 x2 x3 x4 y.1 y.2
def opB (x1 : Int) (x2 : ByteArray) (x3 : Int) (l : List UInt8) : Option (OpV × List UInt8) := (txtP l).bind fun y => opC x1 x2 x3 y.1 y.2
def opA (x1 : Int) (x2 : ByteArray) (l : List UInt8) : Option (OpV × List UInt8) := (numP l).bind fun y => opB x1 x2 y.1 y.2
def opZ (x1 : Int) (l : List UInt8) : Option (OpV × List UInt8) := (txtP l).bind fun y => opA x1 y.1 y.2
theorem opP_eq : opP = fun l => (numP l).bind fun y => opZ y.1 y.2 := rfl
def cmC (ws : List Int) (p : Int) (n : Nat) (l : List UInt8) : Option (ComV × List UInt8) := (manyP opP n l).bind fun y => some (⟨ws, p, y.1⟩, y.2)
def cmB (ws : List Int) (p : Int) (l : List UInt8) : Option (ComV × List UInt8) := (cntP l).bind fun y => cmC ws p y.1 y.2
def cmA (ws : List Int) (l : List UInt8) : Option (ComV × List UInt8) := (numP l).bind fun y => cmB ws y.1 y.2
def cmZ (n : Nat) (l : List UInt8) : Option (ComV × List UInt8) := (manyP numP n l).bind fun y => cmA y.1 y.2
theorem comP_eq : comP = fun l => (cntP l).bind fun y => cmZ y.1 y.2 := rfl
def msF (x1 x2 x3 x4 x5 : Int) (x6 : Bool) (l : List UInt8) : Option (MsgV × List UInt8) := (comP l).bind fun y => some (⟨x1, x2, x3, x4, x5, x6, y.1⟩, y.2)
def msE (x1 x2 x3 x4 x5 : Int) (l : List UInt8) : Option (MsgV × List UInt8) := (bitP l).bind fun y => msF x1 x2 x3 x4 x5 y.1 y.2
def msD (x1 x2 x3 x4 : Int) (l : List UInt8) : Option (MsgV × List UInt8) := (numP l).bind fun y => msE x1 x2 x3 x4 y.1 y.2
def msC (x1 x2 x3 : Int) (l : List UInt8) : Option (MsgV × List UInt8) := (numP l).bind fun y => msD x1 x2 x3 y.1 y.2
def msB (x1 x2 : Int) (l : List UInt8) : Option (MsgV × List UInt8) := (numP l).bind fun y => msC x1 x2 y.1 y.2
def msA (x1 : Int) (l : List UInt8) : Option (MsgV × List UInt8) := (numP l).bind fun y => msB x1 y.1 y.2
theorem msgP_eq : msgP = fun l => (numP l).bind fun y => msA y.1 y.2 := rfl
def dtB (x1 x2 : Int) (l : List UInt8) : Option (D3 × List UInt8) := (numP l).bind fun y => some (⟨x1, x2, y.1⟩, y.2)
def dtA (x1 : Int) (l : List UInt8) : Option (D3 × List UInt8) := (numP l).bind fun y => dtB x1 y.1 y.2
theorem dotP_eq : dotP = fun l => (numP l).bind fun y => dtA y.1 y.2 := rfl
/-- A loop's readings. -/
theorem many_zero2 {α β : Type} {p : Pa α} {xs : List α} {q : Option (List UInt8)} {T : Option β} {G : List α → List UInt8 → Option β} {m : Nat} (h : T = q.bind fun l => (appP xs (manyP p m l)).bind fun y => G y.1 y.2) (hz : m = 0 ∨ q = none) : T = q.bind (G xs) := by
  subst h
  cases q with
  | none => rfl
  | some l =>
    rcases hz with rfl | h
    · simp only [Option.bind_some, many_zero]
    · cases h
theorem many_first {α β : Type} {p : Pa α} {n : Nat} {q : Option (List UInt8)} {T : Option β} {G : List α → List UInt8 → Option β} (h : T = q.bind fun l => (manyP p n l).bind fun y => G y.1 y.2) : T = q.bind fun l => (appP [] (manyP p n l)).bind fun y => G y.1 y.2 := by
  subst h
  cases q with
  | none => rfl
  | some l => show _ = (appP [] (manyP p n l)).bind _; rw [appP_nil]; rfl
theorem many_next {α β : Type} {p : Pa α} {xs : List α} {lk : List UInt8} {T : Option β} {G : List α → List UInt8 → Option β} {m n : Nat} (h : T = (some lk).bind fun l => (appP xs (manyP p m l)).bind fun y => G y.1 y.2) (hm : m = n + 1) : T = (p lk).bind fun y => (appP (xs ++ [y.1]) (manyP p n y.2)).bind fun y => G y.1 y.2 := by
  subst h hm
  show (appP xs (manyP p (n + 1) lk)).bind _ = _
  cases hp : p lk with
  | none => rw [many_none hp]; rfl
  | some y => obtain ⟨x, r⟩ := y; rw [many_some hp]; rfl
/-- What one reading gave goes on as the loop does. -/
theorem next_of {α β : Type} {a : Option (α × List UInt8)} {x : α} {q : Option (List UInt8)} {T : Option β} {F : α → List UInt8 → Option β} (h : T = a.bind fun y => F y.1 y.2) (ha : a = q.bind fun l => some (x, l)) : T = q.bind (F x) := by
  subst h ha
  cases q <;> rfl

/-! ### rows of one's own, where only one block below them has turned -/
theorem owns_at {w w' : World} {base e size n : Nat} {v : Value} {xs : List Value} (h : w.ownsRow base e size v n xs) (hk : ∀ g, base ≤ g → g < w.heap.size → w'.heap[g]? = w.heap[g]?) : w'.ownsRow base e size v n xs := by
  obtain ⟨h1, h2⟩ := h
  refine ⟨h1, ?_⟩
  rcases h2 with h2 | ⟨g, cap, cur, hv, hg, hh, r⟩
  · exact .inl h2
  · exact .inr ⟨g, cap, cur, hv, hg, by rw [hk g hg (lt_of_heap hh)]; exact hh, r⟩
theorem OpOwn.at {base : Nat} {w w' : World} {r : List Value} {o : OpV} (h : OpOwn base w r o) (hk : ∀ g, base ≤ g → g < w.heap.size → w'.heap[g]? = w.heap[g]?) : OpOwn base w' r o :=
  let ⟨dv, h1, h2⟩ := h; ⟨dv, h1, owns_at h2 hk⟩
theorem ComOwn.at {base : Nat} {w w' : World} {wv ov : Value} {c : ComV} (h : ComOwn base w wv ov c) (hk : ∀ g, base ≤ g → g < w.heap.size → w'.heap[g]? = w.heap[g]?) : ComOwn base w' wv ov c :=
  let ⟨h1, rows, h2, h3⟩ := h
  ⟨owns_at h1 hk, rows, owns_at h2 hk, f2_mono (fun _ _ h => h.at hk) h3⟩

/-- A dot is being read. -/
structure Dn (b : Nat) (w1 : World) (cs : List Value) (q : Option (List UInt8)) (w : World) : Prop where
  rq : Rq b w q
  lt : b < w1.heap.size
  aside : Aside b w1.heap.size w1 w
  box : w.heap[w1.heap.size]? = some (.cells cs.toArray 62 (0, 0))
theorem Dn.start {b : Nat} {w1 : World} {q : Option (List UInt8)} (hr : Rq b w1 q) (hb : b < w1.heap.size) (z cs : List Value) (hz : cs.length = z.length) (hc : ∀ j (hj : j < cs.length), ((w1.alloc (.cells z.toArray 62)).setCells w1.heap.size 0 cs).cell? ⟨w1.heap.size, j, none⟩ = some cs[j]) : Dn b w1 cs q ((w1.alloc (.cells z.toArray 62)).setCells w1.heap.size 0 cs) := by
  have ha : Aside b w1.heap.size w1 ((w1.alloc (.cells z.toArray 62)).setCells w1.heap.size 0 cs) := Aside.sets ((Aside.refl b _ w1).alloc (Nat.le_refl _) _) (Nat.le_refl _) _ _
  have hbelow : ((w1.alloc (.cells z.toArray 62)).setCells w1.heap.size 0 cs).heap[b]? = w1.heap[b]? := by rw [setCells_other _ _ _ _ _ (by omega), Below.heap_alloc _ _ _ hb]
  refine ⟨hr.moved hbelow, hb, ha, ?_⟩
  obtain ⟨ds, hds, hl⟩ : ∃ ds : Array Value, ((w1.alloc (.cells z.toArray 62)).setCells w1.heap.size 0 cs).heap[w1.heap.size]? = some (.cells ds 62 (0, 0)) ∧ ds.size = z.length := by
    have : ∀ (vs : List Value) (o : Nat) (w : World) (ds : Array Value), w.heap[w1.heap.size]? = some (.cells ds 62 (0, 0)) → ∃ ds' : Array Value, (w.setCells w1.heap.size o vs).heap[w1.heap.size]? = some (.cells ds' 62 (0, 0)) ∧ ds'.size = ds.size := by
      intro vs
      induction vs with
      | nil => intro o w ds h; exact ⟨ds, h, rfl⟩
      | cons v r ih =>
        intro o w ds h
        obtain ⟨d', h1, h2⟩ := ih (o + 1) (w.setCell ⟨w1.heap.size, o, none⟩ v) _ (heap_set h v)
        exact ⟨d', h1, by simpa using h2⟩
    obtain ⟨d', h1, h2⟩ := this cs 0 _ z.toArray (heap_new w1 _)
    exact ⟨d', h1, by simpa using h2⟩
  rw [hds]
  have : ds = cs.toArray := by
    apply Array.ext
    · simp; omega
    · intro j h1 h2
      have e := hc j (by simpa using h2)
      rw [cell_of hds, Array.getElem?_eq_getElem h1] at e
      simpa using e
  rw [this]
theorem Dn.call {b : Nat} {w1 w w' : World} {cs : List Value} {q q' : Option (List UInt8)} (h : Dn b w1 cs q w) (hr : Rq b w' q') (ha : Aside b w.heap.size w w') : Dn b w1 cs q' w' := by
  have hl := lt_of_heap h.box
  exact ⟨hr, h.lt, h.aside.trans ha (Nat.le_of_lt hl), by rw [ha.block _ hl (by have := h.lt; omega)]; exact h.box⟩
theorem Dn.set {b : Nat} {w1 w : World} {cs : List Value} {q : Option (List UInt8)} (h : Dn b w1 cs q w) (j : Nat) (v : Value) : Dn b w1 (cs.set j v) q (w.setCell ⟨w1.heap.size, j, none⟩ v) :=
  ⟨h.rq.moved (Below.heap_setCell _ _ _ _ (by have := h.lt; show b ≠ w1.heap.size; omega)), h.lt, h.aside.set (.inr (Nat.le_refl _)) v, by rw [heap_set h.box]; simp⟩
theorem Dn.cell {b : Nat} {w1 w : World} {cs : List Value} {q : Option (List UInt8)} (h : Dn b w1 cs q w) (j : Nat) (v : Value) (hj : cs[j]? = some v) : w.cell? ⟨w1.heap.size, j, none⟩ = some v := by
  rw [cell_of h.box]; simpa using hj
theorem Dn.free {b : Nat} {w1 w : World} {cs : List Value} {q : Option (List UInt8)} (h : Dn b w1 cs q w) (j : Nat) : w.frozen? ⟨w1.heap.size, j, none⟩ = false := free_of h.box

/-- A box of one's own: whatever is laid into it. -/
theorem box_sets {w1 : World} {z cs : List Value} {t : TypeId} (hz : cs.length = z.length) (hc : ∀ j (hj : j < cs.length), ((w1.alloc (.cells z.toArray t)).setCells w1.heap.size 0 cs).cell? ⟨w1.heap.size, j, none⟩ = some cs[j]) : ((w1.alloc (.cells z.toArray t)).setCells w1.heap.size 0 cs).heap[w1.heap.size]? = some (.cells cs.toArray t (0, 0)) := by
  have key : ∀ (vs : List Value) (o : Nat) (w : World) (ds : Array Value), w.heap[w1.heap.size]? = some (.cells ds t (0, 0)) → ∃ ds' : Array Value, (w.setCells w1.heap.size o vs).heap[w1.heap.size]? = some (.cells ds' t (0, 0)) ∧ ds'.size = ds.size := by
    intro vs
    induction vs with
    | nil => intro o w ds h; exact ⟨ds, h, rfl⟩
    | cons v r ih =>
      intro o w ds h
      obtain ⟨d', h1, h2⟩ := ih (o + 1) (w.setCell ⟨w1.heap.size, o, none⟩ v) _ (heap_set h v)
      exact ⟨d', h1, by simpa using h2⟩
  obtain ⟨ds, hds, hl⟩ := key cs 0 _ z.toArray (heap_new w1 _)
  rw [hds]
  have : ds = cs.toArray := by
    apply Array.ext
    · simp at hl ⊢; omega
    · intro j h1 h2
      have e := hc j (by simpa using h2)
      rw [cell_of hds, Array.getElem?_eq_getElem h1] at e
      simpa using e
  rw [this]

/-- An op is being read. -/
structure On (b : Nat) (wr : World) (o : OpV) (dv : Value) (q : Option (List UInt8)) (w : World) : Prop where
  rq : Rq b w q
  lt : b < wr.heap.size
  aside : Aside b wr.heap.size wr w
  box : w.heap[wr.heap.size]? = some (.cells (opCells o dv).toArray 52 (0, 0))
  row : w.ownsRow (wr.heap.size + 1) 62 3 dv o.dots.length (o.dots.flatMap D3.cells)
theorem On.size {b : Nat} {wr w : World} {o : OpV} {dv : Value} {q : Option (List UInt8)} (h : On b wr o dv q w) : wr.heap.size + 1 ≤ w.heap.size := lt_of_heap h.box
theorem On.call {b : Nat} {wr w w' : World} {o : OpV} {dv : Value} {q q' : Option (List UInt8)} (h : On b wr o dv q w) (hr : Rq b w' q') (ha : Aside b w.heap.size w w') : On b wr o dv q' w' := by
  have hl := lt_of_heap h.box
  have hb := h.lt
  exact ⟨hr, hb, h.aside.trans ha (Nat.le_of_lt hl), by rw [ha.block _ hl (by omega)]; exact h.box, owns_at h.row fun g h1 h2 => ha.block g h2 (by omega)⟩
theorem On.set {b : Nat} {wr w : World} {o o' : OpV} {dv : Value} {q : Option (List UInt8)} (h : On b wr o dv q w) (j : Nat) (v : Value) (hc : (opCells o dv).set j v = opCells o' dv) (hd : o'.dots = o.dots) : On b wr o' dv q (w.setCell ⟨wr.heap.size, j, none⟩ v) := by
  have hb := h.lt
  refine ⟨h.rq.moved (Below.heap_setCell _ _ _ _ (by show b ≠ wr.heap.size; omega)), hb, h.aside.set (.inr (Nat.le_refl _)) v, by rw [heap_set h.box, ← hc]; simp, ?_⟩
  rw [hd]
  exact owns_at h.row fun g h1 _ => Below.heap_setCell _ _ _ _ (by show g ≠ wr.heap.size; omega)
theorem On.cell {b : Nat} {wr w : World} {o : OpV} {dv : Value} {q : Option (List UInt8)} (h : On b wr o dv q w) (j : Nat) (v : Value) (hj : (opCells o dv)[j]? = some v) : w.cell? ⟨wr.heap.size, j, none⟩ = some v := by
  rw [cell_of h.box]; simpa using hj
theorem On.free {b : Nat} {wr w : World} {o : OpV} {dv : Value} {q : Option (List UInt8)} (h : On b wr o dv q w) (j : Nat) : w.frozen? ⟨wr.heap.size, j, none⟩ = false := free_of h.box
theorem Rq.aside {b : Nat} {w w' : World} {q : Option (List UInt8)} (h : Rq b w q) (hb : w'.heap[b]? = w.heap[b]?) : Rq b w' q := h.moved hb
theorem On.start {b : Nat} {wr : World} {q : Option (List UInt8)} (hr : Rq b wr q) (hb : b < wr.heap.size) (z : List Value) (o : OpV) (ho : o.dots = []) (hz : (opCells o (.slice none 0 0)).length = z.length) (hc : ∀ j (hj : j < (opCells o (.slice none 0 0)).length), ((wr.alloc (.cells z.toArray 52)).setCells wr.heap.size 0 (opCells o (.slice none 0 0))).cell? ⟨wr.heap.size, j, none⟩ = some (opCells o (.slice none 0 0))[j]) :
    On b wr o (.slice none 0 0) q ((wr.alloc (.cells z.toArray 52)).setCells wr.heap.size 0 (opCells o (.slice none 0 0))) := by
  have hbelow : ((wr.alloc (.cells z.toArray 52)).setCells wr.heap.size 0 (opCells o (.slice none 0 0))).heap[b]? = wr.heap[b]? := by rw [setCells_other _ _ _ _ _ (by omega), Below.heap_alloc _ _ _ hb]
  refine ⟨hr.moved hbelow, hb, Aside.sets ((Aside.refl b _ wr).alloc (Nat.le_refl _) _) (Nat.le_refl _) _ _, box_sets hz hc, ?_⟩
  rw [ho]
  exact World.ownsRow_nil _ _ _ _
/-- Another dot is put behind the others. -/
theorem On.more {b : Nat} {wr wk w w2 : World} {o : OpV} {dv v' : Value} {q q1 : Option (List UInt8)} {d : D3} (h : On b wr o dv q wk) (hd : Dn b wk [.int .i64 d.p, .int .i64 d.t, .int .i64 d.a] q1 w) {o' : Obj}
    (hn : w2.ownsRow (wr.heap.size + 1) 62 3 v' (o.dots.length + 1) (o.dots.flatMap D3.cells ++ [.int .i64 d.p, .int .i64 d.t, .int .i64 d.a])) (hg : (w.alloc o').grownBy w2 dv.ownBlock) :
    (w2.cell? ⟨wr.heap.size, 6, none⟩ = some dv ∧ w2.frozen? ⟨wr.heap.size, 6, none⟩ = false) ∧ On b wr { o with dots := o.dots ++ [d] } v' q1 (w2.setCell ⟨wr.heap.size, 6, none⟩ v') := by
  have hsz := h.size
  have hlt := h.lt
  have hlw := lt_of_heap hd.box
  have hne : ∀ i, i < wr.heap.size + 1 → w2.heap[i]? = w.heap[i]? := fun i hi => by
    rw [hg.block i (by simp; omega) fun e => by
      have := (h.row.lt i e.symm).1
      omega, Below.heap_alloc _ _ _ (by omega)]
  have hbox : w2.heap[wr.heap.size]? = some (.cells (opCells o dv).toArray 52 (0, 0)) := by rw [hne _ (by omega), hd.aside.block _ (by omega) (by omega)]; exact h.box
  have has : Aside b wr.heap.size wr w2 := ⟨hg.os.trans (hd.aside.os.trans h.aside.os), hg.tape.trans (hd.aside.tape.trans h.aside.tape), hg.output.trans (hd.aside.output.trans h.aside.output), by have := hg.size; have := hd.aside.size; simp at *; omega, fun k hk hb => by rw [hne k (by omega), hd.aside.block k (by omega) hb]; exact h.aside.block k hk hb⟩
  refine ⟨⟨by rw [cell_of hbox]; rfl, free_of hbox⟩, ?_, hlt, has.set (.inr (Nat.le_refl _)) v', by rw [heap_set hbox]; simp [opCells], ?_⟩
  · refine (hd.rq.moved (w' := w2) (hne b (by omega))).moved (Below.heap_setCell _ _ _ _ (by show b ≠ wr.heap.size; omega))
  · show World.ownsRow _ _ 62 3 v' (o.dots ++ [d]).length ((o.dots ++ [d]).flatMap D3.cells)
    rw [List.flatMap_append, List.length_append]
    refine owns_at (w := w2) ?_ fun g h1 _ => Below.heap_setCell _ _ _ _ (by show g ≠ wr.heap.size; omega)
    simpa [D3.cells] using hn

/-- A message is being read: the reading's box and the message's. -/
structure Un (wA : World) (m : MsgV) (wv ov : Value) (q : Option (List UInt8)) (w : World) : Prop where
  rq : Rq wA.heap.size w q
  below : Below wA.heap.size wA w
  box : w.heap[wA.heap.size + 1]? = some (.cells #[.int .i64 m.frm, .int .i64 m.to_, .int .i64 m.shard, .int .i64 m.seq, .int .i64 m.time, .bool m.beat, wv, .int .i64 m.c.place, ov] 27 (0, 0))
  own : ComOwn (wA.heap.size + 2) w wv ov m.c
theorem Un.size {wA w : World} {m : MsgV} {wv ov : Value} {q : Option (List UInt8)} (h : Un wA m wv ov q w) : wA.heap.size + 2 ≤ w.heap.size := lt_of_heap h.box
theorem Un.call {wA w w' : World} {m : MsgV} {wv ov : Value} {q q' : Option (List UInt8)} (h : Un wA m wv ov q w) (hr : Rq wA.heap.size w' q') (ha : Aside wA.heap.size w.heap.size w w') : Un wA m wv ov q' w' := by
  have hl := h.size
  exact ⟨hr, h.below.trans (ha.below (by omega)), by rw [ha.block _ (by omega) (by omega)]; exact h.box, h.own.at fun g h1 h2 => ha.block g h2 (by omega)⟩
theorem Un.set {wA w : World} {m m' : MsgV} {wv ov : Value} {q : Option (List UInt8)} (h : Un wA m wv ov q w) (j : Nat) (v : Value) (hc : (#[.int .i64 m.frm, .int .i64 m.to_, .int .i64 m.shard, .int .i64 m.seq, .int .i64 m.time, .bool m.beat, wv, .int .i64 m.c.place, ov] : Array Value).setIfInBounds j v = #[.int .i64 m'.frm, .int .i64 m'.to_, .int .i64 m'.shard, .int .i64 m'.seq, .int .i64 m'.time, .bool m'.beat, wv, .int .i64 m'.c.place, ov]) (h1 : m'.c.when_ = m.c.when_) (h2 : m'.c.ops = m.c.ops) : Un wA m' wv ov q (w.setCell ⟨wA.heap.size + 1, j, none⟩ v) := by
  have hl := h.size
  refine ⟨h.rq.moved (Below.heap_setCell _ _ _ _ (by show wA.heap.size ≠ wA.heap.size + 1; omega)), h.below.setCell (by show wA.heap.size ≤ wA.heap.size + 1; omega) v, by rw [heap_set h.box, hc], ?_⟩
  have ho : ComOwn (wA.heap.size + 2) w wv ov m'.c := by
    obtain ⟨e1, e2⟩ := h.own
    exact ⟨by rw [h1]; exact e1, by rw [h2]; exact e2⟩
  exact ho.at fun g h1 _ => Below.heap_setCell _ _ _ _ (by show g ≠ wA.heap.size + 1; omega)
theorem Un.cell {wA w : World} {m : MsgV} {wv ov : Value} {q : Option (List UInt8)} (h : Un wA m wv ov q w) (j : Nat) (v : Value) (hj : (#[.int .i64 m.frm, .int .i64 m.to_, .int .i64 m.shard, .int .i64 m.seq, .int .i64 m.time, .bool m.beat, wv, .int .i64 m.c.place, ov] : Array Value)[j]? = some v) : w.cell? ⟨wA.heap.size + 1, j, none⟩ = some v := by
  rw [cell_of h.box]; exact hj
theorem Un.free {wA w : World} {m : MsgV} {wv ov : Value} {q : Option (List UInt8)} (h : Un wA m wv ov q w) (j : Nat) : w.frozen? ⟨wA.heap.size + 1, j, none⟩ = false := free_of h.box
/-- A row of one's own has grown: the two boxes, and other rows, are as they were. -/
theorem Un.grown {wA w w2 : World} {m : MsgV} {wv ov v : Value} {q : Option (List UInt8)} (h : Un wA m wv ov q w) {o' : Obj} {e size n : Nat} {xs : List Value} (hown : w.ownsRow (wA.heap.size + 2) e size v n xs) (hg : (w.alloc o').grownBy w2 v.ownBlock) :
    Rq wA.heap.size w2 q ∧ Below wA.heap.size wA w2 ∧ w2.heap[wA.heap.size + 1]? = w.heap[wA.heap.size + 1]? := by
  have hl := h.size
  have hlow : ∀ i, i < wA.heap.size + 2 → w2.heap[i]? = w.heap[i]? := fun i hi => by
    rw [hg.block i (by simp; omega) fun e => by
      have := (hown.lt i e.symm).1
      omega, Below.heap_alloc _ _ _ (by omega)]
  exact ⟨h.rq.moved (hlow _ (by omega)), ⟨hg.os.trans h.below.os, hg.tape.trans h.below.tape, hg.output.trans h.below.output, by have := hg.size; have := h.below.size; simp at *; omega, fun k hk => by rw [hlow k (by omega)]; exact h.below.block k hk⟩, hlow _ (by omega)⟩
theorem Un.whenMore {wA w w2 : World} {m : MsgV} {wv ov v' : Value} {q : Option (List UInt8)} {x : Int} (h : Un wA m wv ov q w) {o' : Obj} (hn : w2.ownsRow (wA.heap.size + 2) 3 1 v' (m.c.when_.length + 1) (m.c.when_.map (Value.int .i64) ++ [.int .i64 x])) (hg : (w.alloc o').grownBy w2 wv.ownBlock) :
    (w2.cell? ⟨wA.heap.size + 1, 6, none⟩ = some wv ∧ w2.frozen? ⟨wA.heap.size + 1, 6, none⟩ = false) ∧ Un wA { m with c := { m.c with when_ := m.c.when_ ++ [x] } } v' ov q (w2.setCell ⟨wA.heap.size + 1, 6, none⟩ v') := by
  have hne := grown_ne h.own.1 hg
  obtain ⟨g1, g2, g3⟩ := h.grown h.own.1 hg
  have hbox := g3.trans h.box
  obtain ⟨_, rows, h2, h3⟩ := h.own
  have ks : ∀ g, wA.heap.size + 2 ≤ g → g < w2.heap.size → (w2.setCell ⟨wA.heap.size + 1, 6, none⟩ v').heap[g]? = w2.heap[g]? := fun g h1 _ => Below.heap_setCell _ _ _ _ (by show g ≠ wA.heap.size + 1; omega)
  refine ⟨⟨by rw [cell_of hbox]; rfl, free_of hbox⟩, g1.moved (Below.heap_setCell _ _ _ _ (by show wA.heap.size ≠ wA.heap.size + 1; omega)), g2.setCell (by show wA.heap.size ≤ wA.heap.size + 1; omega) _, by rw [heap_set hbox]; rfl, ?_, rows, owns_at (owns_below h2 fun b cs hc => hne b cs 52 (by decide) hc) ks, f2_mono (fun _ _ h => (h.kept fun b cs hc => hne b cs 62 (by decide) hc).at ks) h3⟩
  show World.ownsRow _ _ 3 1 v' (m.c.when_ ++ [x]).length ((m.c.when_ ++ [x]).map (Value.int .i64))
  rw [List.map_append, List.length_append]
  exact owns_at hn ks
theorem Un.opMore {wA w w2 : World} {m : MsgV} {wv ov v' : Value} {q : Option (List UInt8)} {o : OpV} {r : List Value} (h : Un wA m wv ov q w) (ho : OpOwn (wA.heap.size + 2) w r o) {rows : List (List Value)} (hrow : w.ownsRow (wA.heap.size + 2) 52 7 ov m.c.ops.length rows.flatten) (hrows : F2 (OpOwn (wA.heap.size + 2) w) rows m.c.ops) {o' : Obj} (hn : w2.ownsRow (wA.heap.size + 2) 52 7 v' (m.c.ops.length + 1) (rows.flatten ++ r)) (hg : (w.alloc o').grownBy w2 ov.ownBlock) :
    (w2.cell? ⟨wA.heap.size + 1, 8, none⟩ = some ov ∧ w2.frozen? ⟨wA.heap.size + 1, 8, none⟩ = false) ∧ Un wA { m with c := { m.c with ops := m.c.ops ++ [o] } } wv v' q (w2.setCell ⟨wA.heap.size + 1, 8, none⟩ v') := by
  have hne := grown_ne hrow hg
  obtain ⟨g1, g2, g3⟩ := h.grown hrow hg
  have hbox := g3.trans h.box
  have ks : ∀ g, wA.heap.size + 2 ≤ g → g < w2.heap.size → (w2.setCell ⟨wA.heap.size + 1, 8, none⟩ v').heap[g]? = w2.heap[g]? := fun g h1 _ => Below.heap_setCell _ _ _ _ (by show g ≠ wA.heap.size + 1; omega)
  refine ⟨⟨by rw [cell_of hbox]; rfl, free_of hbox⟩, g1.moved (Below.heap_setCell _ _ _ _ (by show wA.heap.size ≠ wA.heap.size + 1; omega)), g2.setCell (by show wA.heap.size ≤ wA.heap.size + 1; omega) _, by rw [heap_set hbox]; rfl, owns_at (owns_below h.own.1 fun b cs hc => hne b cs 3 (by decide) hc) ks, rows ++ [r], ?_, ?_⟩
  · show World.ownsRow _ _ 52 7 v' (m.c.ops ++ [o]).length _
    rw [List.flatten_append, List.length_append]
    exact owns_at (by simpa using hn) ks
  · exact f2_append (f2_mono (fun _ _ h => (h.kept fun b cs hc => hne b cs 62 (by decide) hc).at ks) hrows) ((ho.kept fun b cs hc => hne b cs 62 (by decide) hc).at ks)
end Go.Proofs.YtkonjpcgfdcfbaaDoor
