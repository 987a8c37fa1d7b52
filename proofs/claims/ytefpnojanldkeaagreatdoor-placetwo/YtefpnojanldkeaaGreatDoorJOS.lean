/- OwnCommit: a commit of one's own; ownOps: ops of one's own; SameTexts, SameValue: of the same. -/
import Derived.Test.YtefpnojanldkeaaGreatDoorJVRefN
import Derived.Test.YtefpnojanldkeaaGreatDoorJVOwnM
import Derived.Test.YtefpnojanldkeaaGreatDoorJVMap
import Derived.Test.YtefpnojanldkeaaGreatDoorJWPart
import Derived.Test.YtefpnojanldkeaaGreatDoorJXRd
import Derived.Test.YtefpnojanldkeaaGreatDoorJVOf
import Derived.Test.YtefpnojanldkeaaGreatDoorJSDel
namespace Go.Proofs.YtefpnojanldkeaaGreatDoor
open Go.RowKit Go.Maps
set_option maxRecDepth 100000
set_option linter.unusedSectionVars false
variable [Inhabited ComV] [DecidableEq D3] [Inhabited D3] [Inhabited Dd] [Inhabited Dn] [Inhabited OpV]

theorem wpList_append_src {w : World} {ops : Array Oper} {rest : List Oper} {o : Oper} {a : Act} {Q : Exit → Act → World → Prop} (hgd : o.guard = none) (s x : Operand) (t : TypeId)
    (ho : o.op = .call { callee := .builtin .append, args := #[s, x], argTypes := #[t, t] })
    (base : Nat) (e : TypeId) (i : TypeInfo) (z : Value) (size bytes : Nat) (ht : Tryz.prog.underlying t = some (.slice e)) (hi : Tryz.prog.info? e = some i) (hz : i.zero = some z)
    (hsize : i.size = size) (hby : i.bytes = bytes) (hzs : z.cells.size = size) (hsz : 0 < size)
    (hs : a.eval s = .slice none 0 0) (v : Value) (m : Nat) (news : List Value) (hx : a.eval x = v) (hv : SrcAt w v m size news) (h1 : ∀ u ∈ news, u.oneCell' = true)
    (h63 : m ≤ maxLen) (hbytes : m * bytes ≤ 140737488355328) (hbase : base ≤ w.heap.size)
    (h : ∀ v' w', w'.ownsRow base e size v' m news → w.grownBy w' none → wpList Tryz.prog ops Q rest (a.put o.dst v') w') : wpList Tryz.prog ops Q (o :: rest) a w := by
  rcases hv with ⟨rfl, rfl, rfl⟩ | ⟨ad, c, rfl, hl, hn⟩
  · exact wpList_append_own_none hgd s x t ho base e i size ht hi _ 0 [] hs (World.ownsRow_nil _ _ _ _) hx (h _ _ (World.ownsRow_nil _ _ _ _) ⟨rfl, rfl, rfl, Nat.le_refl _, fun _ _ _ => rfl⟩)
  · refine wpList_append_own w hgd s x t ho base e i z size bytes ht hi hz hsize hby hzs hsz _ 0 [] hs (World.ownsRow_nil _ _ _ _) ad m c news hx hl hn h1 (by omega) (by rw [Nat.zero_add]; exact hbytes) hbase fun v' w' h2 h3 _ => ?_
    rw [Nat.zero_add, List.nil_append] at h2
    exact h v' w' h2 h3

structure OwnInv (w : World) (c : ComV) (wv ov : Value) (k : Nat) (wv' ov' : Value) (rows : List (List Value)) (wr : World) : Prop where
  below : Below w.heap.size w wr
  size : w.heap.size + 3 ≤ wr.heap.size
  box : wr.heap[w.heap.size]? = some (.cells #[wv, .int .i64 c.place, ov] 36 (0, 0))
  res : wr.heap[w.heap.size + 1]? = some (.cells #[.slice none 0 0, .int .i64 0, .slice none 0 0] 36 (0, 0))
  out : wr.heap[w.heap.size + 2]? = some (.cells #[wv', .int .i64 c.place, ov'] 36 (0, 0))
  when_ : wr.ownsRow (w.heap.size + 3) 3 1 wv' c.when_.length (c.when_.map (Value.int .i64))
  row : wr.ownsRow (w.heap.size + 3) 34 7 ov' k rows.flatten
  ops : F2 (OpOwn (w.heap.size + 3) wr) rows (c.ops.take k)
theorem OwnInv.moved {w wr w' : World} {c : ComV} {wv ov wv' ov' : Value} {k : Nat} {rows : List (List Value)} (h : OwnInv w c wv ov k wv' ov' rows wr) (hb : Below wr.heap.size wr w') : OwnInv w c wv ov k wv' ov' rows w' where
  below := h.below.trans (hb.mono (by have := h.size; omega))
  size := Nat.le_trans h.size hb.size
  box := by rw [hb.block _ (by have := h.size; omega)]; exact h.box
  res := by rw [hb.block _ (by have := h.size; omega)]; exact h.res
  out := by rw [hb.block _ (by have := h.size; omega)]; exact h.out
  when_ := owns_below h.when_ fun b cs hc => hb.block b (lt_of_heap hc)
  row := owns_below h.row fun b cs hc => hb.block b (lt_of_heap hc)
  ops := f2_mono (fun _ _ h => h.kept fun b cs hc => hb.block b (lt_of_heap hc)) h.ops
theorem OwnInv.start {w w4 : World} {c : ComV} {wv ov wv' : Value} (hg : (((w.alloc (.cells #[wv, .int .i64 c.place, ov] 36)).alloc (.cells #[.slice none 0 0, .int .i64 0, .slice none 0 0] 36)).alloc (.cells #[.slice none 0 0, .int .i64 c.place, .slice none 0 0] 36)).grownBy w4 none)
    (hr : w4.ownsRow (w.heap.size + 3) 3 1 wv' c.when_.length (c.when_.map (Value.int .i64))) : OwnInv w c wv ov 0 wv' (.slice none 0 0) [] (w4.setCell ⟨w.heap.size + 2, 0, none⟩ wv') := by
  have hsz : (((w.alloc (.cells #[wv, .int .i64 c.place, ov] 36)).alloc (.cells #[.slice none 0 0, .int .i64 0, .slice none 0 0] 36)).alloc (.cells #[.slice none 0 0, .int .i64 c.place, .slice none 0 0] 36)).heap.size = w.heap.size + 3 := by simp
  have hb := fun i (hi : i < w.heap.size + 3) => hg.block i (by rw [hsz]; exact hi) (by simp)
  have hs : ∀ i : Nat, i ≠ w.heap.size + 2 → (w4.setCell ⟨w.heap.size + 2, 0, none⟩ wv').heap[i]? = w4.heap[i]? := fun i hi => Below.heap_setCell _ _ _ _ hi
  have h2 : w4.heap[w.heap.size + 2]? = some (.cells #[.slice none 0 0, .int .i64 c.place, .slice none 0 0] 36 (0, 0)) := by
    rw [hb _ (by omega), show w.heap.size + 2 = ((w.alloc (.cells #[wv, .int .i64 c.place, ov] 36)).alloc (.cells #[.slice none 0 0, .int .i64 0, .slice none 0 0] 36)).heap.size by simp]
    exact (MapKept.heap_alloc _ _).1
  refine ⟨⟨hg.os, hg.tape, hg.output, ?_, fun i hi => ?_⟩, ?_, ?_, ?_, ?_, ?_, World.ownsRow_nil _ _ _ _, trivial⟩
  · have := hg.size
    rw [hsz] at this
    simp [World.setCell]
    omega
  · rw [hs i (by omega), hb i (by omega), (MapKept.heap_alloc _ _).2 _ (by simp; omega), (MapKept.heap_alloc _ _).2 _ (by simp; omega), (MapKept.heap_alloc _ _).2 _ hi]
  · have := hg.size
    rw [hsz] at this
    simp [World.setCell]
    omega
  · rw [hs _ (by omega), hb _ (by omega), (MapKept.heap_alloc _ _).2 _ (by simp; omega), (MapKept.heap_alloc _ _).2 _ (by simp)]
    exact (MapKept.heap_alloc _ _).1
  · rw [hs _ (by omega), hb _ (by omega), (MapKept.heap_alloc _ _).2 _ (by simp)]
    rw [show w.heap.size + 1 = (w.alloc (.cells #[wv, .int .i64 c.place, ov] 36)).heap.size by simp]
    exact (MapKept.heap_alloc _ _).1
  · rw [heap_set h2]
    rfl
  · exact ownsRow_setCell_below hr (Nat.lt_succ_self _) _
theorem OwnInv.op {w wr w1 : World} {c : ComV} {wv ov wv' ov' ov2 dv : Value} {k : Nat} {rows : List (List Value)} {o : OpV} (h : OwnInv w c wv ov k wv' ov' rows wr) (hg : wr.grownBy w1 ov'.ownBlock) (hr : w1.ownsRow (w.heap.size + 3) 34 7 ov2 (k + 1) (rows.flatten ++ opCells o dv))
    (hd : wr.ownsRow (w.heap.size + 3) 90 3 dv o.dots.length (o.dots.flatMap D3.cells)) (ho : c.ops.take (k + 1) = c.ops.take k ++ [o]) : OwnInv w c wv ov (k + 1) wv' ov2 (rows ++ [opCells o dv]) (w1.setCell ⟨w.heap.size + 2, 2, none⟩ ov2) := by
  have hne : ∀ (b : Nat) (cs : Array Value) (t : TypeId), t ≠ 34 → wr.heap[b]? = some (.cells cs t (0, 0)) → w1.heap[b]? = wr.heap[b]? := fun b cs t ht hb => hg.block b (lt_of_heap hb) fun e => by
    obtain ⟨cs', h'⟩ := own_type h.row e.symm
    rw [hb] at h'
    injection h' with h'
    injection h' with _ h'
    exact ht h'
  have hs : ∀ i : Nat, i ≠ w.heap.size + 2 → (w1.setCell ⟨w.heap.size + 2, 2, none⟩ ov2).heap[i]? = w1.heap[i]? := fun i hi => Below.heap_setCell _ _ _ _ hi
  have hb1 : Below w.heap.size w w1 := h.below.trans ⟨hg.os, hg.tape, hg.output, hg.size, fun i hi => hg.block i (by have := h.size; omega) fun e => by have := (h.row.lt i e.symm).1; omega⟩
  have h2 : w1.heap[w.heap.size + 2]? = some (.cells #[wv', .int .i64 c.place, ov'] 36 (0, 0)) := by rw [hne _ _ 36 (by decide) h.out]; exact h.out
  have lo : ∀ {e size n : Nat} {v : Value} {xs : List Value}, w1.ownsRow (w.heap.size + 3) e size v n xs → (w1.setCell ⟨w.heap.size + 2, 2, none⟩ ov2).ownsRow (w.heap.size + 3) e size v n xs := fun h => ownsRow_setCell_below h (Nat.lt_succ_self _) _
  refine ⟨hb1.setCell (by show _ ≤ w.heap.size + 2; omega) _, by have := h.size; have := hg.size; simp [World.setCell]; omega, ?_, ?_, ?_, ?_, ?_, ?_⟩
  · rw [hs _ (by omega), hne _ _ 36 (by decide) h.box]; exact h.box
  · rw [hs _ (by omega), hne _ _ 36 (by decide) h.res]; exact h.res
  · rw [heap_set h2]
    rfl
  · exact lo (owns_below h.when_ fun b cs hb => hne b cs 3 (by decide) hb)
  · simpa using lo hr
  · rw [ho]
    refine f2_append (f2_mono (fun _ _ h => ?_) h.ops) ⟨dv, rfl, lo (owns_below hd fun b cs hb => hne b cs 90 (by decide) hb)⟩
    obtain ⟨dv, h1, h2⟩ := h
    exact ⟨dv, h1, lo (owns_below h2 fun b cs hb => hne b cs 90 (by decide) hb)⟩
theorem ints_of_row {w : World} {base : Nat} {v : Value} {zs : List Int} (h : w.ownsRow base 3 1 v zs.length (zs.map (Value.int .i64))) : IntsAt w v zs := by
  obtain ⟨_, h2⟩ := h
  rcases h2 with ⟨rfl, h0⟩ | ⟨g, cap, cur, rfl, hb, hh, hn, hm, hs, ht⟩
  · exact ⟨none, 0, by rw [h0], (fun _ => rfl), .inl (List.eq_nil_of_length_eq_zero h0)⟩
  · refine ⟨_, cap, rfl, (fun h => by cases h), .inr ⟨g, 0, rfl, fun t htt => ?_⟩⟩
    have e : cur[t]? = some (.int .i64 (zs.getD t 0)) := by
      have h1 : (cur.toList.take (zs.length * 1))[t]? = (zs.map (Value.int .i64))[t]? := by rw [ht]
      rw [List.getElem?_take, if_pos (by omega), Array.getElem?_toList] at h1
      rw [h1, List.getElem?_map, List.getElem?_eq_getElem htt, List.getD_eq_getElem?_getD, List.getElem?_eq_getElem htt]
      rfl
    simp only [World.cell?, hh, Nat.zero_add]
    exact e
theorem OwnInv.all {w wr : World} {c : ComV} {wv ov wv' ov' : Value} {rows : List (List Value)} (h : OwnInv w c wv ov c.ops.length wv' ov' rows wr) : IntsAt wr wv' c.when_ ∧ OpsAt wr ov' c.ops := by
  have hops := h.ops
  rw [List.take_length] at hops
  refine ⟨ints_of_row h.when_, rows, rowAt_of_owns h.row (f2_len hops).symm ?_, f2_mono (fun r o ho => ?_) hops⟩
  · have : ∀ {rows : List (List Value)} {os : List OpV}, F2 (OpOwn (w.heap.size + 3) wr) rows os → ∀ r ∈ rows, r.length = 7 := by
      intro rows
      induction rows with
      | nil => intro _ _ r hr; simp at hr
      | cons x t ih =>
        intro cs hf r hr
        match cs, hf with
        | _ :: _, ⟨h1, h2⟩ =>
          rcases List.mem_cons.1 hr with rfl | hr
          · obtain ⟨_, rfl, _⟩ := h1
            rfl
          · exact ih h2 r hr
    exact this hops
  · obtain ⟨dv, rfl, hd⟩ := ho
    exact ⟨dv, rfl, dots_of_owns hd rfl⟩

theorem OwnInv.comT {w wr : World} {c : ComV} {wv ov wv' ov' : Value} {rows : List (List Value)} (h : OwnInv w c wv ov c.ops.length wv' ov' rows wr) : ComT wr [wv', .int .i64 c.place, ov'] c := by
  have hops := h.ops
  rw [List.take_length] at hops
  refine ⟨wv', ov', rfl, intsT_of_owns h.when_, rows, rowT_of_owns h.row (f2_len hops).symm ?_, f2_mono (fun r o ho => ?_) hops⟩
  · have : ∀ {rows : List (List Value)} {os : List OpV}, F2 (OpOwn (w.heap.size + 3) wr) rows os → ∀ r ∈ rows, r.length = 7 := by
      intro rows
      induction rows with
      | nil => intro _ _ r hr; simp at hr
      | cons x t ih =>
        intro cs hf r hr
        match cs, hf with
        | _ :: _, ⟨h1, h2⟩ =>
          rcases List.mem_cons.1 hr with rfl | hr
          · obtain ⟨_, rfl, _⟩ := h1
            rfl
          · exact ih h2 r hr
    exact this hops
  · obtain ⟨dv, rfl, hd⟩ := ho
    exact ⟨dv, rfl, dotsT_of_owns hd⟩
theorem keep3_setCells {w : World} {b : Nat} {cs : Array Value} {t : TypeId} (h : w.heap[b]? = some (.cells cs t (0, 0))) (h3 : t ≠ 3) (h24 : t ≠ 34) (h65 : t ≠ 90) (o : Nat) (vs : List Value) : Keep3 w (w.setCells b o vs) := by
  have hx : ∀ (vs : List Value) (o : Nat) (w : World) (i : Nat), i ≠ b → (w.setCells b o vs).heap[i]? = w.heap[i]? := by
    intro vs
    induction vs with
    | nil => intro o w i _; rfl
    | cons v r ih =>
      intro o w i hi
      show ((w.setCell ⟨b, o, none⟩ v).setCells b (o + 1) r).heap[i]? = _
      rw [ih (o + 1) _ i hi]
      exact Below.heap_setCell _ _ _ _ hi
  have hne : ∀ t' : TypeId, t ≠ t' → KeepT t' w (w.setCells b o vs) := fun t' ht i cs' hi => hx vs o w i fun e => by
    rw [e, h] at hi
    injection hi with hi
    injection hi with _ hi
    exact ht hi
  exact ⟨hne 3 h3, hne 34 h24, hne 90 h65⟩
def OwnRet (c : ComV) (w : World) (e : Ending) (w' : World) : Prop := ∃ wv ov, e = .returned (.agg #[wv, .int .i64 c.place, ov]) ∧ ComT w' [wv, .int .i64 c.place, ov] c ∧ Below w.heap.size w w'
theorem ret_own (w : World) (tmps : Array Value) (g : Nat) (a b c : Value) (h4 : tmps[2]?.getD undef = .pointer (some ⟨g, 0, none⟩)) (hc : ∀ j (hj : j < [a, b, c].length), w.cell? ⟨g, j, none⟩ = some [a, b, c][j]) :
    (results Tryz.f41 tmps).run Tryz.prog w = .ok (.agg #[a, b, c]) w := by
  have hl := run_loadCellsFrom_list Tryz.prog w ⟨g, 0, none⟩ [a, b, c] 3 rfl (fun j v hj => by
    obtain ⟨h1, h2⟩ := List.getElem?_eq_some_iff.1 hj
    rw [Addr.add_lit, Nat.zero_add, hc j h1, h2])
  simp [results, Tryz.results41, h4, asAddr, loadVar, loadCells, Tryz.isAgg36, Tryz.sizeOf36, hl, Result.andThen]
theorem row3 {w : World} {g : Nat} {a b c : Value} {t : TypeId} (h : w.heap[g]? = some (.cells #[a, b, c] t (0, 0))) : (∀ j, j < 3 → (w.cell? ⟨g, 0 + j, none⟩).isSome = true) ∧ ∀ j, j < 3 → w.frozen? ⟨g, 0 + j, none⟩ = false := by
  refine ⟨fun j hj => ?_, fun j hj => ?_⟩
  · rcases (by omega : j = 0 ∨ j = 1 ∨ j = 2) with rfl | rfl | rfl <;> simp [World.cell?, h]
  · simp [World.frozen?, h]
theorem set3 {w : World} {g : Nat} {a b c : Value} {t : TypeId} (h : w.heap[g]? = some (.cells #[a, b, c] t (0, 0))) (vs : List Value) (hl : vs.length = 3) : ∀ j (hj : j < vs.length), (w.setCells g 0 vs).cell? ⟨g, j, none⟩ = some vs[j] := fun j hj => by
  have := World.cell?_setCells_in g vs 0 w (fun q hq => (row3 h).1 q (by omega)) j hj
  rwa [Nat.zero_add] at this
theorem OwnInv.cells {w wr : World} {c : ComV} {wv ov wv' ov' : Value} {k : Nat} {rows : List (List Value)} (h : OwnInv w c wv ov k wv' ov' rows wr) : wr.cell? ⟨w.heap.size, 2, none⟩ = some ov ∧ wr.cell? ⟨w.heap.size + 2, 2, none⟩ = some ov' ∧ wr.frozen? ⟨w.heap.size + 2, 2, none⟩ = false := by
  refine ⟨?_, ?_, ?_⟩
  · simp only [World.cell?, h.box]; rfl
  · simp only [World.cell?, h.out]; rfl
  · simp only [World.frozen?, h.out]; simp

theorem own_cell {w w3 : World} {o1 o2 : Obj} {x y z : Value} (hg : (((w.alloc o1).alloc o2).alloc (.cells #[x, y, z] 36)).grownBy w3 none) : w3.cell? ⟨w.heap.size + 1 + 1, 0, none⟩ = some x ∧ w3.frozen? ⟨w.heap.size + 1 + 1, 0, none⟩ = false := by
  have h : w3.heap[w.heap.size + 1 + 1]? = some (.cells #[x, y, z] 36 (0, 0)) := by
    rw [hg.block _ (by simp) (by simp), show w.heap.size + 1 + 1 = ((w.alloc o1).alloc o2).heap.size by simp]
    exact (MapKept.heap_alloc _ _).1
  constructor
  · simp only [World.cell?, h]; rfl
  · simp only [World.frozen?, h]; simp
theorem own_box {w wr w5 : World} {c : ComV} {wv ov wv' ov' v5 : Value} {k : Nat} {rows : List (List Value)} {o : OpV} {dvo : Value} (h : OwnInv w c wv ov k wv' ov' rows wr) (hg : (wr.alloc (.cells #[.int .i64 o.at_, .string o.key, .int .i64 o.kind, .string o.text, .int .i64 o.n, .bool o.rem, dvo] 34)).grownBy w5 none)
    (hr : w5.ownsRow (w.heap.size + 3) 90 3 v5 o.dots.length (o.dots.flatMap D3.cells)) : OwnInv w c wv ov k wv' ov' rows (w5.setCell ⟨wr.heap.size, 6, none⟩ v5) ∧ (w5.setCell ⟨wr.heap.size, 6, none⟩ v5).heap[wr.heap.size]? = some (.cells (opCells o v5).toArray 34 (0, 0)) ∧ (w5.setCell ⟨wr.heap.size, 6, none⟩ v5).ownsRow (w.heap.size + 3) 90 3 v5 o.dots.length (o.dots.flatMap D3.cells) := by
  have hbx : w5.heap[wr.heap.size]? = some (.cells #[.int .i64 o.at_, .string o.key, .int .i64 o.kind, .string o.text, .int .i64 o.n, .bool o.rem, dvo] 34 (0, 0)) := by
    rw [hg.block _ (by simp) (by simp)]
    exact (MapKept.heap_alloc _ _).1
  refine ⟨h.moved (((below_alloc wr _).grown hg (by simp) (fun k hk => by cases hk)).setCell (Nat.le_refl _) _), ?_, ?_⟩
  · rw [heap_set hbx]
    rfl
  · refine owns_below hr fun b cs hb => Below.heap_setCell _ _ _ _ fun e => ?_
    have e' : b = wr.heap.size := e
    rw [e', hbx] at hb
    injection hb with hb
    injection hb with _ hb
    exact absurd hb (by decide)
theorem own_box_cell {wr w5 : World} {cs : List Value} {u : Value} (hg : (wr.alloc (.cells cs.toArray 34)).grownBy w5 none) (hu : cs[6]? = some u) : w5.cell? ⟨wr.heap.size, 6, none⟩ = some u ∧ w5.frozen? ⟨wr.heap.size, 6, none⟩ = false := by
  have hbx : w5.heap[wr.heap.size]? = some (.cells cs.toArray 34 (0, 0)) := by
    rw [hg.block _ (by simp) (by simp)]
    exact (MapKept.heap_alloc _ _).1
  constructor
  · simp only [World.cell?, hbx]
    simp [hu]
  · simp only [World.frozen?, hbx]
    simp
theorem OwnInv.cell2 {w wr w1 : World} {c : ComV} {wv ov wv' ov' : Value} {k : Nat} {rows : List (List Value)} {o : Obj} (h : OwnInv w c wv ov k wv' ov' rows wr) (hg : (wr.alloc o).grownBy w1 ov'.ownBlock) : w1.cell? ⟨w.heap.size + 1 + 1, 2, none⟩ = some ov' ∧ w1.frozen? ⟨w.heap.size + 1 + 1, 2, none⟩ = false := by
  have h' := h.moved (below_alloc wr o)
  have e : w1.heap[w.heap.size + 1 + 1]? = some (.cells #[wv', .int .i64 c.place, ov'] 36 (0, 0)) := by
    rw [hg.block _ (by have := h'.size; omega) (fun e => by have := (h'.row.lt _ e.symm).1; omega)]
    exact h'.out
  constructor
  · simp only [World.cell?, e]
    rfl
  · simp only [World.frozen?, e]
    simp
theorem cells_of7 {w : World} {b : Nat} {o : OpV} {dv : Value} (h : w.heap[b]? = some (.cells (opCells o dv).toArray 34 (0, 0))) : w.cell? ⟨b, 0, none⟩ = some (.int .i64 o.at_) ∧ w.cell? ⟨b, 1, none⟩ = some (.string o.key) ∧ w.cell? ⟨b, 2, none⟩ = some (.int .i64 o.kind) ∧ w.cell? ⟨b, 3, none⟩ = some (.string o.text) ∧ w.cell? ⟨b, 4, none⟩ = some (.int .i64 o.n) ∧ w.cell? ⟨b, 5, none⟩ = some (.bool o.rem) ∧ w.cell? ⟨b, 6, none⟩ = some dv := by
  refine ⟨?_, ?_, ?_, ?_, ?_, ?_, ?_⟩ <;> (simp only [World.cell?, h]; rfl)
theorem ownCommit (w : World) (c : ComV) (wv ov : Value) (hw : IntsAt w wv c.when_) (ho : OpsAt w ov c.ops) (hl : c.when_.length ≤ 20) (hm : c.ops.length ≤ 20) (hd : ∀ o ∈ c.ops, o.dots.length ≤ 70) :
    Calls Tryz.prog 41 #[.agg #[wv, .int .i64 c.place, ov]] w fun e w' => OwnRet c w e w' := by
  obtain ⟨i3, hi3, hx0, hx1, hx2⟩ := info_parts Tryz.info3o
  obtain ⟨i24, hi24, hy0, hy1, hy2⟩ := info_parts Tryz.info34
  obtain ⟨i32, hi32, hz0, hz1, hz2⟩ := info_parts Tryz.info90
  have hsrc := src_ints hw
  obtain ⟨a1, c1, rfl, _⟩ := hw
  have hsh := ho.shape
  obtain ⟨a2, c2, rfl, _, _, hop⟩ := hsh
  obtain ⟨n, hn⟩ : ∃ n, n = c.when_.length := ⟨_, rfl⟩
  obtain ⟨m, hmm⟩ : ∃ m, m = c.ops.length := ⟨_, rfl⟩
  rw [← hn] at hl hsrc
  rw [← hmm] at hm
  have HN := hid hn
  have HM := hid hmm
  have HO := hid hop
  have HD := hid hd
  obtain ⟨p, hp⟩ : ∃ p, p = c.place := ⟨_, rfl⟩
  rw [← hp, ← hn, ← hmm]
  have HP := hid hp
  have HS := hid hsrc
  clear hn hmm hop ho hd hp hsrc
  go_enter Tryz.func41, Tryz.ntmps41
  go_upto_region 3 with (at_builtin; refine wpList_append_src rfl _ _ 23 rfl (w.heap.size + 3) 3 i3 _ 1 8 Tryz.underlying23 hi3 hx0 hx1 hx2 rfl (by decide) rfl _ n (c.when_.map (Value.int .i64)) rfl (HS.out.moved ?hm1) (ints_one _) ?hm2 ?hm3 ?hm4 ?_; (case hm1 => exact fun a u h => cell_alloc (cell_alloc (cell_alloc h _) _) _); (case hm2 => unfold maxLen; omega); (case hm3 => omega); (case hm4 => simp); intro v3 w3 hown3 hgrow3; obtain ⟨g0, f0⟩ := own_cell hgrow3; obtain ⟨a3, c3, rfl⟩ := row_shape hown3)
  have I0 : Hid (OwnInv w c (.slice a1 n c1) (.slice a2 m c2) 0 (.slice a3 n c3) (.slice none 0 0) [] (w3.setCell ⟨w.heap.size + 2, 0, none⟩ (.slice a3 n c3))) := hid (OwnInv.start (by rw [← HP.out]; exact hgrow3) (by rw [← HN.out]; exact hown3))
  clear hown3 hgrow3 g0 f0
  go_upto_region 4 with (fail)
  go_loopw [4] (fun i wr => ∃ (k : Nat) (ov' : Value) (rows : List (List Value)), k ≤ m ∧ i = .int .i64 k ∧ Hid (OwnInv w c (.slice a1 n c1) (.slice a2 m c2) k (.slice a3 n c3) ov' rows wr)) (fun i _ => m - (intOf i).toNat)
  case atStart => exact ⟨0, _, _, Nat.zero_le _, rfl, I0.out⟩
  case round =>
    obtain ⟨k, ov', rows, hk, rfl, HI⟩ := hrel
    obtain ⟨k2, o2, of2⟩ := HI.out.cells
    by_cases hlt : k < m
    · obtain ⟨b, off, rfl, ho'⟩ := HO.out.resolve_left (fun h => by have := HM.out; rw [h] at this; simp at this; omega)
      obtain ⟨dp, dc, hdd, q0, q1, q2, q3, q4, q5, q6⟩ := ho' k (by have := HM.out; omega)
      have up : ∀ {a : Addr} {v : Value}, w.cell? a = some v → wr.cell? a = some v := fun {a v} h => by rw [HI.out.below.cell (lt_of_cell h)]; exact h
      have r0 := up q0
      have r1 := up q1
      have r2 := up q2
      have r3 := up q3
      have r4 := up q4
      have r5 := up q5
      have r6 := up q6
      have hmem : c.ops[k]! ∈ c.ops := by rw [getElem!_pos c.ops k (by have := HM.out; omega)]; exact List.getElem_mem _
      have hdl := HD.out _ hmem
      have htake : c.ops.take (k + 1) = c.ops.take k ++ [c.ops[k]!] := by
        have hkl : k < c.ops.length := by have := HM.out; omega
        rw [List.take_succ_eq_append_getElem hkl, getElem!_pos c.ops k hkl]
      obtain ⟨o, hoe⟩ : ∃ o, o = c.ops[k]! := ⟨_, rfl⟩
      rw [← hoe] at r0 r1 r2 r3 r4 r5 r6 hdl htake hdd
      have HT := hid htake
      have HDD := hid (src_dots (hdd.mono HI.out.below (Nat.le_refl _)))
      clear q0 q1 q2 q3 q4 q5 q6 ho' up hoe hmem htake hdd
      have k2' := fun ob => cell_alloc k2 ob
      have r6' := fun ob => cell_alloc r6 ob
      go_upto_region 8 with (fail)
      go_upto_region 9 with (at_builtin; refine wpList_append_src rfl _ _ 32 rfl (w.heap.size + 3) 90 i32 _ 3 24 Tryz.underlying32 hi32 hz0 hz1 hz2 rfl (by decide) rfl _ o.dots.length (o.dots.flatMap D3.cells) rfl (HDD.out.moved ?hm1) (dots_one _) ?hm2 ?hm3 ?hm4 ?_; (case hm1 => exact fun a u h => cell_alloc h _); (case hm2 => unfold maxLen; omega); (case hm3 => omega); (case hm4 => have := HI.out.size; simp; omega); intro v5 w5 hown5 hgrow5; obtain ⟨x6, xf6⟩ := own_box_cell (cs := [.int .i64 o.at_, .string o.key, .int .i64 o.kind, .string o.text, .int .i64 o.n, .bool o.rem, .slice dp o.dots.length dc]) hgrow5 rfl; obtain ⟨a5, c5, rfl⟩ := row_shape hown5)
      obtain ⟨I6, B6, D6⟩ := own_box HI.out hgrow5 hown5
      obtain ⟨w6, hw6⟩ : ∃ w6, w6 = w5.setCell ⟨wr.heap.size, 6, none⟩ (.slice a5 o.dots.length c5) := ⟨_, rfl⟩
      rw [← hw6] at I6 B6 D6 ⊢
      obtain ⟨s0, s1, s2, s3, s4, s5, s6⟩ := cells_of7 B6
      obtain ⟨_, t2, tf2⟩ := I6.cells
      have t2' : w6.cell? ⟨w.heap.size + 1 + 1, 2, none⟩ = some ov' := t2
      have hrow := I6.row
      have hs6 := I6.size
      obtain ⟨ao, co, hov⟩ := row_shape hrow
      subst hov
      have H6 := hid I6
      have HD6 := hid D6
      clear hw6 hown5 hgrow5 x6 xf6 k2' r6' I6 B6 D6 t2 tf2 HI k2 o2 of2 r0 r1 r2 r3 r4 r5 r6 HDD
      go_wp2_with (at_builtin; refine wpList_append_own _ rfl _ _ 30 rfl (w.heap.size + 3) 34 i24 _ 7 88 Tryz.underlying30 hi24 hy0 hy1 hy2 rfl (by decide) _ _ _ rfl (hrow.alloc _) ⟨w6.heap.size, 0, none⟩ 1 1 (opCells o (.slice a5 o.dots.length c5)) rfl rfl (cells11_new _ _ _ _ rfl) (one7 _ _ _ _) ?hm2 ?hm3 ?hm4 ?_; (case hm2 => unfold maxLen; omega); (case hm3 => omega); (case hm4 => simp; omega); intro v7 w7 hown7 hgrow7 _; obtain ⟨y2, yf2⟩ := H6.out.cell2 hgrow7; obtain ⟨a7, c7, rfl⟩ := row_shape hown7)
      go_roundw
      case rel => exact ⟨k + 1, _, _, by omega, by go_num, (H6.out.moved (below_alloc _ _)).op hgrow7 hown7 (HD6.out.alloc _) HT.out⟩
      case measure => simp [intOf]; omega
    · obtain rfl : k = m := by omega
      have hout := HI.out.out
      have hres := HI.out.res
      have R4 := hid (row3 hres)
      have hrow := HI.out.row
      obtain ⟨ao, co, hov⟩ := row_shape hrow
      subst hov
      have S4 := hid (set3 hres [.slice a3 n c3, .int .i64 p, .slice ao k co] rfl)
      have hkm := HM.out
      rw [hkm] at HI
      have hT := HI.out.comT
      rw [← hkm] at hT
      have HT := hid (hT.kept (keep3_setCells hres (by decide) (by decide) (by decide) 0 [.slice a3 n c3, .int .i64 p, .slice ao k co]))
      have HPP := HP.out
      have HB := hid HI.out.below
      have q0 : wr.cell? ⟨w.heap.size + 1 + 1, 0, none⟩ = some (.slice a3 n c3) := by simp only [World.cell?, Nat.add_assoc]; rw [hout]; rfl
      have q1 : wr.cell? ⟨w.heap.size + 1 + 1, 1, none⟩ = some (.int .i64 p) := by simp only [World.cell?, Nat.add_assoc]; rw [hout, HPP]; rfl
      have q2 : wr.cell? ⟨w.heap.size + 1 + 1, 2, none⟩ = some (.slice ao k co) := by simp only [World.cell?, Nat.add_assoc]; rw [hout]; rfl
      clear hout hres hrow hT o2 of2 HI hkm HPP
      go_wp2_with (refine wpList_store_k _ rfl (.tmp 2) (.tmp 43) 36 rfl (w.heap.size + 1) 0 [.slice a3 n c3, .int .i64 p, .slice ao k co] rfl rfl 3 rfl Tryz.sizeOf36 rfl _ ?hW R4.out.1 R4.out.2 ?_; case hW => rfl)
      refine bodyPost_ret (ret_own _ _ (w.heap.size + 1) _ _ _ rfl S4.out) rfl ⟨_, _, by rw [← HP.out], ?_, below_setCells (by omega) _ _ HB.out⟩
      have hT := HT.out
      rw [← HP.out] at hT ⊢
      exact hT


end Go.Proofs.YtefpnojanldkeaaGreatDoor
namespace Go.Proofs.YtefpnojanldkeaaGreatDoor
open Go.RowKit Go.Maps
set_option maxRecDepth 100000
set_option linter.unusedSectionVars false
variable [Inhabited ComV] [DecidableEq D3] [Inhabited D3] [Inhabited Dd] [Inhabited Dn] [Inhabited OpV]

set_option maxHeartbeats 4000000 in
theorem own_ops (w : World) (a : Option Addr) (n c : Nat) (os : List OpV) (h : OpsAt w (.slice a n c) os) (hm : os.length ≤ 20) (hd : ∀ o ∈ os, o.dots.length ≤ 70) :
    Calls Tryz.prog 16 #[.slice a n c] w fun e w' => ∃ a1 c1, e = .returned (.slice a1 n c1) ∧ OpsAt w' (.slice a1 n c1) os ∧ Below w.heap.size w w' := by
  obtain rfl : n = os.length := by obtain ⟨_, _, he, _⟩ := h.shape; injection he
  have K41 := hid (ownCommit w ⟨[], 0, os⟩ (.slice none 0 0) (.slice a os.length c) ⟨none, 0, rfl, fun _ => rfl, .inl rfl⟩ h (Nat.zero_le _) hm hd)
  clear h hm hd
  go_enter Tryz.func16, Tryz.ntmps16
  go_wp2_with fail
  refine K41.out.mono ?_
  rintro e w1 ⟨wv, ov, rfl, hT, hb⟩
  obtain ⟨⟨a1, c1, h1⟩, a2, c2, h2⟩ := hT.shape
  obtain ⟨wv', ov', he, _, hO⟩ := hT
  injection he with e1 he
  injection he with _ he
  injection he with e2 _
  subst e1 e2
  subst h1 h2
  obtain ⟨w2, hw2⟩ : ∃ w2, w2 = w1.alloc (.cells #[.slice a1 0 c1, .int .i64 0, .slice a2 os.length c2] 36) := ⟨_, rfl⟩
  have b2 : Below w1.heap.size w1 w2 := by rw [hw2]; exact below_alloc _ _
  have x2 : w2.cell? ⟨w1.heap.size, 2, none⟩ = some (.slice a2 os.length c2) := by rw [hw2]; exact (cell_of (heap_new _ _)).trans rfl
  have E : Hid (OpsAt w2 (.slice a2 os.length c2) os ∧ Below w.heap.size w w2) := (show _ ∧ _ from ⟨hO.at.mono b2 (Nat.le_refl _), hb.trans (b2.mono hb.size)⟩)
  clear hO b2 hb K41
  go_upto_region 2 with (fail)
  rw [← hw2]
  clear hw2
  go_wp2
  go_ret
  exact ⟨a2, c2, rfl, E.out⟩
end Go.Proofs.YtefpnojanldkeaaGreatDoor
namespace Go.Proofs.YtefpnojanldkeaaGreatDoor
open Go.RowKit
set_option maxRecDepth 100000
set_option linter.unusedSectionVars false
variable [Inhabited ComV] [DecidableEq D3] [Inhabited D3] [Inhabited Dd] [Inhabited Dn] [Inhabited OpV]

theorem encStr_shape (l : List UInt8) : ∃ s : ByteArray, encStr l = .string s := ⟨_, rfl⟩
theorem StrsAt.mono {w w' : World} {v : Value} {ss : List (List UInt8)} {B : Nat} (h : StrsAt w v ss) (hb : Below B w w') (hB : w.heap.size ≤ B) : StrsAt w' v ss := by
  obtain ⟨ad, cap, rfl, h⟩ := h
  refine ⟨ad, cap, rfl, ?_⟩
  rcases h with h | ⟨b, rfl, h⟩
  · exact .inl h
  · exact .inr ⟨b, rfl, fun t ht => by rw [hb.cell (Nat.lt_of_lt_of_le (lt_of_cell (h t ht)) hB)]; exact h t ht⟩
theorem StrsAt.len {w : World} {v : Value} {ss : List (List UInt8)} (h : StrsAt w v ss) : ∃ ad cap, v = .slice ad ss.length cap := by
  obtain ⟨ad, cap, rfl, _⟩ := h
  exact ⟨_, _, rfl⟩
set_option maxHeartbeats 1000000 in
theorem sameTexts_same (w : World) (v v' : Value) (ss : List (List UInt8)) (h : StrsAt w v ss) (h' : StrsAt w v' ss) (hl : ss.length ≤ 1000000) :
    Calls Tryz.prog 44 #[v, v'] w fun e w' => e = .returned (.bool true) ∧ ∃ q, w' = w.drewN q := by
  obtain ⟨a1, c1, rfl, h⟩ := h
  obtain ⟨a2, c2, rfl, h'⟩ := h'
  obtain ⟨n, hn⟩ : ∃ n, n = ss.length := ⟨_, rfl⟩
  rw [← hn] at hl ⊢
  have HN := hid hn
  have H1 := hid h
  have H2 := hid h'
  have bn : ((n : Int) != (n : Int)) = false := by simp
  clear hn h h'
  go_enter Tryz.func44, Tryz.ntmps44
  go_wp2
  go_loopw [5] (fun i wr => ∃ k : Nat, k ≤ n ∧ i = .int .i64 k ∧ Hid (∃ q, wr = w.drewN q)) (fun i _ => n - (intOf i).toNat)
  case atStart => exact ⟨0, Nat.zero_le _, rfl, 0, rfl⟩
  case round =>
    obtain ⟨k, hk, rfl, HQ⟩ := hrel
    by_cases hlt : k < n
    · obtain ⟨b1, rfl, g1⟩ := H1.out.resolve_left (fun h => by have := HN.out; rw [h] at this; simp at this; omega)
      obtain ⟨b2, rfl, g2⟩ := H2.out.resolve_left (fun h => by have := HN.out; rw [h] at this; simp at this; omega)
      have e1 : wr.cell? ⟨b1, k, none⟩ = some (encStr ss[k]!) := by obtain ⟨q, hq⟩ := HQ.out; rw [hq]; exact g1 k (by have := HN.out; omega)
      have e2 : wr.cell? ⟨b2, k, none⟩ = some (encStr ss[k]!) := by obtain ⟨q, hq⟩ := HQ.out; rw [hq]; exact g2 k (by have := HN.out; omega)
      obtain ⟨s, hs⟩ := encStr_shape ss[k]!
      rw [hs] at e1 e2
      clear hs g1 g2
      go_upto_region 6 with (fail)
      go_quiet (fail)
      go_wp2
      go_roundw
      case rel => exact ⟨k + 1, by omega, by go_num, by obtain ⟨q, hq⟩ := HQ.out; exact ⟨_, by rw [hq]; exact World.drewN_drewN _ _ _⟩⟩
      case measure => simp [intOf]; omega
    · obtain rfl : k = n := by omega
      go_wp2
      go_ret
      exact ⟨rfl, HQ.out⟩
set_option maxHeartbeats 1000000 in
theorem sameValue_same (w : World) (k : Int) (t : ByteArray) (n : Int) (v v' : Value) (ss : List (List UInt8)) (h : StrsAt w v ss) (h' : StrsAt w v' ss) (hl : ss.length ≤ 1000000) :
    Calls Tryz.prog 20 #[.agg #[.int .i64 k, .string t, .int .i64 n, v], .agg #[.int .i64 k, .string t, .int .i64 n, v']] w fun e w' => e = .returned (.bool true) ∧ Below w.heap.size w w' := by
  have hb := below2 w (.cells #[.int .i64 k, .string t, .int .i64 n, v] 47) (.cells #[.int .i64 k, .string t, .int .i64 n, v'] 47)
  have K29 := sameTexts_same _ v v' ss (h.mono hb (Nat.le_refl _)) (h'.mono hb (Nat.le_refl _)) hl
  obtain ⟨a1, c1, rfl⟩ := h.len
  obtain ⟨a2, c2, rfl⟩ := h'.len
  obtain ⟨m, hm⟩ : ∃ m, m = ss.length := ⟨_, rfl⟩
  rw [← hm] at K29 hb ⊢
  have HB := hid hb
  clear h h' hm hb
  go_enter Tryz.func20, Tryz.ntmps20
  go_wp2_with fail
  refine K29.mono ?_
  rintro e w2 ⟨rfl, q, rfl⟩
  clear K29
  go_wp2
  go_ret
  exact ⟨rfl, below_draws HB.out q⟩
end Go.Proofs.YtefpnojanldkeaaGreatDoor
