/- Copies: appending a whole slice to none; where OwnCommit stands; Rows in blocks whose type is known: what stays where other blocks turn. -/
import Derived.Test.YtdnebclemngdcaaGreatDoorJVSetsI
import Derived.Test.YtdnebclemngdcaaGreatDoorJVHeavy
import Derived.Laws.AppendOwnNone
namespace Go.Proofs.YtdnebclemngdcaaGreatDoor
open Go.RowKit Go.Sort Go.Maps
set_option maxRecDepth 100000
set_option linter.unusedSectionVars false
variable [Inhabited ComV] [DecidableEq D3] [Inhabited D3] [Inhabited Dd] [Inhabited Dn] [Inhabited OpV]

def SrcAt (w : World) (v : Value) (m size : Nat) (news : List Value) : Prop :=
  (v = .slice none 0 0 ∧ m = 0 ∧ news = []) ∨ ∃ ad c, v = .slice (some ad) m c ∧ news.length = m * size ∧ ∀ j u, news[j]? = some u → w.cell? (ad.add j) = some u
theorem src_ints {w : World} {v : Value} {zs : List Int} (h : IntsAt w v zs) : SrcAt w v zs.length 1 (zs.map (Value.int .i64)) := by
  obtain ⟨ad, c, rfl, h0, h⟩ := h
  cases ad with
  | none =>
    obtain rfl := h0 rfl; rcases h with rfl | ⟨b, o, he, _⟩
    · exact .inl ⟨rfl, rfl, rfl⟩
    · cases he
  | some a =>
    refine .inr ⟨a, c, rfl, by simp, fun j u hj => ?_⟩; rcases h with rfl | ⟨b, o, he, h⟩
    · simp at hj
    · obtain rfl := Option.some.inj he; rw [List.getElem?_map] at hj
      cases hjj : zs[j]? with
      | none => rw [hjj] at hj; cases hj
      | some z =>
        rw [hjj] at hj; obtain rfl := Option.some.inj hj; have hlt : j < zs.length := (List.getElem?_eq_some_iff.1 hjj).1; have := h j hlt; rw [List.getD_eq_getElem?_getD, hjj] at this; rw [Addr.add_lit]; exact this
theorem src_dots {w : World} {v : Value} {ds : List D3} (h : DotsAt w v ds) : SrcAt w v ds.length 3 (ds.flatMap D3.cells) := by
  obtain ⟨ad, c, rfl, h0, _, h⟩ := h; rw [List.length_map]
  cases ad with
  | none =>
    obtain rfl := h0 rfl; rcases h with h | ⟨b, o, he, _⟩
    · obtain rfl : ds = [] := by simpa using h
      exact .inl ⟨rfl, rfl, rfl⟩
    · cases he
  | some a =>
    have hlen : ∀ ds : List D3, (ds.flatMap D3.cells).length = ds.length * 3 := by
      intro ds
      induction ds with
      | nil => rfl
      | cons x r ih => rw [List.flatMap_cons, List.length_append, ih, List.length_cons]; show 3 + _ = _; omega
    refine .inr ⟨a, c, rfl, hlen ds, fun j u hj => ?_⟩; rcases h with h | ⟨b, o, he, h⟩
    · obtain rfl : ds = [] := by simpa using h
      simp at hj
    · obtain rfl := Option.some.inj he; have hjl : j < ds.length * 3 := by have := (List.getElem?_eq_some_iff.1 hj).1; rw [hlen] at this; exact this
      have hq : j / 3 < ds.length := by omega
      have hr : j % 3 < 3 := by omega
      have e := flat3_get ds (j / 3) (j % 3) hq hr; rw [show j / 3 * 3 + j % 3 = j by omega, hj] at e; have hrow : (ds.map D3.cells)[j / 3]? = some (ds[j / 3]!.cells) := by rw [List.getElem?_map, List.getElem?_eq_getElem hq, getElem!_pos ds _ hq]; rfl
      have hl3 : ds[j / 3]!.cells.length = 3 := rfl
      have := (h (j / 3) _ hrow).2 (j % 3) u (by
        rw [List.getElem?_eq_getElem (by rw [hl3]; exact hr)]; rw [getElem!_pos _ _ (by rw [hl3]; exact hr)] at e; exact e.symm)
      rw [Addr.add_lit, ← this]
      congr 2
      omega
theorem SrcAt.moved {w w' : World} {v : Value} {m size : Nat} {news : List Value} (h : SrcAt w v m size news) (hk : ∀ a u, w.cell? a = some u → w'.cell? a = some u) : SrcAt w' v m size news := by
  rcases h with h | ⟨ad, c, h1, h2, h3⟩
  · exact .inl h
  · exact .inr ⟨ad, c, h1, h2, fun j u hj => hk _ _ (h3 j u hj)⟩
theorem wpList_append_src {w : World} {ops : Array Oper} {rest : List Oper} {o : Oper} {a : Act} {Q : Exit → Act → World → Prop} (hgd : o.guard = none) (s x : Operand) (t : TypeId)
    (ho : o.op = .call { callee := .builtin .append, args := #[s, x], argTypes := #[t, t] })
    (base : Nat) (e : TypeId) (i : TypeInfo) (z : Value) (size bytes : Nat) (ht : Tryz.prog.underlying t = some (.slice e)) (hi : Tryz.prog.info? e = some i) (hz : i.zero = some z)
    (hsize : i.size = size) (hby : i.bytes = bytes) (hzs : z.cells.size = size) (hsz : 0 < size)
    (hs : a.eval s = .slice none 0 0) (v : Value) (m : Nat) (news : List Value) (hx : a.eval x = v) (hv : SrcAt w v m size news) (h1 : ∀ u ∈ news, u.oneCell' = true)
    (h63 : m ≤ maxLen) (hbytes : m * bytes ≤ 140737488355328) (hbase : base ≤ w.heap.size)
    (h : ∀ v' w', w'.ownsRow base e size v' m news → w.grownBy w' none → wpList Tryz.prog ops Q rest (a.put o.dst v') w') : wpList Tryz.prog ops Q (o :: rest) a w := by
  rcases hv with ⟨rfl, rfl, rfl⟩ | ⟨ad, c, rfl, hl, hn⟩
  · exact wpList_append_own_none hgd s x t ho base e i size ht hi _ 0 [] hs (World.ownsRow_nil _ _ _ _) hx (h _ _ (World.ownsRow_nil _ _ _ _) ⟨rfl, rfl, rfl, Nat.le_refl _, fun _ _ _ => rfl⟩)
  · refine wpList_append_own w hgd s x t ho base e i z size bytes ht hi hz hsize hby hzs hsz _ 0 [] hs (World.ownsRow_nil _ _ _ _) ad m c news hx hl hn h1 (by omega) (by rw [Nat.zero_add]; exact hbytes) hbase fun v' w' h2 h3 _ => ?_
    rw [Nat.zero_add, List.nil_append] at h2; exact h v' w' h2 h3

def OpOwn (base : Nat) (w : World) (r : List Value) (o : OpV) : Prop := ∃ dv, r = opCells o dv ∧ w.ownsRow base 87 3 dv o.dots.length (o.dots.flatMap D3.cells)
structure OwnInv (w : World) (c : ComV) (wv ov : Value) (k : Nat) (wv' ov' : Value) (rows : List (List Value)) (wr : World) : Prop where
  below : Below w.heap.size w wr
  size : w.heap.size + 3 ≤ wr.heap.size
  box : wr.heap[w.heap.size]? = some (.cells #[wv, .int .i64 c.place, ov] 34 (0, 0))
  res : wr.heap[w.heap.size + 1]? = some (.cells #[.slice none 0 0, .int .i64 0, .slice none 0 0] 34 (0, 0))
  out : wr.heap[w.heap.size + 2]? = some (.cells #[wv', .int .i64 c.place, ov'] 34 (0, 0))
  when_ : wr.ownsRow (w.heap.size + 3) 3 1 wv' c.when_.length (c.when_.map (Value.int .i64))
  row : wr.ownsRow (w.heap.size + 3) 76 7 ov' k rows.flatten
  ops : F2 (OpOwn (w.heap.size + 3) wr) rows (c.ops.take k)
theorem OpOwn.kept {base : Nat} {w w' : World} {r : List Value} {o : OpV} (h : OpOwn base w r o) (hb : ∀ (b : Nat) (cs : Array Value), w.heap[b]? = some (.cells cs 87 (0, 0)) → w'.heap[b]? = w.heap[b]?) : OpOwn base w' r o :=
  let ⟨dv, h1, h2⟩ := h; ⟨dv, h1, owns_below h2 hb⟩
theorem OwnInv.moved {w wr w' : World} {c : ComV} {wv ov wv' ov' : Value} {k : Nat} {rows : List (List Value)} (h : OwnInv w c wv ov k wv' ov' rows wr) (hb : Below wr.heap.size wr w') : OwnInv w c wv ov k wv' ov' rows w' where
  below := h.below.trans (hb.mono (by have := h.size; omega))
  size := Nat.le_trans h.size hb.size
  box := by rw [hb.block _ (by have := h.size; omega)]; exact h.box
  res := by rw [hb.block _ (by have := h.size; omega)]; exact h.res
  out := by rw [hb.block _ (by have := h.size; omega)]; exact h.out
  when_ := owns_below h.when_ fun b cs hc => hb.block b (lt_of_heap hc)
  row := owns_below h.row fun b cs hc => hb.block b (lt_of_heap hc)
  ops := f2_mono (fun _ _ h => h.kept fun b cs hc => hb.block b (lt_of_heap hc)) h.ops
theorem OwnInv.start {w w4 : World} {c : ComV} {wv ov wv' : Value} (hg : (((w.alloc (.cells #[wv, .int .i64 c.place, ov] 34)).alloc (.cells #[.slice none 0 0, .int .i64 0, .slice none 0 0] 34)).alloc (.cells #[.slice none 0 0, .int .i64 c.place, .slice none 0 0] 34)).grownBy w4 none)
    (hr : w4.ownsRow (w.heap.size + 3) 3 1 wv' c.when_.length (c.when_.map (Value.int .i64))) : OwnInv w c wv ov 0 wv' (.slice none 0 0) [] (w4.setCell ⟨w.heap.size + 2, 0, none⟩ wv') := by
  have hsz : (((w.alloc (.cells #[wv, .int .i64 c.place, ov] 34)).alloc (.cells #[.slice none 0 0, .int .i64 0, .slice none 0 0] 34)).alloc (.cells #[.slice none 0 0, .int .i64 c.place, .slice none 0 0] 34)).heap.size = w.heap.size + 3 := by simp
  have hb := fun i (hi : i < w.heap.size + 3) => hg.block i (by rw [hsz]; exact hi) (by simp)
  have hs : ∀ i : Nat, i ≠ w.heap.size + 2 → (w4.setCell ⟨w.heap.size + 2, 0, none⟩ wv').heap[i]? = w4.heap[i]? := fun i hi => Below.heap_setCell _ _ _ _ hi
  have h2 : w4.heap[w.heap.size + 2]? = some (.cells #[.slice none 0 0, .int .i64 c.place, .slice none 0 0] 34 (0, 0)) := by
    rw [hb _ (by omega), show w.heap.size + 2 = ((w.alloc (.cells #[wv, .int .i64 c.place, ov] 34)).alloc (.cells #[.slice none 0 0, .int .i64 0, .slice none 0 0] 34)).heap.size by simp]; exact (MapKept.heap_alloc _ _).1
  refine ⟨⟨hg.os, hg.tape, hg.output, ?_, fun i hi => ?_⟩, ?_, ?_, ?_, ?_, ?_, World.ownsRow_nil _ _ _ _, trivial⟩
  · have := hg.size; rw [hsz] at this; simp [World.setCell]; omega
  · rw [hs i (by omega), hb i (by omega), (MapKept.heap_alloc _ _).2 _ (by simp; omega), (MapKept.heap_alloc _ _).2 _ (by simp; omega), (MapKept.heap_alloc _ _).2 _ hi]
  · have := hg.size; rw [hsz] at this; simp [World.setCell]; omega
  · rw [hs _ (by omega), hb _ (by omega), (MapKept.heap_alloc _ _).2 _ (by simp; omega), (MapKept.heap_alloc _ _).2 _ (by simp)]; exact (MapKept.heap_alloc _ _).1
  · rw [hs _ (by omega), hb _ (by omega), (MapKept.heap_alloc _ _).2 _ (by simp)]; rw [show w.heap.size + 1 = (w.alloc (.cells #[wv, .int .i64 c.place, ov] 34)).heap.size by simp]; exact (MapKept.heap_alloc _ _).1
  · rw [heap_set h2]; rfl
  · exact ownsRow_setCell_below hr (Nat.lt_succ_self _) _
theorem OwnInv.op {w wr w1 : World} {c : ComV} {wv ov wv' ov' ov2 dv : Value} {k : Nat} {rows : List (List Value)} {o : OpV} (h : OwnInv w c wv ov k wv' ov' rows wr) (hg : wr.grownBy w1 ov'.ownBlock) (hr : w1.ownsRow (w.heap.size + 3) 76 7 ov2 (k + 1) (rows.flatten ++ opCells o dv))
    (hd : wr.ownsRow (w.heap.size + 3) 87 3 dv o.dots.length (o.dots.flatMap D3.cells)) (ho : c.ops.take (k + 1) = c.ops.take k ++ [o]) : OwnInv w c wv ov (k + 1) wv' ov2 (rows ++ [opCells o dv]) (w1.setCell ⟨w.heap.size + 2, 2, none⟩ ov2) := by
  have hne : ∀ (b : Nat) (cs : Array Value) (t : TypeId), t ≠ 76 → wr.heap[b]? = some (.cells cs t (0, 0)) → w1.heap[b]? = wr.heap[b]? := fun b cs t ht hb => hg.block b (lt_of_heap hb) fun e => by
    obtain ⟨cs', h'⟩ := own_type h.row e.symm; rw [hb] at h'; injection h' with h'; injection h' with _ h'; exact ht h'
  have hs : ∀ i : Nat, i ≠ w.heap.size + 2 → (w1.setCell ⟨w.heap.size + 2, 2, none⟩ ov2).heap[i]? = w1.heap[i]? := fun i hi => Below.heap_setCell _ _ _ _ hi
  have hb1 : Below w.heap.size w w1 := h.below.trans ⟨hg.os, hg.tape, hg.output, hg.size, fun i hi => hg.block i (by have := h.size; omega) fun e => by have := (h.row.lt i e.symm).1; omega⟩; have h2 : w1.heap[w.heap.size + 2]? = some (.cells #[wv', .int .i64 c.place, ov'] 34 (0, 0)) := by rw [hne _ _ 34 (by decide) h.out]; exact h.out
  have lo : ∀ {e size n : Nat} {v : Value} {xs : List Value}, w1.ownsRow (w.heap.size + 3) e size v n xs → (w1.setCell ⟨w.heap.size + 2, 2, none⟩ ov2).ownsRow (w.heap.size + 3) e size v n xs := fun h => ownsRow_setCell_below h (Nat.lt_succ_self _) _
  refine ⟨hb1.setCell (by show _ ≤ w.heap.size + 2; omega) _, by have := h.size; have := hg.size; simp [World.setCell]; omega, ?_, ?_, ?_, ?_, ?_, ?_⟩
  · rw [hs _ (by omega), hne _ _ 34 (by decide) h.box]; exact h.box
  · rw [hs _ (by omega), hne _ _ 34 (by decide) h.res]; exact h.res
  · rw [heap_set h2]; rfl
  · exact lo (owns_below h.when_ fun b cs hb => hne b cs 3 (by decide) hb)
  · simpa using lo hr
  · rw [ho]; refine f2_append (f2_mono (fun _ _ h => ?_) h.ops) ⟨dv, rfl, lo (owns_below hd fun b cs hb => hne b cs 87 (by decide) hb)⟩; obtain ⟨dv, h1, h2⟩ := h; exact ⟨dv, h1, lo (owns_below h2 fun b cs hb => hne b cs 87 (by decide) hb)⟩
theorem ints_of_row {w : World} {base : Nat} {v : Value} {zs : List Int} (h : w.ownsRow base 3 1 v zs.length (zs.map (Value.int .i64))) : IntsAt w v zs := by
  obtain ⟨_, h2⟩ := h; rcases h2 with ⟨rfl, h0⟩ | ⟨g, cap, cur, rfl, hb, hh, hn, hm, hs, ht⟩
  · exact ⟨none, 0, by rw [h0], (fun _ => rfl), .inl (List.eq_nil_of_length_eq_zero h0)⟩
  · refine ⟨_, cap, rfl, (fun h => by cases h), .inr ⟨g, 0, rfl, fun t htt => ?_⟩⟩
    have e : cur[t]? = some (.int .i64 (zs.getD t 0)) := by
      have h1 : (cur.toList.take (zs.length * 1))[t]? = (zs.map (Value.int .i64))[t]? := by rw [ht]
      rw [List.getElem?_take, if_pos (by omega), Array.getElem?_toList] at h1; rw [h1, List.getElem?_map, List.getElem?_eq_getElem htt, List.getD_eq_getElem?_getD, List.getElem?_eq_getElem htt]; rfl
    simp only [World.cell?, hh, Nat.zero_add]; exact e
end Go.Proofs.YtdnebclemngdcaaGreatDoor
namespace Go.Proofs.YtdnebclemngdcaaGreatDoor
open Go.RowKit Go.Sort Go.Maps
set_option maxRecDepth 100000
set_option linter.unusedSectionVars false
variable [Inhabited ComV] [DecidableEq D3] [Inhabited D3] [Inhabited Dd] [Inhabited Dn] [Inhabited OpV]

def RowT (t : TypeId) (k : Nat) (w : World) (v : Value) (rows : List (List Value)) : Prop :=
  ∃ ad cap, v = .slice ad rows.length cap ∧ (ad = none → cap = 0) ∧ rows.length ≤ cap ∧ (rows = [] ∨ ∃ b off cs, ad = some ⟨b, off, none⟩ ∧ w.heap[b]? = some (.cells cs t (0, 0)) ∧ ∀ j r, rows[j]? = some r → r.length = k ∧ ∀ i u, r[i]? = some u → cs[off + j * k + i]? = some u)
theorem RowT.at {t : TypeId} {k : Nat} {w : World} {v : Value} {rows : List (List Value)} (h : RowT t k w v rows) : RowAt k w v rows := by
  obtain ⟨ad, cap, rfl, h1, h2, h3⟩ := h; refine ⟨ad, cap, rfl, h1, h2, ?_⟩; rcases h3 with h | ⟨b, off, cs, rfl, hh, h⟩
  · exact .inl h
  · refine .inr ⟨b, off, rfl, fun j r hr => ⟨(h j r hr).1, fun i u hu => ?_⟩⟩; simp only [World.cell?, hh]; rw [(h j r hr).2 i u hu]; simp
def KeepT (t : TypeId) (w w' : World) : Prop := ∀ (b : Nat) (cs : Array Value), w.heap[b]? = some (.cells cs t (0, 0)) → w'.heap[b]? = w.heap[b]?
theorem RowT.kept {t : TypeId} {k : Nat} {w w' : World} {v : Value} {rows : List (List Value)} (h : RowT t k w v rows) (hk : KeepT t w w') : RowT t k w' v rows := by
  obtain ⟨ad, cap, rfl, h1, h2, h3⟩ := h; refine ⟨ad, cap, rfl, h1, h2, ?_⟩; rcases h3 with h | ⟨b, off, cs, rfl, hh, h⟩
  · exact .inl h
  · exact .inr ⟨b, off, cs, rfl, by rw [hk b cs hh]; exact hh, h⟩
theorem rowT_of_owns {w : World} {base e k : Nat} {v : Value} {n : Nat} {rows : List (List Value)} (h : w.ownsRow base e k v n rows.flatten) (hn : n = rows.length) (hk : ∀ r ∈ rows, r.length = k) : RowT e k w v rows := by
  subst hn; obtain ⟨_, h2⟩ := h; rcases h2 with ⟨rfl, h0⟩ | ⟨g, cap, cur, rfl, _, hh, hc, _, hs, ht⟩
  · obtain rfl := List.eq_nil_of_length_eq_zero h0; exact ⟨_, _, rfl, fun _ => rfl, Nat.le_refl _, .inl rfl⟩
  · refine ⟨_, cap, rfl, (fun h => by cases h), hc, .inr ⟨g, 0, cur, rfl, hh, fun j r hr => ?_⟩⟩; have hj : j < rows.length := (List.getElem?_eq_some_iff.1 hr).1; have hrm : r ∈ rows := List.mem_of_getElem? hr; refine ⟨hk r hrm, fun i u hu => ?_⟩; have hi : i < k := by have := (List.getElem?_eq_some_iff.1 hu).1; rw [hk r hrm] at this; exact this
    have hfl : ∀ (rows : List (List Value)) (j : Nat) (r : List Value), (∀ r ∈ rows, r.length = k) → rows[j]? = some r → ∀ i u, i < k → r[i]? = some u → rows.flatten[j * k + i]? = some u := by
      intro rows
      induction rows with
      | nil => intro j r _ h; simp at h
      | cons x rest ih =>
        intro j r hk h i u hi hu; have hx := hk x (List.mem_cons_self ..); rw [List.flatten_cons]
        cases j with
        | zero =>
          simp at h; subst h; rw [List.getElem?_append_left (by omega), Nat.zero_mul, Nat.zero_add]; exact hu
        | succ j =>
          rw [List.getElem?_append_right (by rw [hx, Nat.add_mul]; omega), hx, show (j + 1) * k + i - k = j * k + i by rw [Nat.add_mul]; omega]; exact ih j r (fun r hr => hk r (List.mem_cons_of_mem _ hr)) (by simpa using h) i u hi hu
    have e := hfl rows j r hk hr i u hi hu
    have hb : j * k + i < rows.length * k := by
      have : (j + 1) * k ≤ rows.length * k := Nat.mul_le_mul_right k hj; rw [Nat.add_mul] at this; omega
    rw [← ht, List.getElem?_take, if_pos hb, Array.getElem?_toList] at e; rw [Nat.zero_add]; exact e
def IntsT (w : World) (v : Value) (zs : List Int) : Prop := RowT 3 1 w v (zs.map fun z => [.int .i64 z])
def OpT (w : World) (r : List Value) (o : OpV) : Prop := ∃ dv, r = opCells o dv ∧ RowT 87 3 w dv (o.dots.map D3.cells)
def OpsT (w : World) (v : Value) (os : List OpV) : Prop := ∃ rows, RowT 76 7 w v rows ∧ F2 (OpT w) rows os
def ComT (w : World) (r : List Value) (c : ComV) : Prop := ∃ wv ov, r = [wv, .int .i64 c.place, ov] ∧ IntsT w wv c.when_ ∧ OpsT w ov c.ops
structure Keep3 (w w' : World) : Prop where
  ints : KeepT 3 w w'
  ops : KeepT 76 w w'
  dots : KeepT 87 w w'
theorem Keep3.of_below {w w' : World} {B : Nat} (h : Below B w w') (hB : w.heap.size ≤ B) : Keep3 w w' :=
  ⟨fun b _ hb => h.block b (Nat.lt_of_lt_of_le (lt_of_heap hb) hB), fun b _ hb => h.block b (Nat.lt_of_lt_of_le (lt_of_heap hb) hB), fun b _ hb => h.block b (Nat.lt_of_lt_of_le (lt_of_heap hb) hB)⟩
theorem Keep3.trans {a b c : World} (h1 : Keep3 a b) (h2 : Keep3 b c) : Keep3 a c :=
  ⟨fun k cs hb => (h2.ints k cs ((h1.ints k cs hb).trans hb)).trans (h1.ints k cs hb), fun k cs hb => (h2.ops k cs ((h1.ops k cs hb).trans hb)).trans (h1.ops k cs hb), fun k cs hb => (h2.dots k cs ((h1.dots k cs hb).trans hb)).trans (h1.dots k cs hb)⟩
theorem Keep3.grown {w w' : World} {base n : Nat} {v : Value} {xs : List Value} (hr : w.ownsRow base 34 3 v n xs) (hg : w.grownBy w' v.ownBlock) : Keep3 w w' := by
  have hne : ∀ t : TypeId, t ≠ 34 → KeepT t w w' := fun t ht b cs hb => hg.block b (lt_of_heap hb) fun e => by
    obtain ⟨cs', h'⟩ := own_type hr e.symm; rw [hb] at h'; injection h' with h'; injection h' with _ h'; exact ht h'
  exact ⟨hne 3 (by decide), hne 76 (by decide), hne 87 (by decide)⟩
theorem OpT.kept {w w' : World} {r : List Value} {o : OpV} (h : OpT w r o) (hk : Keep3 w w') : OpT w' r o :=
  let ⟨dv, h1, h2⟩ := h; ⟨dv, h1, h2.kept hk.dots⟩
theorem OpsT.kept {w w' : World} {v : Value} {os : List OpV} (h : OpsT w v os) (hk : Keep3 w w') : OpsT w' v os :=
  let ⟨rows, h1, h2⟩ := h; ⟨rows, h1.kept hk.ops, f2_mono (fun _ _ h => h.kept hk) h2⟩
theorem ComT.kept {w w' : World} {r : List Value} {c : ComV} (h : ComT w r c) (hk : Keep3 w w') : ComT w' r c :=
  let ⟨wv, ov, h1, h2, h3⟩ := h; ⟨wv, ov, h1, RowT.kept h2 hk.ints, h3.kept hk⟩
theorem IntsT.at {w : World} {v : Value} {zs : List Int} (h : IntsT w v zs) : IntsAt w v zs := by
  obtain ⟨ad, cap, rfl, h1, h2, h3⟩ := RowT.at h; refine ⟨ad, cap, by rw [List.length_map], h1, ?_⟩; rcases h3 with hq | ⟨b, off, rfl, hq⟩
  · exact .inl (by simpa using hq)
  · refine .inr ⟨b, off, rfl, fun t ht => ?_⟩; have := (hq t [.int .i64 (zs.getD t 0)] (by rw [List.getElem?_map, List.getElem?_eq_getElem ht, List.getD_eq_getElem?_getD, List.getElem?_eq_getElem ht]; rfl)).2 0 _ rfl; rwa [Nat.mul_one, Nat.add_zero] at this
theorem OpsT.at {w : World} {v : Value} {os : List OpV} (h : OpsT w v os) : OpsAt w v os :=
  let ⟨rows, h1, h2⟩ := h; ⟨rows, h1.at, f2_mono (fun _ _ ⟨dv, h3, h4⟩ => ⟨dv, h3, h4.at⟩) h2⟩
theorem ComT.row {w : World} {r : List Value} {c : ComV} (h : ComT w r c) : ComRow w r c :=
  let ⟨wv, ov, h1, h2, h3⟩ := h; ⟨wv, ov, h1, h2.at, h3.at⟩
theorem ComT.len {w : World} {r : List Value} {c : ComV} (h : ComT w r c) : r.length = 3 := by
  obtain ⟨_, _, rfl, _⟩ := h; rfl
theorem f2_rows {R : List Value → ComV → Prop} (hR : ∀ r c, R r c → r.length = 3) : ∀ {rows : List (List Value)} {cs : List ComV}, F2 R rows cs → ∀ r ∈ rows, r.length = 3
  | [], [], _, r, hr => by simp at hr
  | _ :: _, _ :: _, ⟨h1, h2⟩, r, hr => by
    rcases List.mem_cons.1 hr with rfl | hr
    · exact hR _ _ h1
    · exact f2_rows hR h2 r hr
theorem coms_of_owns {w : World} {base n : Nat} {v : Value} {rows : List (List Value)} {l : List ComV} (h : w.ownsRow base 34 3 v n rows.flatten) (hn : n = l.length) (hf : F2 (ComT w) rows l) : ComsAt w v l :=
  ⟨rows, rowAt_of_owns h (by rw [hn, f2_len hf]) (f2_rows (fun _ _ h => h.len) hf), f2_mono (fun _ _ h => h.row) hf⟩
theorem flat1 (zs : List Int) : (zs.map fun z => [Value.int .i64 z]).flatten = zs.map (Value.int .i64) := by
  induction zs with
  | nil => rfl
  | cons z r ih => rw [List.map_cons, List.flatten_cons, ih]; rfl
theorem intsT_of_owns {w : World} {base : Nat} {v : Value} {zs : List Int} (h : w.ownsRow base 3 1 v zs.length (zs.map (Value.int .i64))) : IntsT w v zs := by
  refine rowT_of_owns (base := base) (n := zs.length) ?_ (by simp) (fun r hr => by obtain ⟨z, _, rfl⟩ := List.mem_map.1 hr; rfl); rw [flat1]; exact h
theorem dotsT_of_owns {w : World} {base : Nat} {v : Value} {ds : List D3} (h : w.ownsRow base 87 3 v ds.length (ds.flatMap D3.cells)) : RowT 87 3 w v (ds.map D3.cells) := by
  refine rowT_of_owns (base := base) (n := ds.length) ?_ (by simp) (fun r hr => by obtain ⟨z, _, rfl⟩ := List.mem_map.1 hr; rfl); rw [← List.flatMap_def]; exact h
theorem OwnInv.comT {w wr : World} {c : ComV} {wv ov wv' ov' : Value} {rows : List (List Value)} (h : OwnInv w c wv ov c.ops.length wv' ov' rows wr) : ComT wr [wv', .int .i64 c.place, ov'] c := by
  have hops := h.ops; rw [List.take_length] at hops; refine ⟨wv', ov', rfl, intsT_of_owns h.when_, rows, rowT_of_owns h.row (f2_len hops).symm ?_, f2_mono (fun r o ho => ?_) hops⟩
  · have : ∀ {rows : List (List Value)} {os : List OpV}, F2 (OpOwn (w.heap.size + 3) wr) rows os → ∀ r ∈ rows, r.length = 7 := by
      intro rows
      induction rows with
      | nil => intro _ _ r hr; simp at hr
      | cons x t ih =>
        intro cs hf r hr
        match cs, hf with
        | _ :: _, ⟨h1, h2⟩ =>
          rcases List.mem_cons.1 hr with rfl | hr
          · obtain ⟨_, rfl, _⟩ := h1; rfl
          · exact ih h2 r hr
    exact this hops
  · obtain ⟨dv, rfl, hd⟩ := ho; exact ⟨dv, rfl, dotsT_of_owns hd⟩
theorem keep3_setCells {w : World} {b : Nat} {cs : Array Value} {t : TypeId} (h : w.heap[b]? = some (.cells cs t (0, 0))) (h3 : t ≠ 3) (h24 : t ≠ 76) (h65 : t ≠ 87) (o : Nat) (vs : List Value) : Keep3 w (w.setCells b o vs) := by
  have hx : ∀ (vs : List Value) (o : Nat) (w : World) (i : Nat), i ≠ b → (w.setCells b o vs).heap[i]? = w.heap[i]? := by
    intro vs
    induction vs with
    | nil => intro o w i _; rfl
    | cons v r ih =>
      intro o w i hi; show ((w.setCell ⟨b, o, none⟩ v).setCells b (o + 1) r).heap[i]? = _; rw [ih (o + 1) _ i hi]; exact Below.heap_setCell _ _ _ _ hi
  have hne : ∀ t' : TypeId, t ≠ t' → KeepT t' w (w.setCells b o vs) := fun t' ht i cs' hi => hx vs o w i fun e => by
    rw [e, h] at hi; injection hi with hi; injection hi with _ hi; exact ht hi
  exact ⟨hne 3 h3, hne 76 h24, hne 87 h65⟩
end Go.Proofs.YtdnebclemngdcaaGreatDoor
