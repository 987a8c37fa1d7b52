/- Copies: appending a whole slice to none; where OwnCommit stands; Events as the law has them: what it asks of them; Contracts of Go's library at this program's numbers, by the kit's own layings. -/
import Derived.Test.YtngjooemanapnaaGreatDoorJVSetsI
import Derived.Test.YtngjooemanapnaaGreatDoorJVHeavy
import Derived.Test.YtngjooemanapnaaGreatDoorJVCmpD
import Derived.Test.YtngjooemanapnaaGreatDoorJVCheck
import Derived.Test.YtngjooemanapnaaGreatDoorJVOfRM
import Derived.Test.YtngjooemanapnaaGreatDoorJVCom
import Derived.Laws.AppendOwnNone
import Derived.Test.YtngjooemanapnaaGreatDoorProg
import Derived.Shelf.SlicesQ.IndexFunc
namespace Go.Proofs.YtngjooemanapnaaGreatDoor
open Go.RowKit Go.Sort Go.Maps
set_option maxRecDepth 100000
set_option linter.unusedSectionVars false
variable [Inhabited ComV] [DecidableEq D3] [Inhabited D3] [Inhabited Dd] [Inhabited Dn] [Inhabited OpV]

/-- The slice v reads, in w, as m elements: the cells news. -/
def SrcAt (w : World) (v : Value) (m size : Nat) (news : List Value) : Prop :=
  (v = .slice none 0 0 ∧ m = 0 ∧ news = []) ∨ ∃ ad c, v = .slice (some ad) m c ∧ news.length = m * size ∧ ∀ j u, news[j]? = some u → w.cell? (ad.add j) = some u
theorem src_ints {w : World} {v : Value} {zs : List Int} (h : IntsAt w v zs) : SrcAt w v zs.length 1 (zs.map (Value.int .i64)) := by
  obtain ⟨ad, c, rfl, h0, h⟩ := h
  cases ad with
  | none =>
    obtain rfl := h0 rfl
    rcases h with rfl | ⟨b, o, he, _⟩
    · exact .inl ⟨rfl, rfl, rfl⟩
    · cases he
  | some a =>
    refine .inr ⟨a, c, rfl, by simp, fun j u hj => ?_⟩
    rcases h with rfl | ⟨b, o, he, h⟩
    · simp at hj
    · obtain rfl := Option.some.inj he
      rw [List.getElem?_map] at hj
      cases hjj : zs[j]? with
      | none => rw [hjj] at hj; cases hj
      | some z =>
        rw [hjj] at hj
        obtain rfl := Option.some.inj hj
        have hlt : j < zs.length := (List.getElem?_eq_some_iff.1 hjj).1
        have := h j hlt
        rw [List.getD_eq_getElem?_getD, hjj] at this
        rw [Addr.add_lit]
        exact this
theorem src_dots {w : World} {v : Value} {ds : List D3} (h : DotsAt w v ds) : SrcAt w v ds.length 3 (ds.flatMap D3.cells) := by
  obtain ⟨ad, c, rfl, h0, _, h⟩ := h
  rw [List.length_map]
  cases ad with
  | none =>
    obtain rfl := h0 rfl
    rcases h with h | ⟨b, o, he, _⟩
    · obtain rfl : ds = [] := by simpa using h
      exact .inl ⟨rfl, rfl, rfl⟩
    · cases he
  | some a =>
    have hlen : ∀ ds : List D3, (ds.flatMap D3.cells).length = ds.length * 3 := by
      intro ds
      induction ds with
      | nil => rfl
      | cons x r ih => rw [List.flatMap_cons, List.length_append, ih, List.length_cons]; show 3 + _ = _; omega
    refine .inr ⟨a, c, rfl, hlen ds, fun j u hj => ?_⟩
    rcases h with h | ⟨b, o, he, h⟩
    · obtain rfl : ds = [] := by simpa using h
      simp at hj
    · obtain rfl := Option.some.inj he
      have hjl : j < ds.length * 3 := by have := (List.getElem?_eq_some_iff.1 hj).1; rw [hlen] at this; exact this
      have hq : j / 3 < ds.length := by omega
      have hr : j % 3 < 3 := by omega
      have e := flat3_get ds (j / 3) (j % 3) hq hr
      rw [show j / 3 * 3 + j % 3 = j by omega, hj] at e
      have hrow : (ds.map D3.cells)[j / 3]? = some (ds[j / 3]!.cells) := by rw [List.getElem?_map, List.getElem?_eq_getElem hq, getElem!_pos ds _ hq]; rfl
      have hl3 : ds[j / 3]!.cells.length = 3 := rfl
      have := (h (j / 3) _ hrow).2 (j % 3) u (by
        rw [List.getElem?_eq_getElem (by rw [hl3]; exact hr)]
        rw [getElem!_pos _ _ (by rw [hl3]; exact hr)] at e
        exact e.symm)
      rw [Addr.add_lit, ← this]
      congr 2
      omega
theorem SrcAt.moved {w w' : World} {v : Value} {m size : Nat} {news : List Value} (h : SrcAt w v m size news) (hk : ∀ a u, w.cell? a = some u → w'.cell? a = some u) : SrcAt w' v m size news := by
  rcases h with h | ⟨ad, c, h1, h2, h3⟩
  · exact .inl h
  · exact .inr ⟨ad, c, h1, h2, fun j u hj => hk _ _ (h3 j u hj)⟩
/-- append(nil, x...): a row of the call's own. -/
theorem wpList_append_src {w : World} {ops : Array Oper} {rest : List Oper} {o : Oper} {a : Act} {Q : Exit → Act → World → Prop} (hgd : o.guard = none) (s x : Operand) (t : TypeId)
    (ho : o.op = .call { callee := .builtin .append, args := #[s, x], argTypes := #[t, t] })
    (base : Nat) (e : TypeId) (i : TypeInfo) (z : Value) (size bytes : Nat) (ht : Tryz.prog.underlying t = some (.slice e)) (hi : Tryz.prog.info? e = some i) (hz : i.zero = some z)
    (hsize : i.size = size) (hby : i.bytes = bytes) (hzs : z.cells.size = size) (hsz : 0 < size)
    (hs : a.eval s = .slice none 0 0) (v : Value) (m : Nat) (news : List Value) (hx : a.eval x = v) (hv : SrcAt w v m size news) (h1 : ∀ u ∈ news, u.oneCell' = true)
    (h63 : m ≤ maxLen) (hbytes : m * bytes ≤ 140737488355328) (hbase : base ≤ w.heap.size)
    (h : ∀ v' w', w'.ownsRow base e size v' m news → w.grownBy w' none → wpList Tryz.prog ops Q rest (a.put o.dst v') w') : wpList Tryz.prog ops Q (o :: rest) a w := by
  rcases hv with ⟨rfl, rfl, rfl⟩ | ⟨ad, c, rfl, hl, hn⟩
  · exact wpList_append_own_none hgd s x t ho base e i size ht hi _ 0 [] hs (World.ownsRow_nil _ _ _ _) hx (h _ _ (World.ownsRow_nil _ _ _ _) ⟨rfl, rfl, rfl, Nat.le_refl _, fun _ _ _ => rfl⟩)
  · refine wpList_append_own w hgd s x t ho base e i z size bytes ht hi hz hsize hby hzs hsz _ 0 [] hs (World.ownsRow_nil _ _ _ _) ad m c news hx hl hn h1 (by omega) (by rw [Nat.zero_add]; exact hbytes) hbase fun v' w' h2 h3 _ => ?_
    rw [Nat.zero_add, List.nil_append] at h2
    exact h v' w' h2 h3
/-- An op that is copied: its dots in a row of their own. -/
def OpOwn (base : Nat) (w : World) (r : List Value) (o : OpV) : Prop := ∃ dv, r = opCells o dv ∧ w.ownsRow base 132 3 dv o.dots.length (o.dots.flatMap D3.cells)
/-- k ops are copied. -/
structure OwnInv (w : World) (c : ComV) (wv ov : Value) (k : Nat) (wv' ov' : Value) (rows : List (List Value)) (wr : World) : Prop where
  below : Below w.heap.size w wr
  size : w.heap.size + 3 ≤ wr.heap.size
  box : wr.heap[w.heap.size]? = some (.cells #[wv, .int .i64 c.place, ov] 41 (0, 0))
  res : wr.heap[w.heap.size + 1]? = some (.cells #[.slice none 0 0, .int .i64 0, .slice none 0 0] 41 (0, 0))
  out : wr.heap[w.heap.size + 2]? = some (.cells #[wv', .int .i64 c.place, ov'] 41 (0, 0))
  when_ : wr.ownsRow (w.heap.size + 3) 3 1 wv' c.when_.length (c.when_.map (Value.int .i64))
  row : wr.ownsRow (w.heap.size + 3) 80 7 ov' k rows.flatten
  ops : F2 (OpOwn (w.heap.size + 3) wr) rows (c.ops.take k)
theorem OpOwn.kept {base : Nat} {w w' : World} {r : List Value} {o : OpV} (h : OpOwn base w r o) (hb : ∀ (b : Nat) (cs : Array Value), w.heap[b]? = some (.cells cs 132 (0, 0)) → w'.heap[b]? = w.heap[b]?) : OpOwn base w' r o :=
  let ⟨dv, h1, h2⟩ := h; ⟨dv, h1, owns_below h2 hb⟩
theorem OwnInv.moved {w wr w' : World} {c : ComV} {wv ov wv' ov' : Value} {k : Nat} {rows : List (List Value)} (h : OwnInv w c wv ov k wv' ov' rows wr) (hb : Below wr.heap.size wr w') : OwnInv w c wv ov k wv' ov' rows w' where
  below := h.below.trans (hb.mono (by have := h.size; omega))
  size := Nat.le_trans h.size hb.size
  box := by rw [hb.block _ (by have := h.size; omega)]; exact h.box
  res := by rw [hb.block _ (by have := h.size; omega)]; exact h.res
  out := by rw [hb.block _ (by have := h.size; omega)]; exact h.out
  when_ := owns_below h.when_ fun b cs hc => hb.block b (lt_of_heap hc)
  row := owns_below h.row fun b cs hc => hb.block b (lt_of_heap hc)
  ops := f2_mono (fun _ _ h => h.kept fun b cs hc => hb.block b (lt_of_heap hc)) h.ops
theorem OwnInv.start {w w4 : World} {c : ComV} {wv ov wv' : Value} (hg : (((w.alloc (.cells #[wv, .int .i64 c.place, ov] 41)).alloc (.cells #[.slice none 0 0, .int .i64 0, .slice none 0 0] 41)).alloc (.cells #[.slice none 0 0, .int .i64 c.place, .slice none 0 0] 41)).grownBy w4 none)
    (hr : w4.ownsRow (w.heap.size + 3) 3 1 wv' c.when_.length (c.when_.map (Value.int .i64))) : OwnInv w c wv ov 0 wv' (.slice none 0 0) [] (w4.setCell ⟨w.heap.size + 2, 0, none⟩ wv') := by
  have hsz : (((w.alloc (.cells #[wv, .int .i64 c.place, ov] 41)).alloc (.cells #[.slice none 0 0, .int .i64 0, .slice none 0 0] 41)).alloc (.cells #[.slice none 0 0, .int .i64 c.place, .slice none 0 0] 41)).heap.size = w.heap.size + 3 := by simp
  have hb := fun i (hi : i < w.heap.size + 3) => hg.block i (by rw [hsz]; exact hi) (by simp)
  have hs : ∀ i : Nat, i ≠ w.heap.size + 2 → (w4.setCell ⟨w.heap.size + 2, 0, none⟩ wv').heap[i]? = w4.heap[i]? := fun i hi => Below.heap_setCell _ _ _ _ hi
  have h2 : w4.heap[w.heap.size + 2]? = some (.cells #[.slice none 0 0, .int .i64 c.place, .slice none 0 0] 41 (0, 0)) := by
    rw [hb _ (by omega), show w.heap.size + 2 = ((w.alloc (.cells #[wv, .int .i64 c.place, ov] 41)).alloc (.cells #[.slice none 0 0, .int .i64 0, .slice none 0 0] 41)).heap.size by simp]
    exact (MapKept.heap_alloc _ _).1
  refine ⟨⟨hg.os, hg.tape, hg.output, ?_, fun i hi => ?_⟩, ?_, ?_, ?_, ?_, ?_, World.ownsRow_nil _ _ _ _, trivial⟩
  · have := hg.size
    rw [hsz] at this
    simp [World.setCell]
    omega
  · rw [hs i (by omega), hb i (by omega), (MapKept.heap_alloc _ _).2 _ (by simp; omega), (MapKept.heap_alloc _ _).2 _ (by simp; omega), (MapKept.heap_alloc _ _).2 _ hi]
  · have := hg.size
    rw [hsz] at this
    simp [World.setCell]
    omega
  · rw [hs _ (by omega), hb _ (by omega), (MapKept.heap_alloc _ _).2 _ (by simp; omega), (MapKept.heap_alloc _ _).2 _ (by simp)]
    exact (MapKept.heap_alloc _ _).1
  · rw [hs _ (by omega), hb _ (by omega), (MapKept.heap_alloc _ _).2 _ (by simp)]
    rw [show w.heap.size + 1 = (w.alloc (.cells #[wv, .int .i64 c.place, ov] 41)).heap.size by simp]
    exact (MapKept.heap_alloc _ _).1
  · rw [heap_set h2]
    rfl
  · exact ownsRow_setCell_below hr (Nat.lt_succ_self _) _
theorem OwnInv.op {w wr w1 : World} {c : ComV} {wv ov wv' ov' ov2 dv : Value} {k : Nat} {rows : List (List Value)} {o : OpV} (h : OwnInv w c wv ov k wv' ov' rows wr) (hg : wr.grownBy w1 ov'.ownBlock) (hr : w1.ownsRow (w.heap.size + 3) 80 7 ov2 (k + 1) (rows.flatten ++ opCells o dv))
    (hd : wr.ownsRow (w.heap.size + 3) 132 3 dv o.dots.length (o.dots.flatMap D3.cells)) (ho : c.ops.take (k + 1) = c.ops.take k ++ [o]) : OwnInv w c wv ov (k + 1) wv' ov2 (rows ++ [opCells o dv]) (w1.setCell ⟨w.heap.size + 2, 2, none⟩ ov2) := by
  have hne : ∀ (b : Nat) (cs : Array Value) (t : TypeId), t ≠ 80 → wr.heap[b]? = some (.cells cs t (0, 0)) → w1.heap[b]? = wr.heap[b]? := fun b cs t ht hb => hg.block b (lt_of_heap hb) fun e => by
    obtain ⟨cs', h'⟩ := own_type h.row e.symm
    rw [hb] at h'
    injection h' with h'
    injection h' with _ h'
    exact ht h'
  have hs : ∀ i : Nat, i ≠ w.heap.size + 2 → (w1.setCell ⟨w.heap.size + 2, 2, none⟩ ov2).heap[i]? = w1.heap[i]? := fun i hi => Below.heap_setCell _ _ _ _ hi
  have hb1 : Below w.heap.size w w1 := h.below.trans ⟨hg.os, hg.tape, hg.output, hg.size, fun i hi => hg.block i (by have := h.size; omega) fun e => by have := (h.row.lt i e.symm).1; omega⟩
  have h2 : w1.heap[w.heap.size + 2]? = some (.cells #[wv', .int .i64 c.place, ov'] 41 (0, 0)) := by rw [hne _ _ 41 (by decide) h.out]; exact h.out
  have lo : ∀ {e size n : Nat} {v : Value} {xs : List Value}, w1.ownsRow (w.heap.size + 3) e size v n xs → (w1.setCell ⟨w.heap.size + 2, 2, none⟩ ov2).ownsRow (w.heap.size + 3) e size v n xs := fun h => ownsRow_setCell_below h (Nat.lt_succ_self _) _
  refine ⟨hb1.setCell (by show _ ≤ w.heap.size + 2; omega) _, by have := h.size; have := hg.size; simp [World.setCell]; omega, ?_, ?_, ?_, ?_, ?_, ?_⟩
  · rw [hs _ (by omega), hne _ _ 41 (by decide) h.box]; exact h.box
  · rw [hs _ (by omega), hne _ _ 41 (by decide) h.res]; exact h.res
  · rw [heap_set h2]
    rfl
  · exact lo (owns_below h.when_ fun b cs hb => hne b cs 3 (by decide) hb)
  · simpa using lo hr
  · rw [ho]
    refine f2_append (f2_mono (fun _ _ h => ?_) h.ops) ⟨dv, rfl, lo (owns_below hd fun b cs hb => hne b cs 132 (by decide) hb)⟩
    obtain ⟨dv, h1, h2⟩ := h
    exact ⟨dv, h1, lo (owns_below h2 fun b cs hb => hne b cs 132 (by decide) hb)⟩
theorem ints_of_row {w : World} {base : Nat} {v : Value} {zs : List Int} (h : w.ownsRow base 3 1 v zs.length (zs.map (Value.int .i64))) : IntsAt w v zs := by
  obtain ⟨_, h2⟩ := h
  rcases h2 with ⟨rfl, h0⟩ | ⟨g, cap, cur, rfl, hb, hh, hn, hm, hs, ht⟩
  · exact ⟨none, 0, by rw [h0], (fun _ => rfl), .inl (List.eq_nil_of_length_eq_zero h0)⟩
  · refine ⟨_, cap, rfl, (fun h => by cases h), .inr ⟨g, 0, rfl, fun t htt => ?_⟩⟩
    have e : cur[t]? = some (.int .i64 (zs.getD t 0)) := by
      have h1 : (cur.toList.take (zs.length * 1))[t]? = (zs.map (Value.int .i64))[t]? := by rw [ht]
      rw [List.getElem?_take, if_pos (by omega), Array.getElem?_toList] at h1
      rw [h1, List.getElem?_map, List.getElem?_eq_getElem htt, List.getD_eq_getElem?_getD, List.getElem?_eq_getElem htt]
      rfl
    simp only [World.cell?, hh, Nat.zero_add]
    exact e
/-- All are copied. -/
theorem OwnInv.all {w wr : World} {c : ComV} {wv ov wv' ov' : Value} {rows : List (List Value)} (h : OwnInv w c wv ov c.ops.length wv' ov' rows wr) : IntsAt wr wv' c.when_ ∧ OpsAt wr ov' c.ops := by
  have hops := h.ops
  rw [List.take_length] at hops
  refine ⟨ints_of_row h.when_, rows, rowAt_of_owns h.row (f2_len hops).symm ?_, f2_mono (fun r o ho => ?_) hops⟩
  · have : ∀ {rows : List (List Value)} {os : List OpV}, F2 (OpOwn (w.heap.size + 3) wr) rows os → ∀ r ∈ rows, r.length = 7 := by
      intro rows
      induction rows with
      | nil => intro _ _ r hr; simp at hr
      | cons x t ih =>
        intro cs hf r hr
        match cs, hf with
        | _ :: _, ⟨h1, h2⟩ =>
          rcases List.mem_cons.1 hr with rfl | hr
          · obtain ⟨_, rfl, _⟩ := h1
            rfl
          · exact ih h2 r hr
    exact this hops
  · obtain ⟨dv, rfl, hd⟩ := ho
    exact ⟨dv, rfl, dots_of_owns hd rfl⟩
end Go.Proofs.YtngjooemanapnaaGreatDoor
namespace Go.Proofs.YtngjooemanapnaaGreatDoor
open Go.RowKit Go.Sort Go.Maps
set_option maxRecDepth 100000
set_option linter.unusedSectionVars false
variable [Inhabited ComV] [DecidableEq D3] [Inhabited D3] [Inhabited Dd] [Inhabited Dn] [Inhabited OpV]

/-- An event that the law lets by. -/
structure EvLight (e : EvV) : Prop where
  at_ : e.at_.length ≤ 20
  reads : e.reads.length ≤ 20
  sets : ∀ r ∈ e.reads, r.v.set.length ≤ 20
  when_ : e.c.when_.length ≤ 20
  ops : e.c.ops.length ≤ 20
  dots : ∀ o ∈ e.c.ops, o.dots.length ≤ 70
/-- What was read, as it came in. -/
def SnRowN (w : World) (cs : List Value) (r : SnV) : Prop := ∃ sv, cs = [.string r.key, .int .i64 r.v.kind, .string r.v.text, .int .i64 r.v.n, sv] ∧ SrcAt w sv r.v.set.length 1 (r.v.set.map encStr) ∧ StrsX w sv r.v.set
def SnsAtN (w : World) (v : Value) (rs : List SnV) : Prop := ∃ rows, RowAt 5 w v rows ∧ F2 (SnRowN w) rows rs
def EvRowN (w : World) (cs : List Value) (e : EvV) : Prop := ∃ av rv wv ov, cs = evCells e av rv wv ov ∧ EvAt w e av wv ov ∧ SnsAtN w rv e.reads
def EvsAtN (w : World) (v : Value) (l : List EvV) : Prop := ∃ rows, RowAt 7 w v rows ∧ F2 (EvRowN w) rows l
theorem SnsAtN.at {w : World} {v : Value} {rs : List SnV} (h : SnsAtN w v rs) : SnsAt w v rs := let ⟨rows, h1, h2⟩ := h; ⟨rows, h1, f2_mono (fun _ _ ⟨sv, x1, _, x3⟩ => ⟨sv, x1, x3⟩) h2⟩
theorem EvsAtN.at {w : World} {v : Value} {l : List EvV} (h : EvsAtN w v l) : EvsAt w v l := let ⟨rows, h1, h2⟩ := h; ⟨rows, h1, f2_mono (fun _ _ ⟨a, r, c, o, x1, x2, x3⟩ => ⟨a, r, c, o, x1, x2, x3.at⟩) h2⟩
theorem EvsAtN.shape {w : World} {v : Value} {l : List EvV} (h : EvsAtN w v l) : ∃ ad cap, v = .slice ad l.length cap ∧ (ad = none → cap = 0) ∧ l.length ≤ cap ∧
    (l = [] ∨ ∃ b off, ad = some ⟨b, off, none⟩ ∧ ∀ j, j < l.length → ∃ av rv wv ov, EvAt w (l.getD j ev0) av wv ov ∧ SnsAtN w rv (l.getD j ev0).reads ∧ ∀ i u, (evCells (l.getD j ev0) av rv wv ov)[i]? = some u → w.cell? ⟨b, off + j * 7 + i, none⟩ = some u) := by
  obtain ⟨rows, ⟨ad, cap, rfl, h1, h2, h3⟩, hf⟩ := h
  have hl := f2_len hf
  refine ⟨ad, cap, by rw [hl], h1, by omega, ?_⟩
  rcases h3 with rfl | ⟨b, off, rfl, h3⟩
  · exact .inl (List.eq_nil_of_length_eq_zero hl.symm)
  · refine .inr ⟨b, off, rfl, fun j hj => ?_⟩
    obtain ⟨r, hr, av, rv, wv, ov, rfl, hd, he⟩ := f2_get hf j (l.getD j ev0) (by rw [List.getD_eq_getElem?_getD, List.getElem?_eq_getElem hj]; rfl)
    exact ⟨av, rv, wv, ov, hd, he, (h3 j _ hr).2⟩
theorem SnsAtN.get {w : World} {v : Value} {rs : List SnV} (h : SnsAtN w v rs) {k : Nat} (hk : k < rs.length) : ∃ b off c sv, v = .slice (some ⟨b, off, none⟩) rs.length c ∧ SrcAt w sv rs[k].v.set.length 1 (rs[k].v.set.map encStr) ∧ (∃ sa sc, sv = .slice sa rs[k].v.set.length sc) ∧ ∀ j u, [.string rs[k].key, .int .i64 rs[k].v.kind, .string rs[k].v.text, .int .i64 rs[k].v.n, sv][j]? = some u → w.cell? ⟨b, off + k * 5 + j, none⟩ = some u := by
  obtain ⟨rows, ⟨ad, cap, rfl, h1, h2, h3⟩, hf⟩ := h
  have hl := f2_len hf
  rcases h3 with rfl | ⟨b, off, rfl, h3⟩
  · simp at hl; omega
  · obtain ⟨r, hr, sv, rfl, hd, he⟩ := f2_get hf k rs[k] (List.getElem?_eq_getElem hk)
    obtain ⟨sa, sc, hs, _⟩ := he
    exact ⟨b, off, cap, sv, by rw [hl], hd, ⟨sa, sc, hs⟩, (h3 k _ hr).2⟩
end Go.Proofs.YtngjooemanapnaaGreatDoor
namespace Go.Proofs
open Go.Shelf
def Tryz.idxCm_ren : Go.Shelf.Ren := ⟨fun | 6 => 72 | n => n, fun | 22 => 96 | 23 => 41 | 25 => 100 | 4 => 4 | 3 => 3 | 0 => 0 | n => n, fun | n => n⟩
theorem Tryz.idxCm : Go.Proofs.SlLaysH0.n6 Tryz.prog Tryz.idxCm_ren := {
  mixed := by kernel_rfl
  f6 := ⟨Tryz.f72.name, by decide, Tryz.func72.trans (congrArg some (by kernel_rfl))⟩
  t0 := Tryz.underlying0
  a0 := Tryz.isAgg0
  z0 := Tryz.sizeOf0
  v0 := Tryz.zeroValue0
  t3 := Tryz.underlying3
  a3 := Tryz.isAgg3
  z3 := Tryz.sizeOf3
  v3 := Tryz.zeroValue3
  t4 := Tryz.underlying4
  a4 := Tryz.isAgg4
  z4 := Tryz.sizeOf4
  v4 := Tryz.zeroValue4
  t22 := Tryz.underlying96
  a22 := Tryz.isAgg96
  z22 := Tryz.sizeOf96
  v22 := Tryz.zeroValue96
  t25 := Tryz.underlying100
  a25 := Tryz.isAgg100
  z25 := Tryz.sizeOf100
  v25 := Tryz.zeroValue100 }
def Tryz.hasSn_ren : Go.Shelf.Ren := ⟨fun | 8 => 51 | 6 => 73 | n => n, fun | 22 => 67 | 23 => 70 | 25 => 103 | 4 => 4 | 3 => 3 | 0 => 0 | n => n, fun | n => n⟩
theorem Tryz.hasSn : Go.Proofs.SlLaysH0.n8 Tryz.prog Tryz.hasSn_ren := {
  mixed := by kernel_rfl
  f6 := ⟨Tryz.f73.name, by decide, Tryz.func73.trans (congrArg some (by kernel_rfl))⟩
  f8 := ⟨Tryz.f51.name, by decide, Tryz.func51.trans (congrArg some (by kernel_rfl))⟩
  t0 := Tryz.underlying0
  a0 := Tryz.isAgg0
  z0 := Tryz.sizeOf0
  v0 := Tryz.zeroValue0
  t3 := Tryz.underlying3
  a3 := Tryz.isAgg3
  z3 := Tryz.sizeOf3
  v3 := Tryz.zeroValue3
  t4 := Tryz.underlying4
  a4 := Tryz.isAgg4
  z4 := Tryz.sizeOf4
  v4 := Tryz.zeroValue4
  t22 := Tryz.underlying67
  a22 := Tryz.isAgg67
  z22 := Tryz.sizeOf67
  v22 := Tryz.zeroValue67
  t25 := Tryz.underlying103
  a25 := Tryz.isAgg103
  z25 := Tryz.sizeOf103
  v25 := Tryz.zeroValue103 }
end Go.Proofs
