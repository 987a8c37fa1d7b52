/- Ops, commits and messages in memory, and in rows of one's own; A message's nine cells, whatever it holds; rows of them; The receiver with any messages: its box and its map; NewReceiver, Seq, Time, bears, knows. -/
import Derived.Test.YtcojglkjbbgoaaaDoorJSCom
import Derived.Laws.IdiomCopy
import Derived.Laws.ResultCell
namespace Go.Proofs.YtcojglkjbbgoaaaDoor
open Go.RowKit
set_option maxRecDepth 100000

theorem IntsAt.mono {w w' : World} {v : Value} {zs : List Int} {B : Nat} (h : IntsAt w v zs) (hb : Below B w w') (hB : w.heap.size ≤ B) : IntsAt w' v zs := by
  obtain ⟨ad, cap, rfl, hn, h⟩ := h
  refine ⟨ad, cap, rfl, hn, ?_⟩
  rcases h with h | ⟨b, off, rfl, h⟩
  · exact .inl h
  · exact .inr ⟨b, off, rfl, fun t ht => by rw [hb.cell (p := ⟨b, off + t, none⟩) (by have := lt_of_cell (h t ht); simp only at this ⊢; omega)]; exact h t ht⟩
/-- A dot. -/
structure D3 where
  p : Int
  t : Int
  a : Int
def D3.cells (d : D3) : List Value := [.int .i64 d.p, .int .i64 d.t, .int .i64 d.a]
/-- An op. -/
structure OpV where
  at_ : Int
  key : ByteArray
  kind : Int
  text : ByteArray
  n : Int
  rem : Bool
  dots : List D3
/-- A commit. -/
structure ComV where
  when_ : List Int
  place : Int
  ops : List OpV
/-- The slice v reads, in the world w, as rows of k cells. -/
def RowAt (k : Nat) (w : World) (v : Value) (rows : List (List Value)) : Prop :=
  ∃ ad cap, v = .slice ad rows.length cap ∧ (ad = none → cap = 0) ∧ rows.length ≤ cap ∧ (rows = [] ∨ ∃ b off, ad = some ⟨b, off, none⟩ ∧ ∀ j r, rows[j]? = some r → r.length = k ∧ ∀ i u, r[i]? = some u → w.cell? ⟨b, off + j * k + i, none⟩ = some u)
theorem RowAt.mono {k : Nat} {w w' : World} {v : Value} {rows : List (List Value)} {B : Nat} (h : RowAt k w v rows) (hb : Below B w w') (hB : w.heap.size ≤ B) : RowAt k w' v rows := by
  obtain ⟨ad, cap, rfl, hn, hc, h⟩ := h
  refine ⟨ad, cap, rfl, hn, hc, ?_⟩
  rcases h with h | ⟨b, off, rfl, h⟩
  · exact .inl h
  · exact .inr ⟨b, off, rfl, fun j r hr => ⟨(h j r hr).1, fun i u hu => by
      have := (h j r hr).2 i u hu
      rw [hb.cell (p := ⟨b, off + j * k + i, none⟩) (by have := lt_of_cell this; simp only at this ⊢; omega)]; exact this⟩⟩
def DotsAt (w : World) (v : Value) (ds : List D3) : Prop := RowAt 3 w v (ds.map D3.cells)
theorem DotsAt.mono {w w' : World} {v : Value} {ds : List D3} {B : Nat} (h : DotsAt w v ds) (hb : Below B w w') (hB : w.heap.size ≤ B) : DotsAt w' v ds := RowAt.mono h hb hB
theorem DotsAt.len {w : World} {v : Value} {ds : List D3} (h : DotsAt w v ds) : ∃ ad cap, v = .slice ad ds.length cap := by
  obtain ⟨ad, cap, rfl, _⟩ := h
  exact ⟨ad, cap, by simp⟩
/-- Two lists go along with one another. -/
def F2 {α β : Type} (R : α → β → Prop) : List α → List β → Prop
  | [], [] => True
  | a :: l, b :: m => R a b ∧ F2 R l m
  | _, _ => False
theorem f2_mono {α β : Type} {R S : α → β → Prop} (h : ∀ a b, R a b → S a b) : ∀ {l : List α} {m : List β}, F2 R l m → F2 S l m
  | [], [], _ => trivial
  | _ :: _, _ :: _, ⟨h1, h2⟩ => ⟨h _ _ h1, f2_mono h h2⟩
theorem f2_len {α β : Type} {R : α → β → Prop} : ∀ {l : List α} {m : List β}, F2 R l m → l.length = m.length
  | [], [], _ => rfl
  | _ :: _, _ :: _, ⟨_, h2⟩ => by simp [f2_len h2]
theorem f2_get {α β : Type} {R : α → β → Prop} : ∀ {l : List α} {m : List β}, F2 R l m → ∀ (j : Nat) (y : β), m[j]? = some y → ∃ x, l[j]? = some x ∧ R x y
  | [], [], _, _, _, h => by simp at h
  | _ :: _, _ :: _, ⟨h1, h2⟩, j, y, h => by
    cases j with
    | zero => simp at h; subst h; exact ⟨_, rfl, h1⟩
    | succ j => exact f2_get h2 j y (by simpa using h)
def opCells (o : OpV) (dv : Value) : List Value := [.int .i64 o.at_, .string o.key, .int .i64 o.kind, .string o.text, .int .i64 o.n, .bool o.rem, dv]
def OpRow (w : World) (cs : List Value) (o : OpV) : Prop := ∃ dv, cs = opCells o dv ∧ DotsAt w dv o.dots
def OpsAt (w : World) (v : Value) (os : List OpV) : Prop := ∃ rows, RowAt 7 w v rows ∧ F2 (OpRow w) rows os
def ComRow (w : World) (cs : List Value) (c : ComV) : Prop := ∃ wv ov, cs = [wv, .int .i64 c.place, ov] ∧ IntsAt w wv c.when_ ∧ OpsAt w ov c.ops
def ComsAt (w : World) (v : Value) (l : List ComV) : Prop := ∃ rows, RowAt 3 w v rows ∧ F2 (ComRow w) rows l
theorem OpRow.mono {w w' : World} {cs : List Value} {o : OpV} {B : Nat} (h : OpRow w cs o) (hb : Below B w w') (hB : w.heap.size ≤ B) : OpRow w' cs o :=
  let ⟨dv, h1, h2⟩ := h; ⟨dv, h1, h2.mono hb hB⟩
theorem OpsAt.mono {w w' : World} {v : Value} {os : List OpV} {B : Nat} (h : OpsAt w v os) (hb : Below B w w') (hB : w.heap.size ≤ B) : OpsAt w' v os :=
  let ⟨r, h1, h2⟩ := h; ⟨r, h1.mono hb hB, f2_mono (fun _ _ h => h.mono hb hB) h2⟩
theorem ComRow.mono {w w' : World} {cs : List Value} {c : ComV} {B : Nat} (h : ComRow w cs c) (hb : Below B w w') (hB : w.heap.size ≤ B) : ComRow w' cs c :=
  let ⟨a, b, h1, h2, h3⟩ := h; ⟨a, b, h1, h2.mono hb hB, h3.mono hb hB⟩
theorem ComsAt.mono {w w' : World} {v : Value} {l : List ComV} {B : Nat} (h : ComsAt w v l) (hb : Below B w w') (hB : w.heap.size ≤ B) : ComsAt w' v l :=
  let ⟨r, h1, h2⟩ := h; ⟨r, h1.mono hb hB, f2_mono (fun _ _ h => h.mono hb hB) h2⟩
/-- The shape of a slice of ops, and its op j. -/
theorem OpsAt.shape {w : World} {v : Value} {os : List OpV} (h : OpsAt w v os) : ∃ ad cap, v = .slice ad os.length cap ∧ (ad = none → cap = 0) ∧ os.length ≤ cap ∧
    (os = [] ∨ ∃ b off, ad = some ⟨b, off, none⟩ ∧ ∀ j o, os[j]? = some o → ∃ dp dc, DotsAt w (.slice dp o.dots.length dc) o.dots ∧
      w.cell? ⟨b, off + j * 7, none⟩ = some (.int .i64 o.at_) ∧ w.cell? ⟨b, off + j * 7 + 1, none⟩ = some (.string o.key) ∧ w.cell? ⟨b, off + j * 7 + 2, none⟩ = some (.int .i64 o.kind) ∧ w.cell? ⟨b, off + j * 7 + 3, none⟩ = some (.string o.text) ∧
      w.cell? ⟨b, off + j * 7 + 4, none⟩ = some (.int .i64 o.n) ∧ w.cell? ⟨b, off + j * 7 + 5, none⟩ = some (.bool o.rem) ∧ w.cell? ⟨b, off + j * 7 + 6, none⟩ = some (.slice dp o.dots.length dc)) := by
  obtain ⟨rows, ⟨ad, cap, rfl, h1, h2, h3⟩, hf⟩ := h
  have hl := f2_len hf
  refine ⟨ad, cap, by rw [hl], h1, by omega, ?_⟩
  rcases h3 with rfl | ⟨b, off, rfl, h3⟩
  · exact .inl (List.eq_nil_of_length_eq_zero hl.symm)
  · refine .inr ⟨b, off, rfl, fun j o hj => ?_⟩
    obtain ⟨r, hr, dv, rfl, hd⟩ := f2_get hf j o hj
    obtain ⟨dp, dc, rfl⟩ := hd.len
    have hc := (h3 j _ hr).2
    exact ⟨dp, dc, hd, hc 0 _ rfl, hc 1 _ rfl, hc 2 _ rfl, hc 3 _ rfl, hc 4 _ rfl, hc 5 _ rfl, hc 6 _ rfl⟩
theorem ComsAt.shape {w : World} {v : Value} {l : List ComV} (h : ComsAt w v l) : ∃ ad cap, v = .slice ad l.length cap ∧ (ad = none → cap = 0) ∧ l.length ≤ cap ∧
    (l = [] ∨ ∃ b off, ad = some ⟨b, off, none⟩ ∧ ∀ j c, l[j]? = some c → ∃ wv ov, IntsAt w wv c.when_ ∧ OpsAt w ov c.ops ∧
      w.cell? ⟨b, off + j * 3, none⟩ = some wv ∧ w.cell? ⟨b, off + j * 3 + 1, none⟩ = some (.int .i64 c.place) ∧ w.cell? ⟨b, off + j * 3 + 2, none⟩ = some ov) := by
  obtain ⟨rows, ⟨ad, cap, rfl, h1, h2, h3⟩, hf⟩ := h
  have hl := f2_len hf
  refine ⟨ad, cap, by rw [hl], h1, by omega, ?_⟩
  rcases h3 with rfl | ⟨b, off, rfl, h3⟩
  · exact .inl (List.eq_nil_of_length_eq_zero hl.symm)
  · refine .inr ⟨b, off, rfl, fun j c hj => ?_⟩
    obtain ⟨r, hr, wv, ov, rfl, hw, ho⟩ := f2_get hf j c hj
    have hc := (h3 j _ hr).2
    exact ⟨wv, ov, hw, ho, hc 0 _ rfl, hc 1 _ rfl, hc 2 _ rfl⟩
/-- A message. -/
structure MsgV where
  frm : Int
  to_ : Int
  shard : Int
  seq : Int
  time : Int
  beat : Bool
  c : ComV
theorem f2_append {α β : Type} {R : α → β → Prop} : ∀ {l : List α} {m : List β} {a : α} {b : β}, F2 R l m → R a b → F2 R (l ++ [a]) (m ++ [b])
  | [], [], _, _, _, h => ⟨h, trivial⟩
  | _ :: _, _ :: _, _, _, ⟨h1, h2⟩, h => ⟨h1, f2_append h2 h⟩
theorem rowAt_of_owns {w : World} {base e k : Nat} {v : Value} {n : Nat} {rows : List (List Value)} (h : w.ownsRow base e k v n rows.flatten) (hn : n = rows.length) (hk : ∀ r ∈ rows, r.length = k) : RowAt k w v rows := by
  subst hn
  obtain ⟨_, h2⟩ := h
  rcases h2 with ⟨rfl, h0⟩ | ⟨g, cap, cur, rfl, _, hh, hc, _, hs, ht⟩
  · obtain rfl := List.eq_nil_of_length_eq_zero h0
    exact ⟨_, _, rfl, fun _ => rfl, Nat.le_refl _, .inl rfl⟩
  · refine ⟨_, cap, rfl, (fun h => by cases h), hc, .inr ⟨g, 0, rfl, fun j r hr => ?_⟩⟩
    have hj : j < rows.length := (List.getElem?_eq_some_iff.1 hr).1
    have hrm : r ∈ rows := List.mem_of_getElem? hr
    refine ⟨hk r hrm, fun i u hu => ?_⟩
    have hi : i < k := by have := (List.getElem?_eq_some_iff.1 hu).1; rw [hk r hrm] at this; exact this
    have hfl : ∀ (rows : List (List Value)) (j : Nat) (r : List Value), (∀ r ∈ rows, r.length = k) → rows[j]? = some r → ∀ i u, i < k → r[i]? = some u → rows.flatten[j * k + i]? = some u := by
      intro rows
      induction rows with
      | nil => intro j r _ h; simp at h
      | cons x rest ih =>
        intro j r hk h i u hi hu
        have hx := hk x (List.mem_cons_self ..)
        rw [List.flatten_cons]
        cases j with
        | zero =>
          simp at h
          subst h
          rw [List.getElem?_append_left (by omega), Nat.zero_mul, Nat.zero_add]
          exact hu
        | succ j =>
          rw [List.getElem?_append_right (by rw [hx, Nat.add_mul]; omega), hx, show (j + 1) * k + i - k = j * k + i by rw [Nat.add_mul]; omega]
          exact ih j r (fun r hr => hk r (List.mem_cons_of_mem _ hr)) (by simpa using h) i u hi hu
    have e := hfl rows j r hk hr i u hi hu
    have hb : j * k + i < rows.length * k := by
      have : (j + 1) * k ≤ rows.length * k := Nat.mul_le_mul_right k hj
      rw [Nat.add_mul] at this
      omega
    rw [← ht, List.getElem?_take, if_pos hb, Array.getElem?_toList] at e
    simp only [World.cell?, hh, Nat.zero_add]
    rw [e]
    simp
theorem flat_cells : ∀ ds : List D3, (ds.map D3.cells).flatten = ds.flatMap D3.cells
  | [] => rfl
  | d :: ds => by rw [List.map_cons, List.flatten_cons, List.flatMap_cons, flat_cells ds]
theorem dots_of_owns {w : World} {base : Nat} {v : Value} {ds : List D3} (h : w.ownsRow base 125 3 v ds.length (ds.flatMap D3.cells)) : DotsAt w v ds := by
  refine rowAt_of_owns (base := base) (e := 125) (n := ds.length) (by rw [flat_cells]; exact h) (by simp) fun r hr => ?_
  obtain ⟨d, _, rfl⟩ := List.mem_map.1 hr
  rfl
theorem Tryd.info125 : (Tryd.prog.info? 125).map (fun i => (i.zero, i.size, i.bytes)) = some (some (.agg #[.int .i64 0, .int .i64 0, .int .i64 0]), 3, 24) := by kernel_rfl
/-- An op whose dots lie in a row of the call's own. -/
def OpOwn (base : Nat) (w : World) (r : List Value) (o : OpV) : Prop := ∃ dv, r = opCells o dv ∧ w.ownsRow base 125 3 dv o.dots.length (o.dots.flatMap D3.cells)
theorem dots_one (d : D3) : ∀ u ∈ ([.int .i64 d.p, .int .i64 d.t, .int .i64 d.a] : List Value), u.oneCell' = true := fun u hu => by
  simp at hu
  rcases hu with rfl | rfl | rfl <;> rfl
theorem Tryd.info3 : (Tryd.prog.info? 3).map (fun i => (i.zero, i.size, i.bytes)) = some (some (.int .i64 0), 1, 8) := by kernel_rfl
theorem Tryd.info99 : (Tryd.prog.info? 99).map (fun i => (i.zero, i.size, i.bytes)) = some (some (.agg #[.int .i64 0, .string ByteArray.empty, .int .i64 0, .string ByteArray.empty, .int .i64 0, .bool false, .slice none 0 0]), 7, 88) := by kernel_rfl
/-- A commit in rows of the call's own. -/
def ComOwn (base : Nat) (w : World) (wv ov : Value) (c : ComV) : Prop := w.ownsRow base 3 1 wv c.when_.length (c.when_.map (Value.int .i64)) ∧ ∃ rows, w.ownsRow base 99 7 ov c.ops.length rows.flatten ∧ F2 (OpOwn base w) rows c.ops
theorem OpOwn.kept {base : Nat} {w w' : World} {r : List Value} {o : OpV} (h : OpOwn base w r o) (hb : ∀ (b : Nat) (cs : Array Value), w.heap[b]? = some (.cells cs 125 (0, 0)) → w'.heap[b]? = w.heap[b]?) : OpOwn base w' r o :=
  let ⟨dv, h1, h2⟩ := h; ⟨dv, h1, owns_below h2 hb⟩
/-- Rows of the types of a commit's own are as they were. -/
def Keeps (w w' : World) : Prop := ∀ t, t = 3 ∨ t = 99 ∨ t = 125 → ∀ (b : Nat) (cs : Array Value), w.heap[b]? = some (.cells cs t (0, 0)) → w'.heap[b]? = w.heap[b]?
theorem ComOwn.kept {base : Nat} {w w' : World} {wv ov : Value} {c : ComV} (h : ComOwn base w wv ov c) (k : Keeps w w') : ComOwn base w' wv ov c :=
  let ⟨h1, rows, h2, h3⟩ := h
  ⟨owns_below h1 (k 3 (.inl rfl)), rows, owns_below h2 (k 99 (.inr (.inl rfl))), f2_mono (fun _ _ h => h.kept (k 125 (.inr (.inr rfl)))) h3⟩
theorem Keeps.below {w w' : World} (h : Below w.heap.size w w') : Keeps w w' := fun _ _ i _ hc => h.block i (lt_of_heap hc)
theorem f2_own_base {base base' : Nat} {w : World} {r : List Value} {o : OpV} (h : OpOwn base w r o) (hb : base' ≤ base) : OpOwn base' w r o :=
  let ⟨dv, h1, h2⟩ := h; ⟨dv, h1, owns_base h2 hb⟩
theorem ComOwn.base {base base' : Nat} {w : World} {wv ov : Value} {c : ComV} (h : ComOwn base w wv ov c) (hb : base' ≤ base) : ComOwn base' w wv ov c :=
  let ⟨h1, rows, h2, h3⟩ := h; ⟨owns_base h1 hb, rows, owns_base h2 hb, f2_mono (fun _ _ h => f2_own_base h hb) h3⟩
theorem one7 (o : OpV) (a : Option Addr) (l c : Nat) : ∀ v ∈ ([.int .i64 o.at_, .string o.key, .int .i64 o.kind, .string o.text, .int .i64 o.n, .bool o.rem, .slice a l c] : List Value), v.oneCell' = true := fun v hv => by
  simp at hv
  rcases hv with rfl | rfl | rfl | rfl | rfl | rfl | rfl <;> rfl
theorem OpOwn.at {base : Nat} {w w' : World} {r : List Value} {o : OpV} (h : OpOwn base w r o) (hk : ∀ g, base ≤ g → g < w.heap.size → w'.heap[g]? = w.heap[g]?) : OpOwn base w' r o :=
  let ⟨dv, h1, h2⟩ := h; ⟨dv, h1, owns_at h2 hk⟩
theorem ComOwn.at {base : Nat} {w w' : World} {wv ov : Value} {c : ComV} (h : ComOwn base w wv ov c) (hk : ∀ g, base ≤ g → g < w.heap.size → w'.heap[g]? = w.heap[g]?) : ComOwn base w' wv ov c :=
  let ⟨h1, rows, h2, h3⟩ := h
  ⟨owns_at h1 hk, rows, owns_at h2 hk, f2_mono (fun _ _ h => h.at hk) h3⟩
theorem OpsAt.len {w : World} {v : Value} {os : List OpV} (h : OpsAt w v os) : ∃ ad cap, v = .slice ad os.length cap := by
  obtain ⟨ad, cap, rfl, _⟩ := h.shape
  exact ⟨ad, cap, rfl⟩
theorem IntsAt.len {w : World} {v : Value} {zs : List Int} (h : IntsAt w v zs) : ∃ ad cap, v = .slice ad zs.length cap := by
  obtain ⟨ad, cap, rfl, _⟩ := h
  exact ⟨ad, cap, rfl⟩
theorem ints_nil (w : World) : IntsAt w (.slice none 0 0) [] := ⟨none, 0, rfl, fun _ => rfl, .inl rfl⟩
theorem ops_nil (w : World) : OpsAt w (.slice none 0 0) [] := ⟨[], ⟨none, 0, rfl, fun _ => rfl, Nat.le_refl _, .inl rfl⟩, trivial⟩
theorem owns_ints {w : World} {base : Nat} {v : Value} {zs : List Int} (h : w.ownsRow base 3 1 v zs.length (zs.map (Value.int .i64))) : IntsAt w v zs := by
  rcases h.2 with ⟨rfl, h0⟩ | ⟨g, cap, cur, rfl, _, hh, hc, _, hs, ht⟩
  · obtain rfl := List.eq_nil_of_length_eq_zero h0
    exact ⟨_, _, rfl, fun _ => rfl, .inl rfl⟩
  · refine ⟨_, cap, rfl, (fun h => by cases h), .inr ⟨g, 0, rfl, fun j hj => ?_⟩⟩
    have e : (zs.map (Value.int .i64))[j]? = some (.int .i64 (zs.getD j 0)) := by simp [List.getElem?_map, List.getD_eq_getElem?_getD, List.getElem?_eq_getElem hj]
    rw [← ht, List.getElem?_take, if_pos (by omega), Array.getElem?_toList] at e
    rw [cell_of hh, Nat.zero_add]
    exact e
theorem f2_opRow {base : Nat} {w : World} {rows : List (List Value)} {os : List OpV} (h : F2 (OpOwn base w) rows os) : F2 (OpRow w) rows os := f2_mono (fun _ _ ⟨dv, h1, h2⟩ => ⟨dv, h1, dots_of_owns h2⟩) h
theorem rows7 {w : World} : ∀ {rows : List (List Value)} {os : List OpV}, F2 (OpRow w) rows os → ∀ r ∈ rows, r.length = 7
  | [], [], _, _, hr => by simp at hr
  | _ :: _, _ :: _, ⟨⟨_, h1, _⟩, h2⟩, r, hr => by
    rcases List.mem_cons.1 hr with rfl | hr
    · rw [h1]; rfl
    · exact rows7 h2 r hr
theorem ComOwn.ints {base : Nat} {w : World} {wv ov : Value} {c : ComV} (h : ComOwn base w wv ov c) : IntsAt w wv c.when_ := owns_ints h.1
theorem ComOwn.opsAt {base : Nat} {w : World} {wv ov : Value} {c : ComV} (h : ComOwn base w wv ov c) : OpsAt w ov c.ops := by
  obtain ⟨_, rows, h2, h3⟩ := h
  have hf := f2_opRow h3
  exact ⟨rows, rowAt_of_owns h2 (f2_len hf).symm (rows7 hf), hf⟩
theorem dots_cells {w : World} {a : Option Addr} {n c : Nat} {ds : List D3} (h : DotsAt w (.slice a n c) ds) {k : Nat} {d : D3} (hk : ds[k]? = some d) :
    ∃ b o, a = some ⟨b, o, none⟩ ∧ w.cell? ⟨b, o + k * 3, none⟩ = some (.int .i64 d.p) ∧ w.cell? ⟨b, o + k * 3 + 1, none⟩ = some (.int .i64 d.t) ∧ w.cell? ⟨b, o + k * 3 + 2, none⟩ = some (.int .i64 d.a) := by
  obtain ⟨ad, cap, hv, _, _, h⟩ := h
  injection hv with hv _ _
  subst hv
  rcases h with h | ⟨b, o, rfl, h⟩
  · rw [List.map_eq_nil_iff] at h
    rw [h] at hk; simp at hk
  · refine ⟨b, o, rfl, ?_⟩
    have hc := (h k d.cells (by rw [List.getElem?_map, hk]; rfl)).2
    exact ⟨hc 0 _ rfl, hc 1 _ rfl, hc 2 _ rfl⟩
theorem opAt_cells {w : World} {a : Option Addr} {n c : Nat} {os : List OpV} (h : OpsAt w (.slice a n c) os) {k : Nat} {o : OpV} (hk : os[k]? = some o) :
    ∃ b off dp dc, a = some ⟨b, off, none⟩ ∧ DotsAt w (.slice dp o.dots.length dc) o.dots ∧
      w.cell? ⟨b, off + k * 7, none⟩ = some (.int .i64 o.at_) ∧ w.cell? ⟨b, off + k * 7 + 1, none⟩ = some (.string o.key) ∧ w.cell? ⟨b, off + k * 7 + 2, none⟩ = some (.int .i64 o.kind) ∧ w.cell? ⟨b, off + k * 7 + 3, none⟩ = some (.string o.text) ∧
      w.cell? ⟨b, off + k * 7 + 4, none⟩ = some (.int .i64 o.n) ∧ w.cell? ⟨b, off + k * 7 + 5, none⟩ = some (.bool o.rem) ∧ w.cell? ⟨b, off + k * 7 + 6, none⟩ = some (.slice dp o.dots.length dc) := by
  obtain ⟨ad, cap, hv, _, _, hh⟩ := h.shape
  injection hv with hv _ _
  subst hv
  rcases hh with hh | ⟨b, off, rfl, hh⟩
  · rw [hh] at hk; simp at hk
  · obtain ⟨dp, dc, h1, h2⟩ := hh k o hk
    exact ⟨b, off, dp, dc, rfl, h1, h2⟩
end Go.Proofs.YtcojglkjbbgoaaaDoor
namespace Go.Proofs.YtcojglkjbbgoaaaDoor
open Go.RowKit
set_option maxRecDepth 100000

/-- Nine cells of a message. -/
structure Raw where
  x1 : Int
  x2 : Int
  x3 : Int
  x4 : Int
  x5 : Int
  x6 : Bool
  a1 : Option Addr
  n1 : Nat
  c1 : Nat
  p : Int
  a2 : Option Addr
  n2 : Nat
  c2 : Nat
def Raw.cells (r : Raw) : List Value := [.int .i64 r.x1, .int .i64 r.x2, .int .i64 r.x3, .int .i64 r.x4, .int .i64 r.x5, .bool r.x6, .slice r.a1 r.n1 r.c1, .int .i64 r.p, .slice r.a2 r.n2 r.c2]
def raws (l : List Raw) : List Value := l.flatMap Raw.cells
theorem raws_snoc (l : List Raw) (r : Raw) : raws (l ++ [r]) = raws l ++ r.cells := by
  unfold raws
  rw [List.flatMap_append]
  simp
theorem raws_append (l k : List Raw) : raws (l ++ k) = raws l ++ raws k := by
  unfold raws
  rw [List.flatMap_append]
theorem raws_len : ∀ l : List Raw, (raws l).length = l.length * 9
  | [] => rfl
  | x :: r => by
    have := raws_len r
    unfold raws at this ⊢
    rw [List.flatMap_cons, List.length_append, this, List.length_cons]
    show 9 + _ = _
    omega
theorem oneR (r : Raw) : ∀ u ∈ r.cells, u.oneCell' = true := fun u hu => by
  simp only [Raw.cells, List.mem_cons, List.not_mem_nil, or_false] at hu
  rcases hu with rfl | rfl | rfl | rfl | rfl | rfl | rfl | rfl | rfl <;> rfl
theorem onesR (l : List Raw) : ∀ u ∈ raws l, u.oneCell' = true := fun u hu => by
  obtain ⟨r, _, h⟩ := List.mem_flatMap.1 hu
  exact oneR r u h
theorem raws_at : ∀ (l : List Raw) (k : Nat) (r : Raw), l[k]? = some r → ∀ j, j < 9 → (raws l)[k * 9 + j]? = r.cells[j]?
  | [], _, _, h, _, _ => by simp at h
  | x :: l, 0, r, h, j, hj => by
    simp at h
    subst h
    unfold raws
    rw [List.flatMap_cons, List.getElem?_append_left (by show 0 * 9 + j < 9; omega), Nat.zero_mul, Nat.zero_add]
  | x :: l, k + 1, r, h, j, hj => by
    have := raws_at l k r (by simpa using h) j hj
    unfold raws at this ⊢
    rw [List.flatMap_cons, List.getElem?_append_right (by show 9 ≤ _; omega), show (k + 1) * 9 + j - x.cells.length = k * 9 + j by show (k + 1) * 9 + j - 9 = _; omega]
    exact this
/-- The cells of message k of a row of them. -/
theorem row_raw {w : World} {base e n' : Nat} {a : Option Addr} {n c : Nat} {l : List Raw} (h : w.ownsRow base e 9 (.slice a n c) n' (raws l)) (hl : l.length = n') {k : Nat} {r : Raw} (hk : l[k]? = some r) :
    ∃ b, a = some ⟨b, 0, none⟩ ∧ (Value.slice a n c).ownBlock = some b ∧ ∀ j u, r.cells[j]? = some u → w.cell? ⟨b, k * 9 + j, none⟩ = some u := by
  subst hl
  have hkl : k < l.length := (List.getElem?_eq_some_iff.1 hk).1
  rcases h.2 with ⟨h1, h0⟩ | ⟨b, cap, cur, hv, _, hh, hc, _, hs, ht⟩
  · omega
  · injection hv with hv _ _
    subst hv
    refine ⟨b, rfl, rfl, fun j u hu => ?_⟩
    have hj : j < 9 := (List.getElem?_eq_some_iff.1 hu).1
    have e := (raws_at l k r hk j hj).trans hu
    have hb : k * 9 + j < l.length * 9 := by omega
    rw [← ht, List.getElem?_take, if_pos hb, Array.getElem?_toList] at e
    rw [cell_of hh]
    exact e
/-- The numbers of the cells are the message's. -/
structure Raw.Nums (r : Raw) (m : MsgV) : Prop where
  x1 : r.x1 = m.frm
  x2 : r.x2 = m.to_
  x3 : r.x3 = m.shard
  x4 : r.x4 = m.seq
  x5 : r.x5 = m.time
  x6 : r.x6 = m.beat
  p : r.p = m.c.place
/-- The cells read as the message m. -/
structure RawAt (w : World) (r : Raw) (m : MsgV) : Prop where
  nums : r.Nums m
  ints : IntsAt w (.slice r.a1 r.n1 r.c1) m.c.when_
  ops : OpsAt w (.slice r.a2 r.n2 r.c2) m.c.ops
theorem RawAt.mono {w w' : World} {r : Raw} {m : MsgV} {B : Nat} (h : RawAt w r m) (hb : Below B w w') (hB : w.heap.size ≤ B) : RawAt w' r m := ⟨h.nums, h.ints.mono hb hB, h.ops.mono hb hB⟩
/-- The same, in rows of one's own. -/
structure RawOwn (base : Nat) (w : World) (r : Raw) (m : MsgV) : Prop where
  nums : r.Nums m
  own : ComOwn base w (.slice r.a1 r.n1 r.c1) (.slice r.a2 r.n2 r.c2) m.c
theorem RawOwn.at_ {base : Nat} {w : World} {r : Raw} {m : MsgV} (h : RawOwn base w r m) : RawAt w r m := ⟨h.nums, h.own.ints, h.own.opsAt⟩
theorem RawOwn.kept {base : Nat} {w w' : World} {r : Raw} {m : MsgV} (h : RawOwn base w r m) (hk : Keeps w w') : RawOwn base w' r m := ⟨h.nums, h.own.kept hk⟩
theorem RawOwn.base {base base' : Nat} {w : World} {r : Raw} {m : MsgV} (h : RawOwn base w r m) (hb : base' ≤ base) : RawOwn base' w r m := ⟨h.nums, h.own.base hb⟩
theorem Keeps.of {w w' : World} (h : ∀ (t b : Nat) (cs : Array Value), t = 3 ∨ t = 99 ∨ t = 125 → w.heap[b]? = some (.cells cs t (0, 0)) → w'.heap[b]? = w.heap[b]?) : Keeps w w' := fun t ht b cs hc => h t b cs ht hc
theorem Keeps.refl (w : World) : Keeps w w := fun _ _ _ _ _ => rfl
theorem Keeps.trans {u v w : World} (h : Keeps u v) (k : Keeps v w) : Keeps u w := fun t ht b cs hc => (k t ht b cs ((h t ht b cs hc).trans hc)).trans (h t ht b cs hc)
theorem Keeps.bel {w w' : World} (h : Below w.heap.size w w') : Keeps w w' := fun _ _ b _ hc => h.block b (lt_of_heap hc)
end Go.Proofs.YtcojglkjbbgoaaaDoor
namespace Go.Proofs.YtcojglkjbbgoaaaDoor
open Go.RowKit Go.Maps
set_option maxRecDepth 100000

/-- A value of the map, as it is. -/
def elemV : Value → Option (DataW Value × List MemPlace) := fun v => some (.held v, [])
/-- A Go int. -/
def n64 (k : Int) : Prop := -9223372036854775808 ≤ k ∧ k ≤ 9223372036854775807
theorem n64_wf {k : Int} (h : n64 k) : (Lit.int .i64 k).wf = true := by
  obtain ⟨h1, h2⟩ := h
  have e1 : IntKind.i64.min = -9223372036854775808 := rfl
  have e2 : IntKind.i64.max = 9223372036854775807 := rfl
  simp [Lit.wf, e1, e2]
  omega
theorem key_64 {k : Int} (h : n64 k) : keyOf Tryd.prog 3 (.int .i64 k) = some (.int .i64 k) := keyOf_int_mk Tryd.underlying3 (n64_wf h)
/-- What is kept, by number. -/
def MapV (D : DataW Value) (M : Int → Option Raw) : Prop := ∀ k, n64 k → Maps.has D (.int .i64 k) = (M k).isSome ∧ ∀ z, D.atKey (.int .i64 k) z = ((M k).map fun r => .held (.agg r.cells.toArray)).getD z
def updV (M : Int → Option Raw) (k : Int) (x : Option Raw) : Int → Option Raw := fun j => if j = k then x else M j
theorem MapV.start : MapV (.map []) fun _ => none := fun _ _ => ⟨rfl, fun _ => rfl⟩
theorem MapV.put {D : DataW Value} {M : Int → Option Raw} (h : MapV D M) (hD : IsMap D) (k : Int) (r : Raw) : MapV (D.put (.int .i64 k) (.held (.agg r.cells.toArray))) (updV M k (some r)) := fun j hj => by
  unfold updV
  by_cases q : j = k
  · subst q
    rw [if_pos rfl, has_put_same hD (key_lit _)]
    exact ⟨rfl, fun z => atKey_put_same hD (key_lit _) _ z⟩
  · rw [if_neg q, has_put_other (fun x => q (lit_inj x))]
    exact ⟨(h j hj).1, fun z => by rw [atKey_put_other (fun x => q (lit_inj x))]; exact (h j hj).2 z⟩
theorem MapV.del {D : DataW Value} {M : Int → Option Raw} (h : MapV D M) (k : Int) : MapV (D.del (.int .i64 k)) (updV M k none) := fun j hj => by
  unfold updV
  by_cases q : j = k
  · subst q
    rw [if_pos rfl, has_del_same]
    exact ⟨rfl, fun z => atKey_del_same z⟩
  · rw [if_neg q, has_del_other (fun x => q (lit_inj x))]
    exact ⟨(h j hj).1, fun z => by rw [atKey_del_other (fun x => q (lit_inj x))]; exact (h j hj).2 z⟩
/-- A receiver: its box g, its map mb, what is kept. -/
structure RcvM (w : World) (g mb n : Nat) (f t s seq time : Int) (M : Int → Option Raw) : Prop where
  box : w.heap[g]? = some (.cells #[.int .i64 f, .int .i64 t, .int .i64 s, .int .i64 seq, .int .i64 time, .map (some mb)] 89 (0, 0))
  map : ∃ D : DataW Value, w.ownsMap Tryd.prog 3 elemV mb n D ∧ MapV D M
theorem RcvM.mlt {w : World} {g mb n : Nat} {f t s seq time : Int} {M : Int → Option Raw} (h : RcvM w g mb n f t s seq time M) : mb < w.heap.size := by obtain ⟨D, hm, _⟩ := h.map; exact hm.lt
theorem RcvM.moved {w u : World} {g mb n : Nat} {f t s seq time : Int} {M : Int → Option Raw} (h : RcvM w g mb n f t s seq time M) (hg : u.heap[g]? = w.heap[g]?) (hm : u.heap[mb]? = w.heap[mb]?) : RcvM u g mb n f t s seq time M := by
  obtain ⟨D, ⟨es, clock, hb, r⟩, hM⟩ := h.map
  exact ⟨hg.trans h.box, D, ⟨es, clock, hm.trans hb, r⟩, hM⟩
theorem RcvM.below {w u : World} {g mb n : Nat} {f t s seq time : Int} {M : Int → Option Raw} (h : RcvM w g mb n f t s seq time M) (hb : Below w.heap.size w u) : RcvM u g mb n f t s seq time M := h.moved (hb.block _ (lt_of_heap h.box)) (hb.block _ h.mlt)
/-- The look-up, in whatever world that has the map as it is. -/
theorem look_raw {wr : World} {mb n : Nat} {D : DataW Value} {M : Int → Option Raw} (hm : wr.ownsMap Tryd.prog 3 elemV mb n D) (hM : MapV D M) {k : Int} (hk : n64 k) {r : Raw} (hs : M k = some r) (u : World) (hu : u.heap[mb]? = wr.heap[mb]?) :
    (Instr.lookup 87 (.map (some mb)) (.int .i64 k) true).run Tryd.prog u = .ok (.tuple #[.agg r.cells.toArray, .bool true]) u := by
  have hm' : u.ownsMap Tryd.prog 3 elemV mb n D := by
    obtain ⟨es, clock, hb, r⟩ := hm
    exact ⟨es, clock, by rw [hu]; exact hb, r⟩
  obtain ⟨v, ps, hrun, hv⟩ := hm'.look_ok keyed3 Tryd.underlying87 (zero37 _) (zd := .held (.agg #[.int .i64 0, .int .i64 0, .int .i64 0, .int .i64 0, .int .i64 0, .bool false, .slice none 0 0, .int .i64 0, .slice none 0 0])) (zp := []) rfl (key_64 hk)
  have h2 := (hM k hk).2 (.held (.agg #[.int .i64 0, .int .i64 0, .int .i64 0, .int .i64 0, .int .i64 0, .bool false, .slice none 0 0, .int .i64 0, .slice none 0 0]))
  rw [hs] at h2
  unfold elemV at hv
  have h3 := (congrArg Prod.fst (Option.some.inj hv)).trans h2
  injection h3 with h3
  rw [hrun, (hM k hk).1, hs, h3]
  rfl
theorem look_raw_none {wr : World} {mb n : Nat} {D : DataW Value} {M : Int → Option Raw} (hm : wr.ownsMap Tryd.prog 3 elemV mb n D) (hM : MapV D M) {k : Int} (hk : n64 k) (hs : M k = none) (u : World) (hu : u.heap[mb]? = wr.heap[mb]?) :
    (Instr.lookup 87 (.map (some mb)) (.int .i64 k) true).run Tryd.prog u = .ok (.tuple #[.agg #[.int .i64 0, .int .i64 0, .int .i64 0, .int .i64 0, .int .i64 0, .bool false, .slice none 0 0, .int .i64 0, .slice none 0 0], .bool false]) u := by
  have hm' : u.ownsMap Tryd.prog 3 elemV mb n D := by
    obtain ⟨es, clock, hb, r⟩ := hm
    exact ⟨es, clock, by rw [hu]; exact hb, r⟩
  obtain ⟨v, ps, hrun, hv⟩ := hm'.look_ok keyed3 Tryd.underlying87 (zero37 _) (zd := .held (.agg #[.int .i64 0, .int .i64 0, .int .i64 0, .int .i64 0, .int .i64 0, .bool false, .slice none 0 0, .int .i64 0, .slice none 0 0])) (zp := []) rfl (key_64 hk)
  have h2 := (hM k hk).2 (.held (.agg #[.int .i64 0, .int .i64 0, .int .i64 0, .int .i64 0, .int .i64 0, .bool false, .slice none 0 0, .int .i64 0, .slice none 0 0]))
  rw [hs] at h2
  unfold elemV at hv
  have h3 := (congrArg Prod.fst (Option.some.inj hv)).trans h2
  injection h3 with h3
  rw [hrun, (hM k hk).1, hs, h3]
  rfl
set_option maxHeartbeats 1000000 in
theorem newReceiver_raw (f t s : Int) (w : World) (h : WayOk f t s) : Calls Tryd.prog 9 #[.int .i64 f, .int .i64 t, .int .i64 s] w fun e w' => ∃ g mb, w.heap.size ≤ g ∧ w.heap.size ≤ mb ∧ g ≠ mb ∧ e = .returned (.tuple #[.pointer (some ⟨g, 0, none⟩), .nilIface]) ∧ RcvM w' g mb 0 f t s 0 0 (fun _ => none) ∧ Below w.heap.size w w' := by
  have K := hid (newWay_ok f t s w h)
  clear h
  have hmm := @run_makeMap Tryd.prog
  go_enter Tryd.func9, Tryd.ntmps9
  go_wp2_with fail
  refine K.out.mono ?_
  rintro e w1 ⟨rfl, hb1⟩
  have B1 := hid hb1
  clear hb1
  go_wp2
  go_ret2
  have hs := B1.out.size
  refine ⟨w1.heap.size + 1 + 1, w1.heap.size + 1, by omega, by omega, by omega, rfl, ⟨?_, .map [], ?_, MapV.start⟩, ?_⟩
  · have := heap_new ((w1.alloc (.cells #[.int .i64 f, .int .i64 t, .int .i64 s] 82)).alloc (.map #[] 0)) (.cells #[.int .i64 f, .int .i64 t, .int .i64 s, .int .i64 0, .int .i64 0, .map (some (w1.heap.size + 1))] 89)
    rwa [World.size_alloc, World.size_alloc] at this
  · have := (World.ownsMap_made (w1.alloc (.cells #[.int .i64 f, .int .i64 t, .int .i64 s] 82)) Tryd.prog 3 elemV).alloc (.cells #[.int .i64 f, .int .i64 t, .int .i64 s, .int .i64 0, .int .i64 0, .map (some (w1.heap.size + 1))] 89)
    rwa [World.size_alloc] at this
  · exact ((B1.out.alloc B1.out.size _).alloc (by simp; omega) _).alloc (by simp; omega) _
theorem rseq_raw (w : World) (g mb n : Nat) (f t s seq time : Int) (M : Int → Option Raw) (h : RcvM w g mb n f t s seq time M) : Calls Tryd.prog 13 #[.pointer (some ⟨g, 0, none⟩)] w fun e w' => e = .returned (.int .i64 seq) ∧ w' = w := by
  have c3 : w.cell? ⟨g, 3, none⟩ = some (.int .i64 seq) := (cell_of h.box).trans rfl
  clear h
  go_enter Tryd.func13, Tryd.ntmps13
  go_wp2
  go_ret
  exact ⟨rfl, rfl⟩
theorem rtime_raw (w : World) (g mb n : Nat) (f t s seq time : Int) (M : Int → Option Raw) (h : RcvM w g mb n f t s seq time M) : Calls Tryd.prog 31 #[.pointer (some ⟨g, 0, none⟩)] w fun e w' => e = .returned (.int .i64 time) ∧ w' = w := by
  have c3 : w.cell? ⟨g, 4, none⟩ = some (.int .i64 time) := (cell_of h.box).trans rfl
  clear h
  go_enter Tryd.func31, Tryd.ntmps31
  go_wp2
  go_ret
  exact ⟨rfl, rfl⟩
def bearsB (f t s : Int) (r : Raw) : Bool := decide (r.x1 = f) && (decide (r.x2 = t) && decide (r.x3 = s))
set_option maxHeartbeats 1000000 in
theorem bears_raw (w : World) (f t s : Int) (r : Raw) : Calls Tryd.prog 35 #[.agg #[.int .i64 f, .int .i64 t, .int .i64 s], .agg r.cells.toArray] w fun e w' => e = .returned (.bool (bearsB f t s r)) ∧ Below w.heap.size w w' := by
  obtain ⟨x1, x2, x3, x4, x5, x6, a1, n1, c1, p, a2, n2, c2⟩ := r
  unfold Raw.cells bearsB
  simp only
  by_cases h1 : x1 = f
  · subst h1
    by_cases h2 : x2 = t
    · subst h2
      by_cases h3 : x3 = s
      · subst h3
        go_enter Tryd.func35, Tryd.ntmps35
        go_wp2
        go_ret
        exact ⟨ret_bool (by simp), below2 _ _ _⟩
      · have h3b : (x3 == s) = false := beq_eq_false_iff_ne.2 h3
        have h3d : decide (x3 = s) = false := decide_eq_false h3
        clear h3
        go_enter Tryd.func35, Tryd.ntmps35
        go_wp2
        go_ret
        exact ⟨ret_bool (by simp [h3d]), below2 _ _ _⟩
    · have h3b : (x2 == t) = false := beq_eq_false_iff_ne.2 h2
      have h3d : decide (x2 = t) = false := decide_eq_false h2
      clear h2
      go_enter Tryd.func35, Tryd.ntmps35
      go_wp2
      go_ret
      exact ⟨ret_bool (by simp [h3d]), below2 _ _ _⟩
  · have h3b : (x1 == f) = false := beq_eq_false_iff_ne.2 h1
    have h3d : decide (x1 = f) = false := decide_eq_false h1
    clear h1
    go_enter Tryd.func35, Tryd.ntmps35
    go_wp2
    go_ret
    exact ⟨ret_bool (by simp [h3d]), below2 _ _ _⟩
def timeB (t : Int) : Bool := decide (0 ≤ t) && decide (t ≤ 1099511627776)
theorem isTime_any (t : Int) (w : World) : Calls Tryd.prog 33 #[.int .i64 t] w fun e w' => e = .returned (.bool (timeB t)) ∧ w' = w := by
  unfold timeB
  by_cases h0 : 0 ≤ t
  · by_cases h1 : t ≤ 1099511627776
    · go_enter Tryd.func33, Tryd.ntmps33
      go_wp2
      go_ret
      exact ⟨ret_bool (by simp [h0, h1]), rfl⟩
    · go_enter Tryd.func33, Tryd.ntmps33
      go_wp2
      go_ret
      exact ⟨ret_bool (by simp [h1]), rfl⟩
  · go_enter Tryd.func33, Tryd.ntmps33
    go_wp2
    go_ret
    exact ⟨ret_bool (by simp; intro; omega), rfl⟩
set_option maxHeartbeats 1000000 in
theorem knows_raw (w : World) (g mb n : Nat) (f t s seq time k : Int) (M : Int → Option Raw) (h : RcvM w g mb n f t s seq time M) (hk : n64 k) : Calls Tryd.prog 36 #[.pointer (some ⟨g, 0, none⟩), .int .i64 k] w fun e w' => e = .returned (.bool ((M k).isSome || decide (k ≤ seq))) ∧ Below w.heap.size w w' := by
  have c3 : w.cell? ⟨g, 3, none⟩ = some (.int .i64 seq) := (cell_of h.box).trans rfl
  have c5 : w.cell? ⟨g, 5, none⟩ = some (.map (some mb)) := (cell_of h.box).trans rfl
  obtain ⟨D, hm, hM⟩ := h.map
  have hca := fun o => cell_alloc c3 o
  cases hM' : M k with
  | none =>
    have hrun := look_raw_none hm hM hk hM' w rfl
    clear h hm hM hM'
    go_enter Tryd.func36, Tryd.ntmps36
    go_wp2
    go_ret
    exact ⟨ret_bool (by simp), below_alloc _ _⟩
  | some r =>
    have hrun := look_raw hm hM hk hM' w rfl
    obtain ⟨x1, x2, x3, x4, x5, x6, a1, n1, c1, p, a2, n2, c2⟩ := r
    unfold Raw.cells at hrun
    simp only at hrun
    clear h hm hM hM'
    go_enter Tryd.func36, Tryd.ntmps36
    go_wp2
    go_ret
    exact ⟨rfl, below_alloc _ _⟩
end Go.Proofs.YtcojglkjbbgoaaaDoor
