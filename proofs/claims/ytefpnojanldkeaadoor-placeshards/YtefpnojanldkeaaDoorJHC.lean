/- Ops, commits and messages in memory, and in rows of one's own; A message's nine cells, whatever it holds; rows of them; The sender with any messages: its box, its row; Acked; HeavyCommit, OwnCommit, WireOf. -/
import Derived.Test.YtefpnojanldkeaaDoorJSBeat
import Derived.Test.YtefpnojanldkeaaDoorJVOp2
import Derived.Test.YtefpnojanldkeaaDoorJVCom
import Derived.Test.YtefpnojanldkeaaDoorJVCmp
import Derived.Test.YtefpnojanldkeaaDoorJVOwnM
import Derived.Test.YtefpnojanldkeaaDoorJVRefN
import Derived.Laws.IdiomCopy
import Derived.Laws.ResultCell
import Derived.Deep.RegionHeld
import Derived.Maps.OwnSet
import Derived.Test.YtefpnojanldkeaaDoorJWPart2
import Derived.Test.YtefpnojanldkeaaDoorJWNew
import Derived.Test.YtefpnojanldkeaaDoorJWPutN
import Derived.Deep.Cut
namespace Go.Proofs.YtefpnojanldkeaaDoor
open Go.RowKit
set_option maxRecDepth 100000
set_option linter.unusedSectionVars false
variable [Inhabited ComV] [DecidableEq D3] [Inhabited D3] [Inhabited Dn] [Inhabited OpV]

/-- The shape of a slice of ops, and its op j. -/
theorem OpsAt.shapeS {w : World} {v : Value} {os : List OpV} (h : OpsAt w v os) : ∃ ad cap, v = .slice ad os.length cap ∧ (ad = none → cap = 0) ∧ os.length ≤ cap ∧
    (os = [] ∨ ∃ b off, ad = some ⟨b, off, none⟩ ∧ ∀ j o, os[j]? = some o → ∃ dp dc, DotsAt w (.slice dp o.dots.length dc) o.dots ∧
      w.cell? ⟨b, off + j * 7, none⟩ = some (.int .i64 o.at_) ∧ w.cell? ⟨b, off + j * 7 + 1, none⟩ = some (.string o.key) ∧ w.cell? ⟨b, off + j * 7 + 2, none⟩ = some (.int .i64 o.kind) ∧ w.cell? ⟨b, off + j * 7 + 3, none⟩ = some (.string o.text) ∧
      w.cell? ⟨b, off + j * 7 + 4, none⟩ = some (.int .i64 o.n) ∧ w.cell? ⟨b, off + j * 7 + 5, none⟩ = some (.bool o.rem) ∧ w.cell? ⟨b, off + j * 7 + 6, none⟩ = some (.slice dp o.dots.length dc)) := by
  obtain ⟨rows, ⟨ad, cap, rfl, h1, h2, h3⟩, hf⟩ := h
  have hl := f2_len hf
  refine ⟨ad, cap, by rw [hl], h1, by omega, ?_⟩
  rcases h3 with rfl | ⟨b, off, rfl, h3⟩
  · exact .inl (List.eq_nil_of_length_eq_zero hl.symm)
  · refine .inr ⟨b, off, rfl, fun j o hj => ?_⟩
    obtain ⟨r, hr, dv, rfl, hd⟩ := f2_get hf j o hj
    obtain ⟨dp, dc, rfl⟩ := hd.len
    have hc := (h3 j _ hr).2
    exact ⟨dp, dc, hd, hc 0 _ rfl, hc 1 _ rfl, hc 2 _ rfl, hc 3 _ rfl, hc 4 _ rfl, hc 5 _ rfl, hc 6 _ rfl⟩
/-- A message. -/
structure MsgV where
  frm : Int
  to_ : Int
  shard : Int
  seq : Int
  time : Int
  beat : Bool
  c : ComV
theorem flat_cells : ∀ ds : List D3, (ds.map D3.cells).flatten = ds.flatMap D3.cells
  | [] => rfl
  | d :: ds => by rw [List.map_cons, List.flatten_cons, List.flatMap_cons, flat_cells ds]
theorem dots_of_ownsS {w : World} {base : Nat} {v : Value} {ds : List D3} (h : w.ownsRow base 96 3 v ds.length (ds.flatMap D3.cells)) : DotsAt w v ds := by
  refine rowAt_of_owns (base := base) (e := 96) (n := ds.length) (by rw [flat_cells]; exact h) (by simp) fun r hr => ?_
  obtain ⟨d, _, rfl⟩ := List.mem_map.1 hr
  rfl
theorem dots_oneS (d : D3) : ∀ u ∈ ([.int .i64 d.p, .int .i64 d.t, .int .i64 d.a] : List Value), u.oneCell' = true := fun u hu => by
  simp at hu
  rcases hu with rfl | rfl | rfl <;> rfl
theorem Tryd.info3 : (Tryd.prog.info? 3).map (fun i => (i.zero, i.size, i.bytes)) = some (some (.int .i64 0), 1, 8) := by kernel_rfl
/-- A commit in rows of the call's own. -/
def ComOwn (base : Nat) (w : World) (wv ov : Value) (c : ComV) : Prop := w.ownsRow base 3 1 wv c.when_.length (c.when_.map (Value.int .i64)) ∧ ∃ rows, w.ownsRow base 43 7 ov c.ops.length rows.flatten ∧ F2 (OpOwn base w) rows c.ops
/-- Rows of the types of a commit's own are as they were. -/
def Keeps (w w' : World) : Prop := ∀ t, t = 3 ∨ t = 43 ∨ t = 96 → ∀ (b : Nat) (cs : Array Value), w.heap[b]? = some (.cells cs t (0, 0)) → w'.heap[b]? = w.heap[b]?
theorem ComOwn.kept {base : Nat} {w w' : World} {wv ov : Value} {c : ComV} (h : ComOwn base w wv ov c) (k : Keeps w w') : ComOwn base w' wv ov c :=
  let ⟨h1, rows, h2, h3⟩ := h
  ⟨owns_below h1 (k 3 (.inl rfl)), rows, owns_below h2 (k 43 (.inr (.inl rfl))), f2_mono (fun _ _ h => h.kept (k 96 (.inr (.inr rfl)))) h3⟩
theorem f2_own_base {base base' : Nat} {w : World} {r : List Value} {o : OpV} (h : OpOwn base w r o) (hb : base' ≤ base) : OpOwn base' w r o :=
  let ⟨dv, h1, h2⟩ := h; ⟨dv, h1, owns_baseS h2 hb⟩
theorem ComOwn.base {base base' : Nat} {w : World} {wv ov : Value} {c : ComV} (h : ComOwn base w wv ov c) (hb : base' ≤ base) : ComOwn base' w wv ov c :=
  let ⟨h1, rows, h2, h3⟩ := h; ⟨owns_baseS h1 hb, rows, owns_baseS h2 hb, f2_mono (fun _ _ h => f2_own_base h hb) h3⟩
theorem one7S (o : OpV) (a : Option Addr) (l c : Nat) : ∀ v ∈ ([.int .i64 o.at_, .string o.key, .int .i64 o.kind, .string o.text, .int .i64 o.n, .bool o.rem, .slice a l c] : List Value), v.oneCell' = true := fun v hv => by
  simp at hv
  rcases hv with rfl | rfl | rfl | rfl | rfl | rfl | rfl <;> rfl
theorem OpOwn.at {base : Nat} {w w' : World} {r : List Value} {o : OpV} (h : OpOwn base w r o) (hk : ∀ g, base ≤ g → g < w.heap.size → w'.heap[g]? = w.heap[g]?) : OpOwn base w' r o :=
  let ⟨dv, h1, h2⟩ := h; ⟨dv, h1, owns_at h2 hk⟩
theorem ComOwn.at {base : Nat} {w w' : World} {wv ov : Value} {c : ComV} (h : ComOwn base w wv ov c) (hk : ∀ g, base ≤ g → g < w.heap.size → w'.heap[g]? = w.heap[g]?) : ComOwn base w' wv ov c :=
  let ⟨h1, rows, h2, h3⟩ := h
  ⟨owns_at h1 hk, rows, owns_at h2 hk, f2_mono (fun _ _ h => h.at hk) h3⟩
theorem OpsAt.len {w : World} {v : Value} {os : List OpV} (h : OpsAt w v os) : ∃ ad cap, v = .slice ad os.length cap := by
  obtain ⟨ad, cap, rfl, _⟩ := h.shapeS
  exact ⟨ad, cap, rfl⟩
theorem owns_ints {w : World} {base : Nat} {v : Value} {zs : List Int} (h : w.ownsRow base 3 1 v zs.length (zs.map (Value.int .i64))) : IntsAt w v zs := by
  rcases h.2 with ⟨rfl, h0⟩ | ⟨g, cap, cur, rfl, _, hh, hc, _, hs, ht⟩
  · obtain rfl := List.eq_nil_of_length_eq_zero h0
    exact ⟨_, _, rfl, fun _ => rfl, .inl rfl⟩
  · refine ⟨_, cap, rfl, (fun h => by cases h), .inr ⟨g, 0, rfl, fun j hj => ?_⟩⟩
    have e : (zs.map (Value.int .i64))[j]? = some (.int .i64 (zs.getD j 0)) := by simp [List.getElem?_map, List.getD_eq_getElem?_getD, List.getElem?_eq_getElem hj]
    rw [← ht, List.getElem?_take, if_pos (by omega), Array.getElem?_toList] at e
    rw [cell_of hh, Nat.zero_add]
    exact e
theorem f2_opRow {base : Nat} {w : World} {rows : List (List Value)} {os : List OpV} (h : F2 (OpOwn base w) rows os) : F2 (OpRow w) rows os := f2_mono (fun _ _ ⟨dv, h1, h2⟩ => ⟨dv, h1, dots_of_ownsS h2⟩) h
theorem rows7 {w : World} : ∀ {rows : List (List Value)} {os : List OpV}, F2 (OpRow w) rows os → ∀ r ∈ rows, r.length = 7
  | [], [], _, _, hr => by simp at hr
  | _ :: _, _ :: _, ⟨⟨_, h1, _⟩, h2⟩, r, hr => by
    rcases List.mem_cons.1 hr with rfl | hr
    · rw [h1]; rfl
    · exact rows7 h2 r hr
theorem ComOwn.ints {base : Nat} {w : World} {wv ov : Value} {c : ComV} (h : ComOwn base w wv ov c) : IntsAt w wv c.when_ := owns_ints h.1
theorem ComOwn.opsAt {base : Nat} {w : World} {wv ov : Value} {c : ComV} (h : ComOwn base w wv ov c) : OpsAt w ov c.ops := by
  obtain ⟨_, rows, h2, h3⟩ := h
  have hf := f2_opRow h3
  exact ⟨rows, rowAt_of_owns h2 (f2_len hf).symm (rows7 hf), hf⟩
end Go.Proofs.YtefpnojanldkeaaDoor
namespace Go.Proofs.YtefpnojanldkeaaDoor
open Go.RowKit
set_option maxRecDepth 100000
set_option linter.unusedSectionVars false
variable [Inhabited ComV] [DecidableEq D3] [Inhabited D3] [Inhabited Dn] [Inhabited OpV]

/-- Nine cells of a message. -/
structure Raw where
  x1 : Int
  x2 : Int
  x3 : Int
  x4 : Int
  x5 : Int
  x6 : Bool
  a1 : Option Addr
  n1 : Nat
  c1 : Nat
  p : Int
  a2 : Option Addr
  n2 : Nat
  c2 : Nat
def Raw.cells (r : Raw) : List Value := [.int .i64 r.x1, .int .i64 r.x2, .int .i64 r.x3, .int .i64 r.x4, .int .i64 r.x5, .bool r.x6, .slice r.a1 r.n1 r.c1, .int .i64 r.p, .slice r.a2 r.n2 r.c2]
def raws (l : List Raw) : List Value := l.flatMap Raw.cells
theorem raws_snoc (l : List Raw) (r : Raw) : raws (l ++ [r]) = raws l ++ r.cells := by
  unfold raws
  rw [List.flatMap_append]
  simp
theorem oneR (r : Raw) : ∀ u ∈ r.cells, u.oneCell' = true := fun u hu => by
  simp only [Raw.cells, List.mem_cons, List.not_mem_nil, or_false] at hu
  rcases hu with rfl | rfl | rfl | rfl | rfl | rfl | rfl | rfl | rfl <;> rfl
theorem raws_at : ∀ (l : List Raw) (k : Nat) (r : Raw), l[k]? = some r → ∀ j, j < 9 → (raws l)[k * 9 + j]? = r.cells[j]?
  | [], _, _, h, _, _ => by simp at h
  | x :: l, 0, r, h, j, hj => by
    simp at h
    subst h
    unfold raws
    rw [List.flatMap_cons, List.getElem?_append_left (by show 0 * 9 + j < 9; omega), Nat.zero_mul, Nat.zero_add]
  | x :: l, k + 1, r, h, j, hj => by
    have := raws_at l k r (by simpa using h) j hj
    unfold raws at this ⊢
    rw [List.flatMap_cons, List.getElem?_append_right (by show 9 ≤ _; omega), show (k + 1) * 9 + j - x.cells.length = k * 9 + j by show (k + 1) * 9 + j - 9 = _; omega]
    exact this
/-- The cells of message k of a row of them. -/
theorem row_raw {w : World} {base e n' : Nat} {a : Option Addr} {n c : Nat} {l : List Raw} (h : w.ownsRow base e 9 (.slice a n c) n' (raws l)) (hl : l.length = n') {k : Nat} {r : Raw} (hk : l[k]? = some r) :
    ∃ b, a = some ⟨b, 0, none⟩ ∧ (Value.slice a n c).ownBlock = some b ∧ ∀ j u, r.cells[j]? = some u → w.cell? ⟨b, k * 9 + j, none⟩ = some u := by
  subst hl
  have hkl : k < l.length := (List.getElem?_eq_some_iff.1 hk).1
  rcases h.2 with ⟨h1, h0⟩ | ⟨b, cap, cur, hv, _, hh, hc, _, hs, ht⟩
  · omega
  · injection hv with hv _ _
    subst hv
    refine ⟨b, rfl, rfl, fun j u hu => ?_⟩
    have hj : j < 9 := (List.getElem?_eq_some_iff.1 hu).1
    have e := (raws_at l k r hk j hj).trans hu
    have hb : k * 9 + j < l.length * 9 := by omega
    rw [← ht, List.getElem?_take, if_pos hb, Array.getElem?_toList] at e
    rw [cell_of hh]
    exact e
/-- The numbers of the cells are the message's. -/
structure Raw.Nums (r : Raw) (m : MsgV) : Prop where
  x1 : r.x1 = m.frm
  x2 : r.x2 = m.to_
  x3 : r.x3 = m.shard
  x4 : r.x4 = m.seq
  x5 : r.x5 = m.time
  x6 : r.x6 = m.beat
  p : r.p = m.c.place
/-- The cells read as the message m. -/
structure RawAt (w : World) (r : Raw) (m : MsgV) : Prop where
  nums : r.Nums m
  ints : IntsAt w (.slice r.a1 r.n1 r.c1) m.c.when_
  ops : OpsAt w (.slice r.a2 r.n2 r.c2) m.c.ops
theorem RawAt.mono {w w' : World} {r : Raw} {m : MsgV} {B : Nat} (h : RawAt w r m) (hb : Below B w w') (hB : w.heap.size ≤ B) : RawAt w' r m := ⟨h.nums, h.ints.mono hb hB, h.ops.mono hb hB⟩
/-- The same, in rows of one's own. -/
structure RawOwn (base : Nat) (w : World) (r : Raw) (m : MsgV) : Prop where
  nums : r.Nums m
  own : ComOwn base w (.slice r.a1 r.n1 r.c1) (.slice r.a2 r.n2 r.c2) m.c
theorem RawOwn.at_ {base : Nat} {w : World} {r : Raw} {m : MsgV} (h : RawOwn base w r m) : RawAt w r m := ⟨h.nums, h.own.ints, h.own.opsAt⟩
theorem RawOwn.kept {base : Nat} {w w' : World} {r : Raw} {m : MsgV} (h : RawOwn base w r m) (hk : Keeps w w') : RawOwn base w' r m := ⟨h.nums, h.own.kept hk⟩
theorem RawOwn.base {base base' : Nat} {w : World} {r : Raw} {m : MsgV} (h : RawOwn base w r m) (hb : base' ≤ base) : RawOwn base' w r m := ⟨h.nums, h.own.base hb⟩
theorem Keeps.trans {u v w : World} (h : Keeps u v) (k : Keeps v w) : Keeps u w := fun t ht b cs hc => (k t ht b cs ((h t ht b cs hc).trans hc)).trans (h t ht b cs hc)
theorem Keeps.bel {w w' : World} (h : Below w.heap.size w w') : Keeps w w' := fun _ _ b _ hc => h.block b (lt_of_heap hc)
end Go.Proofs.YtefpnojanldkeaaDoor
namespace Go.Proofs.YtefpnojanldkeaaDoor
open Go.RowKit
set_option maxRecDepth 100000
set_option linter.unusedSectionVars false
variable [Inhabited ComV] [DecidableEq D3] [Inhabited D3] [Inhabited Dn] [Inhabited OpV]

/-- A sender: its box g, a row of its own with what is not acked. -/
structure SndR (w : World) (g : Nat) (f t s seq time : Int) (v : Value) (l : List Raw) : Prop where
  box : w.heap[g]? = some (.cells #[.int .i64 f, .int .i64 t, .int .i64 s, .int .i64 seq, .int .i64 time, v] 131 (0, 0))
  row : w.ownsRow (g + 1) 45 9 v l.length (raws l)
theorem SndR.moved {w w' : World} {g : Nat} {f t s seq time : Int} {v : Value} {l : List Raw} (h : SndR w g f t s seq time v l) (hb : Below w.heap.size w w') : SndR w' g f t s seq time v l :=
  ⟨by rw [hb.block _ (lt_of_heap h.box)]; exact h.box, owns_at h.row fun k _ h2 => hb.block k h2⟩
end Go.Proofs.YtefpnojanldkeaaDoor
namespace Go.Proofs.YtefpnojanldkeaaDoor
open Go.RowKit
set_option maxRecDepth 100000
set_option linter.unusedSectionVars false
variable [Inhabited ComV] [DecidableEq D3] [Inhabited D3] [Inhabited Dn] [Inhabited OpV]

/-- A commit that a law takes. -/
structure Light (c : ComV) : Prop where
  when_ : c.when_.length ≤ 20
  ops : c.ops.length ≤ 20
  each : ∀ o ∈ c.ops, o.key.size ≤ 60 ∧ o.text.size ≤ 200 ∧ o.dots.length ≤ 70
theorem flat3_atS : ∀ (ds : List D3) (q r : Nat) (d : D3), ds[q]? = some d → r < 3 → (ds.flatMap D3.cells)[q * 3 + r]? = d.cells[r]?
  | [], _, _, _, h, _ => by simp at h
  | x :: ds, 0, r, d, h, hr => by
    simp at h
    subst h
    rw [List.flatMap_cons, List.getElem?_append_left (by show 0 * 3 + r < 3; omega), Nat.zero_mul, Nat.zero_add]
  | x :: ds, q + 1, r, d, h, hr => by
    rw [List.flatMap_cons, List.getElem?_append_right (by show 3 ≤ _; omega), show (q + 1) * 3 + r - x.cells.length = q * 3 + r by show (q + 1) * 3 + r - 3 = _; omega]
    exact flat3_atS ds q r d (by simpa using h) hr
theorem flat3_len : ∀ ds : List D3, (ds.flatMap D3.cells).length = ds.length * 3
  | [] => rfl
  | x :: r => by rw [List.flatMap_cons, List.length_append, flat3_len r, List.length_cons]; show 3 + _ = _; omega
theorem all_dots_one (ds : List D3) : ∀ u ∈ ds.flatMap D3.cells, u.oneCell' = true := fun u hu => by
  obtain ⟨d, _, h⟩ := List.mem_flatMap.1 hu
  exact dots_oneS d u h
end Go.Proofs.YtefpnojanldkeaaDoor
