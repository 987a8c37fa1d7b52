/- A message's nine cells, whatever it holds; rows of them; slices.Delete, from the front, of a row of beats of one's own; The receiver: its box and its map; NewReceiver, Seq, bears, knows; Rows in blocks whose type is known: what stays where other blocks turn; OwnCommits by its contract; Where a store of versions stands in memory; how an op more turns it. -/
import Derived.Test.YtepnghacjggkkaaGreatDoorGHF
import Derived.Deep.Cut
import Derived.Deep.Fields
import Derived.Deep.RegionHeld
import Derived.Deep.RegionHeldLaw
import Derived.Deep.RegionLaw
import Derived.Deep.Slices
import Derived.DeepKeys5
import Derived.Ground.SlsfProg
import Derived.LaidEql
import Derived.LaidHandle
import Derived.LaidLaws
import Derived.LaidSub
import Derived.Laws.AppendOwnNone
import Derived.Laws.MakeOwn
import Derived.Laws.ResultCell
import Derived.Lib.SliceRun
import Derived.Maps.AppendAt
import Derived.Maps.OwnSet
import Derived.OpenShut
import Derived.ProofKit
import Derived.RowKitTokens
import Derived.Shelf.SlGeneric
import Derived.Shelf.SlIter.Nil
import Derived.Shelf.Slices.CompactS
import Derived.Shelf.Slices.In.SortNone
import Derived.Shelf.SlicesE.DeleteFunc
import Derived.Shelf.Sort.Plain
import Derived.Sort.KeysCollected
import Derived.Stop.Asserts
import Derived.Test.YtepnghacjggkkaaGreatDoorChecked
import Derived.Test.YtepnghacjggkkaaGreatDoorProg
import Derived.Test.YtepnghacjggkkaaGreatDoorRows
import Derived.WalkKit
import Derived.Test.YtepnghacjggkkaaGreatDoorGSBase
import Derived.Test.YtepnghacjggkkaaGreatDoorGVLayT
import Derived.Lib.SlKept
import Derived.Shelf.GgSortFunc.RowK
import Derived.Shelf.SlicesQ.IndexFunc
import Derived.Test.YtepnghacjggkkaaGreatDoorGVSortN
namespace Go.Proofs.YtepnghacjggkkaaGreatDoor
open Go.RowKit
set_option maxRecDepth 100000
set_option linter.unusedSectionVars false
variable [Inhabited ComV] [DecidableEq D3] [Inhabited D3] [Inhabited Dd] [Inhabited Dn] [Inhabited OpV]

structure Raw where
  x1 : Int
  x2 : Int
  x3 : Int
  x4 : Int
  x5 : Int
  x6 : Bool
  a1 : Option Addr
  n1 : Nat
  c1 : Nat
  p : Int
  a2 : Option Addr
  n2 : Nat
  c2 : Nat
def Raw.cells (r : Raw) : List Value := [.int .i64 r.x1, .int .i64 r.x2, .int .i64 r.x3, .int .i64 r.x4, .int .i64 r.x5, .bool r.x6, .slice r.a1 r.n1 r.c1, .int .i64 r.p, .slice r.a2 r.n2 r.c2]
def raws (l : List Raw) : List Value := l.flatMap Raw.cells
theorem raws_snoc (l : List Raw) (r : Raw) : raws (l ++ [r]) = raws l ++ r.cells := by
  unfold raws
  rw [List.flatMap_append]
  simp
theorem oneR (r : Raw) : ∀ u ∈ r.cells, u.oneCell' = true := fun u hu => by
  simp only [Raw.cells, List.mem_cons, List.not_mem_nil, or_false] at hu
  rcases hu with rfl | rfl | rfl | rfl | rfl | rfl | rfl | rfl | rfl <;> rfl
theorem raws_at : ∀ (l : List Raw) (k : Nat) (r : Raw), l[k]? = some r → ∀ j, j < 9 → (raws l)[k * 9 + j]? = r.cells[j]?
  | [], _, _, h, _, _ => by simp at h
  | x :: l, 0, r, h, j, hj => by
    simp at h
    subst h
    unfold raws
    rw [List.flatMap_cons, List.getElem?_append_left (by show 0 * 9 + j < 9; omega), Nat.zero_mul, Nat.zero_add]
  | x :: l, k + 1, r, h, j, hj => by
    have := raws_at l k r (by simpa using h) j hj
    unfold raws at this ⊢
    rw [List.flatMap_cons, List.getElem?_append_right (by show 9 ≤ _; omega), show (k + 1) * 9 + j - x.cells.length = k * 9 + j by show (k + 1) * 9 + j - 9 = _; omega]
    exact this
theorem row_raw {w : World} {base e n' : Nat} {a : Option Addr} {n c : Nat} {l : List Raw} (h : w.ownsRow base e 9 (.slice a n c) n' (raws l)) (hl : l.length = n') {k : Nat} {r : Raw} (hk : l[k]? = some r) :
    ∃ b, a = some ⟨b, 0, none⟩ ∧ (Value.slice a n c).ownBlock = some b ∧ ∀ j u, r.cells[j]? = some u → w.cell? ⟨b, k * 9 + j, none⟩ = some u := by
  subst hl
  have hkl : k < l.length := (List.getElem?_eq_some_iff.1 hk).1
  rcases h.2 with ⟨h1, h0⟩ | ⟨b, cap, cur, hv, _, hh, hc, _, hs, ht⟩
  · omega
  · injection hv with hv _ _
    subst hv
    refine ⟨b, rfl, rfl, fun j u hu => ?_⟩
    have hj : j < 9 := (List.getElem?_eq_some_iff.1 hu).1
    have e := (raws_at l k r hk j hj).trans hu
    have hb : k * 9 + j < l.length * 9 := by omega
    rw [← ht, List.getElem?_take, if_pos hb, Array.getElem?_toList] at e
    rw [cell_of hh]
    exact e
structure Raw.Nums (r : Raw) (m : MsgV) : Prop where
  x1 : r.x1 = m.frm
  x2 : r.x2 = m.to_
  x3 : r.x3 = m.shard
  x4 : r.x4 = m.seq
  x5 : r.x5 = m.time
  x6 : r.x6 = m.beat
  p : r.p = m.c.place
structure RawAt (w : World) (r : Raw) (m : MsgV) : Prop where
  nums : r.Nums m
  ints : IntsAt w (.slice r.a1 r.n1 r.c1) m.c.when_
  ops : OpsAt w (.slice r.a2 r.n2 r.c2) m.c.ops
theorem RawAt.mono {w w' : World} {r : Raw} {m : MsgV} {B : Nat} (h : RawAt w r m) (hb : Below B w w') (hB : w.heap.size ≤ B) : RawAt w' r m := ⟨h.nums, h.ints.mono hb hB, h.ops.mono hb hB⟩
structure RawOwn (base : Nat) (w : World) (r : Raw) (m : MsgV) : Prop where
  nums : r.Nums m
  own : ComOwn base w (.slice r.a1 r.n1 r.c1) (.slice r.a2 r.n2 r.c2) m.c
theorem RawOwn.at_ {base : Nat} {w : World} {r : Raw} {m : MsgV} (h : RawOwn base w r m) : RawAt w r m := ⟨h.nums, h.own.ints, h.own.opsAt⟩
theorem RawOwn.kept {base : Nat} {w w' : World} {r : Raw} {m : MsgV} (h : RawOwn base w r m) (hk : Keeps w w') : RawOwn base w' r m := ⟨h.nums, h.own.kept hk⟩
theorem RawOwn.base {base base' : Nat} {w : World} {r : Raw} {m : MsgV} (h : RawOwn base w r m) (hb : base' ≤ base) : RawOwn base' w r m := ⟨h.nums, h.own.base hb⟩
theorem Keeps.trans {u v w : World} (h : Keeps u v) (k : Keeps v w) : Keeps u w := fun t ht b cs hc => (k t ht b cs ((h t ht b cs hc).trans hc)).trans (h t ht b cs hc)
theorem Keeps.bel {w w' : World} (h : Below w.heap.size w w') : Keeps w w' := fun _ _ b _ hc => h.block b (lt_of_heap hc)
end Go.Proofs.YtepnghacjggkkaaGreatDoor
namespace Go.Proofs.YtepnghacjggkkaaGreatDoor
open Go.RowKit
set_option maxRecDepth 100000
set_option linter.unusedSectionVars false
variable [Inhabited ComV] [DecidableEq D3] [Inhabited D3] [Inhabited Dd] [Inhabited Dn] [Inhabited OpV]

theorem zero37 : ∀ w, (zeroValue 74).run Tryz.prog w = .ok (.agg #[.int .i64 0, .int .i64 0, .int .i64 0, .int .i64 0, .int .i64 0, .bool false, .slice none 0 0, .int .i64 0, .slice none 0 0]) w := Tryz.zeroValue74
end Go.Proofs.YtepnghacjggkkaaGreatDoor
namespace Go.Proofs.YtepnghacjggkkaaGreatDoor
open Go.RowKit Go.Maps
set_option maxRecDepth 100000
set_option linter.unusedSectionVars false
variable [Inhabited ComV] [DecidableEq D3] [Inhabited D3] [Inhabited Dd] [Inhabited Dn] [Inhabited OpV]

theorem keyed3 : Keyed Tryz.prog 3 := int_keyed Tryz.underlying3
def num (k : Int) : Prop := -2000 ≤ k ∧ k ≤ 2000
theorem key_lit (k : Int) : WideAt.IsKeyLit (Lit.int .i64 k) := trivial
theorem lit_inj {a b : Int} (h : (Lit.int .i64 a) = .int .i64 b) : a = b := by
  injection h
end Go.Proofs.YtepnghacjggkkaaGreatDoor
namespace Go.Proofs.YtepnghacjggkkaaGreatDoor
open Go.RowKit Go.Sort Go.Maps
set_option maxRecDepth 100000
set_option linter.unusedSectionVars false
variable [Inhabited ComV] [DecidableEq D3] [Inhabited D3] [Inhabited Dd] [Inhabited Dn] [Inhabited OpV]

def RowT (t : TypeId) (k : Nat) (w : World) (v : Value) (rows : List (List Value)) : Prop :=
  ∃ ad cap, v = .slice ad rows.length cap ∧ (ad = none → cap = 0) ∧ rows.length ≤ cap ∧ (rows = [] ∨ ∃ b off cs, ad = some ⟨b, off, none⟩ ∧ w.heap[b]? = some (.cells cs t (0, 0)) ∧ ∀ j r, rows[j]? = some r → r.length = k ∧ ∀ i u, r[i]? = some u → cs[off + j * k + i]? = some u)
theorem RowT.at {t : TypeId} {k : Nat} {w : World} {v : Value} {rows : List (List Value)} (h : RowT t k w v rows) : RowAt k w v rows := by
  obtain ⟨ad, cap, rfl, h1, h2, h3⟩ := h
  refine ⟨ad, cap, rfl, h1, h2, ?_⟩
  rcases h3 with h | ⟨b, off, cs, rfl, hh, h⟩
  · exact .inl h
  · refine .inr ⟨b, off, rfl, fun j r hr => ⟨(h j r hr).1, fun i u hu => ?_⟩⟩
    simp only [World.cell?, hh]
    rw [(h j r hr).2 i u hu]
    simp
def KeepT (t : TypeId) (w w' : World) : Prop := ∀ (b : Nat) (cs : Array Value), w.heap[b]? = some (.cells cs t (0, 0)) → w'.heap[b]? = w.heap[b]?
theorem RowT.kept {t : TypeId} {k : Nat} {w w' : World} {v : Value} {rows : List (List Value)} (h : RowT t k w v rows) (hk : KeepT t w w') : RowT t k w' v rows := by
  obtain ⟨ad, cap, rfl, h1, h2, h3⟩ := h
  refine ⟨ad, cap, rfl, h1, h2, ?_⟩
  rcases h3 with h | ⟨b, off, cs, rfl, hh, h⟩
  · exact .inl h
  · exact .inr ⟨b, off, cs, rfl, by rw [hk b cs hh]; exact hh, h⟩
theorem rowT_of_owns {w : World} {base e k : Nat} {v : Value} {n : Nat} {rows : List (List Value)} (h : w.ownsRow base e k v n rows.flatten) (hn : n = rows.length) (hk : ∀ r ∈ rows, r.length = k) : RowT e k w v rows := by
  subst hn
  obtain ⟨_, h2⟩ := h
  rcases h2 with ⟨rfl, h0⟩ | ⟨g, cap, cur, rfl, _, hh, hc, _, hs, ht⟩
  · obtain rfl := List.eq_nil_of_length_eq_zero h0
    exact ⟨_, _, rfl, fun _ => rfl, Nat.le_refl _, .inl rfl⟩
  · refine ⟨_, cap, rfl, (fun h => by cases h), hc, .inr ⟨g, 0, cur, rfl, hh, fun j r hr => ?_⟩⟩
    have hj : j < rows.length := (List.getElem?_eq_some_iff.1 hr).1
    have hrm : r ∈ rows := List.mem_of_getElem? hr
    refine ⟨hk r hrm, fun i u hu => ?_⟩
    have hi : i < k := by have := (List.getElem?_eq_some_iff.1 hu).1; rw [hk r hrm] at this; exact this
    have hfl : ∀ (rows : List (List Value)) (j : Nat) (r : List Value), (∀ r ∈ rows, r.length = k) → rows[j]? = some r → ∀ i u, i < k → r[i]? = some u → rows.flatten[j * k + i]? = some u := by
      intro rows
      induction rows with
      | nil => intro j r _ h; simp at h
      | cons x rest ih =>
        intro j r hk h i u hi hu
        have hx := hk x (List.mem_cons_self ..)
        rw [List.flatten_cons]
        cases j with
        | zero =>
          simp at h
          subst h
          rw [List.getElem?_append_left (by omega), Nat.zero_mul, Nat.zero_add]
          exact hu
        | succ j =>
          rw [List.getElem?_append_right (by rw [hx, Nat.add_mul]; omega), hx, show (j + 1) * k + i - k = j * k + i by rw [Nat.add_mul]; omega]
          exact ih j r (fun r hr => hk r (List.mem_cons_of_mem _ hr)) (by simpa using h) i u hi hu
    have e := hfl rows j r hk hr i u hi hu
    have hb : j * k + i < rows.length * k := by
      have : (j + 1) * k ≤ rows.length * k := Nat.mul_le_mul_right k hj
      rw [Nat.add_mul] at this
      omega
    rw [← ht, List.getElem?_take, if_pos hb, Array.getElem?_toList] at e
    rw [Nat.zero_add]
    exact e
def IntsT (w : World) (v : Value) (zs : List Int) : Prop := RowT 3 1 w v (zs.map fun z => [.int .i64 z])
def OpT (w : World) (r : List Value) (o : OpV) : Prop := ∃ dv, r = opCells o dv ∧ RowT 175 3 w dv (o.dots.map D3.cells)
def OpsT (w : World) (v : Value) (os : List OpV) : Prop := ∃ rows, RowT 97 7 w v rows ∧ F2 (OpT w) rows os
def ComT (w : World) (r : List Value) (c : ComV) : Prop := ∃ wv ov, r = [wv, .int .i64 c.place, ov] ∧ IntsT w wv c.when_ ∧ OpsT w ov c.ops
structure Keep3 (w w' : World) : Prop where
  ints : KeepT 3 w w'
  ops : KeepT 97 w w'
  dots : KeepT 175 w w'
theorem Keep3.of_below {w w' : World} {B : Nat} (h : Below B w w') (hB : w.heap.size ≤ B) : Keep3 w w' :=
  ⟨fun b _ hb => h.block b (Nat.lt_of_lt_of_le (lt_of_heap hb) hB), fun b _ hb => h.block b (Nat.lt_of_lt_of_le (lt_of_heap hb) hB), fun b _ hb => h.block b (Nat.lt_of_lt_of_le (lt_of_heap hb) hB)⟩
theorem Keep3.trans {a b c : World} (h1 : Keep3 a b) (h2 : Keep3 b c) : Keep3 a c :=
  ⟨fun k cs hb => (h2.ints k cs ((h1.ints k cs hb).trans hb)).trans (h1.ints k cs hb), fun k cs hb => (h2.ops k cs ((h1.ops k cs hb).trans hb)).trans (h1.ops k cs hb), fun k cs hb => (h2.dots k cs ((h1.dots k cs hb).trans hb)).trans (h1.dots k cs hb)⟩
theorem Keep3.grown {w w' : World} {base n : Nat} {v : Value} {xs : List Value} (hr : w.ownsRow base 47 3 v n xs) (hg : w.grownBy w' v.ownBlock) : Keep3 w w' := by
  have hne : ∀ t : TypeId, t ≠ 47 → KeepT t w w' := fun t ht b cs hb => hg.block b (lt_of_heap hb) fun e => by
    obtain ⟨cs', h'⟩ := own_type hr e.symm
    rw [hb] at h'
    injection h' with h'
    injection h' with _ h'
    exact ht h'
  exact ⟨hne 3 (by decide), hne 97 (by decide), hne 175 (by decide)⟩
theorem OpT.kept {w w' : World} {r : List Value} {o : OpV} (h : OpT w r o) (hk : Keep3 w w') : OpT w' r o :=
  let ⟨dv, h1, h2⟩ := h; ⟨dv, h1, h2.kept hk.dots⟩
theorem OpsT.kept {w w' : World} {v : Value} {os : List OpV} (h : OpsT w v os) (hk : Keep3 w w') : OpsT w' v os :=
  let ⟨rows, h1, h2⟩ := h; ⟨rows, h1.kept hk.ops, f2_mono (fun _ _ h => h.kept hk) h2⟩
theorem ComT.kept {w w' : World} {r : List Value} {c : ComV} (h : ComT w r c) (hk : Keep3 w w') : ComT w' r c :=
  let ⟨wv, ov, h1, h2, h3⟩ := h; ⟨wv, ov, h1, RowT.kept h2 hk.ints, h3.kept hk⟩
theorem IntsT.at {w : World} {v : Value} {zs : List Int} (h : IntsT w v zs) : IntsAt w v zs := by
  obtain ⟨ad, cap, rfl, h1, h2, h3⟩ := RowT.at h
  refine ⟨ad, cap, by rw [List.length_map], h1, ?_⟩
  rcases h3 with hq | ⟨b, off, rfl, hq⟩
  · exact .inl (by simpa using hq)
  · refine .inr ⟨b, off, rfl, fun t ht => ?_⟩
    have := (hq t [.int .i64 (zs.getD t 0)] (by rw [List.getElem?_map, List.getElem?_eq_getElem ht, List.getD_eq_getElem?_getD, List.getElem?_eq_getElem ht]; rfl)).2 0 _ rfl
    rwa [Nat.mul_one, Nat.add_zero] at this
theorem OpsT.at {w : World} {v : Value} {os : List OpV} (h : OpsT w v os) : OpsAt w v os :=
  let ⟨rows, h1, h2⟩ := h; ⟨rows, h1.at, f2_mono (fun _ _ ⟨dv, h3, h4⟩ => ⟨dv, h3, h4.at⟩) h2⟩
theorem ComT.row {w : World} {r : List Value} {c : ComV} (h : ComT w r c) : ComRow w r c :=
  let ⟨wv, ov, h1, h2, h3⟩ := h; ⟨wv, ov, h1, h2.at, h3.at⟩
theorem ComT.len {w : World} {r : List Value} {c : ComV} (h : ComT w r c) : r.length = 3 := by
  obtain ⟨_, _, rfl, _⟩ := h
  rfl
theorem f2_rows {R : List Value → ComV → Prop} (hR : ∀ r c, R r c → r.length = 3) : ∀ {rows : List (List Value)} {cs : List ComV}, F2 R rows cs → ∀ r ∈ rows, r.length = 3
  | [], [], _, r, hr => by simp at hr
  | _ :: _, _ :: _, ⟨h1, h2⟩, r, hr => by
    rcases List.mem_cons.1 hr with rfl | hr
    · exact hR _ _ h1
    · exact f2_rows hR h2 r hr
theorem coms_of_owns {w : World} {base n : Nat} {v : Value} {rows : List (List Value)} {l : List ComV} (h : w.ownsRow base 47 3 v n rows.flatten) (hn : n = l.length) (hf : F2 (ComT w) rows l) : ComsAt w v l :=
  ⟨rows, rowAt_of_owns h (by rw [hn, f2_len hf]) (f2_rows (fun _ _ h => h.len) hf), f2_mono (fun _ _ h => h.row) hf⟩
theorem flat1 (zs : List Int) : (zs.map fun z => [Value.int .i64 z]).flatten = zs.map (Value.int .i64) := by
  induction zs with
  | nil => rfl
  | cons z r ih => rw [List.map_cons, List.flatten_cons, ih]; rfl
theorem intsT_of_owns {w : World} {base : Nat} {v : Value} {zs : List Int} (h : w.ownsRow base 3 1 v zs.length (zs.map (Value.int .i64))) : IntsT w v zs := by
  refine rowT_of_owns (base := base) (n := zs.length) ?_ (by simp) (fun r hr => by obtain ⟨z, _, rfl⟩ := List.mem_map.1 hr; rfl)
  rw [flat1]
  exact h
theorem dotsT_of_owns {w : World} {base : Nat} {v : Value} {ds : List D3} (h : w.ownsRow base 175 3 v ds.length (ds.flatMap D3.cells)) : RowT 175 3 w v (ds.map D3.cells) := by
  refine rowT_of_owns (base := base) (n := ds.length) ?_ (by simp) (fun r hr => by obtain ⟨z, _, rfl⟩ := List.mem_map.1 hr; rfl)
  rw [← List.flatMap_def]
  exact h
end Go.Proofs.YtepnghacjggkkaaGreatDoor
namespace Go.Proofs.YtepnghacjggkkaaGreatDoor
open Go.RowKit Go.Sort Go.Maps
set_option maxRecDepth 100000
set_option linter.unusedSectionVars false
variable [Inhabited ComV] [DecidableEq D3] [Inhabited D3] [Inhabited Dd] [Inhabited Dn] [Inhabited OpV]

theorem Tryz.info28o : (Tryz.prog.info? 47).map (fun i => (i.zero, i.size, i.bytes)) = some (some (.agg #[.slice none 0 0, .int .i64 0, .slice none 0 0]), 3, 56) := by kernel_rfl
structure OwnsInv (w : World) (l : List ComV) (v : Value) (rows : List (List Value)) (wr : World) : Prop where
  below : Below w.heap.size w wr
  row : wr.ownsRow w.heap.size 47 3 v l.length rows.flatten
  coms : F2 (ComT wr) rows l
theorem OwnsInv.start (w : World) : OwnsInv w [] (.slice none 0 0) [] w := ⟨Below.refl _ _, World.ownsRow_nil _ _ _ _, trivial⟩
theorem OwnsInv.moved {w wr w' : World} {l : List ComV} {v : Value} {rows : List (List Value)} (h : OwnsInv w l v rows wr) (hb : Below wr.heap.size wr w') : OwnsInv w l v rows w' where
  below := h.below.trans (hb.mono h.below.size)
  row := owns_below h.row fun b _ hc => hb.block b (lt_of_heap hc)
  coms := f2_mono (fun _ _ h => h.kept (Keep3.of_below hb (Nat.le_refl _))) h.coms
theorem OwnsInv.step {w wr w' : World} {l : List ComV} {v v' : Value} {rows : List (List Value)} {r : List Value} {c : ComV} (h : OwnsInv w l v rows wr) (hc : ComT wr r c) (hg : wr.grownBy w' v.ownBlock) (hr : w'.ownsRow w.heap.size 47 3 v' (l.length + 1) (rows.flatten ++ r)) : OwnsInv w (l ++ [c]) v' (rows ++ [r]) w' where
  below := h.below.trans ⟨hg.os, hg.tape, hg.output, hg.size, fun i hi => hg.block i (Nat.lt_of_lt_of_le hi h.below.size) fun e => by have := (h.row.lt i e.symm).1; omega⟩
  row := by simpa using hr
  coms := f2_append (f2_mono (fun _ _ x => x.kept (Keep3.grown h.row hg)) h.coms) (hc.kept (Keep3.grown h.row hg))
theorem one3v (w1 w2 : Value) (p : Int) (a1 a2 : Option Addr) (l1 c1 l2 c2 : Nat) (e1 : w1 = .slice a1 l1 c1) (e2 : w2 = .slice a2 l2 c2) : ∀ v ∈ [w1, .int .i64 p, w2], v.oneCell' = true := fun v hv => by
  subst e1 e2
  simp only [List.mem_cons, List.not_mem_nil, or_false] at hv
  rcases hv with rfl | rfl | rfl <;> rfl
theorem ComT.shape {w : World} {wv ov : Value} {p : Int} {c : ComV} (h : ComT w [wv, .int .i64 p, ov] c) : (∃ a1 c1, wv = .slice a1 c.when_.length c1) ∧ ∃ a2 c2, ov = .slice a2 c.ops.length c2 := by
  obtain ⟨wv', ov', he, ⟨a1, c1, h1, _⟩, rows, ⟨a2, c2, h2, _⟩, hf⟩ := h
  injection he with e1 e2
  injection e2 with _ e2
  injection e2 with e2
  subst e1 e2
  rw [h1, h2, List.length_map, f2_len hf]
  exact ⟨⟨_, _, rfl⟩, _, _, rfl⟩
end Go.Proofs.YtepnghacjggkkaaGreatDoor
namespace Go.Proofs.YtepnghacjggkkaaGreatDoor
open Go.RowKit Go.Sort Go.Maps
set_option maxRecDepth 100000
set_option linter.unusedSectionVars false
variable [Inhabited ComV] [DecidableEq D3] [Inhabited D3] [Inhabited Dd] [Inhabited Dn] [Inhabited OpV]

def sliceElem : Value → Option (DataW Unit × List MemPlace)
  | .slice (some ⟨g, 0, none⟩) n c => some (.agg [.lit (.int .i64 g), .lit (.int .i64 n), .lit (.int .i64 c)], [])
  | .slice none 0 0 => some (.nil, [])
  | _ => none
def rowDat (v : Value) : DataW Unit := match sliceElem v with
  | some z => z.1
  | none => .nil
theorem sliceElem_inv {v : Value} {z : DataW Unit × List MemPlace} (h : sliceElem v = some z) : (v = .slice none 0 0 ∧ z = (.nil, [])) ∨ ∃ (g n c : Nat), v = .slice (some ⟨g, 0, none⟩) n c ∧ z = (.agg [.lit (.int .i64 g), .lit (.int .i64 n), .lit (.int .i64 c)], []) := by
  unfold sliceElem at h
  split at h
  · exact .inr ⟨_, _, _, rfl, (Option.some.inj h).symm⟩
  · exact .inl ⟨rfl, (Option.some.inj h).symm⟩
  · cases h
theorem sliceElem_inj {v v' : Value} {z z' : DataW Unit × List MemPlace} (h : sliceElem v = some z) (h' : sliceElem v' = some z') (e : z.1 = z'.1) : v = v' := by
  rcases sliceElem_inv h with ⟨rfl, rfl⟩ | ⟨g, n, c, rfl, rfl⟩
  · rcases sliceElem_inv h' with ⟨rfl, rfl⟩ | ⟨g', n', c', rfl, rfl⟩
    · rfl
    · cases e
  · rcases sliceElem_inv h' with ⟨rfl, rfl⟩ | ⟨g', n', c', rfl, rfl⟩
    · cases e
    · simp only [DataW.agg.injEq, List.cons.injEq, DataW.lit.injEq, Lit.int.injEq, true_and, and_true] at e
      obtain ⟨e1, e2, e3⟩ := e
      have e1' : g = g' := by omega
      have e2' : n = n' := by omega
      have e3' : c = c' := by omega
      subst e1' e2' e3'
      rfl
theorem sliceElem_row {w : World} {base e size n : Nat} {v : Value} {xs : List Value} (h : w.ownsRow base e size v n xs) : sliceElem v = some (rowDat v, []) := by
  rcases h.2 with ⟨rfl, _⟩ | ⟨g, cap, cur, rfl, _⟩ <;> rfl
structure St where
  base : List Int
  parts : List ComV
  dots : List D3
def keyOfC (c : ComV) : ByteArray := c.ops[0]!.key
def rowOf (s : St) (k : ByteArray) : List ComV := s.parts.filter fun c => decide (keyOfC c = k)
abbrev klS (k : ByteArray) : Lit := .string k.data.toList
theorem klS_inj {a b : ByteArray} (h : klS a = klS b) : a = b := by
  injection h with h
  exact WideShapes.bytes_inj h
theorem klS_key (k : ByteArray) : WideAt.IsKeyLit (klS k) := trivial
theorem keyed9 : Keyed Tryz.prog 9 := string_keyed Tryz.underlying9
structure VerAt (w : World) (p mb db : Nat) (f : ByteArray → Value) (s : St) (n : Nat) : Prop where
  box : ∃ bv, w.heap[p]? = some (.cells #[bv, .map (some mb), .map (some db)] 133 (0, 0)) ∧ IntsT w bv s.base
  dots : ∃ D : DataW Unit, w.ownsMap Tryz.prog 175 unitElem db n D ∧ ∀ d, wf3 d → Maps.has D (klD d) = decide (d ∈ s.dots)
  map : ∃ D : DataW Unit, w.ownsMap Tryz.prog 9 sliceElem mb n D ∧ ∀ k, Maps.has D (klS k) = decide (rowOf s k ≠ []) ∧ D.atKey (klS k) .nil = rowDat (f k)
  rows : ∀ k, ∃ rows, w.ownsRow 0 47 3 (f k) (rowOf s k).length rows.flatten ∧ F2 (ComT w) rows (rowOf s k)
  apart : ∀ k k', k ≠ k' → ∀ b, (f k).ownBlock = some b → (f k').ownBlock ≠ some b
  ne : mb ≠ db
theorem map_obj {w : World} {k b n : Nat} {R : Value → Option (DataW Unit × List MemPlace)} {D : DataW Unit} (h : w.ownsMap Tryz.prog k R b n D) : ∃ es clock, w.heap[b]? = some (.map es clock) := by
  obtain ⟨es, clock, hb, _⟩ := h
  exact ⟨es, clock, hb⟩
theorem cells_ne_map {w : World} {k b n g : Nat} {R : Value → Option (DataW Unit × List MemPlace)} {D : DataW Unit} {cs : Array Value} {t : TypeId} (h : w.ownsMap Tryz.prog k R b n D) (hg : w.heap[g]? = some (.cells cs t (0, 0))) : g ≠ b := fun e => by
  obtain ⟨es, clock, hb⟩ := map_obj h
  rw [e, hb] at hg
  cases hg
theorem keep3_map {w w' : World} {k b n : Nat} {R : Value → Option (DataW Unit × List MemPlace)} {D : DataW Unit} (h : w.ownsMap Tryz.prog k R b n D) (hg : w.grownBy w' (some b)) : Keep3 w w' := by
  have : ∀ t, KeepT t w w' := fun t i cs hi => hg.block i (lt_of_heap hi) fun e => cells_ne_map h hi (Option.some.inj e)
  exact ⟨this 3, this 97, this 175⟩
theorem intsT_keep {w w' : World} {v : Value} {zs : List Int} (h : IntsT w v zs) (hk : Keep3 w w') : IntsT w' v zs := RowT.kept h hk.ints
theorem f2_keep {w w' : World} {rows : List (List Value)} {l : List ComV} (h : F2 (ComT w) rows l) (hk : Keep3 w w') : F2 (ComT w') rows l := f2_mono (fun _ _ x => x.kept hk) h
theorem VerAt.moved {w w' : World} {p mb db n : Nat} {f : ByteArray → Value} {s : St} (h : VerAt w p mb db f s n) (hb : Below w.heap.size w w') : VerAt w' p mb db f s n := by
  have hk : Keep3 w w' := Keep3.of_below hb (Nat.le_refl _)
  have hg : ∀ b, w.grownBy w' b := fun b => ⟨hb.os, hb.tape, hb.output, hb.size, fun i hi _ => hb.block i hi⟩
  refine ⟨?_, ?_, ?_, fun k => ?_, h.apart, h.ne⟩
  · obtain ⟨bv, h1, h2⟩ := h.box
    exact ⟨bv, by rw [hb.block _ (lt_of_heap h1)]; exact h1, intsT_keep h2 hk⟩
  · obtain ⟨D, h1, h2⟩ := h.dots
    exact ⟨D, h1.kept (hg none) (by simp), h2⟩
  · obtain ⟨D, h1, h2⟩ := h.map
    exact ⟨D, h1.kept (hg none) (by simp), h2⟩
  · obtain ⟨rows, h1, h2⟩ := h.rows k
    exact ⟨rows, owns_below h1 fun b _ hc => hb.block b (lt_of_heap hc), f2_keep h2 hk⟩
theorem VerAt.addDot {w w' : World} {p mb db n : Nat} {f : ByteArray → Value} {s : St} (h : VerAt w p mb db f s n) {D : DataW Unit} (h1 : w.ownsMap Tryz.prog 175 unitElem db n D) (h2 : ∀ d, wf3 d → Maps.has D (klD d) = decide (d ∈ s.dots)) {d : D3} (hd : wf3 d)
    (hg : w.grownBy w' (some db)) (hm : w'.ownsMap Tryz.prog 175 unitElem db (n + 1) (D.put (klD d) (.agg []))) : VerAt w' p mb db f ⟨s.base, s.parts, s.dots ++ [d]⟩ (n + 1) := by
  have hk : Keep3 w w' := keep3_map h1 hg
  refine ⟨?_, ⟨_, hm, fun e he => ?_⟩, ?_, fun k => ?_, h.apart, h.ne⟩
  · obtain ⟨bv, e1, e2⟩ := h.box
    exact ⟨bv, by rw [hg.block _ (lt_of_heap e1) (fun e => cells_ne_map h1 e1 (Option.some.inj e))]; exact e1, intsT_keep e2 hk⟩
  · by_cases e1 : d = e
    · subst e1
      rw [has_put_same h1.isMap (klD_key _)]
      simp
    · rw [has_put_other (fun x => e1 (klD_inj he hd x).symm), h2 e he]
      simp only [decide_eq_decide, List.mem_append, List.mem_singleton]
      exact ⟨.inl, fun x => x.resolve_right fun y => e1 y.symm⟩
  · obtain ⟨D', e1, e2⟩ := h.map
    exact ⟨D', (e1.kept hg (fun e => h.ne (Option.some.inj e))).mono (Nat.le_succ _), e2⟩
  · obtain ⟨rows, e1, e2⟩ := h.rows k
    refine ⟨rows, owns_below e1 fun b _ hc => hg.block b (lt_of_heap hc) fun e => cells_ne_map h1 hc (Option.some.inj e), f2_keep e2 hk⟩
def updF (f : ByteArray → Value) (k : ByteArray) (v : Value) : ByteArray → Value := fun k' => if k' = k then v else f k'
theorem rowOf_add (s : St) (c : ComV) (k : ByteArray) : rowOf ⟨s.base, s.parts ++ [c], s.dots⟩ k = if keyOfC c = k then rowOf s k ++ [c] else rowOf s k := by
  unfold rowOf
  rw [List.filter_append]
  split
  · rename_i h; simp [h]
  · rename_i h; simp [h]
theorem VerAt.addPart {w w5 w6 : World} {p mb db n : Nat} {f : ByteArray → Value} {s : St} (h : VerAt w p mb db f s n) {D : DataW Unit} (hD : w.ownsMap Tryz.prog 9 sliceElem mb n D) (hs : ∀ k, Maps.has D (klS k) = decide (rowOf s k ≠ []) ∧ D.atKey (klS k) .nil = rowDat (f k))
    {c : ComV} {rows : List (List Value)} {r : List Value} {v' : Value} (hrow : w.ownsRow 0 47 3 (f (keyOfC c)) (rowOf s (keyOfC c)).length rows.flatten) (hF : F2 (ComT w) rows (rowOf s (keyOfC c))) (hc : ComT w r c)
    (hg5 : w.grownBy w5 (f (keyOfC c)).ownBlock) (hr5 : w5.ownsRow 0 47 3 v' ((rowOf s (keyOfC c)).length + 1) (rows.flatten ++ r)) (hloc : v'.ownBlock = (f (keyOfC c)).ownBlock ∨ v'.ownBlock = some w.heap.size)
    (hg6 : w5.grownBy w6 (some mb)) (hm6 : w6.ownsMap Tryz.prog 9 sliceElem mb (n + 1) (D.put (klS (keyOfC c)) (rowDat v'))) : VerAt w6 p mb db (updF f (keyOfC c) v') ⟨s.base, s.parts ++ [c], s.dots⟩ (n + 1) := by
  have hk5 : Keep3 w w5 := Keep3.grown hrow hg5
  have other : ∀ (b : Nat) (o : Obj), w.heap[b]? = some o → (∀ cs, o ≠ .cells cs 47 (0, 0)) → w5.heap[b]? = w.heap[b]? := fun b o hb ho => hg5.block b (by
    rcases Nat.lt_or_ge b w.heap.size with h' | h'
    · exact h'
    · rw [Array.getElem?_eq_none h'] at hb; cases hb) fun e => by
      obtain ⟨cs, hcs⟩ := own_type hrow e.symm
      rw [hb] at hcs
      exact ho cs (Option.some.inj hcs)
  have hD5 : w5.ownsMap Tryz.prog 9 sliceElem mb n D := by
    refine hD.kept hg5 fun e => ?_
    obtain ⟨cs, hcs⟩ := own_type hrow e.symm
    exact cells_ne_map hD hcs rfl
  have hk6 : Keep3 w5 w6 := keep3_map hD5 hg6
  have hk : Keep3 w w6 := hk5.trans hk6
  have cells6 : ∀ (b : Nat) (cs : Array Value) (t : TypeId), w5.heap[b]? = some (.cells cs t (0, 0)) → w6.heap[b]? = w5.heap[b]? := fun b cs t hb => hg6.block b (lt_of_heap hb) fun e => cells_ne_map hD5 hb (Option.some.inj e)
  refine ⟨?_, ?_, ⟨_, hm6, fun k => ?_⟩, fun k => ?_, fun k k' hkk b hb => ?_, h.ne⟩
  · obtain ⟨bv, e1, e2⟩ := h.box
    have e5 := other p _ e1 (fun cs e => by injection e with _ e; cases e)
    exact ⟨bv, by rw [cells6 p _ _ (e5.trans e1), e5]; exact e1, intsT_keep e2 hk⟩
  · obtain ⟨D', e1, e2⟩ := h.dots
    refine ⟨D', ((e1.kept hg5 fun e => ?_).kept hg6 fun e => h.ne (Option.some.inj e).symm).mono (Nat.le_succ _), e2⟩
    obtain ⟨cs, hcs⟩ := own_type hrow e.symm
    exact cells_ne_map e1 hcs rfl
  · rw [rowOf_add]
    by_cases e : keyOfC c = k
    · subst e
      rw [has_put_same hD.isMap (klS_key _), atKey_put_same hD.isMap (klS_key _), if_pos rfl]
      unfold updF
      rw [if_pos rfl]
      exact ⟨by simp, rfl⟩
    · rw [has_put_other (fun x => e (klS_inj x).symm), atKey_put_other (fun x => e (klS_inj x).symm), if_neg e]
      unfold updF
      rw [if_neg (fun x => e x.symm)]
      exact hs k
  · rw [rowOf_add]
    unfold updF
    by_cases e : keyOfC c = k
    · subst e
      rw [if_pos rfl, if_pos rfl]
      refine ⟨rows ++ [r], ?_, f2_append (f2_keep hF hk) (hc.kept hk)⟩
      have : w6.ownsRow 0 47 3 v' ((rowOf s (keyOfC c)).length + 1) (rows.flatten ++ r) := owns_below hr5 fun b cs hb => cells6 b cs _ hb
      simpa using this
    · rw [if_neg e, if_neg (fun x => e x.symm)]
      obtain ⟨rs, e1, e2⟩ := h.rows k
      refine ⟨rs, ?_, f2_keep e2 hk⟩
      have h5 : w5.ownsRow 0 47 3 (f k) (rowOf s k).length rs.flatten := e1.kept hg5 (by
        cases hb : (f k).ownBlock with
        | none => exact .inl rfl
        | some b => exact .inr fun x => h.apart k (keyOfC c) (fun y => e y.symm) b hb x.symm)
      exact owns_below h5 fun b cs hb => cells6 b cs _ hb
  · unfold updF at hb ⊢
    by_cases e : k = keyOfC c
    · rw [if_pos e] at hb
      rw [if_neg (fun x => hkk (e.trans x.symm))]
      intro hb'
      rcases hloc with hl | hl
      · rw [hl] at hb
        exact h.apart (keyOfC c) k' (fun x => hkk (e.trans x)) b hb hb'
      · rw [hl] at hb
        obtain ⟨rs, e1, _⟩ := h.rows k'
        have := (e1.lt b hb').2
        have hb2 := Option.some.inj hb
        omega
    · rw [if_neg e] at hb
      by_cases e' : k' = keyOfC c
      · rw [if_pos e']
        intro hb'
        rcases hloc with hl | hl
        · rw [hl] at hb'
          exact h.apart k (keyOfC c) e b hb hb'
        · rw [hl] at hb'
          obtain ⟨rs, e1, _⟩ := h.rows k
          have := (e1.lt b hb).2
          have hb2 := Option.some.inj hb'
          omega
      · rw [if_neg e']
        exact h.apart k k' hkk b hb
end Go.Proofs.YtepnghacjggkkaaGreatDoor
