/- What a receiver keeps of so many beats: plain mathematics; sent: a beat goes out; A sender, a row of what it sent, a receiver: what the walks of the laws carry; Ops, commits and messages in memory, and in rows of one's own; A message's nine cells, whatever it holds; rows of them; slices.Delete, from the front, of a row of messages of one's own. -/
import Derived.Test.YtefpnojanldkeaaGreatDoorJSCome
import Derived.Test.YtefpnojanldkeaaGreatDoorJVOnceM
import Derived.Test.YtefpnojanldkeaaGreatDoorJVStandM
import Derived.Test.YtefpnojanldkeaaGreatDoorJVRefN
import Derived.Test.YtefpnojanldkeaaGreatDoorJSDel
import Derived.Test.YtefpnojanldkeaaGreatDoorJWPutN
import Derived.Test.YtefpnojanldkeaaGreatDoorJVOwnM
import Derived.Test.YtefpnojanldkeaaGreatDoorJWState
import Derived.Test.YtefpnojanldkeaaGreatDoorJVOp
import Derived.Test.YtefpnojanldkeaaGreatDoorJVVec
import Derived.Test.YtefpnojanldkeaaGreatDoorJVMap
import Derived.Test.YtefpnojanldkeaaGreatDoorJVRow
import Derived.Test.YtefpnojanldkeaaGreatDoorJWMath
import Derived.Laws.IdiomCopy
import Derived.Laws.ResultCell
namespace Go.Proofs.YtefpnojanldkeaaGreatDoor
open Go.RowKit Go.Maps
set_option maxRecDepth 100000
set_option linter.unusedSectionVars false
variable [Inhabited ComV] [DecidableEq D3] [Inhabited D3] [Inhabited Dd] [Inhabited Dn] [Inhabited OpV]

/-- What is kept, where c of n have come: numbers above c, each with its time; the next one is not there. -/
structure Kept (n c : Nat) (M : Int → Option Int) : Prop where
  cn : c ≤ n
  real : ∀ j tm, M j = some tm → (c : Int) < j ∧ j ≤ (n : Int) ∧ tm = j - 1
  next : M ((c : Int) + 1) = none
theorem Kept.start (n : Nat) : Kept n 0 fun _ => none := ⟨Nat.zero_le _, (fun _ _ h => by cases h), rfl⟩
/-- All of 1 to m have come, or are kept. -/
def Heard (m c : Nat) (M : Int → Option Int) : Prop := ∀ j : Int, 1 ≤ j → j ≤ (m : Int) → j ≤ (c : Int) ∨ (M j).isSome = true
theorem Kept.all {n c : Nat} {M : Int → Option Int} (h : Kept n c M) (ha : Heard n c M) : c = n := by
  have := h.cn
  by_cases q : c = n
  · exact q
  · rcases ha ((c : Int) + 1) (by omega) (by omega) with h1 | h1
    · omega
    · rw [h.next] at h1; cases h1
/-- What is sent: number i + 1 at time i. -/
def sentL (n : Nat) : List (Int × Int) := (List.range n).map fun i : Nat => ((i : Int) + 1, (i : Int))
theorem sentL_succ (n : Nat) : sentL (n + 1) = sentL n ++ [((n : Int) + 1, (n : Int))] := by simp [sentL, List.range_succ]
end Go.Proofs.YtefpnojanldkeaaGreatDoor
namespace Go.Proofs.YtefpnojanldkeaaGreatDoor
open Go.RowKit Go.Maps
set_option maxRecDepth 100000
set_option linter.unusedSectionVars false
variable [Inhabited ComV] [DecidableEq D3] [Inhabited D3] [Inhabited Dd] [Inhabited Dn] [Inhabited OpV]

theorem snd_start {w : World} {g : Nat} {f t s : Int} (h : SndBox w g f t s 0 0 (.slice none 0 0)) : Snd w g f t s 0 0 (.slice none 0 0) [] := ⟨h, World.ownsRow_nil _ _ _ _⟩
end Go.Proofs.YtefpnojanldkeaaGreatDoor
namespace Go.Proofs.YtefpnojanldkeaaGreatDoor
open Go.RowKit Go.Maps
set_option maxRecDepth 100000
set_option linter.unusedSectionVars false
variable [Inhabited ComV] [DecidableEq D3] [Inhabited D3] [Inhabited Dd] [Inhabited Dn] [Inhabited OpV]

/-- w: the world of the call. B: what lies at B or above is a row. g: the sender, g2: the receiver, mb: its map; a: so many were sent; b: so many lie in the row xv; c have come, M is kept. -/
structure Com (w : World) (B g g2 mb : Nat) (f t s : Int) (a b q : Nat) (c : Int) (M : Int → Option Int) (sv xv : Value) (wr : World) : Prop where
  g0 : w.heap.size ≤ g
  g1 : g < B
  h0 : w.heap.size ≤ g2
  h1 : g2 < B
  m0 : w.heap.size ≤ mb
  m1 : mb < B
  n1 : g ≠ g2
  n2 : g ≠ mb
  n3 : g2 ≠ mb
  bs : B ≤ wr.heap.size
  snd : ∃ tm, 0 ≤ tm ∧ tm ≤ (a : Int) ∧ Snd wr g f t s a tm sv (sentL a)
  sb : ∀ k, sv.ownBlock = some k → B ≤ k
  row : wr.ownsRow B 44 9 xv b (beats f t s (sentL b))
  apart : ∀ k, sv.ownBlock = some k → xv.ownBlock ≠ some k
  rcv : ∃ tm, Rcv wr g2 mb q f t s c tm M
  below : Below w.heap.size w wr
theorem Rcv.mlt {w : World} {g mb n : Nat} {f t s seq time : Int} {M : Int → Option Int} (h : Rcv w g mb n f t s seq time M) : mb < w.heap.size := by obtain ⟨D, hm, _⟩ := h.map; exact hm.lt
theorem Com.moved {w : World} {B g g2 mb : Nat} {f t s : Int} {a b q : Nat} {c : Int} {M : Int → Option Int} {sv xv : Value} {wr w' : World} (h : Com w B g g2 mb f t s a b q c M sv xv wr) (hb : Below wr.heap.size wr w') : Com w B g g2 mb f t s a b q c M sv xv w' := by
  obtain ⟨g0, g1, h0, h1, m0, m1, n1, n2, n3, bs, ⟨tm, t0, t1, snd⟩, sb, row, apart, ⟨tr, rcv⟩, below⟩ := h
  exact ⟨g0, g1, h0, h1, m0, m1, n1, n2, n3, Nat.le_trans bs hb.size, ⟨tm, t0, t1, snd.moved hb⟩, sb, owns_at row fun k _ h2 => hb.block k h2, apart, ⟨tr, rcv.moved (hb.block _ (lt_of_heap rcv.box)) (hb.block _ rcv.mlt)⟩, below.trans (hb.mono below.size)⟩
/-- Once more the sender sends. -/
theorem Com.beat {w : World} {B g g2 mb : Nat} {f t s : Int} {a b q : Nat} {c : Int} {M : Int → Option Int} {sv sv' xv : Value} {wr w' : World} (h : Com w B g g2 mb f t s a b q c M sv xv wr) (hs : Snd w' g f t s ((a : Int) + 1) a sv' (sentL a ++ [((a : Int) + 1, (a : Int))])) (ho : OnlyS g sv wr w') (hv : sv'.ownBlock = sv.ownBlock ∨ ∃ k, sv'.ownBlock = some k ∧ wr.heap.size ≤ k) :
    Com w B g g2 mb f t s (a + 1) b q c M sv' xv w' := by
  obtain ⟨g0, g1, h0, h1, m0, m1, n1, n2, n3, bs, ⟨tm, t0, t1, snd⟩, sb, row, apart, ⟨tr, rcv⟩, below⟩ := h
  have hr : ∀ k, k < B → sv.ownBlock ≠ some k := fun k hk e => by have := sb k e; omega
  refine ⟨g0, g1, h0, h1, m0, m1, n1, n2, n3, Nat.le_trans bs ho.size, ⟨a, by omega, by omega, ?_⟩, fun k hk => ?_, ?_, fun k hk => ?_, ⟨tr, rcv.moved (ho.block _ (lt_of_heap rcv.box) n1.symm (hr _ h1)) (ho.block _ rcv.mlt n2.symm (hr _ m1))⟩, ⟨ho.os.trans below.os, ho.tape.trans below.tape, ho.output.trans below.output, Nat.le_trans below.size ho.size, fun k hk => (ho.block k (Nat.lt_of_lt_of_le hk below.size) (by omega) (hr k (by omega))).trans (below.block k hk)⟩⟩
  · rw [sentL_succ]; exact hs
  · rcases hv with hv | ⟨j, hv, hj⟩
    · exact sb k (hv.symm.trans hk)
    · have := Option.some.inj (hv.symm.trans hk); omega
  · refine owns_own row fun k hk => ?_
    have hl := row.lt k hk
    exact ho.block k hl.2 (by omega) fun e => apart k e hk
  · rcases hv with hv | ⟨j, hv, hj⟩
    · exact apart k (hv.symm.trans hk)
    · intro e
      have h3 := Option.some.inj (hv.symm.trans hk)
      have hl := row.lt k e
      omega
/-- What was sent is put behind the row. -/
theorem Com.put {w : World} {B g g2 mb : Nat} {f t s : Int} {a b q : Nat} {c : Int} {M : Int → Option Int} {sv xv xv' : Value} {wr w' : World} {o : Obj} (h : Com w B g g2 mb f t s a b q c M sv xv wr) (hr : w'.ownsRow B 44 9 xv' (b + 1) (beats f t s (sentL b) ++ beat9 f t s ((b : Int) + 1) b)) (hg : (wr.alloc o).grownBy w' xv.ownBlock) (hv : xv'.ownBlock = xv.ownBlock ∨ xv'.ownBlock = some (wr.alloc o).heap.size) :
    Com w B g g2 mb f t s a (b + 1) q c M sv xv' w' := by
  obtain ⟨g0, g1, h0, h1, m0, m1, n1, n2, n3, bs, ⟨tm, t0, t1, snd⟩, sb, row, apart, ⟨tr, rcv⟩, below⟩ := h
  have keep : ∀ k, k < wr.heap.size → xv.ownBlock ≠ some k → w'.heap[k]? = wr.heap[k]? := fun k hk hkv => by
    rw [hg.block k (by simp; omega) hkv.symm, Below.heap_alloc _ _ _ hk]
  have hx : ∀ k, k < B → xv.ownBlock ≠ some k := fun k hk e => by have := (row.lt k e).1; omega
  have hsz : wr.heap.size ≤ w'.heap.size := by have := hg.size; simp at this; omega
  refine ⟨g0, g1, h0, h1, m0, m1, n1, n2, n3, Nat.le_trans bs hsz, ⟨tm, t0, t1, ⟨?_, ?_⟩⟩, sb, ?_, fun k hk => ?_, ⟨tr, rcv.moved (keep _ (lt_of_heap rcv.box) (hx _ h1)) (keep _ rcv.mlt (hx _ m1))⟩, ⟨hg.os.trans below.os, hg.tape.trans below.tape, hg.output.trans below.output, Nat.le_trans below.size hsz, fun k hk => (keep k (Nat.lt_of_lt_of_le hk below.size) (hx k (by omega))).trans (below.block k hk)⟩⟩
  · rw [keep g (by omega) (hx g g1)]; exact snd.box
  · exact owns_own snd.row fun k hk => keep k (snd.row.lt k hk).2 (apart k hk)
  · rw [sentL_succ, beats_snoc]; exact hr
  · rcases hv with hv | hv
    · rw [hv]; exact apart k hk
    · intro e
      have h3 := Option.some.inj (hv.symm.trans e)
      have hl := (snd.row.lt k hk).2
      simp at h3
      omega
theorem Com.start {w w1 w2 : World} {g g2 mb : Nat} {f t s : Int} (hg : w.heap.size ≤ g) (h1 : SndBox w1 g f t s 0 0 (.slice none 0 0)) (hb1 : Below w.heap.size w w1) (hg2 : w1.heap.size ≤ g2) (hm : w1.heap.size ≤ mb) (hne : g2 ≠ mb) (h2 : Rcv w2 g2 mb 0 f t s 0 0 (fun _ => none)) (hb2 : Below w1.heap.size w1 w2) :
    Com w w2.heap.size g g2 mb f t s 0 0 0 0 (fun _ => none) (.slice none 0 0) (.slice none 0 0) w2 := by
  have l1 := lt_of_heap h1
  have l2 := lt_of_heap h2.box
  have l3 := h2.mlt
  have s1 := hb1.size
  have s2 := hb2.size
  exact ⟨hg, by omega, by omega, l2, by omega, l3, by omega, by omega, hne, Nat.le_refl _, ⟨0, by omega, by omega, (snd_start h1).moved hb2⟩, (fun k hk => by cases hk), World.ownsRow_nil _ _ _ _, (fun k hk => by cases hk), ⟨0, h2⟩, hb1.trans (hb2.mono s1)⟩
end Go.Proofs.YtefpnojanldkeaaGreatDoor
namespace Go.Proofs.YtefpnojanldkeaaGreatDoor
open Go.RowKit
set_option maxRecDepth 100000
set_option linter.unusedSectionVars false
variable [Inhabited ComV] [DecidableEq D3] [Inhabited D3] [Inhabited Dd] [Inhabited Dn] [Inhabited OpV]

/-- The shape of a slice of ops, and its op j. -/
theorem OpsAt.shapeS {w : World} {v : Value} {os : List OpV} (h : OpsAt w v os) : ∃ ad cap, v = .slice ad os.length cap ∧ (ad = none → cap = 0) ∧ os.length ≤ cap ∧
    (os = [] ∨ ∃ b off, ad = some ⟨b, off, none⟩ ∧ ∀ j o, os[j]? = some o → ∃ dp dc, DotsAt w (.slice dp o.dots.length dc) o.dots ∧
      w.cell? ⟨b, off + j * 7, none⟩ = some (.int .i64 o.at_) ∧ w.cell? ⟨b, off + j * 7 + 1, none⟩ = some (.string o.key) ∧ w.cell? ⟨b, off + j * 7 + 2, none⟩ = some (.int .i64 o.kind) ∧ w.cell? ⟨b, off + j * 7 + 3, none⟩ = some (.string o.text) ∧
      w.cell? ⟨b, off + j * 7 + 4, none⟩ = some (.int .i64 o.n) ∧ w.cell? ⟨b, off + j * 7 + 5, none⟩ = some (.bool o.rem) ∧ w.cell? ⟨b, off + j * 7 + 6, none⟩ = some (.slice dp o.dots.length dc)) := by
  obtain ⟨rows, ⟨ad, cap, rfl, h1, h2, h3⟩, hf⟩ := h
  have hl := f2_len hf
  refine ⟨ad, cap, by rw [hl], h1, by omega, ?_⟩
  rcases h3 with rfl | ⟨b, off, rfl, h3⟩
  · exact .inl (List.eq_nil_of_length_eq_zero hl.symm)
  · refine .inr ⟨b, off, rfl, fun j o hj => ?_⟩
    obtain ⟨r, hr, dv, rfl, hd⟩ := f2_get hf j o hj
    obtain ⟨dp, dc, rfl⟩ := hd.len
    have hc := (h3 j _ hr).2
    exact ⟨dp, dc, hd, hc 0 _ rfl, hc 1 _ rfl, hc 2 _ rfl, hc 3 _ rfl, hc 4 _ rfl, hc 5 _ rfl, hc 6 _ rfl⟩
theorem ComsAt.shapeS {w : World} {v : Value} {l : List ComV} (h : ComsAt w v l) : ∃ ad cap, v = .slice ad l.length cap ∧ (ad = none → cap = 0) ∧ l.length ≤ cap ∧
    (l = [] ∨ ∃ b off, ad = some ⟨b, off, none⟩ ∧ ∀ j c, l[j]? = some c → ∃ wv ov, IntsAt w wv c.when_ ∧ OpsAt w ov c.ops ∧
      w.cell? ⟨b, off + j * 3, none⟩ = some wv ∧ w.cell? ⟨b, off + j * 3 + 1, none⟩ = some (.int .i64 c.place) ∧ w.cell? ⟨b, off + j * 3 + 2, none⟩ = some ov) := by
  obtain ⟨rows, ⟨ad, cap, rfl, h1, h2, h3⟩, hf⟩ := h
  have hl := f2_len hf
  refine ⟨ad, cap, by rw [hl], h1, by omega, ?_⟩
  rcases h3 with rfl | ⟨b, off, rfl, h3⟩
  · exact .inl (List.eq_nil_of_length_eq_zero hl.symm)
  · refine .inr ⟨b, off, rfl, fun j c hj => ?_⟩
    obtain ⟨r, hr, wv, ov, rfl, hw, ho⟩ := f2_get hf j c hj
    have hc := (h3 j _ hr).2
    exact ⟨wv, ov, hw, ho, hc 0 _ rfl, hc 1 _ rfl, hc 2 _ rfl⟩
/-- A message. -/
structure MsgV where
  frm : Int
  to_ : Int
  shard : Int
  seq : Int
  time : Int
  beat : Bool
  c : ComV
theorem flat_cells : ∀ ds : List D3, (ds.map D3.cells).flatten = ds.flatMap D3.cells
  | [] => rfl
  | d :: ds => by rw [List.map_cons, List.flatten_cons, List.flatMap_cons, flat_cells ds]
theorem dots_of_ownsS {w : World} {base : Nat} {v : Value} {ds : List D3} (h : w.ownsRow base 90 3 v ds.length (ds.flatMap D3.cells)) : DotsAt w v ds := by
  refine rowAt_of_owns (base := base) (e := 90) (n := ds.length) (by rw [flat_cells]; exact h) (by simp) fun r hr => ?_
  obtain ⟨d, _, rfl⟩ := List.mem_map.1 hr
  rfl
theorem dots_oneS (d : D3) : ∀ u ∈ ([.int .i64 d.p, .int .i64 d.t, .int .i64 d.a] : List Value), u.oneCell' = true := fun u hu => by
  simp at hu
  rcases hu with rfl | rfl | rfl <;> rfl
theorem Tryz.info3 : (Tryz.prog.info? 3).map (fun i => (i.zero, i.size, i.bytes)) = some (some (.int .i64 0), 1, 8) := by kernel_rfl
/-- A commit in rows of the call's own. -/
def ComOwn (base : Nat) (w : World) (wv ov : Value) (c : ComV) : Prop := w.ownsRow base 3 1 wv c.when_.length (c.when_.map (Value.int .i64)) ∧ ∃ rows, w.ownsRow base 34 7 ov c.ops.length rows.flatten ∧ F2 (OpOwn base w) rows c.ops
/-- Rows of the types of a commit's own are as they were. -/
def Keeps (w w' : World) : Prop := ∀ t, t = 3 ∨ t = 34 ∨ t = 90 → ∀ (b : Nat) (cs : Array Value), w.heap[b]? = some (.cells cs t (0, 0)) → w'.heap[b]? = w.heap[b]?
theorem ComOwn.kept {base : Nat} {w w' : World} {wv ov : Value} {c : ComV} (h : ComOwn base w wv ov c) (k : Keeps w w') : ComOwn base w' wv ov c :=
  let ⟨h1, rows, h2, h3⟩ := h
  ⟨owns_below h1 (k 3 (.inl rfl)), rows, owns_below h2 (k 34 (.inr (.inl rfl))), f2_mono (fun _ _ h => h.kept (k 90 (.inr (.inr rfl)))) h3⟩
theorem Keeps.below {w w' : World} (h : Below w.heap.size w w') : Keeps w w' := fun _ _ i _ hc => h.block i (lt_of_heap hc)
theorem f2_own_base {base base' : Nat} {w : World} {r : List Value} {o : OpV} (h : OpOwn base w r o) (hb : base' ≤ base) : OpOwn base' w r o :=
  let ⟨dv, h1, h2⟩ := h; ⟨dv, h1, owns_base h2 hb⟩
theorem ComOwn.base {base base' : Nat} {w : World} {wv ov : Value} {c : ComV} (h : ComOwn base w wv ov c) (hb : base' ≤ base) : ComOwn base' w wv ov c :=
  let ⟨h1, rows, h2, h3⟩ := h; ⟨owns_base h1 hb, rows, owns_base h2 hb, f2_mono (fun _ _ h => f2_own_base h hb) h3⟩
theorem one7S (o : OpV) (a : Option Addr) (l c : Nat) : ∀ v ∈ ([.int .i64 o.at_, .string o.key, .int .i64 o.kind, .string o.text, .int .i64 o.n, .bool o.rem, .slice a l c] : List Value), v.oneCell' = true := fun v hv => by
  simp at hv
  rcases hv with rfl | rfl | rfl | rfl | rfl | rfl | rfl <;> rfl
theorem OpOwn.at {base : Nat} {w w' : World} {r : List Value} {o : OpV} (h : OpOwn base w r o) (hk : ∀ g, base ≤ g → g < w.heap.size → w'.heap[g]? = w.heap[g]?) : OpOwn base w' r o :=
  let ⟨dv, h1, h2⟩ := h; ⟨dv, h1, owns_at h2 hk⟩
theorem ComOwn.at {base : Nat} {w w' : World} {wv ov : Value} {c : ComV} (h : ComOwn base w wv ov c) (hk : ∀ g, base ≤ g → g < w.heap.size → w'.heap[g]? = w.heap[g]?) : ComOwn base w' wv ov c :=
  let ⟨h1, rows, h2, h3⟩ := h
  ⟨owns_at h1 hk, rows, owns_at h2 hk, f2_mono (fun _ _ h => h.at hk) h3⟩
theorem OpsAt.len {w : World} {v : Value} {os : List OpV} (h : OpsAt w v os) : ∃ ad cap, v = .slice ad os.length cap := by
  obtain ⟨ad, cap, rfl, _⟩ := h.shapeS
  exact ⟨ad, cap, rfl⟩
theorem IntsAt.len {w : World} {v : Value} {zs : List Int} (h : IntsAt w v zs) : ∃ ad cap, v = .slice ad zs.length cap := by
  obtain ⟨ad, cap, rfl, _⟩ := h
  exact ⟨ad, cap, rfl⟩
theorem owns_ints {w : World} {base : Nat} {v : Value} {zs : List Int} (h : w.ownsRow base 3 1 v zs.length (zs.map (Value.int .i64))) : IntsAt w v zs := by
  rcases h.2 with ⟨rfl, h0⟩ | ⟨g, cap, cur, rfl, _, hh, hc, _, hs, ht⟩
  · obtain rfl := List.eq_nil_of_length_eq_zero h0
    exact ⟨_, _, rfl, fun _ => rfl, .inl rfl⟩
  · refine ⟨_, cap, rfl, (fun h => by cases h), .inr ⟨g, 0, rfl, fun j hj => ?_⟩⟩
    have e : (zs.map (Value.int .i64))[j]? = some (.int .i64 (zs.getD j 0)) := by simp [List.getElem?_map, List.getD_eq_getElem?_getD, List.getElem?_eq_getElem hj]
    rw [← ht, List.getElem?_take, if_pos (by omega), Array.getElem?_toList] at e
    rw [cell_of hh, Nat.zero_add]
    exact e
theorem f2_opRow {base : Nat} {w : World} {rows : List (List Value)} {os : List OpV} (h : F2 (OpOwn base w) rows os) : F2 (OpRow w) rows os := f2_mono (fun _ _ ⟨dv, h1, h2⟩ => ⟨dv, h1, dots_of_ownsS h2⟩) h
theorem rows7 {w : World} : ∀ {rows : List (List Value)} {os : List OpV}, F2 (OpRow w) rows os → ∀ r ∈ rows, r.length = 7
  | [], [], _, _, hr => by simp at hr
  | _ :: _, _ :: _, ⟨⟨_, h1, _⟩, h2⟩, r, hr => by
    rcases List.mem_cons.1 hr with rfl | hr
    · rw [h1]; rfl
    · exact rows7 h2 r hr
theorem ComOwn.ints {base : Nat} {w : World} {wv ov : Value} {c : ComV} (h : ComOwn base w wv ov c) : IntsAt w wv c.when_ := owns_ints h.1
theorem ComOwn.opsAt {base : Nat} {w : World} {wv ov : Value} {c : ComV} (h : ComOwn base w wv ov c) : OpsAt w ov c.ops := by
  obtain ⟨_, rows, h2, h3⟩ := h
  have hf := f2_opRow h3
  exact ⟨rows, rowAt_of_owns h2 (f2_len hf).symm (rows7 hf), hf⟩
end Go.Proofs.YtefpnojanldkeaaGreatDoor
namespace Go.Proofs.YtefpnojanldkeaaGreatDoor
open Go.RowKit
set_option maxRecDepth 100000
set_option linter.unusedSectionVars false
variable [Inhabited ComV] [DecidableEq D3] [Inhabited D3] [Inhabited Dd] [Inhabited Dn] [Inhabited OpV]

/-- Nine cells of a message. -/
structure Raw where
  x1 : Int
  x2 : Int
  x3 : Int
  x4 : Int
  x5 : Int
  x6 : Bool
  a1 : Option Addr
  n1 : Nat
  c1 : Nat
  p : Int
  a2 : Option Addr
  n2 : Nat
  c2 : Nat
def Raw.cells (r : Raw) : List Value := [.int .i64 r.x1, .int .i64 r.x2, .int .i64 r.x3, .int .i64 r.x4, .int .i64 r.x5, .bool r.x6, .slice r.a1 r.n1 r.c1, .int .i64 r.p, .slice r.a2 r.n2 r.c2]
def raws (l : List Raw) : List Value := l.flatMap Raw.cells
theorem raws_snoc (l : List Raw) (r : Raw) : raws (l ++ [r]) = raws l ++ r.cells := by
  unfold raws
  rw [List.flatMap_append]
  simp
theorem raws_len : ∀ l : List Raw, (raws l).length = l.length * 9
  | [] => rfl
  | x :: r => by
    have := raws_len r
    unfold raws at this ⊢
    rw [List.flatMap_cons, List.length_append, this, List.length_cons]
    show 9 + _ = _
    omega
theorem oneR (r : Raw) : ∀ u ∈ r.cells, u.oneCell' = true := fun u hu => by
  simp only [Raw.cells, List.mem_cons, List.not_mem_nil, or_false] at hu
  rcases hu with rfl | rfl | rfl | rfl | rfl | rfl | rfl | rfl | rfl <;> rfl
theorem onesR (l : List Raw) : ∀ u ∈ raws l, u.oneCell' = true := fun u hu => by
  obtain ⟨r, _, h⟩ := List.mem_flatMap.1 hu
  exact oneR r u h
theorem raws_at : ∀ (l : List Raw) (k : Nat) (r : Raw), l[k]? = some r → ∀ j, j < 9 → (raws l)[k * 9 + j]? = r.cells[j]?
  | [], _, _, h, _, _ => by simp at h
  | x :: l, 0, r, h, j, hj => by
    simp at h
    subst h
    unfold raws
    rw [List.flatMap_cons, List.getElem?_append_left (by show 0 * 9 + j < 9; omega), Nat.zero_mul, Nat.zero_add]
  | x :: l, k + 1, r, h, j, hj => by
    have := raws_at l k r (by simpa using h) j hj
    unfold raws at this ⊢
    rw [List.flatMap_cons, List.getElem?_append_right (by show 9 ≤ _; omega), show (k + 1) * 9 + j - x.cells.length = k * 9 + j by show (k + 1) * 9 + j - 9 = _; omega]
    exact this
/-- The cells of message k of a row of them. -/
theorem row_raw {w : World} {base e n' : Nat} {a : Option Addr} {n c : Nat} {l : List Raw} (h : w.ownsRow base e 9 (.slice a n c) n' (raws l)) (hl : l.length = n') {k : Nat} {r : Raw} (hk : l[k]? = some r) :
    ∃ b, a = some ⟨b, 0, none⟩ ∧ (Value.slice a n c).ownBlock = some b ∧ ∀ j u, r.cells[j]? = some u → w.cell? ⟨b, k * 9 + j, none⟩ = some u := by
  subst hl
  have hkl : k < l.length := (List.getElem?_eq_some_iff.1 hk).1
  rcases h.2 with ⟨h1, h0⟩ | ⟨b, cap, cur, hv, _, hh, hc, _, hs, ht⟩
  · omega
  · injection hv with hv _ _
    subst hv
    refine ⟨b, rfl, rfl, fun j u hu => ?_⟩
    have hj : j < 9 := (List.getElem?_eq_some_iff.1 hu).1
    have e := (raws_at l k r hk j hj).trans hu
    have hb : k * 9 + j < l.length * 9 := by omega
    rw [← ht, List.getElem?_take, if_pos hb, Array.getElem?_toList] at e
    rw [cell_of hh]
    exact e
/-- The numbers of the cells are the message's. -/
structure Raw.Nums (r : Raw) (m : MsgV) : Prop where
  x1 : r.x1 = m.frm
  x2 : r.x2 = m.to_
  x3 : r.x3 = m.shard
  x4 : r.x4 = m.seq
  x5 : r.x5 = m.time
  x6 : r.x6 = m.beat
  p : r.p = m.c.place
/-- The cells read as the message m. -/
structure RawAt (w : World) (r : Raw) (m : MsgV) : Prop where
  nums : r.Nums m
  ints : IntsAt w (.slice r.a1 r.n1 r.c1) m.c.when_
  ops : OpsAt w (.slice r.a2 r.n2 r.c2) m.c.ops
theorem RawAt.mono {w w' : World} {r : Raw} {m : MsgV} {B : Nat} (h : RawAt w r m) (hb : Below B w w') (hB : w.heap.size ≤ B) : RawAt w' r m := ⟨h.nums, h.ints.mono hb hB, h.ops.mono hb hB⟩
/-- The same, in rows of one's own. -/
structure RawOwn (base : Nat) (w : World) (r : Raw) (m : MsgV) : Prop where
  nums : r.Nums m
  own : ComOwn base w (.slice r.a1 r.n1 r.c1) (.slice r.a2 r.n2 r.c2) m.c
theorem RawOwn.at_ {base : Nat} {w : World} {r : Raw} {m : MsgV} (h : RawOwn base w r m) : RawAt w r m := ⟨h.nums, h.own.ints, h.own.opsAt⟩
theorem RawOwn.kept {base : Nat} {w w' : World} {r : Raw} {m : MsgV} (h : RawOwn base w r m) (hk : Keeps w w') : RawOwn base w' r m := ⟨h.nums, h.own.kept hk⟩
theorem RawOwn.base {base base' : Nat} {w : World} {r : Raw} {m : MsgV} (h : RawOwn base w r m) (hb : base' ≤ base) : RawOwn base' w r m := ⟨h.nums, h.own.base hb⟩
theorem Keeps.refl (w : World) : Keeps w w := fun _ _ _ _ _ => rfl
theorem Keeps.trans {u v w : World} (h : Keeps u v) (k : Keeps v w) : Keeps u w := fun t ht b cs hc => (k t ht b cs ((h t ht b cs hc).trans hc)).trans (h t ht b cs hc)
theorem Keeps.bel {w w' : World} (h : Below w.heap.size w w') : Keeps w w' := fun _ _ b _ hc => h.block b (lt_of_heap hc)
end Go.Proofs.YtefpnojanldkeaaGreatDoor
namespace Go.Proofs.YtefpnojanldkeaaGreatDoor
open Go.RowKit
set_option maxRecDepth 100000
set_option linter.unusedSectionVars false
variable [Inhabited ComV] [DecidableEq D3] [Inhabited D3] [Inhabited Dd] [Inhabited Dn] [Inhabited OpV]

theorem raws_drop : ∀ (l : List Raw) (j : Nat), raws (l.drop j) = (raws l).drop (j * 9)
  | l, 0 => by simp
  | [], j + 1 => by simp [raws]
  | x :: l, j + 1 => by
    have := raws_drop l j
    rw [List.drop_succ_cons, this]
    unfold raws
    rw [List.flatMap_cons, show (j + 1) * 9 = x.cells.length + j * 9 by show _ = 9 + _; omega, ← List.drop_drop, List.drop_left]
set_option maxHeartbeats 4000000 in
theorem delete_raw (w : World) (base b cap j n : Nat) (l : List Raw) (h : w.ownsRow base 44 9 (.slice (some ⟨b, 0, none⟩) n cap) l.length (raws l)) (hn : n = l.length) (hj0 : 0 < j) (hj : j ≤ n) (hn1 : n ≤ 1000) :
    Calls Tryz.prog 63 #[.slice (some ⟨b, 0, none⟩) n cap, .int .i64 0, .int .i64 j] w fun e w' => e = .returned (.slice (some ⟨b, 0, none⟩) (n - j) cap) ∧ w'.ownsRow base 44 9 (.slice (some ⟨b, 0, none⟩) (n - j) cap) (l.drop j).length (raws (l.drop j)) ∧ OnlyB b w w' := by
  obtain ⟨i37, hi, hz0, hz1, hz2⟩ := info_parts Tryz.info44
  obtain ⟨hlen, h2⟩ := h
  rcases h2 with ⟨h2, _⟩ | ⟨g, cap', cur, hv, hbase, hh, hnc, hcm, hsz, htk⟩
  · cases h2
  injection hv with hv hva hcap
  injection hv with hv
  injection hv with hv hvb hvc
  subst hv hcap
  clear hva hvb hvc
  rw [← hn] at hnc htk
  have hbl := raws_len l
  -- what is laid over the front
  obtain ⟨news, hnews⟩ : ∃ news, news = raws (l.drop j) := ⟨_, rfl⟩
  have hnl : news.length = (n - j) * 9 := by rw [hnews, raws_len, List.length_drop, ← hn]
  have hcur : ∀ i, i < n * 9 → cur[i]? = (raws l)[i]? := fun i hi => by
    rw [← htk, List.getElem?_take, if_pos hi, Array.getElem?_toList]
  have hnc1 : ∀ q u, news[q]? = some u → w.drew.cell? ((⟨b, j * 9, none⟩ : Addr).add q) = some u := fun q u hq => by
    have hql : q < (n - j) * 9 := by have := (List.getElem?_eq_some_iff.1 hq).1; omega
    rw [Addr.add_lit]
    show w.cell? ⟨b, j * 9 + q, none⟩ = _
    rw [cell_of hh, hcur _ (by omega), ← hq, hnews, raws_drop, List.getElem?_drop]
  have hsp : ∀ q, q < news.length → (w.drew.cell? ⟨b, 0 + 0 * 9 + q, none⟩).isSome = true ∧ w.drew.frozen? ⟨b, 0 + 0 * 9 + q, none⟩ = false := fun q hq => by
    refine ⟨?_, free_of hh⟩
    show (w.cell? ⟨b, 0 + 0 * 9 + q, none⟩).isSome = true
    have : 0 + 0 * 9 + q < cur.size := by rw [hsz]; have : n * 9 ≤ cap * 9 := Nat.mul_le_mul_right 9 hnc; omega
    rw [cell_of hh, Array.getElem?_eq_getElem this]
    rfl
  obtain ⟨c1, r1, r2, r3, r4⟩ := row_sets news (0 + 0 * 9) w.drew cur hh
  obtain ⟨w1, hw1⟩ : ∃ w1, w1 = w.drew.setCells b (0 + 0 * 9) news := ⟨_, rfl⟩
  have O1 : Hid (OnlyB b w w1) := by show OnlyB _ _ _; rw [hw1]; exact OnlyB.drew.sets _ _
  rw [← hw1] at r1
  obtain ⟨vs, hvs⟩ : ∃ vs, vs = (Builtin.zeroCells (Value.cells (.agg #[.int .i64 0, .int .i64 0, .int .i64 0, .int .i64 0, .int .i64 0, .bool false, .slice none 0 0, .int .i64 0, .slice none 0 0])) j).toList := ⟨_, rfl⟩
  have hvl : vs.length = j * 9 := by rw [hvs]; simp [Builtin.zeroCells, Value.cells]; try omega
  have hcc : n * 9 ≤ cap * 9 := Nat.mul_le_mul_right 9 hnc
  have hcl : ∀ ty, (Builtin.clear_ #[37] ty #[.slice (some ⟨b, (n - j) * 9, none⟩) j (cap - (n - j))]).run Tryz.prog w1 = .ok (.tuple #[]) (w1.setCells b ((n - j) * 9) vs) := fun ty =>
    run_clear_k w1 37 44 ty _ Tryz.underlying37 zero37 b ((n - j) * 9) j (cap - (n - j)) hj0 vs hvs.symm (by rw [hvs]; exact zeros9_one _) (fun q hq => by
      rw [cell_of r1, Array.getElem?_eq_getElem (by rw [r2, hsz]; omega)]; rfl) (fun q _ => free_of r1)
  obtain ⟨c2, t1, t2, t3, t4⟩ := row_sets vs ((n - j) * 9) w1 c1 r1
  have FIN : Hid ((w1.setCells b ((n - j) * 9) vs).ownsRow base 44 9 (.slice (some ⟨b, 0, none⟩) (n - j) cap) (l.drop j).length (raws (l.drop j))) := by
    have hdl : (l.drop j).length = n - j := by rw [List.length_drop, ← hn]
    refine ⟨raws_len _, .inr ⟨b, cap, c2, by rw [hdl], hbase, t1, by omega, hcm, by rw [t2, r2, hsz], ?_⟩⟩
    rw [hdl]
    apply List.ext_getElem?
    intro i
    rw [List.getElem?_take]
    split
    · next hi =>
      rw [Array.getElem?_toList, t3 i (.inl hi), ← hnews]
      have := r4 i (by rw [hnl]; exact hi) (by rw [hsz]; omega)
      rw [← this]
      congr 1
      omega
    · next hi =>
      rw [← hnews, List.getElem?_eq_none (by rw [hnl]; omega)]
  have OF : Hid (OnlyB b w (w1.setCells b ((n - j) * 9) vs)) := O1.out.sets _ _
  have HW1 := hid hw1
  have hone : ∀ u ∈ news, u.oneCell' = true := by rw [hnews]; exact onesR _
  have i1 : (j : Int) ≤ (n : Int) := by omega
  have i2 : (n : Int) ≤ (cap : Int) := by omega
  have i3 : ((0 : Int) == (j : Int)) = false := beq_eq_false_iff_ne.2 (by omega)
  have i4 : ((j : Int)).toNat = j := by omega
  have HN := hid hn
  clear hn hw1 hvs hvl r1 r2 r3 r4 t1 t2 t3 t4 hnews hcur hbl htk hh hlen
  go_enter Tryz.func63, Tryz.ntmps63
  go_upto_region 5 with (fail)
  have HW0 : Hid (w1 = w.drew.setCells b 0 news) := HW1.out
  by_cases hcj : cap = j
  · subst hcj
    have hne : n = cap := by omega
    subst hne
    have hnil : news = [] := List.eq_nil_of_length_eq_zero (by rw [hnl]; omega)
    have hnv : ∀ (ad : Addr) (q : Nat) (u : Value), news[q]? = some u → w.drew.cell? (ad.add q) = some u := fun ad q u hq => by rw [hnil] at hq; simp at hq
    obtain ⟨wZ, hwZ⟩ : ∃ wZ, wZ = w1.setCells b ((n - n) * 9) vs := ⟨_, rfl⟩
    rw [← hwZ] at FIN OF
    have hcl0 : ∀ ty, (Builtin.clear_ #[37] ty #[.slice (some ⟨b, 0, none⟩) n n]).run Tryz.prog w1 = .ok (.tuple #[]) wZ := fun ty => by
      have := hcl ty
      rw [← hwZ] at this
      simpa using this
    have hl0 : news.length = 0 * 9 := by rw [hnil]; rfl
    clear hcl hnc1 hnl hnil hwZ
    go_region_law (refine step_append_room rfl _ _ 37 rfl 44 i37 9 Tryz.underlying37 hi hz1 b 0 0 n rfl _ 0 _ news rfl hl0 (hnv _) hone (by omega) hsp ?_)
    first | rw [← HW1.out] | rw [← HW0.out]
    simp only [Act.put, List.setIfInBounds_toArray]
    clear hsp hone
    go_wp2
    go_ret
    exact ⟨by rw [Nat.sub_self]; rfl, FIN.out, OF.out⟩
  · go_region_law (refine step_append_room rfl _ _ 37 rfl 44 i37 9 Tryz.underlying37 hi hz1 b 0 0 cap rfl _ (n - j) _ news rfl hnl hnc1 hone (by omega) hsp ?_)
    first | rw [← HW1.out] | rw [← HW0.out]
    simp only [Act.put, List.setIfInBounds_toArray]
    clear hnc1 hsp hnl hone
    have k1 : ((n - j : Nat) : Int) ≤ (n : Int) := by omega
    have k2 : n - (n - j) = j := by omega
    go_wp2
    go_ret
    exact ⟨rfl, FIN.out, OF.out⟩
end Go.Proofs.YtefpnojanldkeaaGreatDoor
