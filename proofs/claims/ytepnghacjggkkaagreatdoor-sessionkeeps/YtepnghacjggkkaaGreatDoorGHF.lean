/- Copies: appending a whole slice to none; where OwnCommit stands; Ops, commits and messages in memory, and in rows of one's own; HeavyCommit, OwnCommit, WireOf; OwnCommit by its contract; slices.Clone; a message copied; A message copied. -/
import Derived.Test.YtepnghacjggkkaaGreatDoorGSBase
import Derived.Deep.RegionHeld
import Derived.DeepKeys5
import Derived.Ground.SlsfProg
import Derived.Laws.AppendOwnNone
import Derived.Laws.MakeOwn
import Derived.Laws.ResultCell
import Derived.Lib.SlKept
import Derived.Lib.SliceRun
import Derived.Maps.AppendAt
import Derived.Maps.OwnSet
import Derived.Shelf.GgSortFunc.RowK
import Derived.Shelf.SlGeneric
import Derived.Shelf.Slices.CompactS
import Derived.Shelf.Slices.In.SortNone
import Derived.Shelf.SlicesE.DeleteFunc
import Derived.Shelf.SlicesQ.IndexFunc
import Derived.Shelf.Sort.Plain
import Derived.Test.YtepnghacjggkkaaGreatDoorChecked
import Derived.Test.YtepnghacjggkkaaGreatDoorProg
import Derived.Deep.Cut
import Derived.Deep.Fields
import Derived.Deep.RegionHeldLaw
import Derived.Deep.RegionLaw
import Derived.Deep.Slices
import Derived.LaidEql
import Derived.LaidHandle
import Derived.LaidLaws
import Derived.LaidSub
import Derived.Laws.IdiomCopy
import Derived.OpenShut
import Derived.ProofKit
import Derived.RowKitTokens
import Derived.Shelf.SlIter.Nil
import Derived.Sort.KeysCollected
import Derived.Stop.Asserts
import Derived.Test.YtepnghacjggkkaaGreatDoorRows
import Derived.WalkKit
import Derived.Test.YtepnghacjggkkaaGreatDoorGVCom
import Derived.Laws.OwnMore
namespace Go.Proofs.YtepnghacjggkkaaGreatDoor
open Go.RowKit Go.Sort Go.Maps
set_option maxRecDepth 100000
set_option linter.unusedSectionVars false
variable [Inhabited ComV] [DecidableEq D3] [Inhabited D3] [Inhabited Dd] [Inhabited Dn] [Inhabited OpV]

def SrcAt (w : World) (v : Value) (m size : Nat) (news : List Value) : Prop :=
  (v = .slice none 0 0 ∧ m = 0 ∧ news = []) ∨ ∃ ad c, v = .slice (some ad) m c ∧ news.length = m * size ∧ ∀ j u, news[j]? = some u → w.cell? (ad.add j) = some u
theorem src_ints {w : World} {v : Value} {zs : List Int} (h : IntsAt w v zs) : SrcAt w v zs.length 1 (zs.map (Value.int .i64)) := by
  obtain ⟨ad, c, rfl, h0, h⟩ := h
  cases ad with
  | none =>
    obtain rfl := h0 rfl
    rcases h with rfl | ⟨b, o, he, _⟩
    · exact .inl ⟨rfl, rfl, rfl⟩
    · cases he
  | some a =>
    refine .inr ⟨a, c, rfl, by simp, fun j u hj => ?_⟩
    rcases h with rfl | ⟨b, o, he, h⟩
    · simp at hj
    · obtain rfl := Option.some.inj he
      rw [List.getElem?_map] at hj
      cases hjj : zs[j]? with
      | none => rw [hjj] at hj; cases hj
      | some z =>
        rw [hjj] at hj
        obtain rfl := Option.some.inj hj
        have hlt : j < zs.length := (List.getElem?_eq_some_iff.1 hjj).1
        have := h j hlt
        rw [List.getD_eq_getElem?_getD, hjj] at this
        rw [Addr.add_lit]
        exact this
theorem src_dots {w : World} {v : Value} {ds : List D3} (h : DotsAt w v ds) : SrcAt w v ds.length 3 (ds.flatMap D3.cells) := by
  obtain ⟨ad, c, rfl, h0, _, h⟩ := h
  rw [List.length_map]
  cases ad with
  | none =>
    obtain rfl := h0 rfl
    rcases h with h | ⟨b, o, he, _⟩
    · obtain rfl : ds = [] := by simpa using h
      exact .inl ⟨rfl, rfl, rfl⟩
    · cases he
  | some a =>
    have hlen : ∀ ds : List D3, (ds.flatMap D3.cells).length = ds.length * 3 := by
      intro ds
      induction ds with
      | nil => rfl
      | cons x r ih => rw [List.flatMap_cons, List.length_append, ih, List.length_cons]; show 3 + _ = _; omega
    refine .inr ⟨a, c, rfl, hlen ds, fun j u hj => ?_⟩
    rcases h with h | ⟨b, o, he, h⟩
    · obtain rfl : ds = [] := by simpa using h
      simp at hj
    · obtain rfl := Option.some.inj he
      have hjl : j < ds.length * 3 := by have := (List.getElem?_eq_some_iff.1 hj).1; rw [hlen] at this; exact this
      have hq : j / 3 < ds.length := by omega
      have hr : j % 3 < 3 := by omega
      have e := flat3_get ds (j / 3) (j % 3) hq hr
      rw [show j / 3 * 3 + j % 3 = j by omega, hj] at e
      have hrow : (ds.map D3.cells)[j / 3]? = some (ds[j / 3]!.cells) := by rw [List.getElem?_map, List.getElem?_eq_getElem hq, getElem!_pos ds _ hq]; rfl
      have hl3 : ds[j / 3]!.cells.length = 3 := rfl
      have := (h (j / 3) _ hrow).2 (j % 3) u (by
        rw [List.getElem?_eq_getElem (by rw [hl3]; exact hr)]
        rw [getElem!_pos _ _ (by rw [hl3]; exact hr)] at e
        exact e.symm)
      rw [Addr.add_lit, ← this]
      congr 2
      omega
theorem SrcAt.moved {w w' : World} {v : Value} {m size : Nat} {news : List Value} (h : SrcAt w v m size news) (hk : ∀ a u, w.cell? a = some u → w'.cell? a = some u) : SrcAt w' v m size news := by
  rcases h with h | ⟨ad, c, h1, h2, h3⟩
  · exact .inl h
  · exact .inr ⟨ad, c, h1, h2, fun j u hj => hk _ _ (h3 j u hj)⟩
def OpOwn (base : Nat) (w : World) (r : List Value) (o : OpV) : Prop := ∃ dv, r = opCells o dv ∧ w.ownsRow base 175 3 dv o.dots.length (o.dots.flatMap D3.cells)
theorem OpOwn.kept {base : Nat} {w w' : World} {r : List Value} {o : OpV} (h : OpOwn base w r o) (hb : ∀ (b : Nat) (cs : Array Value), w.heap[b]? = some (.cells cs 175 (0, 0)) → w'.heap[b]? = w.heap[b]?) : OpOwn base w' r o :=
  let ⟨dv, h1, h2⟩ := h; ⟨dv, h1, owns_below h2 hb⟩
end Go.Proofs.YtepnghacjggkkaaGreatDoor
namespace Go.Proofs.YtepnghacjggkkaaGreatDoor
open Go.RowKit
set_option maxRecDepth 100000
set_option linter.unusedSectionVars false
variable [Inhabited ComV] [DecidableEq D3] [Inhabited D3] [Inhabited Dd] [Inhabited Dn] [Inhabited OpV]

theorem OpsAt.shapeS {w : World} {v : Value} {os : List OpV} (h : OpsAt w v os) : ∃ ad cap, v = .slice ad os.length cap ∧ (ad = none → cap = 0) ∧ os.length ≤ cap ∧
    (os = [] ∨ ∃ b off, ad = some ⟨b, off, none⟩ ∧ ∀ j o, os[j]? = some o → ∃ dp dc, DotsAt w (.slice dp o.dots.length dc) o.dots ∧
      w.cell? ⟨b, off + j * 7, none⟩ = some (.int .i64 o.at_) ∧ w.cell? ⟨b, off + j * 7 + 1, none⟩ = some (.string o.key) ∧ w.cell? ⟨b, off + j * 7 + 2, none⟩ = some (.int .i64 o.kind) ∧ w.cell? ⟨b, off + j * 7 + 3, none⟩ = some (.string o.text) ∧
      w.cell? ⟨b, off + j * 7 + 4, none⟩ = some (.int .i64 o.n) ∧ w.cell? ⟨b, off + j * 7 + 5, none⟩ = some (.bool o.rem) ∧ w.cell? ⟨b, off + j * 7 + 6, none⟩ = some (.slice dp o.dots.length dc)) := by
  obtain ⟨rows, ⟨ad, cap, rfl, h1, h2, h3⟩, hf⟩ := h
  have hl := f2_len hf
  refine ⟨ad, cap, by rw [hl], h1, by omega, ?_⟩
  rcases h3 with rfl | ⟨b, off, rfl, h3⟩
  · exact .inl (List.eq_nil_of_length_eq_zero hl.symm)
  · refine .inr ⟨b, off, rfl, fun j o hj => ?_⟩
    obtain ⟨r, hr, dv, rfl, hd⟩ := f2_get hf j o hj
    obtain ⟨dp, dc, rfl⟩ := hd.len
    have hc := (h3 j _ hr).2
    exact ⟨dp, dc, hd, hc 0 _ rfl, hc 1 _ rfl, hc 2 _ rfl, hc 3 _ rfl, hc 4 _ rfl, hc 5 _ rfl, hc 6 _ rfl⟩
structure MsgV where
  frm : Int
  to_ : Int
  shard : Int
  seq : Int
  time : Int
  beat : Bool
  c : ComV
theorem flat_cells : ∀ ds : List D3, (ds.map D3.cells).flatten = ds.flatMap D3.cells
  | [] => rfl
  | d :: ds => by rw [List.map_cons, List.flatten_cons, List.flatMap_cons, flat_cells ds]
theorem dots_of_ownsS {w : World} {base : Nat} {v : Value} {ds : List D3} (h : w.ownsRow base 175 3 v ds.length (ds.flatMap D3.cells)) : DotsAt w v ds := by
  refine rowAt_of_owns (base := base) (e := 175) (n := ds.length) (by rw [flat_cells]; exact h) (by simp) fun r hr => ?_
  obtain ⟨d, _, rfl⟩ := List.mem_map.1 hr
  rfl
theorem dots_oneS (d : D3) : ∀ u ∈ ([.int .i64 d.p, .int .i64 d.t, .int .i64 d.a] : List Value), u.oneCell' = true := fun u hu => by
  simp at hu
  rcases hu with rfl | rfl | rfl <;> rfl
theorem Tryz.info3 : (Tryz.prog.info? 3).map (fun i => (i.zero, i.size, i.bytes)) = some (some (.int .i64 0), 1, 8) := by kernel_rfl
def ComOwn (base : Nat) (w : World) (wv ov : Value) (c : ComV) : Prop := w.ownsRow base 3 1 wv c.when_.length (c.when_.map (Value.int .i64)) ∧ ∃ rows, w.ownsRow base 97 7 ov c.ops.length rows.flatten ∧ F2 (OpOwn base w) rows c.ops
def Keeps (w w' : World) : Prop := ∀ t, t = 3 ∨ t = 97 ∨ t = 175 → ∀ (b : Nat) (cs : Array Value), w.heap[b]? = some (.cells cs t (0, 0)) → w'.heap[b]? = w.heap[b]?
theorem ComOwn.kept {base : Nat} {w w' : World} {wv ov : Value} {c : ComV} (h : ComOwn base w wv ov c) (k : Keeps w w') : ComOwn base w' wv ov c :=
  let ⟨h1, rows, h2, h3⟩ := h
  ⟨owns_below h1 (k 3 (.inl rfl)), rows, owns_below h2 (k 97 (.inr (.inl rfl))), f2_mono (fun _ _ h => h.kept (k 175 (.inr (.inr rfl)))) h3⟩
theorem f2_own_base {base base' : Nat} {w : World} {r : List Value} {o : OpV} (h : OpOwn base w r o) (hb : base' ≤ base) : OpOwn base' w r o :=
  let ⟨dv, h1, h2⟩ := h; ⟨dv, h1, owns_base h2 hb⟩
theorem ComOwn.base {base base' : Nat} {w : World} {wv ov : Value} {c : ComV} (h : ComOwn base w wv ov c) (hb : base' ≤ base) : ComOwn base' w wv ov c :=
  let ⟨h1, rows, h2, h3⟩ := h; ⟨owns_base h1 hb, rows, owns_base h2 hb, f2_mono (fun _ _ h => f2_own_base h hb) h3⟩
theorem one7S (o : OpV) (a : Option Addr) (l c : Nat) : ∀ v ∈ ([.int .i64 o.at_, .string o.key, .int .i64 o.kind, .string o.text, .int .i64 o.n, .bool o.rem, .slice a l c] : List Value), v.oneCell' = true := fun v hv => by
  simp at hv
  rcases hv with rfl | rfl | rfl | rfl | rfl | rfl | rfl <;> rfl
theorem OpOwn.at {base : Nat} {w w' : World} {r : List Value} {o : OpV} (h : OpOwn base w r o) (hk : ∀ g, base ≤ g → g < w.heap.size → w'.heap[g]? = w.heap[g]?) : OpOwn base w' r o :=
  let ⟨dv, h1, h2⟩ := h; ⟨dv, h1, owns_at h2 hk⟩
theorem ComOwn.at {base : Nat} {w w' : World} {wv ov : Value} {c : ComV} (h : ComOwn base w wv ov c) (hk : ∀ g, base ≤ g → g < w.heap.size → w'.heap[g]? = w.heap[g]?) : ComOwn base w' wv ov c :=
  let ⟨h1, rows, h2, h3⟩ := h
  ⟨owns_at h1 hk, rows, owns_at h2 hk, f2_mono (fun _ _ h => h.at hk) h3⟩
theorem OpsAt.len {w : World} {v : Value} {os : List OpV} (h : OpsAt w v os) : ∃ ad cap, v = .slice ad os.length cap := by
  obtain ⟨ad, cap, rfl, _⟩ := h.shapeS
  exact ⟨ad, cap, rfl⟩
theorem owns_ints {w : World} {base : Nat} {v : Value} {zs : List Int} (h : w.ownsRow base 3 1 v zs.length (zs.map (Value.int .i64))) : IntsAt w v zs := by
  rcases h.2 with ⟨rfl, h0⟩ | ⟨g, cap, cur, rfl, _, hh, hc, _, hs, ht⟩
  · obtain rfl := List.eq_nil_of_length_eq_zero h0
    exact ⟨_, _, rfl, fun _ => rfl, .inl rfl⟩
  · refine ⟨_, cap, rfl, (fun h => by cases h), .inr ⟨g, 0, rfl, fun j hj => ?_⟩⟩
    have e : (zs.map (Value.int .i64))[j]? = some (.int .i64 (zs.getD j 0)) := by simp [List.getElem?_map, List.getD_eq_getElem?_getD, List.getElem?_eq_getElem hj]
    rw [← ht, List.getElem?_take, if_pos (by omega), Array.getElem?_toList] at e
    rw [cell_of hh, Nat.zero_add]
    exact e
theorem f2_opRow {base : Nat} {w : World} {rows : List (List Value)} {os : List OpV} (h : F2 (OpOwn base w) rows os) : F2 (OpRow w) rows os := f2_mono (fun _ _ ⟨dv, h1, h2⟩ => ⟨dv, h1, dots_of_ownsS h2⟩) h
theorem rows7 {w : World} : ∀ {rows : List (List Value)} {os : List OpV}, F2 (OpRow w) rows os → ∀ r ∈ rows, r.length = 7
  | [], [], _, _, hr => by simp at hr
  | _ :: _, _ :: _, ⟨⟨_, h1, _⟩, h2⟩, r, hr => by
    rcases List.mem_cons.1 hr with rfl | hr
    · rw [h1]; rfl
    · exact rows7 h2 r hr
theorem ComOwn.ints {base : Nat} {w : World} {wv ov : Value} {c : ComV} (h : ComOwn base w wv ov c) : IntsAt w wv c.when_ := owns_ints h.1
theorem ComOwn.opsAt {base : Nat} {w : World} {wv ov : Value} {c : ComV} (h : ComOwn base w wv ov c) : OpsAt w ov c.ops := by
  obtain ⟨_, rows, h2, h3⟩ := h
  have hf := f2_opRow h3
  exact ⟨rows, rowAt_of_owns h2 (f2_len hf).symm (rows7 hf), hf⟩
end Go.Proofs.YtepnghacjggkkaaGreatDoor
namespace Go.Proofs.YtepnghacjggkkaaGreatDoor
open Go.RowKit
set_option maxRecDepth 100000
set_option linter.unusedSectionVars false
variable [Inhabited ComV] [DecidableEq D3] [Inhabited D3] [Inhabited Dd] [Inhabited Dn] [Inhabited OpV]

structure Light (c : ComV) : Prop where
  when_ : c.when_.length ≤ 20
  ops : c.ops.length ≤ 20
  each : ∀ o ∈ c.ops, o.key.size ≤ 60 ∧ o.text.size ≤ 200 ∧ o.dots.length ≤ 70
theorem all_dots_one (ds : List D3) : ∀ u ∈ ds.flatMap D3.cells, u.oneCell' = true := fun u hu => by
  obtain ⟨d, _, h⟩ := List.mem_flatMap.1 hu
  exact dots_oneS d u h
end Go.Proofs.YtepnghacjggkkaaGreatDoor
namespace Go.Proofs.YtepnghacjggkkaaGreatDoor
open Go.RowKit Go.Sort Go.Maps
set_option maxRecDepth 100000
set_option linter.unusedSectionVars false
variable [Inhabited ComV] [DecidableEq D3] [Inhabited D3] [Inhabited Dd] [Inhabited Dn] [Inhabited OpV]

theorem Tryz.info3o : (Tryz.prog.info? 3).map (fun i => (i.zero, i.size, i.bytes)) = some (some (.int .i64 0), 1, 8) := by kernel_rfl
theorem Tryz.info97 : (Tryz.prog.info? 97).map (fun i => (i.zero, i.size, i.bytes)) = some (some (.agg #[.int .i64 0, .string ByteArray.empty, .int .i64 0, .string ByteArray.empty, .int .i64 0, .bool false, .slice none 0 0]), 7, 88) := by kernel_rfl
theorem ints_one (zs : List Int) : ∀ u ∈ zs.map (Value.int .i64), u.oneCell' = true := fun u hu => by
  obtain ⟨z, _, rfl⟩ := List.mem_map.1 hu
  rfl
theorem dots_one (ds : List D3) : ∀ u ∈ ds.flatMap D3.cells, u.oneCell' = true := fun u hu => by
  obtain ⟨d, _, h⟩ := List.mem_flatMap.1 hu
  exact D3.one d u h
theorem row_shape {w : World} {base e size : Nat} {v : Value} {n : Nat} {xs : List Value} (h : w.ownsRow base e size v n xs) : ∃ a c, v = .slice a n c := by
  rcases h.2 with ⟨rfl, rfl⟩ | ⟨g, cap, cur, rfl, _⟩
  · exact ⟨_, _, rfl⟩
  · exact ⟨_, _, rfl⟩
end Go.Proofs.YtepnghacjggkkaaGreatDoor
namespace Go.Proofs.YtepnghacjggkkaaGreatDoor
open Go.RowKit
set_option maxRecDepth 100000
set_option linter.unusedSectionVars false
variable [Inhabited ComV] [DecidableEq D3] [Inhabited D3] [Inhabited Dd] [Inhabited Dn] [Inhabited OpV]

theorem wpList_append_own_srcS {w : World} {ops : Array Oper} {rest : List Oper} {o : Oper} {a : Act} {Q : Exit → Act → World → Prop} (hgd : o.guard = none) (s x : Operand) (t : TypeId)
    (ho : o.op = .call { callee := .builtin .append, args := #[s, x], argTypes := #[t, t] })
    (base : Nat) (e : TypeId) (i : TypeInfo) (z : Value) (size bytes : Nat) (ht : Tryz.prog.underlying t = some (.slice e)) (hi : Tryz.prog.info? e = some i) (hz : i.zero = some z)
    (hsize : i.size = size) (hby : i.bytes = bytes) (hzs : z.cells.size = size) (hsz : 0 < size)
    (v0 : Value) (n : Nat) (xs : List Value) (hs : a.eval s = v0) (hown : w.ownsRow base e size v0 n xs) (v : Value) (m : Nat) (news : List Value) (hx : a.eval x = v) (hv : SrcAt w v m size news) (h1 : ∀ u ∈ news, u.oneCell' = true)
    (h63 : n + m ≤ maxLen) (hbytes : (n + m) * bytes ≤ 140737488355328) (hbase : base ≤ w.heap.size)
    (h : ∀ v' w', w'.ownsRow base e size v' (n + m) (xs ++ news) → w.grownBy w' v0.ownBlock → (v'.ownBlock = v0.ownBlock ∨ v'.ownBlock = some w.heap.size) → wpList Tryz.prog ops Q rest (a.put o.dst v') w') : wpList Tryz.prog ops Q (o :: rest) a w := by
  rcases hv with ⟨rfl, rfl, rfl⟩ | ⟨ad, c, rfl, hl, hn⟩
  · exact wpList_append_own_none hgd s x t ho base e i size ht hi v0 n xs hs hown hx (h _ _ (by simpa using hown) ⟨rfl, rfl, rfl, Nat.le_refl _, fun _ _ _ => rfl⟩ (.inl rfl))
  · refine wpList_plain hgd fun _ hK => ?_
    obtain ⟨v', w', hr, h2, h3, _, h5⟩ := run_append_own_at (P := Tryz.prog) w base t o.type e i z size bytes ht hi hz hsize hby hzs hsz v0 n xs hown ad m c news hl hn h1 h63 hbytes hbase
    unfold Oper.wp execOp
    simp only [ho, resolve, invoke, builtin, Sem.run_bind, Sem.run_pure, Result.andThen_ok, List.map_toArray, List.map_cons, List.map_nil, hs, hx, hr]
    exact hK _ _ (h v' w' h2 h3 h5)
theorem SrcAt.nil_len {w : World} {n c m size : Nat} {news : List Value} (h : SrcAt w (.slice none n c) m size news) : n = 0 ∧ c = 0 ∧ m = 0 ∧ news = [] := by
  rcases h with ⟨h1, h2, h3⟩ | ⟨ad, c', h1, _⟩
  · injection h1 with _ h4 h5
    exact ⟨h4, h5, h2, h3⟩
  · cases h1
def ClRet (e size : Nat) (w : World) (n : Nat) (news : List Value) (x : Ending) (w' : World) : Prop := ∃ a c, x = .returned (.slice a n c) ∧ w'.ownsRow w.heap.size e size (.slice a n c) n news ∧ Below w.heap.size w w'
set_option maxHeartbeats 2000000 in
theorem clone48 (w : World) (a : Option Addr) (n c : Nat) (news : List Value) (h : SrcAt w (.slice a n c) n 1 news) (h1 : ∀ u ∈ news, u.oneCell' = true) (hl : n ≤ 1000000) :
    Calls Tryz.prog 31 #[.slice a n c] w (ClRet 3 1 w n news) := by
  have q22 : ∀ (w : World) (a : Option Addr) (n c n' c' : Nat), (binOp .eql 22 (.slice a n c) (.slice none n' c')).run Tryz.prog w = .ok (.bool a.isNone) w := fun w a n c n' c' => Lib.run_eql_slice_nil w _ _ a n c n' c' Tryz.underlying22
  obtain ⟨i0, hi, hz0, hz1, hz2⟩ := info_parts Tryz.info3
  have HS := hid h
  have H1 := hid h1
  clear h h1
  cases a with
  | none =>
    obtain ⟨rfl, rfl, _, rfl⟩ := HS.out.nil_len
    go_enter Tryz.func31, Tryz.ntmps31
    go_wp2
    go_ret
    exact ⟨none, 0, rfl, World.ownsRow_nil _ _ _ _, Below.refl _ _⟩
  | some ad =>
    go_enter Tryz.func31, Tryz.ntmps31
    go_wp2_with (at_builtin; refine wpList_append_own_srcS rfl _ _ 22 rfl w.heap.size 3 i0 _ 1 8 Tryz.underlying22 hi hz0 hz1 hz2 rfl (by decide) _ _ _ rfl (World.ownsRow_made w #[] 0 (Nat.le_refl _) (Nat.zero_le _) rfl) _ n news rfl ?hs1 H1.out ?hm2 ?hm3 ?hm4 ?_; (case hs1 => exact HS.out.moved (fun a u h => cell_alloc h _)); (case hm2 => unfold maxLen; omega); (case hm3 => omega); (case hm4 => simp); intro v3 w3 hown3 hgrow3 _)
    rw [Nat.zero_add, List.nil_append] at hown3
    obtain ⟨a3, c3, rfl⟩ := row_shape hown3
    have HT := hid hown3
    have HB : Hid (Below w.heap.size w w3) := ((Below.refl _ w).alloc (Nat.le_refl _) _).grown hgrow3 (by simp) (fun k hk => ((World.ownsRow_made (e := 3) (size := 1) (base := w.heap.size) w #[] 0 (Nat.le_refl _) (Nat.zero_le _) rfl).lt k hk).1)
    clear hown3 hgrow3
    go_wp2
    go_ret
    exact ⟨a3, c3, rfl, HT.out, HB.out⟩
set_option maxHeartbeats 2000000 in
theorem clone49 (w : World) (a : Option Addr) (n c : Nat) (news : List Value) (h : SrcAt w (.slice a n c) n 7 news) (h1 : ∀ u ∈ news, u.oneCell' = true) (hl : n ≤ 1000000) :
    Calls Tryz.prog 115 #[.slice a n c] w (ClRet 97 7 w n news) := by
  have q22 : ∀ (w : World) (a : Option Addr) (n c n' c' : Nat), (binOp .eql 45 (.slice a n c) (.slice none n' c')).run Tryz.prog w = .ok (.bool a.isNone) w := fun w a n c n' c' => Lib.run_eql_slice_nil w _ _ a n c n' c' Tryz.underlying45
  obtain ⟨i0, hi, hz0, hz1, hz2⟩ := info_parts Tryz.info97
  have HS := hid h
  have H1 := hid h1
  clear h h1
  cases a with
  | none =>
    obtain ⟨rfl, rfl, _, rfl⟩ := HS.out.nil_len
    go_enter Tryz.func115, Tryz.ntmps115
    go_wp2
    go_ret
    exact ⟨none, 0, rfl, World.ownsRow_nil _ _ _ _, Below.refl _ _⟩
  | some ad =>
    go_enter Tryz.func115, Tryz.ntmps115
    go_wp2_with (at_builtin; refine wpList_append_own_srcS rfl _ _ 45 rfl w.heap.size 97 i0 _ 7 88 Tryz.underlying45 hi hz0 hz1 hz2 rfl (by decide) _ _ _ rfl (World.ownsRow_made w #[] 0 (Nat.le_refl _) (Nat.zero_le _) rfl) _ n news rfl ?hs1 H1.out ?hm2 ?hm3 ?hm4 ?_; (case hs1 => exact HS.out.moved (fun a u h => cell_alloc h _)); (case hm2 => unfold maxLen; omega); (case hm3 => omega); (case hm4 => simp); intro v3 w3 hown3 hgrow3 _)
    rw [Nat.zero_add, List.nil_append] at hown3
    obtain ⟨a3, c3, rfl⟩ := row_shape hown3
    have HT := hid hown3
    have HB : Hid (Below w.heap.size w w3) := ((Below.refl _ w).alloc (Nat.le_refl _) _).grown hgrow3 (by simp) (fun k hk => ((World.ownsRow_made (e := 97) (size := 7) (base := w.heap.size) w #[] 0 (Nat.le_refl _) (Nat.zero_le _) rfl).lt k hk).1)
    clear hown3 hgrow3
    go_wp2
    go_ret
    exact ⟨a3, c3, rfl, HT.out, HB.out⟩
set_option maxHeartbeats 2000000 in
theorem clone50 (w : World) (a : Option Addr) (n c : Nat) (news : List Value) (h : SrcAt w (.slice a n c) n 3 news) (h1 : ∀ u ∈ news, u.oneCell' = true) (hl : n ≤ 1000000) :
    Calls Tryz.prog 116 #[.slice a n c] w (ClRet 175 3 w n news) := by
  have q22 : ∀ (w : World) (a : Option Addr) (n c n' c' : Nat), (binOp .eql 95 (.slice a n c) (.slice none n' c')).run Tryz.prog w = .ok (.bool a.isNone) w := fun w a n c n' c' => Lib.run_eql_slice_nil w _ _ a n c n' c' Tryz.underlying95
  obtain ⟨i0, hi, hz0, hz1, hz2⟩ := info_parts Tryz.info175
  have HS := hid h
  have H1 := hid h1
  clear h h1
  cases a with
  | none =>
    obtain ⟨rfl, rfl, _, rfl⟩ := HS.out.nil_len
    go_enter Tryz.func116, Tryz.ntmps116
    go_wp2
    go_ret
    exact ⟨none, 0, rfl, World.ownsRow_nil _ _ _ _, Below.refl _ _⟩
  | some ad =>
    go_enter Tryz.func116, Tryz.ntmps116
    go_wp2_with (at_builtin; refine wpList_append_own_srcS rfl _ _ 95 rfl w.heap.size 175 i0 _ 3 24 Tryz.underlying95 hi hz0 hz1 hz2 rfl (by decide) _ _ _ rfl (World.ownsRow_made w #[] 0 (Nat.le_refl _) (Nat.zero_le _) rfl) _ n news rfl ?hs1 H1.out ?hm2 ?hm3 ?hm4 ?_; (case hs1 => exact HS.out.moved (fun a u h => cell_alloc h _)); (case hm2 => unfold maxLen; omega); (case hm3 => omega); (case hm4 => simp); intro v3 w3 hown3 hgrow3 _)
    rw [Nat.zero_add, List.nil_append] at hown3
    obtain ⟨a3, c3, rfl⟩ := row_shape hown3
    have HT := hid hown3
    have HB : Hid (Below w.heap.size w w3) := ((Below.refl _ w).alloc (Nat.le_refl _) _).grown hgrow3 (by simp) (fun k hk => ((World.ownsRow_made (e := 175) (size := 3) (base := w.heap.size) w #[] 0 (Nat.le_refl _) (Nat.zero_le _) rfl).lt k hk).1)
    clear hown3 hgrow3
    go_wp2
    go_ret
    exact ⟨a3, c3, rfl, HT.out, HB.out⟩
theorem flat7_at : ∀ (rows : List (List Value)) (q j : Nat) (r : List Value), (∀ x ∈ rows, x.length = 7) → rows[q]? = some r → j < 7 → rows.flatten[q * 7 + j]? = r[j]?
  | [], _, _, _, _, h, _ => by simp at h
  | x :: rows, 0, j, r, hx, h, hj => by
    simp at h
    subst h
    rw [List.flatten_cons, List.getElem?_append_left (by rw [hx x (List.mem_cons_self ..)]; omega), Nat.zero_mul, Nat.zero_add]
  | x :: rows, q + 1, j, r, hx, h, hj => by
    have hx7 := hx x (List.mem_cons_self ..)
    rw [List.flatten_cons, List.getElem?_append_right (by rw [hx7]; omega), show (q + 1) * 7 + j - x.length = q * 7 + j by rw [hx7]; omega]
    exact flat7_at rows q j r (fun y hy => hx y (List.mem_cons_of_mem _ hy)) (by simpa using h) hj
theorem flat7_len : ∀ rows : List (List Value), (∀ x ∈ rows, x.length = 7) → rows.flatten.length = rows.length * 7
  | [], _ => rfl
  | x :: r, h => by rw [List.flatten_cons, List.length_append, h x (List.mem_cons_self ..), flat7_len r (fun y hy => h y (List.mem_cons_of_mem _ hy)), List.length_cons]; omega
theorem src_ops {w : World} {v : Value} {rows : List (List Value)} (h : RowAt 7 w v rows) (h7 : ∀ x ∈ rows, x.length = 7) : SrcAt w v rows.length 7 rows.flatten := by
  obtain ⟨ad, c, rfl, h0, _, h⟩ := h
  cases ad with
  | none =>
    obtain rfl := h0 rfl
    rcases h with h | ⟨b, o, he, _⟩
    · subst h
      exact .inl ⟨rfl, rfl, rfl⟩
    · cases he
  | some a =>
    refine .inr ⟨a, c, rfl, flat7_len rows h7, fun j u hj => ?_⟩
    rcases h with h | ⟨b, o, he, h⟩
    · subst h
      simp at hj
    · obtain rfl := Option.some.inj he
      have hjl : j < rows.length * 7 := by have := (List.getElem?_eq_some_iff.1 hj).1; rw [flat7_len rows h7] at this; exact this
      have hq : j / 7 < rows.length := by omega
      have hr : j % 7 < 7 := by omega
      have hd : rows[j / 7]? = some rows[j / 7] := List.getElem?_eq_getElem hq
      have e := flat7_at rows (j / 7) (j % 7) _ h7 hd hr
      rw [show j / 7 * 7 + j % 7 = j by omega, hj] at e
      have := (h (j / 7) _ hd).2 (j % 7) u e.symm
      rw [Addr.add_lit, ← this]
      congr 2
      omega
theorem rows7_one {w : World} : ∀ {rows : List (List Value)} {os : List OpV}, F2 (OpRow w) rows os → ∀ u ∈ rows.flatten, u.oneCell' = true
  | [], [], _, _, hr => by simp at hr
  | r :: _, _ :: _, ⟨⟨dv, h1, hd⟩, h2⟩, u, hu => by
    rw [List.flatten_cons, List.mem_append] at hu
    rcases hu with hu | hu
    · subst h1
      obtain ⟨a, c, rfl⟩ := hd.len
      exact one7S _ _ _ _ u hu
    · exact rows7_one h2 u hu
end Go.Proofs.YtepnghacjggkkaaGreatDoor
namespace Go.Proofs.YtepnghacjggkkaaGreatDoor
open Go.RowKit
set_option maxRecDepth 100000
set_option linter.unusedSectionVars false
variable [Inhabited ComV] [DecidableEq D3] [Inhabited D3] [Inhabited Dd] [Inhabited Dn] [Inhabited OpV]

theorem flat_set (A B : List (List Value)) (x : List Value) (u : Value) (hA : ∀ y ∈ A, y.length = 7) (hx : x.length = 7) : ((A ++ x :: B).flatten).set (A.length * 7 + 6) u = (A ++ x.set 6 u :: B).flatten := by
  have h1 := flat7_len A hA
  rw [List.flatten_append, List.flatten_append, List.flatten_cons, List.flatten_cons, List.set_append_right _ _ (by omega), List.set_append_left _ _ (by omega), show A.length * 7 + 6 - A.flatten.length = 6 by omega]
structure CpI (w : World) (p : Int) (ws : List Int) (os : List OpV) (n1 n2 : Nat) (a1 : Option Addr) (c1 : Nat) (a2 : Option Addr) (c2 : Nat) (k : Nat) (wr : World) : Prop where
  below : Below w.heap.size w wr
  box : wr.heap[w.heap.size]? = some (.cells #[.slice a1 n1 c1, .int .i64 p, .slice a2 n2 c2] 47 (0, 0))
  res : wr.heap[w.heap.size + 1]? = some (.cells #[.slice none 0 0, .int .i64 0, .slice none 0 0] 47 (0, 0))
  when_ : wr.ownsRow (w.heap.size + 2) 3 1 (.slice a1 n1 c1) n1 (ws.map (Value.int .i64))
  ops : ∃ A B, wr.ownsRow (w.heap.size + 2) 97 7 (.slice a2 n2 c2) n2 (A ++ B).flatten ∧ F2 (OpOwn (w.heap.size + 2) wr) A (os.take k) ∧ F2 (OpRow w) B (os.drop k)
theorem drop_cons {α : Type} {l : List α} {k : Nat} {x : α} (h : l[k]? = some x) : l.drop k = x :: l.drop (k + 1) := by
  obtain ⟨h1, h2⟩ := List.getElem?_eq_some_iff.1 h
  rw [List.drop_eq_getElem_cons h1, h2]
theorem CpI.next {w wr : World} {p : Int} {ws : List Int} {os : List OpV} {n1 n2 : Nat} {a1 a2 : Option Addr} {c1 c2 k : Nat} (h : CpI w p ws os n1 n2 a1 c1 a2 c2 k wr) {o : OpV} (ho : os[k]? = some o) :
    ∃ b dp dc, a2 = some ⟨b, 0, none⟩ ∧ wr.cell? ⟨b, k * 7 + 6, none⟩ = some (.slice dp o.dots.length dc) ∧ (∀ u : World, u.heap[b]? = wr.heap[b]? → u.cell? ⟨b, k * 7 + 6, none⟩ = some (.slice dp o.dots.length dc) ∧ u.frozen? ⟨b, k * 7 + 6, none⟩ = false) ∧ DotsAt w (.slice dp o.dots.length dc) o.dots ∧ w.heap.size + 2 ≤ b ∧ b < wr.heap.size ∧
      ∀ (w1 : World) (a5 : Option Addr) (c5 : Nat), Below wr.heap.size wr w1 → w1.ownsRow wr.heap.size 175 3 (.slice a5 o.dots.length c5) o.dots.length (o.dots.flatMap D3.cells) → CpI w p ws os n1 n2 a1 c1 a2 c2 (k + 1) (w1.setCell ⟨b, k * 7 + 6, none⟩ (.slice a5 o.dots.length c5)) := by
  obtain ⟨A, B, hr, hA, hB⟩ := h.ops
  have hkl : k < os.length := (List.getElem?_eq_some_iff.1 ho).1
  rw [drop_cons ho] at hB
  match B, hB with
  | r :: B, ⟨⟨dv, hrc, hd⟩, hB⟩ =>
    obtain ⟨dp, dc, rfl⟩ := hd.len
    have hAl : A.length = k := by rw [f2_len hA, List.length_take]; omega
    have hBl : B.length = os.length - (k + 1) := by rw [f2_len hB, List.length_drop]
    have hA7 : ∀ y ∈ A, y.length = 7 := rows7 (f2_opRow hA)
    have hB7 : ∀ y ∈ B, y.length = 7 := rows7 hB
    have hr7 : r.length = 7 := by rw [hrc]; rfl
    have hall : ∀ y ∈ A ++ r :: B, y.length = 7 := fun y hy => by
      rcases List.mem_append.1 hy with hy | hy
      · exact hA7 y hy
      · rcases List.mem_cons.1 hy with rfl | hy
        · exact hr7
        · exact hB7 y hy
    have hlen := hr.1
    rw [flat7_len _ hall, List.length_append, List.length_cons, hAl, hBl] at hlen
    have hn2 : n2 = os.length := by omega
    rcases hr.2 with ⟨h1, h0⟩ | ⟨b, cap, cur, hv, hgb, hh, _⟩
    · omega
    · injection hv with hv _ _
      subst hv
      have hblt : b < wr.heap.size := lt_of_heap hh
      have hcell : wr.cell? ⟨b, k * 7 + 6, none⟩ = some (.slice dp o.dots.length dc) := by
        rw [hr.cellAt (k * 7 + 6) (by omega), flat7_at _ k 6 r hall (by rw [List.getElem?_append_right (by omega), hAl, Nat.sub_self]; rfl) (by omega), hrc]
        rfl
      refine ⟨b, dp, dc, rfl, hcell, fun u hu => ⟨?_, ?_⟩, hd, hgb, hblt, fun w1 a5 c5 hb1 hd5 => ?_⟩
      · rw [World.cell?_of_block (w := wr) hu]; exact hcell
      · rw [free_of (hu.trans hh)]
      · have hbk := hb1.block
        have hr1 := owns_at hr fun g _ h2 => hbk g h2
        have hh1 : w1.heap[b]? = _ := (hbk b hblt).trans hh
        have hst := (hr1.stored (k * 7 + 6) (.slice a5 o.dots.length c5)).1
        rw [show k * 7 + 6 = A.length * 7 + 6 by rw [hAl], flat_set A B r _ hA7 hr7] at hst
        rw [hAl] at hst
        have ne : ∀ (t : TypeId) (q : Nat) (cs : Array Value), t ≠ 97 → w1.heap[q]? = some (.cells cs t (0, 0)) → (w1.setCell ⟨b, k * 7 + 6, none⟩ (.slice a5 o.dots.length c5)).heap[q]? = w1.heap[q]? := fun t q cs ht hq => Below.heap_setCell _ _ _ _ fun e => by
          have e' : q = b := e
          rw [e', hh1] at hq
          injection hq with hq
          injection hq with _ hq
          exact ht hq.symm
        have low : ∀ q, q < w.heap.size + 2 → (w1.setCell ⟨b, k * 7 + 6, none⟩ (.slice a5 o.dots.length c5)).heap[q]? = wr.heap[q]? := fun q hq => by
          rw [Below.heap_setCell _ _ _ _ (by show q ≠ b; omega)]
          exact hbk q (by omega)
        refine ⟨⟨hb1.os.trans h.below.os, hb1.tape.trans h.below.tape, hb1.output.trans h.below.output, ?_, fun q hq => (low q (by omega)).trans (h.below.block q hq)⟩, (low _ (by omega)).trans h.box, (low _ (by omega)).trans h.res, ?_, A ++ [opCells o (.slice a5 o.dots.length c5)], B, ?_, ?_, hB⟩
        · have h1 := hb1.size
          have h2 := h.below.size
          rw [show (w1.setCell ⟨b, k * 7 + 6, none⟩ (.slice a5 o.dots.length c5)).heap.size = w1.heap.size by simp]
          omega
        · exact owns_below (owns_at h.when_ fun g _ h2 => hbk g h2) fun q cs hq => ne 3 q cs (by decide) hq
        · rw [List.append_assoc]
          have e : r.set 6 (.slice a5 o.dots.length c5) = opCells o (.slice a5 o.dots.length c5) := by rw [hrc]; rfl
          rw [← e]
          exact hst
        · rw [List.take_succ_eq_append_getElem hkl, (List.getElem?_eq_some_iff.1 ho).2]
          refine f2_append (f2_mono (fun _ _ q => (q.at fun g _ h2 => hbk g h2).kept fun b' cs hc => ne 175 b' cs (by decide) hc) hA) ⟨_, rfl, ?_⟩
          exact owns_below (owns_base hd5 (by have := hb1.size; omega)) fun q cs hq => ne 175 q cs (by decide) hq
end Go.Proofs.YtepnghacjggkkaaGreatDoor
