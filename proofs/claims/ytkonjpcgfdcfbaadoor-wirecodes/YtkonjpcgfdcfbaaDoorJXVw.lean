/- A message as it comes in. -/
import Derived.Test.YtkonjpcgfdcfbaaDoorJXLd
import Derived.Test.YtkonjpcgfdcfbaaDoorJXHv
import Derived.Deep.Slices
import Derived.Deep.Fields
namespace Go.Proofs.YtkonjpcgfdcfbaaDoor
open Go.ChangeShapes Go.WideShapes Go.ChangeAt Go.RowKit Go.Deep
set_option maxRecDepth 100000

section
variable {H : Type} {enc : TypeId × Value → H} {W : World}
/-- Rows of k cells, each of which reads as an element. -/
theorem rows_view {t e k fuel : Nat} {v : Value} {x : DataW H × List MemPlace} (ht : Tryd.prog.underlying t = some (.slice e)) (hk : Tryd.prog.cellsOf e = k) (hk0 : 0 < k) (h : DataW.trod enc Tryd.prog W 0 (fun _ => true) true fuel t [v] = some x) :
    ∃ rows n, RowAt k W v rows ∧ ∀ r ∈ rows, r.length = k ∧ ∃ y, DataW.trod enc Tryd.prog W 0 (fun _ => true) true n e r = some y := by
  rcases open_slice ht h with ⟨hv, _⟩ | ⟨a, len, cap, m, n, D, Pl, hv, _, hl, hm, hmm, _, hx⟩
  · simp only [List.cons.injEq, and_true] at hv
    subst hv
    exact ⟨[], 0, ⟨none, 0, rfl, fun _ => rfl, Nat.le_refl _, .inl rfl⟩, fun r hr => by simp at hr⟩
  · simp only [List.cons.injEq, and_true] at hv
    subst hv
    simp only [if_true] at hmm
    subst hmm
    rw [hk] at hx
    obtain ⟨R, hR⟩ := choose_lt (α := List Value) (p := fun i r => W.cells? 0 (a.add (i * k)) k = some r ∧ DataW.trod enc Tryd.prog W 0 (fun _ => true) true n e r = some (D i, Pl i)) hx
    have hrow : ∀ i, i < m → (R i).length = k := fun i hi => (World.cells?_some (hR i hi).1).2.1
    refine ⟨(List.range len).map R, n, ⟨some a, m, by simp, (fun h => by cases h), by simpa using hl, ?_⟩, fun r hr => ?_⟩
    · by_cases h0 : len = 0
      · subst h0; exact .inl rfl
      · have h00 := (hR 0 (by omega)).1
        obtain ⟨_, hlen, hcell⟩ := World.cells?_some h00
        obtain ⟨b, o, spot⟩ := a
        have hc0 := hcell 0 hk0
        rw [Nat.zero_mul, List.getElem?_eq_getElem (by omega)] at hc0
        have hspot : spot = none := by simpa [Addr.add] using World.cell?_spot hc0
        subst hspot
        refine .inr ⟨b, o, rfl, fun j r hr => ?_⟩
        have hj : j < len := by have := (List.getElem?_eq_some_iff.1 hr).1; simpa using this
        rw [List.getElem?_map, List.getElem?_range hj] at hr
        obtain rfl := Option.some.inj hr
        refine ⟨hrow j (by omega), fun i u hu => ?_⟩
        obtain ⟨_, hlen, hcell⟩ := World.cells?_some (hR j (by omega)).1
        have hi : i < k := by have := (List.getElem?_eq_some_iff.1 hu).1; omega
        have := hcell i hi
        rw [add_add, Addr.add_lit, hu] at this
        rw [← this]
        congr 2
        omega
    · obtain ⟨i, hi, rfl⟩ := List.mem_map.1 hr
      have hi' := List.mem_range.1 hi
      exact ⟨hrow i (by omega), _, (hR i (by omega)).2⟩
/-- One by one. -/
theorem f2_choose {α β : Type} {R : α → β → Prop} : ∀ {l : List α}, (∀ a ∈ l, ∃ b, R a b) → ∃ m, F2 R l m
  | [], _ => ⟨[], trivial⟩
  | a :: l, h => by
    obtain ⟨b, hb⟩ := h a (List.mem_cons_self ..)
    obtain ⟨m, hm⟩ := f2_choose (fun a ha => h a (List.mem_cons_of_mem _ ha))
    exact ⟨b :: m, hb, hm⟩
/-- A field of one cell. -/
theorem field1 {t n : Nat} {fs : Array Field} {r : List Value} {x : DataW H × List MemPlace} (ht : Tryd.prog.underlying t = some (.struct fs)) (hone : oneCellFields Tryd.prog fs = true) (hl : r.length = fs.size) (h : DataW.trod enc Tryd.prog W 0 (fun _ => true) true n t r = some x) :
    ∃ n', ∀ (i : Nat) (f : Field), fs[i]? = some f → ∃ y, DataW.trod enc Tryd.prog W 0 (fun _ => true) true n' f.type [r.getD i undef] = some y := by
  obtain ⟨xs, n', _, _, _, hxl, hf⟩ := DataW.trod_struct ht h
  refine ⟨n', fun i f hi => ?_⟩
  have hlt : i < fs.size := (Array.getElem?_eq_some_iff.1 hi).1
  obtain ⟨ho, hc1⟩ := hone_of hone i f hi
  have g := hf i f hi
  rw [ho, hc1, take1_drop r i undef (by omega), List.getElem?_eq_getElem (by omega)] at g
  exact ⟨_, g⟩
theorem int_cell {n : Nat} {v : Value} {y : DataW H × List MemPlace} (h : DataW.trod enc Tryd.prog W 0 (fun _ => true) true n 3 [v] = some y) : ∃ z, v = .int .i64 z ∧ (Lit.int .i64 z).wf = true := by
  obtain ⟨z, hz, _, hw⟩ := DataW.trod_int Tryd.underlying3 h
  exact ⟨z, by simpa using hz, hw⟩
theorem str_cell {n : Nat} {v : Value} {y : DataW H × List MemPlace} (h : DataW.trod enc Tryd.prog W 0 (fun _ => true) true n 9 [v] = some y) : ∃ s, v = .string s := by
  obtain ⟨z, hz, _⟩ := DataW.trod_string Tryd.underlying9 h
  exact ⟨z, by simpa using hz⟩
theorem bool_cell {n : Nat} {v : Value} {y : DataW H × List MemPlace} (h : DataW.trod enc Tryd.prog W 0 (fun _ => true) true n 4 [v] = some y) : ∃ s, v = .bool s := by
  obtain ⟨z, hz, _⟩ := DataW.trod_bool Tryd.underlying4 h
  exact ⟨z, by simpa using hz⟩
theorem in64 {z : Int} (h : (Lit.int .i64 z).wf = true) : In64 z := by
  have := bounds_i64 h
  unfold In64
  omega
theorem f2_all {α β : Type} {R : α → β → Prop} {P : β → Prop} : ∀ {l : List α} {m : List β}, F2 (fun a b => R a b ∧ P b) l m → F2 R l m ∧ ∀ b ∈ m, P b
  | [], [], _ => ⟨trivial, fun b hb => by simp at hb⟩
  | _ :: _, _ :: _, ⟨⟨h1, h2⟩, h3⟩ => by
    obtain ⟨e1, e2⟩ := f2_all h3
    refine ⟨⟨h1, e1⟩, fun b hb => ?_⟩
    rcases List.mem_cons.1 hb with rfl | hb
    · exact h2
    · exact e2 b hb
/-- Numbers that a Go int holds. -/
structure RgO (o : OpV) : Prop where
  at_ : In64 o.at_
  kind : In64 o.kind
  n : In64 o.n
  dots : ∀ d ∈ o.dots, OkD d
structure RgC (c : ComV) : Prop where
  ws : ∀ x ∈ c.when_, In64 x
  place : In64 c.place
  ops : ∀ o ∈ c.ops, RgO o
structure RgM (m : MsgV) : Prop where
  frm : In64 m.frm
  to_ : In64 m.to_
  shard : In64 m.shard
  seq : In64 m.seq
  time : In64 m.time
  c : RgC m.c
theorem ok_of {m : MsgV} (h : RgM m) (hl : Light m.c) : OkM m := by
  refine ⟨h.frm, h.to_, h.shard, h.seq, h.time, ⟨?_, h.c.ws, h.c.place, ?_, fun o ho => ?_⟩⟩
  · have := hl.when_; unfold InLen; omega
  · have := hl.ops; unfold InLen; omega
  · obtain ⟨e1, e2, e3⟩ := hl.each o ho
    have r := h.c.ops o ho
    exact ⟨r.at_, by unfold InLen; omega, r.kind, by unfold InLen; omega, r.n, by unfold InLen; omega, r.dots⟩
theorem ints_cell {n : Nat} {v : Value} {y : DataW H × List MemPlace} (h : DataW.trod enc Tryd.prog W 0 (fun _ => true) true n 22 [v] = some y) : ∃ zs, IntsAt W v zs ∧ ∀ z ∈ zs, In64 z := by
  obtain ⟨rows, n', ⟨ad, cap, rfl, hn, hc, hq⟩, hr⟩ := rows_view Tryd.underlying22 (k := 1) (by kernel_rfl) (by decide) h
  obtain ⟨zs, hf0⟩ := f2_choose (R := fun (r : List Value) (z : Int) => r = [.int .i64 z] ∧ In64 z) (l := rows) (fun r hrm => by
    obtain ⟨hl, y, hy⟩ := hr r hrm
    match r, hl with
    | [v], _ =>
      obtain ⟨z, rfl, hz⟩ := int_cell hy
      exact ⟨z, rfl, in64 hz⟩)
  obtain ⟨hf, hin⟩ := f2_all hf0
  have hlen := f2_len hf
  refine ⟨zs, ⟨ad, cap, by rw [hlen], hn, ?_⟩, hin⟩
  rcases hq with hq | ⟨b, o, rfl, hq⟩
  · exact .inl (List.eq_nil_of_length_eq_zero (by rw [← hlen, hq]; rfl))
  · refine .inr ⟨b, o, rfl, fun t ht => ?_⟩
    obtain ⟨r, hrr, rfl⟩ := f2_get hf t (zs.getD t 0) (by rw [List.getD_eq_getElem?_getD, List.getElem?_eq_getElem ht]; rfl)
    have := (hq t _ hrr).2 0 _ rfl
    rw [Nat.mul_one, Nat.add_zero] at this
    exact this
theorem dots_cell {n : Nat} {v : Value} {y : DataW H × List MemPlace} (h : DataW.trod enc Tryd.prog W 0 (fun _ => true) true n 50 [v] = some y) : ∃ ds, DotsAt W v ds ∧ ∀ d ∈ ds, OkD d := by
  obtain ⟨rows, n', hR, hr⟩ := rows_view Tryd.underlying50 (k := 3) (by kernel_rfl) (by decide) h
  have : ∀ l : List (List Value), (∀ r ∈ l, ∃ d : D3, r = d.cells ∧ OkD d) → ∃ ds : List D3, l = ds.map D3.cells ∧ ∀ d ∈ ds, OkD d := by
    intro l
    induction l with
    | nil => exact fun _ => ⟨[], rfl, fun d hd => by simp at hd⟩
    | cons r l ih =>
      intro h
      obtain ⟨d, rfl, hd⟩ := h r (List.mem_cons_self ..)
      obtain ⟨ds, rfl, hds⟩ := ih (fun r hr => h r (List.mem_cons_of_mem _ hr))
      refine ⟨d :: ds, rfl, fun x hx => ?_⟩
      rcases List.mem_cons.1 hx with rfl | hx
      · exact hd
      · exact hds x hx
  obtain ⟨ds, rfl, hds⟩ := this rows fun r hrm => by
    obtain ⟨hl, y, hy⟩ := hr r hrm
    obtain ⟨m, hf⟩ := field1 Tryd.underlying62 (by kernel_rfl) hl hy
    match r, hl with
    | [a, b, c], _ =>
      obtain ⟨_, h0⟩ := hf 0 _ rfl
      obtain ⟨_, h1⟩ := hf 1 _ rfl
      obtain ⟨_, h2⟩ := hf 2 _ rfl
      obtain ⟨z0, e0, r0⟩ := int_cell h0
      obtain ⟨z1, e1, r1⟩ := int_cell h1
      obtain ⟨z2, e2, r2⟩ := int_cell h2
      have e0' : a = .int .i64 z0 := e0
      have e1' : b = .int .i64 z1 := e1
      have e2' : c = .int .i64 z2 := e2
      exact ⟨⟨z0, z1, z2⟩, by rw [e0', e1', e2']; rfl, in64 r0, in64 r1, in64 r2⟩
  exact ⟨ds, hR, hds⟩
theorem op_cells {n : Nat} {r : List Value} {y : DataW H × List MemPlace} (hl : r.length = 7) (h : DataW.trod enc Tryd.prog W 0 (fun _ => true) true n 52 r = some y) : ∃ o, OpRow W r o ∧ RgO o := by
  obtain ⟨m, hf⟩ := field1 Tryd.underlying52 (by kernel_rfl) hl h
  match r, hl with
  | [a, b, c, d, e, f, g], _ =>
    obtain ⟨_, h0⟩ := hf 0 _ rfl
    obtain ⟨_, h1⟩ := hf 1 _ rfl
    obtain ⟨_, h2⟩ := hf 2 _ rfl
    obtain ⟨_, h3⟩ := hf 3 _ rfl
    obtain ⟨_, h4⟩ := hf 4 _ rfl
    obtain ⟨_, h5⟩ := hf 5 _ rfl
    obtain ⟨_, h6⟩ := hf 6 _ rfl
    obtain ⟨z0, e0, r0⟩ := int_cell h0
    obtain ⟨z1, e1⟩ := str_cell h1
    obtain ⟨z2, e2, r2⟩ := int_cell h2
    obtain ⟨z3, e3⟩ := str_cell h3
    obtain ⟨z4, e4, r4⟩ := int_cell h4
    obtain ⟨z5, e5⟩ := bool_cell h5
    obtain ⟨ds, hd, hdr⟩ := dots_cell h6
    have e0' : a = .int .i64 z0 := e0
    have e1' : b = .string z1 := e1
    have e2' : c = .int .i64 z2 := e2
    have e3' : d = .string z3 := e3
    have e4' : e = .int .i64 z4 := e4
    have e5' : f = .bool z5 := e5
    exact ⟨⟨z0, z1, z2, z3, z4, z5, ds⟩, ⟨g, by rw [e0', e1', e2', e3', e4', e5']; rfl, hd⟩, in64 r0, in64 r2, in64 r4, hdr⟩
theorem ops_cell {n : Nat} {v : Value} {y : DataW H × List MemPlace} (h : DataW.trod enc Tryd.prog W 0 (fun _ => true) true n 23 [v] = some y) : ∃ os, OpsAt W v os ∧ ∀ o ∈ os, RgO o := by
  obtain ⟨rows, n', hR, hr⟩ := rows_view Tryd.underlying23 (k := 7) (by kernel_rfl) (by decide) h
  obtain ⟨os, hf0⟩ := f2_choose (R := fun r o => OpRow W r o ∧ RgO o) (l := rows) fun r hrm => op_cells (hr r hrm).1 (hr r hrm).2.choose_spec
  obtain ⟨hf, hin⟩ := f2_all hf0
  exact ⟨os, ⟨rows, hR, hf⟩, hin⟩
theorem com_cells {n : Nat} {r : List Value} {y : DataW H × List MemPlace} (hl : r.length = 3) (h : DataW.trod enc Tryd.prog W 0 (fun _ => true) true n 25 r = some y) : ∃ c, ComRow W r c ∧ RgC c := by
  obtain ⟨m, hf⟩ := field1 Tryd.underlying25 (by kernel_rfl) hl h
  match r, hl with
  | [a, b, c], _ =>
    obtain ⟨_, h0⟩ := hf 0 _ rfl
    obtain ⟨_, h1⟩ := hf 1 _ rfl
    obtain ⟨_, h2⟩ := hf 2 _ rfl
    obtain ⟨zs, hz, hzr⟩ := ints_cell h0
    obtain ⟨z1, e1, r1⟩ := int_cell h1
    obtain ⟨os, ho, hor⟩ := ops_cell h2
    have e1' : b = .int .i64 z1 := e1
    exact ⟨⟨zs, z1, os⟩, ⟨a, c, by rw [e1'], hz, ho⟩, hzr, in64 r1, hor⟩
/-- The value v is, in W, the message m. -/
def MsgVal (W : World) (v : Value) (m : MsgV) : Prop := ∃ wv ov, v = .agg #[.int .i64 m.frm, .int .i64 m.to_, .int .i64 m.shard, .int .i64 m.seq, .int .i64 m.time, .bool m.beat, wv, .int .i64 m.c.place, ov] ∧ IntsAt W wv m.c.when_ ∧ OpsAt W ov m.c.ops ∧ RgM m
theorem msg_view {v : Value} {d : DataW H} {p : List MemPlace} {base : Nat} (hv : Value.okWide Tryd.prog W .any base 27 v) (h : DataW.Trod enc Tryd.prog W 0 (fun _ => true) true 27 v d p) : ∃ m, MsgVal W v m := by
  obtain ⟨cs, rfl, hsz⟩ := okWide_struct Tryd.underlying27 hv
  obtain ⟨fuel, hf⟩ := h
  have h9 : Tryd.prog.cellsOf 27 = 9 := by kernel_rfl
  have hl : cs.toList.length = 9 := by rw [Array.length_toList, hsz, h9]
  have hf' : DataW.trod enc Tryd.prog W 0 (fun _ => true) true fuel 27 cs.toList = some (d, p) := by simpa [Value.cells] using hf
  obtain ⟨xs, n', _, _, _, hxl, hg⟩ := DataW.trod_struct Tryd.underlying27 hf'
  obtain ⟨l, hcl⟩ : ∃ l, l = cs.toList := ⟨_, rfl⟩
  rw [← hcl] at hl hg
  have hcs : cs = l.toArray := by rw [hcl]
  clear hcl hf hf' hv
  subst hcs
  match l, hl with
  | [a, b, c, d, e, f, g, i, j], _ =>
    have g0 : DataW.trod enc Tryd.prog W 0 (fun _ => true) true n' 3 (([a, b, c, d, e, f, g, i, j].drop 0).take (Tryd.prog.cellsOf 3)) = _ := hg 0 _ rfl
    have g1 : DataW.trod enc Tryd.prog W 0 (fun _ => true) true n' 3 (([a, b, c, d, e, f, g, i, j].drop 1).take (Tryd.prog.cellsOf 3)) = _ := hg 1 _ rfl
    have g2 : DataW.trod enc Tryd.prog W 0 (fun _ => true) true n' 3 (([a, b, c, d, e, f, g, i, j].drop 2).take (Tryd.prog.cellsOf 3)) = _ := hg 2 _ rfl
    have g3 : DataW.trod enc Tryd.prog W 0 (fun _ => true) true n' 3 (([a, b, c, d, e, f, g, i, j].drop 3).take (Tryd.prog.cellsOf 3)) = _ := hg 3 _ rfl
    have g4 : DataW.trod enc Tryd.prog W 0 (fun _ => true) true n' 3 (([a, b, c, d, e, f, g, i, j].drop 4).take (Tryd.prog.cellsOf 3)) = _ := hg 4 _ rfl
    have g5 : DataW.trod enc Tryd.prog W 0 (fun _ => true) true n' 4 (([a, b, c, d, e, f, g, i, j].drop 5).take (Tryd.prog.cellsOf 4)) = _ := hg 5 _ rfl
    have g6 : DataW.trod enc Tryd.prog W 0 (fun _ => true) true n' 25 (([a, b, c, d, e, f, g, i, j].drop 6).take (Tryd.prog.cellsOf 25)) = _ := hg 6 _ rfl
    have k3 : Tryd.prog.cellsOf 3 = 1 := by kernel_rfl
    have k4 : Tryd.prog.cellsOf 4 = 1 := by kernel_rfl
    have k25 : Tryd.prog.cellsOf 25 = 3 := by kernel_rfl
    have hx7 : xs.length = 7 := hxl
    rw [k3, List.getElem?_eq_getElem (by omega)] at g0 g1 g2 g3 g4
    rw [k4, List.getElem?_eq_getElem (by omega)] at g5
    rw [k25, List.getElem?_eq_getElem (by omega)] at g6
    obtain ⟨z0, e0, r0⟩ := int_cell (v := a) g0
    obtain ⟨z1, e1, r1⟩ := int_cell (v := b) g1
    obtain ⟨z2, e2, r2⟩ := int_cell (v := c) g2
    obtain ⟨z3, e3, r3⟩ := int_cell (v := d) g3
    obtain ⟨z4, e4, r4⟩ := int_cell (v := e) g4
    obtain ⟨z5, e5⟩ := bool_cell (v := f) g5
    obtain ⟨c6, ⟨wv, ov, e6, hw, ho⟩, r6⟩ := com_cells (r := [g, i, j]) rfl g6
    injection e6 with e61 e6
    injection e6 with e62 e6
    injection e6 with e63 _
    subst e0 e1 e2 e3 e4 e5 e61 e62 e63
    exact ⟨⟨z0, z1, z2, z3, z4, z5, c6⟩, g, j, rfl, hw, ho, ⟨in64 r0, in64 r1, in64 r2, in64 r3, in64 r4, r6⟩⟩
end
theorem Tryd.read27 : Tryd.prog.readableRec 27 = true := by kernel_rfl
theorem Tryd.lt27 : 27 < Tryd.prog.types.size := of_decide_eq_true (by kernel_rfl)
theorem msg_stay {H : Type} {enc : TypeId × Value → H} {W W' : World} {v : Value} {d : DataW H} {p : List MemPlace} (h : DataW.Trod enc Tryd.prog W 0 (fun _ => true) true 27 v d p) (hb : Below W.heap.size W W') (hlt : ∀ x ∈ p, x.block < W.heap.size) :
    DataW.Trod enc Tryd.prog W' 0 (fun b => decide (b < W.heap.size)) true 27 v d p := Below.trod Tryd.laidOut Tryd.read27 Tryd.lt27 h hb hlt
end Go.Proofs.YtkonjpcgfdcfbaaDoor
