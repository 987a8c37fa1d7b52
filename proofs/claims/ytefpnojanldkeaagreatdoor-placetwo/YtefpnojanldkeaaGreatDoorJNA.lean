/- Slices of ops as they come in; PlaceTwo: the op of a round: its cells, what is asked of it, the slice of it alone; PlaceTwo: what is read at the end, at each of both places; PlaceCause: a commit and a beat of a place among others; what is read of commits of one op each. -/
import Derived.Test.YtefpnojanldkeaaGreatDoorJVMap
import Derived.Test.YtefpnojanldkeaaGreatDoorJSDel
import Derived.Test.YtefpnojanldkeaaGreatDoorJMV
import Derived.Deep.Slices
import Derived.Deep.Fields
import Derived.Test.YtefpnojanldkeaaGreatDoorJOJ
namespace Go.Proofs.YtefpnojanldkeaaGreatDoor
open Go.ChangeShapes Go.WideShapes Go.ChangeAt Go.RowKit Go.Deep
set_option maxRecDepth 100000
set_option linter.unusedSectionVars false
variable [Inhabited ComV] [DecidableEq D3] [Inhabited D3] [Inhabited Dd] [Inhabited Dn] [Inhabited OpV]

section
variable {H : Type} {enc : TypeId × Value → H} {W : World}
theorem rows_view {t e k fuel : Nat} {v : Value} {x : DataW H × List MemPlace} (ht : Tryz.prog.underlying t = some (.slice e)) (hk : Tryz.prog.cellsOf e = k) (hk0 : 0 < k) (h : DataW.trod enc Tryz.prog W 0 (fun _ => true) true fuel t [v] = some x) :
    ∃ rows n, RowAt k W v rows ∧ rows.length ≤ 9223372036854775807 ∧ ∀ r ∈ rows, r.length = k ∧ ∃ y, DataW.trod enc Tryz.prog W 0 (fun _ => true) true n e r = some y := by
  rcases open_slice ht h with ⟨hv, _⟩ | ⟨a, len, cap, m, n, D, Pl, hv, _, hl, hm, hmm, _, hx⟩
  · simp only [List.cons.injEq, and_true] at hv
    subst hv
    exact ⟨[], 0, ⟨none, 0, rfl, fun _ => rfl, Nat.le_refl _, .inl rfl⟩, Nat.zero_le _, fun r hr => by simp at hr⟩
  · simp only [List.cons.injEq, and_true] at hv
    subst hv
    simp only [if_true] at hmm
    subst hmm
    rw [hk] at hx
    obtain ⟨R, hR⟩ := choose_lt (α := List Value) (p := fun i r => W.cells? 0 (a.add (i * k)) k = some r ∧ DataW.trod enc Tryz.prog W 0 (fun _ => true) true n e r = some (D i, Pl i)) hx
    have hrow : ∀ i, i < m → (R i).length = k := fun i hi => (World.cells?_some (hR i hi).1).2.1
    refine ⟨(List.range len).map R, n, ⟨some a, m, by simp, (fun h => by cases h), by simpa using hl, ?_⟩, by rw [List.length_map, List.length_range]; exact Nat.le_trans hl hm, fun r hr => ?_⟩
    · by_cases h0 : len = 0
      · subst h0; exact .inl rfl
      · have h00 := (hR 0 (by omega)).1
        obtain ⟨_, hlen, hcell⟩ := World.cells?_some h00
        obtain ⟨b, o, spot⟩ := a
        have hc0 := hcell 0 hk0
        rw [Nat.zero_mul, List.getElem?_eq_getElem (by omega)] at hc0
        have hspot : spot = none := by simpa [Addr.add] using World.cell?_spot hc0
        subst hspot
        refine .inr ⟨b, o, rfl, fun j r hr => ?_⟩
        have hj : j < len := by have := (List.getElem?_eq_some_iff.1 hr).1; simpa using this
        rw [List.getElem?_map, List.getElem?_range hj] at hr
        obtain rfl := Option.some.inj hr
        refine ⟨hrow j (by omega), fun i u hu => ?_⟩
        obtain ⟨_, hlen, hcell⟩ := World.cells?_some (hR j (by omega)).1
        have hi : i < k := by have := (List.getElem?_eq_some_iff.1 hu).1; omega
        have := hcell i hi
        rw [add_add, Addr.add_lit, hu] at this
        rw [← this]
        congr 2
        omega
    · obtain ⟨i, hi, rfl⟩ := List.mem_map.1 hr
      have hi' := List.mem_range.1 hi
      exact ⟨hrow i (by omega), _, (hR i (by omega)).2⟩
theorem f2_choose {α β : Type} {R : α → β → Prop} : ∀ {l : List α}, (∀ a ∈ l, ∃ b, R a b) → ∃ m, F2 R l m
  | [], _ => ⟨[], trivial⟩
  | a :: l, h => by
    obtain ⟨b, hb⟩ := h a (List.mem_cons_self ..)
    obtain ⟨m, hm⟩ := f2_choose (fun a ha => h a (List.mem_cons_of_mem _ ha))
    exact ⟨b :: m, hb, hm⟩
theorem field1 {t n : Nat} {fs : Array Field} {r : List Value} {x : DataW H × List MemPlace} (ht : Tryz.prog.underlying t = some (.struct fs)) (hone : oneCellFields Tryz.prog fs = true) (hl : r.length = fs.size) (h : DataW.trod enc Tryz.prog W 0 (fun _ => true) true n t r = some x) :
    ∃ n', ∀ (i : Nat) (f : Field), fs[i]? = some f → ∃ y, DataW.trod enc Tryz.prog W 0 (fun _ => true) true n' f.type [r.getD i undef] = some y := by
  obtain ⟨xs, n', _, _, _, hxl, hf⟩ := DataW.trod_struct ht h
  refine ⟨n', fun i f hi => ?_⟩
  have hlt : i < fs.size := (Array.getElem?_eq_some_iff.1 hi).1
  obtain ⟨ho, hc1⟩ := hone_of hone i f hi
  have g := hf i f hi
  rw [ho, hc1, take1_drop r i undef (by omega), List.getElem?_eq_getElem (by omega)] at g
  exact ⟨_, g⟩
theorem int_cell {n : Nat} {v : Value} {y : DataW H × List MemPlace} (h : DataW.trod enc Tryz.prog W 0 (fun _ => true) true n 3 [v] = some y) : ∃ z, v = .int .i64 z ∧ (Lit.int .i64 z).wf = true := by
  obtain ⟨z, hz, _, hw⟩ := DataW.trod_int Tryz.underlying3 h
  exact ⟨z, by simpa using hz, hw⟩
theorem str_cell {n : Nat} {v : Value} {y : DataW H × List MemPlace} (h : DataW.trod enc Tryz.prog W 0 (fun _ => true) true n 9 [v] = some y) : ∃ s, v = .string s ∧ s.size ≤ 9223372036854775807 := by
  obtain ⟨z, hz, _, hm⟩ := DataW.trod_string Tryz.underlying9 h
  exact ⟨z, by simpa using hz, hm⟩
theorem bool_cell {n : Nat} {v : Value} {y : DataW H × List MemPlace} (h : DataW.trod enc Tryz.prog W 0 (fun _ => true) true n 4 [v] = some y) : ∃ s, v = .bool s := by
  obtain ⟨z, hz, _⟩ := DataW.trod_bool Tryz.underlying4 h
  exact ⟨z, by simpa using hz⟩
theorem intsV_cell {n : Nat} {v : Value} {y : DataW H × List MemPlace} (h : DataW.trod enc Tryz.prog W 0 (fun _ => true) true n 23 [v] = some y) : ∃ zs, IntsAt W v zs := by
  obtain ⟨rows, n', ⟨ad, cap, rfl, hn, hc, hq⟩, _, hr⟩ := rows_view Tryz.underlying23 (k := 1) (by kernel_rfl) (by decide) h
  obtain ⟨zs, hf⟩ := f2_choose (R := fun (r : List Value) (z : Int) => r = [.int .i64 z]) (l := rows) (fun r hrm => by
    obtain ⟨hl, y, hy⟩ := hr r hrm
    match r, hl with
    | [v], _ =>
      obtain ⟨z, rfl, _⟩ := int_cell hy
      exact ⟨z, rfl⟩)
  have hlen := f2_len hf
  refine ⟨zs, ad, cap, by rw [hlen], hn, ?_⟩
  rcases hq with hq | ⟨b, o, rfl, hq⟩
  · exact .inl (List.eq_nil_of_length_eq_zero (by rw [← hlen, hq]; rfl))
  · refine .inr ⟨b, o, rfl, fun t ht => ?_⟩
    obtain ⟨r, hrr, rfl⟩ := f2_get hf t (zs.getD t 0) (by rw [List.getD_eq_getElem?_getD, List.getElem?_eq_getElem ht]; rfl)
    have := (hq t _ hrr).2 0 _ rfl
    rw [Nat.mul_one, Nat.add_zero] at this
    exact this
theorem dots_cell {n : Nat} {v : Value} {y : DataW H × List MemPlace} (h : DataW.trod enc Tryz.prog W 0 (fun _ => true) true n 32 [v] = some y) : ∃ ds, DotsAt W v ds ∧ ds.length ≤ 9223372036854775807 := by
  obtain ⟨rows, n', hR, hrl, hr⟩ := rows_view Tryz.underlying32 (k := 3) (by kernel_rfl) (by decide) h
  have : ∀ l : List (List Value), (∀ r ∈ l, ∃ d : D3, r = d.cells) → ∃ ds : List D3, l = ds.map D3.cells := by
    intro l
    induction l with
    | nil => exact fun _ => ⟨[], rfl⟩
    | cons r l ih =>
      intro h
      obtain ⟨d, rfl⟩ := h r (List.mem_cons_self ..)
      obtain ⟨ds, rfl⟩ := ih (fun r hr => h r (List.mem_cons_of_mem _ hr))
      exact ⟨d :: ds, rfl⟩
  obtain ⟨ds, rfl⟩ := this rows fun r hrm => by
    obtain ⟨hl, y, hy⟩ := hr r hrm
    obtain ⟨m, hf⟩ := field1 Tryz.underlying90 (by kernel_rfl) hl hy
    match r, hl with
    | [a, b, c], _ =>
      obtain ⟨_, h0⟩ := hf 0 _ rfl
      obtain ⟨_, h1⟩ := hf 1 _ rfl
      obtain ⟨_, h2⟩ := hf 2 _ rfl
      obtain ⟨z0, e0, _⟩ := int_cell h0
      obtain ⟨z1, e1, _⟩ := int_cell h1
      obtain ⟨z2, e2, _⟩ := int_cell h2
      have e0' : a = .int .i64 z0 := e0
      have e1' : b = .int .i64 z1 := e1
      have e2' : c = .int .i64 z2 := e2
      exact ⟨⟨z0, z1, z2⟩, by rw [e0', e1', e2']; rfl⟩
  exact ⟨ds, hR, by rw [List.length_map] at hrl; exact hrl⟩
theorem op_cells {n : Nat} {r : List Value} {y : DataW H × List MemPlace} (hl : r.length = 7) (h : DataW.trod enc Tryz.prog W 0 (fun _ => true) true n 34 r = some y) : ∃ o, OpRow W r o ∧ o.dots.length ≤ 9223372036854775807 ∧ o.text.size ≤ 9223372036854775807 := by
  obtain ⟨m, hf⟩ := field1 Tryz.underlying34 (by kernel_rfl) hl h
  match r, hl with
  | [a, b, c, d, e, f, g], _ =>
    obtain ⟨_, h0⟩ := hf 0 _ rfl
    obtain ⟨_, h1⟩ := hf 1 _ rfl
    obtain ⟨_, h2⟩ := hf 2 _ rfl
    obtain ⟨_, h3⟩ := hf 3 _ rfl
    obtain ⟨_, h4⟩ := hf 4 _ rfl
    obtain ⟨_, h5⟩ := hf 5 _ rfl
    obtain ⟨_, h6⟩ := hf 6 _ rfl
    obtain ⟨z0, e0, _⟩ := int_cell h0
    obtain ⟨z1, e1, _⟩ := str_cell h1
    obtain ⟨z2, e2, _⟩ := int_cell h2
    obtain ⟨z3, e3, hm3⟩ := str_cell h3
    obtain ⟨z4, e4, _⟩ := int_cell h4
    obtain ⟨z5, e5⟩ := bool_cell h5
    obtain ⟨ds, hd, hm6⟩ := dots_cell h6
    have e0' : a = .int .i64 z0 := e0
    have e1' : b = .string z1 := e1
    have e2' : c = .int .i64 z2 := e2
    have e3' : d = .string z3 := e3
    have e4' : e = .int .i64 z4 := e4
    have e5' : f = .bool z5 := e5
    exact ⟨⟨z0, z1, z2, z3, z4, z5, ds⟩, ⟨g, by rw [e0', e1', e2', e3', e4', e5']; rfl, hd⟩, hm6, hm3⟩
theorem f2_split {α β : Type} {R : α → β → Prop} {Q : β → Prop} : ∀ {l : List α} {m : List β}, F2 (fun a b => R a b ∧ Q b) l m → F2 R l m ∧ ∀ b ∈ m, Q b
  | [], [], _ => ⟨trivial, fun b hb => by simp at hb⟩
  | _ :: _, _ :: _, h => by
    obtain ⟨h1, h2⟩ := h
    obtain ⟨i1, i2⟩ := f2_split h2
    refine ⟨⟨h1.1, i1⟩, fun b hb => ?_⟩
    rcases List.mem_cons.1 hb with rfl | hb
    · exact h1.2
    · exact i2 b hb
  | [], _ :: _, h => h.elim
  | _ :: _, [], h => h.elim
theorem opsV_cell {n : Nat} {v : Value} {y : DataW H × List MemPlace} (h : DataW.trod enc Tryz.prog W 0 (fun _ => true) true n 30 [v] = some y) : ∃ os, OpsAt W v os ∧ ∀ o ∈ os, o.dots.length ≤ 9223372036854775807 ∧ o.text.size ≤ 9223372036854775807 := by
  obtain ⟨rows, n', hR, _, hr⟩ := rows_view Tryz.underlying30 (k := 7) (by kernel_rfl) (by decide) h
  obtain ⟨os, hf⟩ := f2_choose (R := fun r (o : OpV) => OpRow W r o ∧ (o.dots.length ≤ 9223372036854775807 ∧ o.text.size ≤ 9223372036854775807)) (l := rows) fun r hrm => op_cells (hr r hrm).1 (hr r hrm).2.choose_spec
  obtain ⟨h1, h2⟩ := f2_split hf
  exact ⟨os, ⟨rows, hR, h1⟩, h2⟩
theorem Tryz.readP30 : Tryz.prog.readableRec 30 = true := by kernel_rfl
theorem Tryz.ltP30 : 30 < Tryz.prog.types.size := of_decide_eq_true (by kernel_rfl)
theorem ops_view {v : Value} {d : DataW H} {p : List MemPlace} {base : Nat} (_hv : Value.okWide Tryz.prog W .any base 30 v) (h : DataW.Trod enc Tryz.prog W 0 (fun _ => true) true 30 v d p) : ∃ os, OpsAt W v os ∧ ∀ o ∈ os, o.dots.length ≤ 9223372036854775807 ∧ o.text.size ≤ 9223372036854775807 := by
  obtain ⟨a0, len, cap, rfl⟩ := okWide_slice Tryz.underlying30 _hv
  obtain ⟨fuel, hf⟩ := h
  exact opsV_cell hf
end
theorem ops_stay {H : Type} {enc : TypeId × Value → H} {W W' : World} {v : Value} {d : DataW H} {p : List MemPlace} (h : DataW.Trod enc Tryz.prog W 0 (fun _ => true) true 30 v d p) (hb : Below W.heap.size W W') (hlt : ∀ x ∈ p, x.block < W.heap.size) :
    DataW.Trod enc Tryz.prog W' 0 (fun b => decide (b < W.heap.size)) true 30 v d p :=
  Below.trod Tryz.laidOutP Tryz.readP30 Tryz.ltP30 h hb hlt
end Go.Proofs.YtefpnojanldkeaaGreatDoor
namespace Go.Proofs.YtefpnojanldkeaaGreatDoor
open Go.RowKit Go.Maps
set_option maxRecDepth 100000
set_option linter.unusedSectionVars false
variable [Inhabited ComV] [DecidableEq D3] [Inhabited D3] [Inhabited Dd] [Inhabited Dn] [Inhabited OpV]

theorem two_op {w wr : World} {fa : Option Addr} {fn fc m : Nat} {fs : List OpV} (hf : OpsAt w (.slice fa fn fc) fs) (hfn : fn = fs.length) (hb : Below w.heap.size w wr) (hm : m < fn) (hz : ∀ o ∈ fs, o.dots.length ≤ 9223372036854775807 ∧ o.text.size ≤ 9223372036854775807) :
    ∃ (b off dc : Nat) (dp : Option Addr) (o : OpV) (er : Nat), fa = some ⟨b, off, none⟩ ∧ fn ≤ fc ∧ o = fs.getD m default ∧ er = opErr o 2 ∧
      wr.cell? ⟨b, off + m * 7, none⟩ = some (.int .i64 o.at_) ∧ wr.cell? ⟨b, off + m * 7 + 1, none⟩ = some (.string o.key) ∧ wr.cell? ⟨b, off + m * 7 + 2, none⟩ = some (.int .i64 o.kind) ∧ wr.cell? ⟨b, off + m * 7 + 3, none⟩ = some (.string o.text) ∧ wr.cell? ⟨b, off + m * 7 + 4, none⟩ = some (.int .i64 o.n) ∧ wr.cell? ⟨b, off + m * 7 + 5, none⟩ = some (.bool o.rem) ∧ wr.cell? ⟨b, off + m * 7 + 6, none⟩ = some (.slice dp o.dots.length dc) ∧
      Hid (Calls Tryz.prog 15 #[.agg #[.int .i64 o.at_, .string o.key, .int .i64 o.kind, .string o.text, .int .i64 o.n, .bool o.rem, .slice dp o.dots.length dc], .int .i64 2] wr fun e w' => e = .returned (.int .i64 ((er : Nat) : Int)) ∧ Below wr.heap.size wr w') ∧
      Hid (∀ W, Below wr.heap.size wr W → OpsAt W (.slice (some ⟨b, off + m * 7, none⟩) 1 (fc - m)) [o]) := by
  obtain ⟨ad, cap, hsl, _, hcap, hop⟩ := hf.shape
  injection hsl with ha1 ha2 ha3
  obtain ⟨b, off, had, ho'⟩ := hop.resolve_left (fun h => by rw [h] at hfn; simp at hfn; omega)
  rw [had] at ha1
  obtain ⟨dp, dc, hdd, q0, q1, q2, q3, q4, q5, q6⟩ := ho' m (by omega)
  have hge : fs[m]! = fs.getD m default := by rw [getElem!_pos fs m (by omega), List.getD_eq_getElem?_getD, List.getElem?_eq_getElem (by omega)]; rfl
  have hmem : fs.getD m default ∈ fs := by rw [List.getD_eq_getElem?_getD, List.getElem?_eq_getElem (by omega)]; exact List.getElem_mem _
  rw [hge] at hdd q0 q1 q2 q3 q4 q5 q6
  obtain ⟨o, hoe⟩ : ∃ o, o = fs.getD m default := ⟨_, rfl⟩
  rw [← hoe] at hdd q0 q1 q2 q3 q4 q5 q6 hmem
  have up : ∀ {a : Addr} {u : Value}, w.cell? a = some u → wr.cell? a = some u := fun {a u} h => by rw [hb.cell (lt_of_cell h)]; exact h
  have K15 := rOpError wr o.at_ o.key o.kind o.text o.n o.rem dp dc o.dots 2 (hdd.mono hb (Nat.le_refl _)) (hz o hmem).1 (hz o hmem).2
  refine ⟨b, off, dc, dp, o, opErr o 2, ha1, by omega, hoe, rfl, up q0, up q1, up q2, up q3, up q4, up q5, up q6, K15, (show ∀ W, _ → _ from fun W hW => ?_)⟩
  have up' : ∀ {a : Addr} {u : Value}, w.cell? a = some u → W.cell? a = some u := fun {a u} h => by rw [hW.cell (lt_of_cell (up h))]; exact up h
  refine ⟨[opCells o (.slice dp o.dots.length dc)], ⟨_, _, rfl, (fun e => by cases e), by show 1 ≤ fc - m; omega, .inr ⟨b, off + m * 7, rfl, fun j r hj => ?_⟩⟩, ⟨.slice dp o.dots.length dc, rfl, (hdd.mono hb (Nat.le_refl _)).mono hW (Nat.le_refl _)⟩, trivial⟩
  obtain ⟨rfl, rfl⟩ : j = 0 ∧ r = opCells o (.slice dp o.dots.length dc) := by
    cases j with
    | zero => exact ⟨rfl, by simpa using hj.symm⟩
    | succ j => simp at hj
  refine ⟨rfl, fun i u hu => ?_⟩
  rw [Nat.zero_mul, Nat.add_zero]
  match i, hu with
  | 0, hu => obtain rfl := Option.some.inj hu; exact up' q0
  | 1, hu => obtain rfl := Option.some.inj hu; exact up' q1
  | 2, hu => obtain rfl := Option.some.inj hu; exact up' q2
  | 3, hu => obtain rfl := Option.some.inj hu; exact up' q3
  | 4, hu => obtain rfl := Option.some.inj hu; exact up' q4
  | 5, hu => obtain rfl := Option.some.inj hu; exact up' q5
  | 6, hu => obtain rfl := Option.some.inj hu; exact up' q6
  | i + 7, hu => simp [opCells] at hu

theorem two_go (A : Nat → Addr) {w wr : World} {hp hq : PlH} {vp vq : PlV} {id k m fn : Nat} {os : List OpV} (hS : Sents A w.heap.size w) (I : TwI w hp vp hq vq wr) (hC : CmS id k os (min m fn) hp vp) (hid_ : id < 2) (hfn : fn = os.length) (hn : fn ≤ 8) (hlt : m < fn) (hr : ∀ t, t < min m fn → opErr (os.getD t default) 2 = 0) (hO0 : opErr (os.getD m default) 2 = 0) {pb : Nat} (hpb : hp.pb = pb) :
    (∀ t, t < min (m + 1) fn → opErr (os.getD t default) 2 = 0) ∧
    ∀ W, Below wr.heap.size wr W → Calls Tryz.prog 12 #[.pointer (some ⟨pb, 0, none⟩)] W (fun e W' => e = .returned (.slice (some ⟨W.heap.size, 0, none⟩) 2 2) ∧ Below W.heap.size W W' ∧ IntsAt W' (.slice (some ⟨W.heap.size, 0, none⟩) 2 2) (snapV vp)) ∧
      ∀ (a1 a2 : Option Addr) (c1 c2 : Nat), IntsAt W (.slice a1 2 c1) (snapV vp) → OpsAt W (.slice a2 1 c2) [os.getD m default] → Calls Tryz.prog 9 #[.pointer (some ⟨pb, 0, none⟩), .slice a1 2 c1, .slice a2 1 c2] W fun e W' => ∃ (a3 a4 : Option Addr) (c3 c4 : Nat) (ra : Option Addr) (rn rc : Nat), e = .returned (.tuple #[.agg #[.slice a3 2 c3, .int .i64 id, .slice a4 1 c4], .slice ra rn rc, .nilIface]) ∧
        ∃ (hp2 : PlH) (vp2 : PlV), hp2.pb = pb ∧ TwI w hp2 vp2 hq vq W' ∧ CmS id k os (min (m + 1) fn) hp2 vp2 := by
  have hmin : min m fn = m := Nat.min_eq_left (by omega)
  have hmin' : min (m + 1) fn = m + 1 := Nat.min_eq_left (by omega)
  rw [hmin] at hC hr
  rw [hmin']
  subst hpb
  have hrr : ∀ t, t < m + 1 → opErr (os.getD t default) 2 = 0 := fun t ht => by
    by_cases e : t = m
    · rw [e]; exact hO0
    · exact hr t (by omega)
  refine ⟨hrr, fun W hW => ⟨?_, fun a1 a2 c1 c2 hv ho => ?_⟩⟩
  · have hvn := hC.vn
    refine (snapshot_any W hp vp (I.below hW).p).mono ?_
    rintro e W' ⟨he, h1, h2⟩
    refine ⟨by rw [he, hvn], h2, ?_⟩
    have h0 := ints_heap (c := 2) h1
    rw [snapV_len, hvn] at h0
    exact h0
  · refine (two_next A (hS.sen.below (I.below hW).bel) (I.below hW) hC hid_ (by omega) hrr (by omega) a1 a2 c1 c2 hv ho).mono ?_
    rintro e W' ⟨hp2, vp2, a3, a4, c3, c4, ra, rn, rc, he, h1, h2, h3⟩
    exact ⟨a3, a4, c3, c4, ra, rn, rc, he, hp2, vp2, h1, h2, h3⟩
end Go.Proofs.YtefpnojanldkeaaGreatDoor
namespace Go.Proofs.YtefpnojanldkeaaGreatDoor
open Go.RowKit Go.Maps
set_option maxRecDepth 10000
set_option linter.unusedSectionVars false
variable [Inhabited ComV] [DecidableEq D3] [Inhabited D3] [Inhabited Dd] [Inhabited Dn] [Inhabited OpV]

theorem setA_len (ts : List ByteArray) : (setA ts).length ≤ ts.length := by
  unfold setA Lib.compact Lib.compactUpTo
  rw [List.length_map]
  refine Nat.le_trans (List.length_filter_le _ _) ?_
  rw [List.length_range, List.length_mergeSort, List.length_map]
  exact Nat.le_refl _
theorem set_fewL {key : ByteArray} {l : List ComV} {ds : List Dn} (h : IsOps key l ds) (hok : ∀ c ∈ l, c.ops.length ≤ 12) (hl : l.length ≤ 1000) : (valA ds).set.length ≤ 1000000 := by
  have h1 := isOps_len h hok
  have h2 : (valA ds).set.length ≤ ds.length := by
    unfold valA
    split
    · simp
    · split
      · simp
      · split
        · simp
        · refine Nat.le_trans (setA_len _) ?_
          rw [List.length_map]
          exact List.length_filter_le _ _
  omega

theorem full_read (A : Nat → Addr) {W : World} {h : PlH} {v : PlV} {O : Nat → List OpV} {D : List (Nat × Nat)} (hE : E4 A W) (h12 : 12 ≤ W.heap.size) (a : PlAt W h v) (vn : v.n = 2) (hO : ∀ j, j < 2 → OpsR (O j)) (hs : snapV v = [((O 0).length : Int), ((O 1).length : Int)]) (hn : D.Nodup) (hD : ∀ p, p ∈ D ↔ p.1 < 2 ∧ p.2 < (O p.1).length) (hst : v.st = stOf 2 (D.map (CT O))) (key : ByteArray) (hk : nameB key = true) (va : Option Addr) (vc : Nat) (hv : IntsAt W (.slice va 2 vc) (snapV v)) :
    Calls Tryz.prog 13 #[.pointer (some ⟨h.pb, 0, none⟩), .string key, .slice va 2 vc] W fun e W' => ∃ (ds : List Dn) (sv : Value), e = .returned (.tuple #[.agg #[.int .i64 (valA ds).kind, .string (valA ds).text, .int .i64 (valA ds).n, sv], .nilIface]) ∧ IsOps key (seenL (stOf 2 (D.map (CT O))) key (snapV v)) ds ∧ StrsAt W' sv (valA ds).set ∧ (valA ds).set.length ≤ 1000000 ∧ Below W.heap.size W W' := by
  have hkp := kept_two hO D hn fun p hp => (hD p).1 hp
  have l0 := (hO 0 (by decide)).len
  have l1 := (hO 1 (by decide)).len
  have hc : chk (snapV v) = 0 := by
    rw [hs]
    refine chk_zero.2 ⟨by show 1 ≤ 2; decide, by show 2 ≤ 6; decide, fun t ht => ?_⟩
    have ht' : t < 2 := ht
    rcases (by omega : t = 0 ∨ t = 1) with rfl | rfl
    · show (0 : Int) ≤ ((O 0).length : Int) ∧ ((O 0).length : Int) ≤ 1099511627776; omega
    · show (0 : Int) ≤ ((O 1).length : Int) ∧ ((O 1).length : Int) ≤ 1099511627776; omega
  have h2 : two (snapV v) (snapV v) = 0 := by
    unfold two
    rw [hc]
    simp
  have hle : leB (snapV v) (snapV v) = true := by
    unfold leB
    rw [List.all_eq_true]
    intro i _
    exact decide_eq_true (Int.le_refl _)
  have hb : leB v.st.base (snapV v) = true := by
    rw [hst, hs]
    unfold leB
    rw [List.all_eq_true]
    intro t ht
    have ht' : t < 2 := by simpa [stOf] using List.mem_range.1 ht
    rcases (by omega : t = 0 ∨ t = 1) with rfl | rfl
    · exact decide_eq_true (show (0 : Int) ≤ ((O 0).length : Int) by omega)
    · exact decide_eq_true (show (0 : Int) ≤ ((O 1).length : Int) by omega)
  have hfewD : D.length ≤ 16 := by
    have h1 : (D.map fun p => p.1 * 8 + p.2).Nodup := by
      rw [List.nodup_iff_pairwise_ne, List.pairwise_map]
      rw [List.nodup_iff_pairwise_ne] at hn
      refine hn.imp_of_mem fun ha hb' hab e => hab ?_
      have q1 := (hD _).1 ha
      have q2 := (hD _).1 hb'
      have := (hO _ q1.1).len
      have := (hO _ q2.1).len
      exact Prod.ext (by omega) (by omega)
    have h2 := nodup_bound 16 _ h1 fun x hx => by
      obtain ⟨p, hp, rfl⟩ := List.mem_map.1 hx
      have q1 := (hD _).1 hp
      have := (hO _ q1.1).len
      omega
    rwa [List.length_map] at h2
  have hfew := rowOf_few hkp (by rw [List.length_map]; omega) key
  have hsm : ∀ c ∈ D.map (CT O), SmallC c := fun c hc => by
    obtain ⟨p, hp, rfl⟩ := List.mem_map.1 hc
    have q1 := (hD p).1 hp
    exact (comT_ok q1.1 (hO _ q1.1) q1.2).2.2.2
  refine (read_any A W hE h12 h v a key hk va 2 vc (snapV v) hv h2 hle (by rw [vn, hst]; exact stOf_ok hkp (by decide) (by decide) hsm) hb (by rw [hst]; exact hfew)).mono ?_
  rintro e W' ⟨vv, ds, he, hd, ⟨sv, hvv, hss⟩, hbl⟩
  rw [hst] at hd
  have hlen : (seenL (stOf 2 (D.map (CT O))) key (snapV v)).length ≤ 1000 := Nat.le_trans (List.length_filter_le _ _) hfew
  have hops : ∀ c ∈ seenL (stOf 2 (D.map (CT O))) key (snapV v), c.ops.length ≤ 12 := fun c hc => by
    have := seenL_mem hc
    obtain ⟨y, _, g3⟩ := List.mem_flatMap.1 this
    obtain ⟨o, _, rfl⟩ := List.mem_map.1 g3
    show 1 ≤ 12
    decide
  exact ⟨ds, sv, by rw [he, hvv], hd, hss, set_fewL hd hops hlen, hbl⟩
end Go.Proofs.YtefpnojanldkeaaGreatDoor
namespace Go.Proofs.YtefpnojanldkeaaGreatDoor
open Go.RowKit Go.Maps
set_option maxRecDepth 10000
set_option linter.unusedSectionVars false
variable [Inhabited ComV] [DecidableEq D3] [Inhabited D3] [Inhabited Dd] [Inhabited Dn] [Inhabited OpV]

def CommitGen (n1 n2 : Nat) (w : World) (h : PlH) (v : PlV) (c : ComV) (e : Ending) (w' : World) : Prop :=
  ∃ (h' : PlH) (a3 a4 : Option Addr) (c3 c4 : Nat) (rv : Value) (rs : List Raw), e = .returned (.tuple #[.agg #[.slice a3 n1 c3, .int .i64 v.id, .slice a4 n2 c4], rv, .nilIface]) ∧ h'.pb = h.pb ∧ rs.length ≤ v.n * v.k ∧ PlAt w' h' (pv2 v c) ∧ PlMoves w w' h v h' (pv2 v c) ∧ w'.ownsRow w.heap.size 44 9 rv rs.length (raws rs) ∧ (∀ q, rv.ownBlock = some q → ¬ h'.foot (pv2 v c) q) ∧ F2 (RawOwn 0 w') rs (allMs (sendT (comV1 v c) c) v.id v.k v.n)
theorem commit_gen (A : Nat → Addr) {w0 W : World} {n id k : Nat} {C : Nat → ComV} {J : Nat → Prop} {i : Nat} {h : PlH} {v : PlV} {ks : List ByteArray} (hS : Sen A w0.heap.size W) (a : PlAt W h v) (la : ∀ q, h.foot v q → w0.heap.size ≤ q) (hI : RcI n id k C J i h v) (hi : i ≤ 70) (hC : ∀ j, J j → SrcOk n C j) (hks : ks ≠ []) (h12 : ks.length ≤ 12) (hn : ∀ key ∈ ks, nameB key = true) (a1 a2 : Option Addr) (n1 c1 n2 c2 : Nat) (hv : IntsAt W (.slice a1 n1 c1) (snapV v)) (hO : OpsAt W (.slice a2 n2 c2) (cOps ks)) :
    Calls Tryz.prog 9 #[.pointer (some ⟨h.pb, 0, none⟩), .slice a1 n1 c1, .slice a2 n2 c2] W (CommitGen n1 n2 W h v (comN (snapV v) v.id 1 (cOps ks))) := by
  obtain ⟨hT, _, hok, _⟩ := hI.tx a hi hC hks h12 hn
  refine (commit_any A w0.heap.size W hS hS.e4 h v a la hok a1 a2 n1 c1 n2 c2 (snapV v) (cOps ks) hv hO hT).mono ?_
  have ec : comN (snapV v) v.id (v.ck + 1) (cOps ks) = comN (snapV v) v.id 1 (cOps ks) := by rw [hI.ck]; rfl
  rw [ec]
  rintro e W' ⟨⟨h', a3, a4, c3, c4, rv, rs, he, hP, hM, hpb, _, hfr, hrow, hF, _⟩⟩
  refine ⟨h', a3, a4, c3, c4, rv, rs, he, hpb, ?_, hP, hM, hrow, hfr, hF⟩
  rw [f2_len hF]
  have h1 := allMs_len (tell := sendT (comV1 v (comN (snapV v) v.id 1 (cOps ks))) (comN (snapV v) v.id 1 (cOps ks))) (L := 1) (id := v.id) (k := v.k) (fun j s => by unfold sendT; split <;> simp) v.n
  rw [Nat.mul_one] at h1
  exact h1
def BeatGen (w : World) (h : PlH) (v : PlV) (c : ComV) (e : Ending) (w' : World) : Prop :=
  ∃ (h' : PlH) (v' : PlV) (rv : Value) (rs : List Raw), e = .returned rv ∧ h'.pb = h.pb ∧ rs.length ≤ v.n * v.k ∧ PlAt w' h' v' ∧ PlMoves w w' h (pv2 v c) h' v' ∧ w'.ownsRow w.heap.size 44 9 rv rs.length (raws rs) ∧ F2 (RawOwn 0 w') rs (allMs (beatT (pv2 v c)) (pv2 v c).id (pv2 v c).k (pv2 v c).n)
theorem beat_gen {W : World} {n id k : Nat} {C : Nat → ComV} {J : Nat → Prop} {i : Nat} {h0 h : PlH} {v : PlV} {c : ComV} (a : PlAt W h (pv2 v c)) (hI : RcI n id k C J i h0 v) (hok : PvOk v) (ht : timeC c = 1) :
    Calls Tryz.prog 10 #[.pointer (some ⟨h.pb, 0, none⟩)] W (BeatGen W h v c) := by
  refine (beat_any W h _ a (pvOk2 hok hI.sn hI.ck ht)).mono ?_
  rintro e W' ⟨h', rv, r2, he, hG, hrow, hF⟩
  refine ⟨h', _, rv, r2, he, hG.pb, ?_, hG.here, hG.mov, hrow, hF⟩
  rw [f2_len hF]
  have h1 := allMs_len (tell := beatT (pv2 v c)) (L := 1) (id := (pv2 v c).id) (k := (pv2 v c).k) (fun j s => by simp [beatT]) (pv2 v c).n
  rw [Nat.mul_one] at h1
  exact h1
theorem all_one {d0 : Dn} : ∀ {l : List Dn}, (l.map (·.dot)).Nodup → (∀ d ∈ l, d = d0) → l ≠ [] → l = [d0]
  | [], _, _, h => absurd rfl h
  | [a], _, h, _ => by rw [h a (by simp)]
  | a :: b :: l, hn, h, _ => by
    have ha := h a (by simp)
    have hb := h b (by simp)
    subst ha hb
    simp at hn
theorem one_n {n id k : Nat} {C : Nat → ComV} {J : Nat → Prop} {i : Nat} {h : PlH} {v : PlV} (hI : RcI n id k C J i h v) (hC : ∀ j, J j → SrcOk n C j) (n1 : 1 ≤ n) (n6 : n ≤ 6) (k1 : 1 ≤ k) {ky : Nat → ByteArray} (hops : ∀ j, J j → (C j).ops = opsIdx (cOps [ky j])) (hky : ∀ j j', J j → J j' → ky j = ky j' → j = j') {j : Nat} (hJ : J j) (hj : j < n) (hne : j ≠ id) {at_ : List Int} {ds : List Dn} (hd : IsOps (ky j) (seenL v.st (ky j) at_) ds) :
    (leB (C j).when_ at_ = false → (valA ds).n = 0) ∧ (leB (C j).when_ at_ = true → (∀ s, s < k → (v.Y j s).rt = 1) → (valA ds).n = 1) := by
  obtain ⟨D, hK, hlen, hSt, hst, hD, hmem⟩ := hI.kept hC n1 n6
  rw [hst] at hd
  have hone : ∀ j, J j → ∀ o ∈ (C j).ops, o = { cOp (ky j) with at_ := 0 } := fun j hJ o ho => by
    rw [hops j hJ] at ho
    have e : opsIdx (cOps [ky j]) = [{ cOp (ky j) with at_ := 0 }] := rfl
    rw [e] at ho
    simpa using ho
  have hx : ∀ x ∈ seenL (stOf n (D.map (partP C k))) (ky j) at_, x = partC (C j) { cOp (ky j) with at_ := 0 } ∧ leB (C j).when_ at_ = true := fun x hx => by
    obtain ⟨p, hp, o, ho, hxe, hk, _, hle⟩ := seen_mem hx
    have hpJ := ((hmem p).1 hp).2.1
    have e := hone _ hpJ o ho
    have ek : ky p.1 = ky j := by rw [← hk, e]; rfl
    have ej := hky _ _ hpJ hJ ek
    rw [ej] at hxe hle e
    rw [hxe, e]
    exact ⟨rfl, hle⟩
  refine ⟨fun hf => ?_, fun ht hall => ?_⟩
  · have : seenL (stOf n (D.map (partP C k))) (ky j) at_ = [] := by
      rw [List.eq_nil_iff_forall_not_mem]
      intro x hx'
      have := (hx x hx').2
      rw [hf] at this
      exact absurd this (by decide)
    rw [this] at hd
    rw [isOps_nil hd]
    rfl
  · have ho : ({ cOp (ky j) with at_ := 0 } : OpV) ∈ (C j).ops := by
      rw [hops j hJ]
      show _ ∈ [({ cOp (ky j) with at_ := 0 } : OpV)]
      simp
    have hsk : shardN (ky j) k < k := Nat.mod_lt _ (by omega)
    have hq : qS (C j) k (shardN (ky j) k) = 1 := qS_one fun e0 => by
      have : ({ cOp (ky j) with at_ := 0 } : OpV) ∈ partOps (C j).ops k (shardN (ky j) k) := List.mem_filter.2 ⟨ho, decide_eq_true rfl⟩
      rw [e0] at this
      simp at this
    have hin : (j, shardN (ky j) k) ∈ D := (hmem _).2 ⟨⟨by rw [hI.vn]; exact hj, by rw [hI.vid]; exact hne, by rw [hI.vk]; exact hsk⟩, hJ, hq, hall _ hsk⟩
    have hs : partC (C j) { cOp (ky j) with at_ := 0 } ∈ seenL (stOf n (D.map (partP C k))) (ky j) at_ := seen_some (o := { cOp (ky j) with at_ := 0 }) ht ho hin
    have hsub : ∀ c ∈ seenL (stOf n (D.map (partP C k))) (ky j) at_, c ∈ (D.map (partP C k)).flatMap partsC := fun c hc => seenL_mem hc
    have h1 : OneDot (seenL (stOf n (D.map (partP C k))) (ky j) at_) := fun a ha b hb e => oneDot_parts hK a (flat_sub hsub ha) b (flat_sub hsub hb) e
    have hfl : ∀ d ∈ flatA (seenL (stOf n (D.map (partP C k))) (ky j) at_), d = dnOf (partC (C j) { cOp (ky j) with at_ := 0 }) { cOp (ky j) with at_ := 0 } := fun d hd' => by
      obtain ⟨x, hx', hdx⟩ := flat_mem.1 hd'
      rw [(hx x hx').1] at hdx
      simpa [partC] using hdx
    have hfne : flatA (seenL (stOf n (D.map (partP C k))) (ky j) at_) ≠ [] := fun e0 => by
      have : dnOf (partC (C j) { cOp (ky j) with at_ := 0 }) { cOp (ky j) with at_ := 0 } ∈ flatA (seenL (stOf n (D.map (partP C k))) (ky j) at_) := flat_mem.2 ⟨_, hs, by simp [partC]⟩
      rw [e0] at this
      simp at this
    obtain ⟨q1, q2, q3⟩ := isOps_two hd h1 hfne fun d hd' => by rw [hfl d hd']; exact ⟨rfl, rfl⟩
    have e1 := all_one (onceA_nodup (seenL (stOf n (D.map (partP C k))) (ky j) at_)) (fun d hd' => hfl d ((mem_onceA h1 d).1 hd')) fun e0 => by
      rw [e0] at q3
      exact q1 q3.eq_nil
    rw [e1] at q3
    have e2 : ds = [dnOf (partC (C j) { cOp (ky j) with at_ := 0 }) { cOp (ky j) with at_ := 0 }] := List.perm_singleton.1 q3
    rw [(valA_two q1 q2).2, e2]
    rfl
end Go.Proofs.YtefpnojanldkeaaGreatDoor
