/- Slices of ops and commits as they come in; What the laws of versions list: six sentinels and the type's handle. -/
import Derived.Test.YtdnebclemngdcaaGreatDoorJVList
import Derived.Test.YtdnebclemngdcaaGreatDoorJVLaid2
import Derived.Deep.Slices
import Derived.Deep.Fields
namespace Go.Proofs.YtdnebclemngdcaaGreatDoor
open Go.ChangeShapes Go.WideShapes Go.ChangeAt Go.RowKit Go.Deep
set_option maxRecDepth 100000
set_option linter.unusedSectionVars false
variable [Inhabited ComV] [DecidableEq D3] [Inhabited D3] [Inhabited Dd] [Inhabited OpV]

section
variable {H : Type} {enc : TypeId × Value → H} {W : World}
theorem rows_view {t e k fuel : Nat} {v : Value} {x : DataW H × List MemPlace} (ht : Tryz.prog.underlying t = some (.slice e)) (hk : Tryz.prog.cellsOf e = k) (hk0 : 0 < k) (h : DataW.trod enc Tryz.prog W 0 (fun _ => true) true fuel t [v] = some x) :
    ∃ rows n, RowAt k W v rows ∧ ∀ r ∈ rows, r.length = k ∧ ∃ y, DataW.trod enc Tryz.prog W 0 (fun _ => true) true n e r = some y := by
  rcases open_slice ht h with ⟨hv, _⟩ | ⟨a, len, cap, m, n, D, Pl, hv, _, hl, hm, hmm, _, hx⟩
  · simp only [List.cons.injEq, and_true] at hv; subst hv; exact ⟨[], 0, ⟨none, 0, rfl, fun _ => rfl, Nat.le_refl _, .inl rfl⟩, fun r hr => by simp at hr⟩
  · simp only [List.cons.injEq, and_true] at hv; subst hv; simp only [if_true] at hmm; subst hmm; rw [hk] at hx; obtain ⟨R, hR⟩ := choose_lt (α := List Value) (p := fun i r => W.cells? 0 (a.add (i * k)) k = some r ∧ DataW.trod enc Tryz.prog W 0 (fun _ => true) true n e r = some (D i, Pl i)) hx; have hrow : ∀ i, i < m → (R i).length = k := fun i hi => (World.cells?_some (hR i hi).1).2.1
    refine ⟨(List.range len).map R, n, ⟨some a, m, by simp, (fun h => by cases h), by simpa using hl, ?_⟩, fun r hr => ?_⟩
    · by_cases h0 : len = 0
      · subst h0; exact .inl rfl
      · have h00 := (hR 0 (by omega)).1; obtain ⟨_, hlen, hcell⟩ := World.cells?_some h00; obtain ⟨b, o, spot⟩ := a; have hc0 := hcell 0 hk0; rw [Nat.zero_mul, List.getElem?_eq_getElem (by omega)] at hc0; have hspot : spot = none := by simpa [Addr.add] using World.cell?_spot hc0
        subst hspot; refine .inr ⟨b, o, rfl, fun j r hr => ?_⟩; have hj : j < len := by have := (List.getElem?_eq_some_iff.1 hr).1; simpa using this
        rw [List.getElem?_map, List.getElem?_range hj] at hr; obtain rfl := Option.some.inj hr; refine ⟨hrow j (by omega), fun i u hu => ?_⟩; obtain ⟨_, hlen, hcell⟩ := World.cells?_some (hR j (by omega)).1; have hi : i < k := by have := (List.getElem?_eq_some_iff.1 hu).1; omega
        have := hcell i hi; rw [add_add, Addr.add_lit, hu] at this; rw [← this]
        congr 2
        omega
    · obtain ⟨i, hi, rfl⟩ := List.mem_map.1 hr; have hi' := List.mem_range.1 hi; exact ⟨hrow i (by omega), _, (hR i (by omega)).2⟩
theorem f2_choose {α β : Type} {R : α → β → Prop} : ∀ {l : List α}, (∀ a ∈ l, ∃ b, R a b) → ∃ m, F2 R l m
  | [], _ => ⟨[], trivial⟩
  | a :: l, h => by
    obtain ⟨b, hb⟩ := h a (List.mem_cons_self ..); obtain ⟨m, hm⟩ := f2_choose (fun a ha => h a (List.mem_cons_of_mem _ ha)); exact ⟨b :: m, hb, hm⟩
theorem field1 {t n : Nat} {fs : Array Field} {r : List Value} {x : DataW H × List MemPlace} (ht : Tryz.prog.underlying t = some (.struct fs)) (hone : oneCellFields Tryz.prog fs = true) (hl : r.length = fs.size) (h : DataW.trod enc Tryz.prog W 0 (fun _ => true) true n t r = some x) :
    ∃ n', ∀ (i : Nat) (f : Field), fs[i]? = some f → ∃ y, DataW.trod enc Tryz.prog W 0 (fun _ => true) true n' f.type [r.getD i undef] = some y := by
  obtain ⟨xs, n', _, _, _, hxl, hf⟩ := DataW.trod_struct ht h; refine ⟨n', fun i f hi => ?_⟩; have hlt : i < fs.size := (Array.getElem?_eq_some_iff.1 hi).1; obtain ⟨ho, hc1⟩ := hone_of hone i f hi; have g := hf i f hi; rw [ho, hc1, take1_drop r i undef (by omega), List.getElem?_eq_getElem (by omega)] at g; exact ⟨_, g⟩
theorem int_cell {n : Nat} {v : Value} {y : DataW H × List MemPlace} (h : DataW.trod enc Tryz.prog W 0 (fun _ => true) true n 3 [v] = some y) : ∃ z, v = .int .i64 z ∧ (Lit.int .i64 z).wf = true := by
  obtain ⟨z, hz, _, hw⟩ := DataW.trod_int Tryz.underlying3 h; exact ⟨z, by simpa using hz, hw⟩
theorem str_cell {n : Nat} {v : Value} {y : DataW H × List MemPlace} (h : DataW.trod enc Tryz.prog W 0 (fun _ => true) true n 9 [v] = some y) : ∃ s, v = .string s := by
  obtain ⟨z, hz, _⟩ := DataW.trod_string Tryz.underlying9 h; exact ⟨z, by simpa using hz⟩
theorem bool_cell {n : Nat} {v : Value} {y : DataW H × List MemPlace} (h : DataW.trod enc Tryz.prog W 0 (fun _ => true) true n 4 [v] = some y) : ∃ s, v = .bool s := by
  obtain ⟨z, hz, _⟩ := DataW.trod_bool Tryz.underlying4 h; exact ⟨z, by simpa using hz⟩
theorem ints_cellV {n : Nat} {v : Value} {y : DataW H × List MemPlace} (h : DataW.trod enc Tryz.prog W 0 (fun _ => true) true n 23 [v] = some y) : ∃ zs, IntsAt W v zs := by
  obtain ⟨rows, n', ⟨ad, cap, rfl, hn, hc, hq⟩, hr⟩ := rows_view Tryz.underlying23 (k := 1) (by kernel_rfl) (by decide) h
  obtain ⟨zs, hf⟩ := f2_choose (R := fun (r : List Value) (z : Int) => r = [.int .i64 z]) (l := rows) (fun r hrm => by
    obtain ⟨hl, y, hy⟩ := hr r hrm
    match r, hl with
    | [v], _ =>
      obtain ⟨z, rfl, _⟩ := int_cell hy; exact ⟨z, rfl⟩)
  have hlen := f2_len hf; refine ⟨zs, ad, cap, by rw [hlen], hn, ?_⟩; rcases hq with hq | ⟨b, o, rfl, hq⟩
  · exact .inl (List.eq_nil_of_length_eq_zero (by rw [← hlen, hq]; rfl))
  · refine .inr ⟨b, o, rfl, fun t ht => ?_⟩; obtain ⟨r, hrr, rfl⟩ := f2_get hf t (zs.getD t 0) (by rw [List.getD_eq_getElem?_getD, List.getElem?_eq_getElem ht]; rfl); have := (hq t _ hrr).2 0 _ rfl; rw [Nat.mul_one, Nat.add_zero] at this; exact this
theorem dots_cell {n : Nat} {v : Value} {y : DataW H × List MemPlace} (h : DataW.trod enc Tryz.prog W 0 (fun _ => true) true n 65 [v] = some y) : ∃ ds, DotsAt W v ds := by
  obtain ⟨rows, n', hR, hr⟩ := rows_view Tryz.underlying65 (k := 3) (by kernel_rfl) (by decide) h
  have : ∀ l : List (List Value), (∀ r ∈ l, ∃ d : D3, r = d.cells) → ∃ ds : List D3, l = ds.map D3.cells := by
    intro l
    induction l with
    | nil => exact fun _ => ⟨[], rfl⟩
    | cons r l ih =>
      intro h; obtain ⟨d, rfl⟩ := h r (List.mem_cons_self ..); obtain ⟨ds, rfl⟩ := ih (fun r hr => h r (List.mem_cons_of_mem _ hr)); exact ⟨d :: ds, rfl⟩
  obtain ⟨ds, rfl⟩ := this rows fun r hrm => by
    obtain ⟨hl, y, hy⟩ := hr r hrm; obtain ⟨m, hf⟩ := field1 Tryz.underlying87 (by kernel_rfl) hl hy
    match r, hl with
    | [a, b, c], _ =>
      obtain ⟨_, h0⟩ := hf 0 _ rfl; obtain ⟨_, h1⟩ := hf 1 _ rfl; obtain ⟨_, h2⟩ := hf 2 _ rfl; obtain ⟨z0, e0, _⟩ := int_cell h0; obtain ⟨z1, e1, _⟩ := int_cell h1; obtain ⟨z2, e2, _⟩ := int_cell h2; have e0' : a = .int .i64 z0 := e0; have e1' : b = .int .i64 z1 := e1; have e2' : c = .int .i64 z2 := e2; exact ⟨⟨z0, z1, z2⟩, by rw [e0', e1', e2']; rfl⟩
  exact ⟨ds, hR⟩
theorem op_cells {n : Nat} {r : List Value} {y : DataW H × List MemPlace} (hl : r.length = 7) (h : DataW.trod enc Tryz.prog W 0 (fun _ => true) true n 76 r = some y) : ∃ o, OpRow W r o := by
  obtain ⟨m, hf⟩ := field1 Tryz.underlying76 (by kernel_rfl) hl h
  match r, hl with
  | [a, b, c, d, e, f, g], _ =>
    obtain ⟨_, h0⟩ := hf 0 _ rfl; obtain ⟨_, h1⟩ := hf 1 _ rfl; obtain ⟨_, h2⟩ := hf 2 _ rfl; obtain ⟨_, h3⟩ := hf 3 _ rfl; obtain ⟨_, h4⟩ := hf 4 _ rfl; obtain ⟨_, h5⟩ := hf 5 _ rfl; obtain ⟨_, h6⟩ := hf 6 _ rfl; obtain ⟨z0, e0, _⟩ := int_cell h0; obtain ⟨z1, e1⟩ := str_cell h1; obtain ⟨z2, e2, _⟩ := int_cell h2; obtain ⟨z3, e3⟩ := str_cell h3; obtain ⟨z4, e4, _⟩ := int_cell h4; obtain ⟨z5, e5⟩ := bool_cell h5; obtain ⟨ds, hd⟩ := dots_cell h6; have e0' : a = .int .i64 z0 := e0; have e1' : b = .string z1 := e1; have e2' : c = .int .i64 z2 := e2; have e3' : d = .string z3 := e3; have e4' : e = .int .i64 z4 := e4; have e5' : f = .bool z5 := e5; exact ⟨⟨z0, z1, z2, z3, z4, z5, ds⟩, g, by rw [e0', e1', e2', e3', e4', e5']; rfl, hd⟩
theorem ops_cell {n : Nat} {v : Value} {y : DataW H × List MemPlace} (h : DataW.trod enc Tryz.prog W 0 (fun _ => true) true n 32 [v] = some y) : ∃ os, OpsAt W v os := by
  obtain ⟨rows, n', hR, hr⟩ := rows_view Tryz.underlying32 (k := 7) (by kernel_rfl) (by decide) h; obtain ⟨os, hf⟩ := f2_choose (R := OpRow W) (l := rows) fun r hrm => op_cells (hr r hrm).1 (hr r hrm).2.choose_spec
  exact ⟨os, rows, hR, hf⟩
theorem com_cells {n : Nat} {r : List Value} {y : DataW H × List MemPlace} (hl : r.length = 3) (h : DataW.trod enc Tryz.prog W 0 (fun _ => true) true n 34 r = some y) : ∃ c, ComRow W r c := by
  obtain ⟨m, hf⟩ := field1 Tryz.underlying34 (by kernel_rfl) hl h
  match r, hl with
  | [a, b, c], _ =>
    obtain ⟨_, h0⟩ := hf 0 _ rfl; obtain ⟨_, h1⟩ := hf 1 _ rfl; obtain ⟨_, h2⟩ := hf 2 _ rfl; obtain ⟨zs, hz⟩ := ints_cellV h0; obtain ⟨z1, e1, _⟩ := int_cell h1; obtain ⟨os, ho⟩ := ops_cell h2; have e1' : b = .int .i64 z1 := e1; exact ⟨⟨zs, z1, os⟩, a, c, by rw [e1'], hz, ho⟩
end
end Go.Proofs.YtdnebclemngdcaaGreatDoor
namespace Go.Proofs.YtdnebclemngdcaaGreatDoor
open Go.RowKit Go.ChangeShapes Go.WideShapes Go.ChangeAt
set_option maxRecDepth 100000
set_option linter.unusedSectionVars false
variable [Inhabited ComV] [DecidableEq D3] [Inhabited D3] [Inhabited Dd] [Inhabited OpV]

structure SentV (A : Nat → Addr) (B : Nat) (w : World) : Prop where
  gl : 13 ≤ B
  size : B ≤ w.heap.size
  e5 : E5 A w
  c8 : w.cell? ⟨1, 0, none⟩ = some (.iface 255 (.pointer (some (A 8))))
  c5 : w.cell? ⟨2, 0, none⟩ = some (.iface 255 (.pointer (some (A 5))))
theorem SentV.e4 {A : Nat → Addr} {B : Nat} {w : World} (h : SentV A B w) : E4 A w := h.e5.e4
theorem SentV.below {A : Nat → Addr} {B : Nat} {w w' : World} (h : SentV A B w) (hb : Below B w w') : SentV A B w' where
  gl := h.gl
  size := Nat.le_trans h.size hb.size
  e5 := h.e5.below hb h.gl
  c8 := by rw [hb.cell (p := ⟨1, 0, none⟩) (by have := h.gl; show 1 < B; omega)]; exact h.c8
  c5 := by rw [hb.cell (p := ⟨2, 0, none⟩) (by have := h.gl; show 2 < B; omega)]; exact h.c5
end Go.Proofs.YtdnebclemngdcaaGreatDoor
