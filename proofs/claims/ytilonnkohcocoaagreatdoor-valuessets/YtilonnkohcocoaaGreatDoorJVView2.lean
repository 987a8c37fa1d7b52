/- From what the rows list to what the walks ask: the sentinels that package values hands out; the start that the witness takes; Slices of ops and commits as they come in; An op and a commit as arguments. -/
import Derived.Test.YtilonnkohcocoaaGreatDoorJVOpM
import Derived.Test.YtilonnkohcocoaaGreatDoorRows
import Derived.LaidLaws
import Derived.LaidSub
import Derived.LaidHandle
import Derived.ProofKit
import Derived.OpenShut
import Derived.Test.YtilonnkohcocoaaGreatDoorJVCom
import Derived.Deep.Slices
import Derived.Deep.Fields
namespace Go.Proofs.YtilonnkohcocoaaGreatDoor
open Go.RowKit Go.ChangeShapes Go.WideShapes Go.ChangeAt
set_option maxRecDepth 100000

def sent {H : Type} (t : List UInt8) : DataW H := .iface "*errors.errorString" (.ptr (.agg [.lit (.string t)]))
def listed (l : List (String × List UInt8)) : List (String × DataW Unit) := l.map fun x => (x.1, sent x.2)

section
variable {P : Program} {W : World} {ti tp te ts : TypeId} {ms : Array (String × TypeId)} {f : Field}

theorem laidVars_sents (hi : P.underlying ti = some (.interface ms)) (hrow : ∀ u, P.typeName? 3 u = some "*errors.errorString" → u = tp)
    (hp : P.underlying tp = some (.pointer te)) (he : P.underlying te = some (.struct #[f])) (hft : f.type = ts) (hfo : f.offset = 0) (hs : P.underlying ts = some .string) (hc : P.cellsOf te = 1) (hcs : P.cellsOf ts = 1) :
    ∀ (l : List (String × List UInt8)) (ps : List MemPlace),
    DataW.LaidVars P W (listed l) ps →
    (∀ x ∈ l, ∃ g, P.globalNamed x.1 = some g ∧ (P.globals[g]?).map (·.type) = some ti) →
    (∀ b off, MemPlace.cell b off ∈ ps → (∃ c t, W.heap[b]? = some (.cells c t (0, 0))) ∧ ∀ u v, W.cell? ⟨b, off, none⟩ = some (.iface u v) → Value.okWide P W .any 0 u v) →
    ∃ ad : List Addr, ad.length = l.length ∧ (∀ (k : Nat) (x : String × List UInt8) (a : Addr), l[k]? = some x → ad[k]? = some a → W.var? P x.1 = some #[.iface tp (.pointer (some a))]) ∧
      (ad.map fun a => MemPlace.cell a.block a.off).Sublist ps ∧ ∀ a ∈ ad, ∃ v, W.cell? a = some v := by
  intro l
  induction l with
  | nil => exact fun ps _ _ _ => ⟨[], rfl, fun k x a h => by simp at h, List.nil_sublist _, fun a h => by cases h⟩
  | cons x l ih =>
    intro ps h hg hrows
    obtain ⟨g, t, cs, fuel, p, q, h1, h2, h3, h4, h5, rfl⟩ := h
    obtain ⟨g', h1', h2'⟩ := hg x (List.mem_cons_self ..)
    obtain rfl := Option.some.inj (h1.symm.trans h1')
    obtain rfl := Option.some.inj (h2.symm.trans h2')
    obtain ⟨lc⟩ := cs
    have ok0 : ∀ u v, lc = [.iface u v] → Value.okWide P W .any 0 u v := fun u v e => by
      subst e
      exact (hrows g 0 (by simp [MemPlace.row])).2 u v (by simpa using World.var?_cell h1 h3 0)
    obtain ⟨a, s, rfl, hc0, hs0, hz0, rfl⟩ := errorString_of_trod hi hrow hp he hft hfo hs hc hcs h4 ok0
    obtain ⟨ad, e1, e2, e3, e4⟩ := ih q h5 (fun y hy => hg y (List.mem_cons_of_mem _ hy)) (fun b off hm => hrows b off (List.mem_append_right _ hm))
    refine ⟨a :: ad, by simp [e1], ?_, ?_, ?_⟩
    · intro k y b hy hb
      cases k with
      | zero =>
        simp only [List.getElem?_cons_zero, Option.some.injEq] at hy hb
        subst hy hb
        exact h3
      | succ k =>
        simp only [List.getElem?_cons_succ] at hy hb
        exact e2 k y b hy hb
    · simp only [List.map_cons]
      have : MemPlace.row a 1 = [MemPlace.cell a.block a.off] := by simp [MemPlace.row]
      rw [this, List.append_assoc]
      refine List.Sublist.trans ?_ (List.sublist_append_right _ _)
      exact List.Sublist.cons_cons _ e3
    · intro b hb
      rcases List.mem_cons.1 hb with rfl | hb
      · exact ⟨_, hc0⟩
      · exact e4 b hb

/-- THE LISTED SENTINELS: each variable holds a pointer of its own, to a row that bears no mark. -/
theorem laidMet_sents (hi : P.underlying ti = some (.interface ms)) (hrow : ∀ u, P.typeName? 3 u = some "*errors.errorString" → u = tp)
    (hp : P.underlying tp = some (.pointer te)) (he : P.underlying te = some (.struct #[f])) (hft : f.type = ts) (hfo : f.offset = 0) (hs : P.underlying ts = some .string) (hc : P.cellsOf te = 1) (hcs : P.cellsOf ts = 1)
    (l : List (String × List UInt8)) (h : laidMet P (listed l) W) (hg : ∀ x ∈ l, ∃ g, P.globalNamed x.1 = some g ∧ (P.globals[g]?).map (·.type) = some ti) :
    ∃ A : Nat → Addr, (∀ k x, l[k]? = some x → W.var? P x.1 = some #[.iface tp (.pointer (some (A k)))]) ∧ (∀ k, k < l.length → ∃ c t, W.heap[(A k).block]? = some (.cells c t (0, 0))) ∧
      (∀ k, k < l.length → ∃ v, W.cell? (A k) = some v) ∧ ∀ i j, i < l.length → j < l.length → i ≠ j → A i ≠ A j := by
  obtain ⟨ps, hv, hnd, hrows⟩ := h
  obtain ⟨ad, e1, e2, e3, e4⟩ := laidVars_sents hi hrow hp he hft hfo hs hc hcs l ps hv hg hrows
  have hget : ∀ k, k < l.length → ad[k]? = some (ad.getD k ⟨0, 0, none⟩) := fun k hk => by
    rw [List.getD_eq_getElem?_getD, List.getElem?_eq_getElem (by omega)]; rfl
  have hmem : ∀ k, k < l.length → ad.getD k ⟨0, 0, none⟩ ∈ ad := fun k hk => List.mem_of_getElem? (hget k hk)
  refine ⟨fun k => ad.getD k ⟨0, 0, none⟩, ?_, ?_, ?_, ?_⟩
  · intro k x hx
    have hk : k < l.length := (List.getElem?_eq_some_iff.1 hx).1
    exact e2 k x _ hx (hget k hk)
  · intro k hk
    exact (hrows _ _ (e3.subset (List.mem_map.2 ⟨_, hmem k hk, rfl⟩))).1
  · intro k hk
    exact e4 _ (hmem k hk)
  · intro i j hik hjk hne he
    have hnd' : (ad.map fun a => MemPlace.cell a.block a.off).Nodup := hnd.sublist e3
    have hi' : i < (ad.map fun a => MemPlace.cell a.block a.off).length := by simp; omega
    have hj' : j < (ad.map fun a => MemPlace.cell a.block a.off).length := by simp; omega
    have he' : ad.getD i ⟨0, 0, none⟩ = ad.getD j ⟨0, 0, none⟩ := he
    rw [List.getD_eq_getElem?_getD, List.getD_eq_getElem?_getD, List.getElem?_eq_getElem (by omega), List.getElem?_eq_getElem (by omega)] at he'
    simp only [Option.getD_some] at he'
    rcases Nat.lt_or_gt_of_ne hne with h | h
    · exact List.pairwise_iff_getElem.1 hnd' i j hi' hj' h (by rw [List.getElem_map, List.getElem_map, he'])
    · exact List.pairwise_iff_getElem.1 hnd' j i hj' hi' h (by rw [List.getElem_map, List.getElem_map, he'])
end

theorem ownKnobs : ownKnob Tryz.prog.godebug = none := by kernel_rfl
theorem Tryz.laidOut : laidOutB Tryz.prog = true := by kernel_rfl
theorem Tryz.row247 : ∀ u, Tryz.prog.typeName? 3 u = some "*errors.errorString" → u = 247 := typeName_ptr_named (nm := "errors.errorString") (by kernel_rfl) (by kernel_rfl) (by decide)
theorem Tryz.cells269 : Tryz.prog.cellsOf 269 = 1 := by kernel_rfl
theorem Tryz.cells9 : Tryz.prog.cellsOf 9 = 1 := by kernel_rfl

def names4 : List (String × List UInt8) := [("causeway/api.ErrBound", [99, 97, 117, 115, 101, 119, 97, 121, 58, 32, 98, 111, 117, 110, 100]), ("causeway/api.ErrShape", [99, 97, 117, 115, 101, 119, 97, 121, 58, 32, 115, 104, 97, 112, 101]), ("causeway/api.ErrName", [99, 97, 117, 115, 101, 119, 97, 121, 58, 32, 110, 97, 109, 101]), ("causeway/api.ErrKind", [99, 97, 117, 115, 101, 119, 97, 121, 58, 32, 107, 105, 110, 100])]
/-- ErrBound, ErrShape, ErrName and ErrKind, out of a list that holds them in this order. -/
theorem e4_of_laid {W : World} {l : List (String × DataW Unit)} (h : laidMetH Tryz.prog l W)
    (hf : (l.filter fun x => x.2.handleName?.isNone).filter (fun x => (names4.map (·.1)).contains x.1) = listed names4) : ∃ A, E4 A W ∧ 4 ≤ W.heap.size := by
  have h2 : laidMet Tryz.prog (listed names4) W := by rw [← hf]; exact (laidMetH_iff.1 h).1.filter _
  have g0 : Tryz.prog.globalNamed "causeway/api.ErrBound" = some 0 := by kernel_rfl
  have g1 : Tryz.prog.globalNamed "causeway/api.ErrShape" = some 3 := by kernel_rfl
  have g2 : Tryz.prog.globalNamed "causeway/api.ErrName" = some 1 := by kernel_rfl
  have g3 : Tryz.prog.globalNamed "causeway/api.ErrKind" = some 2 := by kernel_rfl
  have t0 : (Tryz.prog.globals[0]?).map (·.type) = some 33 := by kernel_rfl
  have t1 : (Tryz.prog.globals[3]?).map (·.type) = some 33 := by kernel_rfl
  have t2 : (Tryz.prog.globals[1]?).map (·.type) = some 33 := by kernel_rfl
  have t3 : (Tryz.prog.globals[2]?).map (·.type) = some 33 := by kernel_rfl
  obtain ⟨A, a1, _, _, _⟩ := laidMet_sents Tryz.underlying33 Tryz.row247 Tryz.underlying247 Tryz.underlying269 rfl rfl Tryz.underlying9 Tryz.cells269 Tryz.cells9 names4 h2 (fun x hx => by
    rcases List.mem_cons.1 hx with rfl | hx
    · exact ⟨0, g0, t0⟩
    rcases List.mem_cons.1 hx with rfl | hx
    · exact ⟨3, g1, t1⟩
    rcases List.mem_cons.1 hx with rfl | hx
    · exact ⟨1, g2, t2⟩
    · obtain rfl := List.mem_singleton.1 hx
      exact ⟨2, g3, t3⟩)
  have c1 : W.cell? ⟨3, 0, none⟩ = some (.iface 247 (.pointer (some (A 1)))) := by simpa using World.var?_cell g1 (a1 1 _ rfl) 0
  refine ⟨fun k => if k = 1 then A 0 else if k = 2 then A 1 else if k = 3 then A 2 else A 3, ⟨?_, ?_, ?_, ?_⟩, lt_of_cell c1⟩
  · simpa using World.var?_cell g0 (a1 0 _ rfl) 0
  · simpa using c1
  · simpa using World.var?_cell g2 (a1 2 _ rfl) 0
  · simpa using World.var?_cell g3 (a1 3 _ rfl) 0
end Go.Proofs.YtilonnkohcocoaaGreatDoor
namespace Go.Proofs.YtilonnkohcocoaaGreatDoor
open Go.ChangeShapes Go.WideShapes Go.ChangeAt Go.RowKit Go.Deep
set_option maxRecDepth 100000
set_option linter.unusedSectionVars false
variable [Inhabited ComV] [DecidableEq D3] [Inhabited D3] [Inhabited Dd] [Inhabited OpV]

section
variable {H : Type} {enc : TypeId × Value → H} {W : World}
/-- Rows of k cells, each of which reads as an element. -/
theorem rows_view {t e k fuel : Nat} {v : Value} {x : DataW H × List MemPlace} (ht : Tryz.prog.underlying t = some (.slice e)) (hk : Tryz.prog.cellsOf e = k) (hk0 : 0 < k) (h : DataW.trod enc Tryz.prog W 0 (fun _ => true) true fuel t [v] = some x) :
    ∃ rows n, RowAt k W v rows ∧ ∀ r ∈ rows, r.length = k ∧ ∃ y, DataW.trod enc Tryz.prog W 0 (fun _ => true) true n e r = some y := by
  rcases open_slice ht h with ⟨hv, _⟩ | ⟨a, len, cap, m, n, D, Pl, hv, _, hl, hm, hmm, _, hx⟩
  · simp only [List.cons.injEq, and_true] at hv
    subst hv
    exact ⟨[], 0, ⟨none, 0, rfl, fun _ => rfl, Nat.le_refl _, .inl rfl⟩, fun r hr => by simp at hr⟩
  · simp only [List.cons.injEq, and_true] at hv
    subst hv
    simp only [if_true] at hmm
    subst hmm
    rw [hk] at hx
    obtain ⟨R, hR⟩ := choose_lt (α := List Value) (p := fun i r => W.cells? 0 (a.add (i * k)) k = some r ∧ DataW.trod enc Tryz.prog W 0 (fun _ => true) true n e r = some (D i, Pl i)) hx
    have hrow : ∀ i, i < m → (R i).length = k := fun i hi => (World.cells?_some (hR i hi).1).2.1
    refine ⟨(List.range len).map R, n, ⟨some a, m, by simp, (fun h => by cases h), by simpa using hl, ?_⟩, fun r hr => ?_⟩
    · by_cases h0 : len = 0
      · subst h0; exact .inl rfl
      · have h00 := (hR 0 (by omega)).1
        obtain ⟨_, hlen, hcell⟩ := World.cells?_some h00
        obtain ⟨b, o, spot⟩ := a
        have hc0 := hcell 0 hk0
        rw [Nat.zero_mul, List.getElem?_eq_getElem (by omega)] at hc0
        have hspot : spot = none := by simpa [Addr.add] using World.cell?_spot hc0
        subst hspot
        refine .inr ⟨b, o, rfl, fun j r hr => ?_⟩
        have hj : j < len := by have := (List.getElem?_eq_some_iff.1 hr).1; simpa using this
        rw [List.getElem?_map, List.getElem?_range hj] at hr
        obtain rfl := Option.some.inj hr
        refine ⟨hrow j (by omega), fun i u hu => ?_⟩
        obtain ⟨_, hlen, hcell⟩ := World.cells?_some (hR j (by omega)).1
        have hi : i < k := by have := (List.getElem?_eq_some_iff.1 hu).1; omega
        have := hcell i hi
        rw [add_add, Addr.add_lit, hu] at this
        rw [← this]
        congr 2
        omega
    · obtain ⟨i, hi, rfl⟩ := List.mem_map.1 hr
      have hi' := List.mem_range.1 hi
      exact ⟨hrow i (by omega), _, (hR i (by omega)).2⟩
/-- One by one. -/
theorem f2_choose {α β : Type} {R : α → β → Prop} : ∀ {l : List α}, (∀ a ∈ l, ∃ b, R a b) → ∃ m, F2 R l m
  | [], _ => ⟨[], trivial⟩
  | a :: l, h => by
    obtain ⟨b, hb⟩ := h a (List.mem_cons_self ..)
    obtain ⟨m, hm⟩ := f2_choose (fun a ha => h a (List.mem_cons_of_mem _ ha))
    exact ⟨b :: m, hb, hm⟩
/-- A field of one cell. -/
theorem field1 {t n : Nat} {fs : Array Field} {r : List Value} {x : DataW H × List MemPlace} (ht : Tryz.prog.underlying t = some (.struct fs)) (hone : oneCellFields Tryz.prog fs = true) (hl : r.length = fs.size) (h : DataW.trod enc Tryz.prog W 0 (fun _ => true) true n t r = some x) :
    ∃ n', ∀ (i : Nat) (f : Field), fs[i]? = some f → ∃ y, DataW.trod enc Tryz.prog W 0 (fun _ => true) true n' f.type [r.getD i undef] = some y := by
  obtain ⟨xs, n', _, _, _, hxl, hf⟩ := DataW.trod_struct ht h
  refine ⟨n', fun i f hi => ?_⟩
  have hlt : i < fs.size := (Array.getElem?_eq_some_iff.1 hi).1
  obtain ⟨ho, hc1⟩ := hone_of hone i f hi
  have g := hf i f hi
  rw [ho, hc1, take1_drop r i undef (by omega), List.getElem?_eq_getElem (by omega)] at g
  exact ⟨_, g⟩
theorem int_cell {n : Nat} {v : Value} {y : DataW H × List MemPlace} (h : DataW.trod enc Tryz.prog W 0 (fun _ => true) true n 3 [v] = some y) : ∃ z, v = .int .i64 z ∧ (Lit.int .i64 z).wf = true := by
  obtain ⟨z, hz, _, hw⟩ := DataW.trod_int Tryz.underlying3 h
  exact ⟨z, by simpa using hz, hw⟩
theorem str_cell {n : Nat} {v : Value} {y : DataW H × List MemPlace} (h : DataW.trod enc Tryz.prog W 0 (fun _ => true) true n 9 [v] = some y) : ∃ s, v = .string s := by
  obtain ⟨z, hz, _⟩ := DataW.trod_string Tryz.underlying9 h
  exact ⟨z, by simpa using hz⟩
theorem bool_cell {n : Nat} {v : Value} {y : DataW H × List MemPlace} (h : DataW.trod enc Tryz.prog W 0 (fun _ => true) true n 4 [v] = some y) : ∃ s, v = .bool s := by
  obtain ⟨z, hz, _⟩ := DataW.trod_bool Tryz.underlying4 h
  exact ⟨z, by simpa using hz⟩
theorem ints_cell {n : Nat} {v : Value} {y : DataW H × List MemPlace} (h : DataW.trod enc Tryz.prog W 0 (fun _ => true) true n 25 [v] = some y) : ∃ zs, IntsAt W v zs := by
  obtain ⟨rows, n', ⟨ad, cap, rfl, hn, hc, hq⟩, hr⟩ := rows_view Tryz.underlying25 (k := 1) (by kernel_rfl) (by decide) h
  obtain ⟨zs, hf⟩ := f2_choose (R := fun (r : List Value) (z : Int) => r = [.int .i64 z]) (l := rows) (fun r hrm => by
    obtain ⟨hl, y, hy⟩ := hr r hrm
    match r, hl with
    | [v], _ =>
      obtain ⟨z, rfl, _⟩ := int_cell hy
      exact ⟨z, rfl⟩)
  have hlen := f2_len hf
  refine ⟨zs, ad, cap, by rw [hlen], hn, ?_⟩
  rcases hq with hq | ⟨b, o, rfl, hq⟩
  · exact .inl (List.eq_nil_of_length_eq_zero (by rw [← hlen, hq]; rfl))
  · refine .inr ⟨b, o, rfl, fun t ht => ?_⟩
    obtain ⟨r, hrr, rfl⟩ := f2_get hf t (zs.getD t 0) (by rw [List.getD_eq_getElem?_getD, List.getElem?_eq_getElem ht]; rfl)
    have := (hq t _ hrr).2 0 _ rfl
    rw [Nat.mul_one, Nat.add_zero] at this
    exact this
theorem dots_cell {n : Nat} {v : Value} {y : DataW H × List MemPlace} (h : DataW.trod enc Tryz.prog W 0 (fun _ => true) true n 22 [v] = some y) : ∃ ds, DotsAt W v ds := by
  obtain ⟨rows, n', hR, hr⟩ := rows_view Tryz.underlying22 (k := 3) (by kernel_rfl) (by decide) h
  have : ∀ l : List (List Value), (∀ r ∈ l, ∃ d : D3, r = d.cells) → ∃ ds : List D3, l = ds.map D3.cells := by
    intro l
    induction l with
    | nil => exact fun _ => ⟨[], rfl⟩
    | cons r l ih =>
      intro h
      obtain ⟨d, rfl⟩ := h r (List.mem_cons_self ..)
      obtain ⟨ds, rfl⟩ := ih (fun r hr => h r (List.mem_cons_of_mem _ hr))
      exact ⟨d :: ds, rfl⟩
  obtain ⟨ds, rfl⟩ := this rows fun r hrm => by
    obtain ⟨hl, y, hy⟩ := hr r hrm
    obtain ⟨m, hf⟩ := field1 Tryz.underlying65 (by kernel_rfl) hl hy
    match r, hl with
    | [a, b, c], _ =>
      obtain ⟨_, h0⟩ := hf 0 _ rfl
      obtain ⟨_, h1⟩ := hf 1 _ rfl
      obtain ⟨_, h2⟩ := hf 2 _ rfl
      obtain ⟨z0, e0, _⟩ := int_cell h0
      obtain ⟨z1, e1, _⟩ := int_cell h1
      obtain ⟨z2, e2, _⟩ := int_cell h2
      have e0' : a = .int .i64 z0 := e0
      have e1' : b = .int .i64 z1 := e1
      have e2' : c = .int .i64 z2 := e2
      exact ⟨⟨z0, z1, z2⟩, by rw [e0', e1', e2']; rfl⟩
  exact ⟨ds, hR⟩
theorem op_cells {n : Nat} {r : List Value} {y : DataW H × List MemPlace} (hl : r.length = 7) (h : DataW.trod enc Tryz.prog W 0 (fun _ => true) true n 24 r = some y) : ∃ o, OpRow W r o := by
  obtain ⟨m, hf⟩ := field1 Tryz.underlying24 (by kernel_rfl) hl h
  match r, hl with
  | [a, b, c, d, e, f, g], _ =>
    obtain ⟨_, h0⟩ := hf 0 _ rfl
    obtain ⟨_, h1⟩ := hf 1 _ rfl
    obtain ⟨_, h2⟩ := hf 2 _ rfl
    obtain ⟨_, h3⟩ := hf 3 _ rfl
    obtain ⟨_, h4⟩ := hf 4 _ rfl
    obtain ⟨_, h5⟩ := hf 5 _ rfl
    obtain ⟨_, h6⟩ := hf 6 _ rfl
    obtain ⟨z0, e0, _⟩ := int_cell h0
    obtain ⟨z1, e1⟩ := str_cell h1
    obtain ⟨z2, e2, _⟩ := int_cell h2
    obtain ⟨z3, e3⟩ := str_cell h3
    obtain ⟨z4, e4, _⟩ := int_cell h4
    obtain ⟨z5, e5⟩ := bool_cell h5
    obtain ⟨ds, hd⟩ := dots_cell h6
    have e0' : a = .int .i64 z0 := e0
    have e1' : b = .string z1 := e1
    have e2' : c = .int .i64 z2 := e2
    have e3' : d = .string z3 := e3
    have e4' : e = .int .i64 z4 := e4
    have e5' : f = .bool z5 := e5
    exact ⟨⟨z0, z1, z2, z3, z4, z5, ds⟩, g, by rw [e0', e1', e2', e3', e4', e5']; rfl, hd⟩
theorem ops_cell {n : Nat} {v : Value} {y : DataW H × List MemPlace} (h : DataW.trod enc Tryz.prog W 0 (fun _ => true) true n 26 [v] = some y) : ∃ os, OpsAt W v os := by
  obtain ⟨rows, n', hR, hr⟩ := rows_view Tryz.underlying26 (k := 7) (by kernel_rfl) (by decide) h
  obtain ⟨os, hf⟩ := f2_choose (R := OpRow W) (l := rows) fun r hrm => op_cells (hr r hrm).1 (hr r hrm).2.choose_spec
  exact ⟨os, rows, hR, hf⟩
theorem com_cells {n : Nat} {r : List Value} {y : DataW H × List MemPlace} (hl : r.length = 3) (h : DataW.trod enc Tryz.prog W 0 (fun _ => true) true n 28 r = some y) : ∃ c, ComRow W r c := by
  obtain ⟨m, hf⟩ := field1 Tryz.underlying28 (by kernel_rfl) hl h
  match r, hl with
  | [a, b, c], _ =>
    obtain ⟨_, h0⟩ := hf 0 _ rfl
    obtain ⟨_, h1⟩ := hf 1 _ rfl
    obtain ⟨_, h2⟩ := hf 2 _ rfl
    obtain ⟨zs, hz⟩ := ints_cell h0
    obtain ⟨z1, e1, _⟩ := int_cell h1
    obtain ⟨os, ho⟩ := ops_cell h2
    have e1' : b = .int .i64 z1 := e1
    exact ⟨⟨zs, z1, os⟩, a, c, by rw [e1'], hz, ho⟩
theorem coms_view {v : Value} {d : DataW H} {p : List MemPlace} {base : Nat} (hv : Value.okWide Tryz.prog W .any base 43 v) (h : DataW.Trod enc Tryz.prog W 0 (fun _ => true) true 43 v d p) : ∃ l, ComsAt W v l := by
  obtain ⟨a0, len, cap, rfl⟩ := okWide_slice Tryz.underlying43 hv
  obtain ⟨fuel, hf⟩ := h
  obtain ⟨rows, n', hR, hr⟩ := rows_view Tryz.underlying43 (k := 3) (by kernel_rfl) (by decide) hf
  obtain ⟨os, hf⟩ := f2_choose (R := ComRow W) (l := rows) fun r hrm => com_cells (hr r hrm).1 (hr r hrm).2.choose_spec
  exact ⟨os, rows, hR, hf⟩
theorem ints_view {v : Value} {d : DataW H} {p : List MemPlace} {base : Nat} (hv : Value.okWide Tryz.prog W .any base 25 v) (h : DataW.Trod enc Tryz.prog W 0 (fun _ => true) true 25 v d p) : ∃ zs, IntsAt W v zs := by
  obtain ⟨a0, len, cap, rfl⟩ := okWide_slice Tryz.underlying25 hv
  obtain ⟨fuel, hf⟩ := h
  exact ints_cell hf
end
theorem Tryz.read43 : Tryz.prog.readableRec 43 = true := by kernel_rfl
theorem Tryz.lt43 : 43 < Tryz.prog.types.size := of_decide_eq_true (by kernel_rfl)
theorem Tryz.read25 : Tryz.prog.readableRec 25 = true := by kernel_rfl
theorem Tryz.lt25 : 25 < Tryz.prog.types.size := of_decide_eq_true (by kernel_rfl)
theorem coms_stay {H : Type} {enc : TypeId × Value → H} {W W' : World} {v : Value} {d : DataW H} {p : List MemPlace} (h : DataW.Trod enc Tryz.prog W 0 (fun _ => true) true 43 v d p) (hb : Below W.heap.size W W') (hlt : ∀ x ∈ p, x.block < W.heap.size) :
    DataW.Trod enc Tryz.prog W' 0 (fun b => decide (b < W.heap.size)) true 43 v d p := Below.trod Tryz.laidOut Tryz.read43 Tryz.lt43 h hb hlt
theorem ints_stay {H : Type} {enc : TypeId × Value → H} {W W' : World} {v : Value} {d : DataW H} {p : List MemPlace} (h : DataW.Trod enc Tryz.prog W 0 (fun _ => true) true 25 v d p) (hb : Below W.heap.size W W') (hlt : ∀ x ∈ p, x.block < W.heap.size) :
    DataW.Trod enc Tryz.prog W' 0 (fun b => decide (b < W.heap.size)) true 25 v d p := Below.trod Tryz.laidOut Tryz.read25 Tryz.lt25 h hb hlt
end Go.Proofs.YtilonnkohcocoaaGreatDoor
namespace Go.Proofs.YtilonnkohcocoaaGreatDoor
open Go.ChangeShapes Go.WideShapes Go.ChangeAt Go.RowKit Go.Deep
set_option maxRecDepth 100000
set_option linter.unusedSectionVars false
variable [Inhabited ComV] [DecidableEq D3] [Inhabited D3] [Inhabited Dd] [Inhabited OpV]

/-- The value v is, in W, the op o. -/
def OpVal (W : World) (v : Value) (o : OpV) : Prop := ∃ dv, v = .agg (opCells o dv).toArray ∧ DotsAt W dv o.dots
def ComVal (W : World) (v : Value) (c : ComV) : Prop := ∃ wv ov, v = .agg #[wv, .int .i64 c.place, ov] ∧ IntsAt W wv c.when_ ∧ OpsAt W ov c.ops
section
variable {H : Type} {enc : TypeId × Value → H} {W : World}
theorem op_view {v : Value} {d : DataW H} {p : List MemPlace} {base : Nat} (hv : Value.okWide Tryz.prog W .any base 24 v) (h : DataW.Trod enc Tryz.prog W 0 (fun _ => true) true 24 v d p) : ∃ o, OpVal W v o := by
  obtain ⟨cs, rfl, hsz⟩ := okWide_struct Tryz.underlying24 hv
  obtain ⟨fuel, hf⟩ := h
  have h7 : Tryz.prog.cellsOf 24 = 7 := by kernel_rfl
  obtain ⟨o, dv, he, hd⟩ := op_cells (r := cs.toList) (by rw [Array.length_toList, hsz, h7]) (by simpa [Value.cells] using hf)
  exact ⟨o, dv, by rw [← he], hd⟩
theorem com_view {v : Value} {d : DataW H} {p : List MemPlace} {base : Nat} (hv : Value.okWide Tryz.prog W .any base 28 v) (h : DataW.Trod enc Tryz.prog W 0 (fun _ => true) true 28 v d p) : ∃ c, ComVal W v c := by
  obtain ⟨cs, rfl, hsz⟩ := okWide_struct Tryz.underlying28 hv
  obtain ⟨fuel, hf⟩ := h
  have h3 : Tryz.prog.cellsOf 28 = 3 := by kernel_rfl
  obtain ⟨c, wv, ov, he, h1, h2⟩ := com_cells (r := cs.toList) (by rw [Array.length_toList, hsz, h3]) (by simpa [Value.cells] using hf)
  exact ⟨c, wv, ov, by rw [← Array.toArray_toList (xs := cs), he], h1, h2⟩
end
theorem Tryz.read24 : Tryz.prog.readableRec 24 = true := by kernel_rfl
theorem Tryz.lt24 : 24 < Tryz.prog.types.size := of_decide_eq_true (by kernel_rfl)
theorem Tryz.read28 : Tryz.prog.readableRec 28 = true := by kernel_rfl
theorem Tryz.lt28 : 28 < Tryz.prog.types.size := of_decide_eq_true (by kernel_rfl)
theorem op_stay {H : Type} {enc : TypeId × Value → H} {W W' : World} {v : Value} {d : DataW H} {p : List MemPlace} (h : DataW.Trod enc Tryz.prog W 0 (fun _ => true) true 24 v d p) (hb : Below W.heap.size W W') (hlt : ∀ x ∈ p, x.block < W.heap.size) :
    DataW.Trod enc Tryz.prog W' 0 (fun b => decide (b < W.heap.size)) true 24 v d p := Below.trod Tryz.laidOut Tryz.read24 Tryz.lt24 h hb hlt
theorem com_stay {H : Type} {enc : TypeId × Value → H} {W W' : World} {v : Value} {d : DataW H} {p : List MemPlace} (h : DataW.Trod enc Tryz.prog W 0 (fun _ => true) true 28 v d p) (hb : Below W.heap.size W W') (hlt : ∀ x ∈ p, x.block < W.heap.size) :
    DataW.Trod enc Tryz.prog W' 0 (fun b => decide (b < W.heap.size)) true 28 v d p := Below.trod Tryz.laidOut Tryz.read28 Tryz.lt28 h hb hlt
end Go.Proofs.YtilonnkohcocoaaGreatDoor
