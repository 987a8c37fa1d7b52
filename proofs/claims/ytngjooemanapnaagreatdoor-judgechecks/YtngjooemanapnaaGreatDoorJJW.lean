/- From what the rows list to what the walks ask: the sentinels that package values hands out; the start that the witness takes; Events as they come in; JudgeChecks: any number, any events, any two of them. -/
import Derived.Test.YtngjooemanapnaaGreatDoorRows
import Derived.Test.YtngjooemanapnaaGreatDoorJVDel
import Derived.Test.YtngjooemanapnaaGreatDoorJJF
import Derived.LaidLaws
import Derived.LaidSub
import Derived.LaidHandle
import Derived.ProofKit
import Derived.OpenShut
import Derived.Test.YtngjooemanapnaaGreatDoorJVIs
import Derived.Test.YtngjooemanapnaaGreatDoorJVRefN
import Derived.Deep.Slices
import Derived.Deep.Fields
import Derived.Test.YtngjooemanapnaaGreatDoorJJX
import Derived.Test.YtngjooemanapnaaGreatDoorJJS2
import Derived.Test.YtngjooemanapnaaGreatDoorJJS3
import Derived.Test.YtngjooemanapnaaGreatDoorJJR3
import Derived.Test.YtngjooemanapnaaGreatDoorJJR4
namespace Go.Proofs.YtngjooemanapnaaGreatDoor
open Go.RowKit Go.ChangeShapes Go.WideShapes Go.ChangeAt
set_option maxRecDepth 100000

def sent {H : Type} (t : List UInt8) : DataW H := .iface "*errors.errorString" (.ptr (.agg [.lit (.string t)]))
def listed (l : List (String × List UInt8)) : List (String × DataW Unit) := l.map fun x => (x.1, sent x.2)
section
variable {P : Program} {W : World} {ti tp te ts : TypeId} {ms : Array (String × TypeId)} {f : Field}

theorem laidVars_sents (hi : P.underlying ti = some (.interface ms)) (hrow : ∀ u, P.typeName? 3 u = some "*errors.errorString" → u = tp)
    (hp : P.underlying tp = some (.pointer te)) (he : P.underlying te = some (.struct #[f])) (hft : f.type = ts) (hfo : f.offset = 0) (hs : P.underlying ts = some .string) (hc : P.cellsOf te = 1) (hcs : P.cellsOf ts = 1) :
    ∀ (l : List (String × List UInt8)) (ps : List MemPlace),
    DataW.LaidVars P W (listed l) ps →
    (∀ x ∈ l, ∃ g, P.globalNamed x.1 = some g ∧ (P.globals[g]?).map (·.type) = some ti) →
    (∀ b off, MemPlace.cell b off ∈ ps → (∃ c t, W.heap[b]? = some (.cells c t (0, 0))) ∧ ∀ u v, W.cell? ⟨b, off, none⟩ = some (.iface u v) → Value.okWide P W .any 0 u v) →
    ∃ ad : List Addr, ad.length = l.length ∧ (∀ (k : Nat) (x : String × List UInt8) (a : Addr), l[k]? = some x → ad[k]? = some a → W.var? P x.1 = some #[.iface tp (.pointer (some a))]) ∧
      (ad.map fun a => MemPlace.cell a.block a.off).Sublist ps ∧ ∀ a ∈ ad, ∃ v, W.cell? a = some v := by
  intro l
  induction l with
  | nil => exact fun ps _ _ _ => ⟨[], rfl, fun k x a h => by simp at h, List.nil_sublist _, fun a h => by cases h⟩
  | cons x l ih =>
    intro ps h hg hrows
    obtain ⟨g, t, cs, fuel, p, q, h1, h2, h3, h4, h5, rfl⟩ := h
    obtain ⟨g', h1', h2'⟩ := hg x (List.mem_cons_self ..)
    obtain rfl := Option.some.inj (h1.symm.trans h1')
    obtain rfl := Option.some.inj (h2.symm.trans h2')
    obtain ⟨lc⟩ := cs
    have ok0 : ∀ u v, lc = [.iface u v] → Value.okWide P W .any 0 u v := fun u v e => by
      subst e
      exact (hrows g 0 (by simp [MemPlace.row])).2 u v (by simpa using World.var?_cell h1 h3 0)
    obtain ⟨a, s, rfl, hc0, hs0, hz0, rfl⟩ := errorString_of_trod hi hrow hp he hft hfo hs hc hcs h4 ok0
    obtain ⟨ad, e1, e2, e3, e4⟩ := ih q h5 (fun y hy => hg y (List.mem_cons_of_mem _ hy)) (fun b off hm => hrows b off (List.mem_append_right _ hm))
    refine ⟨a :: ad, by simp [e1], ?_, ?_, ?_⟩
    · intro k y b hy hb
      cases k with
      | zero =>
        simp only [List.getElem?_cons_zero, Option.some.injEq] at hy hb
        subst hy hb
        exact h3
      | succ k =>
        simp only [List.getElem?_cons_succ] at hy hb
        exact e2 k y b hy hb
    · simp only [List.map_cons]
      have : MemPlace.row a 1 = [MemPlace.cell a.block a.off] := by simp [MemPlace.row]
      rw [this, List.append_assoc]
      refine List.Sublist.trans ?_ (List.sublist_append_right _ _)
      exact List.Sublist.cons_cons _ e3
    · intro b hb
      rcases List.mem_cons.1 hb with rfl | hb
      · exact ⟨_, hc0⟩
      · exact e4 b hb
/-- THE LISTED SENTINELS: each variable holds a pointer of its own, to a row that bears no mark. -/
theorem laidMet_sents (hi : P.underlying ti = some (.interface ms)) (hrow : ∀ u, P.typeName? 3 u = some "*errors.errorString" → u = tp)
    (hp : P.underlying tp = some (.pointer te)) (he : P.underlying te = some (.struct #[f])) (hft : f.type = ts) (hfo : f.offset = 0) (hs : P.underlying ts = some .string) (hc : P.cellsOf te = 1) (hcs : P.cellsOf ts = 1)
    (l : List (String × List UInt8)) (h : laidMet P (listed l) W) (hg : ∀ x ∈ l, ∃ g, P.globalNamed x.1 = some g ∧ (P.globals[g]?).map (·.type) = some ti) :
    ∃ A : Nat → Addr, (∀ k x, l[k]? = some x → W.var? P x.1 = some #[.iface tp (.pointer (some (A k)))]) ∧ (∀ k, k < l.length → ∃ c t, W.heap[(A k).block]? = some (.cells c t (0, 0))) ∧
      (∀ k, k < l.length → ∃ v, W.cell? (A k) = some v) ∧ ∀ i j, i < l.length → j < l.length → i ≠ j → A i ≠ A j := by
  obtain ⟨ps, hv, hnd, hrows⟩ := h
  obtain ⟨ad, e1, e2, e3, e4⟩ := laidVars_sents hi hrow hp he hft hfo hs hc hcs l ps hv hg hrows
  have hget : ∀ k, k < l.length → ad[k]? = some (ad.getD k ⟨0, 0, none⟩) := fun k hk => by
    rw [List.getD_eq_getElem?_getD, List.getElem?_eq_getElem (by omega)]; rfl
  have hmem : ∀ k, k < l.length → ad.getD k ⟨0, 0, none⟩ ∈ ad := fun k hk => List.mem_of_getElem? (hget k hk)
  refine ⟨fun k => ad.getD k ⟨0, 0, none⟩, ?_, ?_, ?_, ?_⟩
  · intro k x hx
    have hk : k < l.length := (List.getElem?_eq_some_iff.1 hx).1
    exact e2 k x _ hx (hget k hk)
  · intro k hk
    exact (hrows _ _ (e3.subset (List.mem_map.2 ⟨_, hmem k hk, rfl⟩))).1
  · intro k hk
    exact e4 _ (hmem k hk)
  · intro i j hik hjk hne he
    have hnd' : (ad.map fun a => MemPlace.cell a.block a.off).Nodup := hnd.sublist e3
    have hi' : i < (ad.map fun a => MemPlace.cell a.block a.off).length := by simp; omega
    have hj' : j < (ad.map fun a => MemPlace.cell a.block a.off).length := by simp; omega
    have he' : ad.getD i ⟨0, 0, none⟩ = ad.getD j ⟨0, 0, none⟩ := he
    rw [List.getD_eq_getElem?_getD, List.getD_eq_getElem?_getD, List.getElem?_eq_getElem (by omega), List.getElem?_eq_getElem (by omega)] at he'
    simp only [Option.getD_some] at he'
    rcases Nat.lt_or_gt_of_ne hne with h | h
    · exact List.pairwise_iff_getElem.1 hnd' i j hi' hj' h (by rw [List.getElem_map, List.getElem_map, he'])
    · exact List.pairwise_iff_getElem.1 hnd' j i hj' hi' h (by rw [List.getElem_map, List.getElem_map, he'])
end

theorem ownKnobs : ownKnob Tryz.prog.godebug = none := by kernel_rfl
theorem Tryz.laidOut : laidOutB Tryz.prog = true := by kernel_rfl
theorem Tryz.row223 : ∀ u, Tryz.prog.typeName? 3 u = some "*errors.errorString" → u = 223 := typeName_ptr_named (nm := "errors.errorString") (by kernel_rfl) (by kernel_rfl) (by decide)
theorem Tryz.cells244 : Tryz.prog.cellsOf 244 = 1 := by kernel_rfl
theorem Tryz.cells9 : Tryz.prog.cellsOf 9 = 1 := by kernel_rfl
def names4 : List (String × List UInt8) := [("causeway/api.ErrBound", [99, 97, 117, 115, 101, 119, 97, 121, 58, 32, 98, 111, 117, 110, 100]), ("causeway/api.ErrShape", [99, 97, 117, 115, 101, 119, 97, 121, 58, 32, 115, 104, 97, 112, 101]), ("causeway/api.ErrName", [99, 97, 117, 115, 101, 119, 97, 121, 58, 32, 110, 97, 109, 101]), ("causeway/api.ErrKind", [99, 97, 117, 115, 101, 119, 97, 121, 58, 32, 107, 105, 110, 100])]
/-- ErrBound, ErrShape, ErrName and ErrKind, out of a list that holds them in this order. -/
theorem e4_of_laid {W : World} {l : List (String × DataW Unit)} (h : laidMetH Tryz.prog l W)
    (hf : (l.filter fun x => x.2.handleName?.isNone).filter (fun x => (names4.map (·.1)).contains x.1) = listed names4) : ∃ A, E4 A W ∧ 12 ≤ W.heap.size := by
  have h2 : laidMet Tryz.prog (listed names4) W := by rw [← hf]; exact (laidMetH_iff.1 h).1.filter _
  have g0 : Tryz.prog.globalNamed "causeway/api.ErrBound" = some 0 := by kernel_rfl
  have g1 : Tryz.prog.globalNamed "causeway/api.ErrShape" = some 2 := by kernel_rfl
  have g2 : Tryz.prog.globalNamed "causeway/api.ErrName" = some 3 := by kernel_rfl
  have g3 : Tryz.prog.globalNamed "causeway/api.ErrKind" = some 11 := by kernel_rfl
  have t0 : (Tryz.prog.globals[0]?).map (·.type) = some 27 := by kernel_rfl
  have t1 : (Tryz.prog.globals[2]?).map (·.type) = some 27 := by kernel_rfl
  have t2 : (Tryz.prog.globals[3]?).map (·.type) = some 27 := by kernel_rfl
  have t3 : (Tryz.prog.globals[11]?).map (·.type) = some 27 := by kernel_rfl
  obtain ⟨A, a1, _, _, _⟩ := laidMet_sents Tryz.underlying27 Tryz.row223 Tryz.underlying223 Tryz.underlying244 rfl rfl Tryz.underlying9 Tryz.cells244 Tryz.cells9 names4 h2 (fun x hx => by
    rcases List.mem_cons.1 hx with rfl | hx
    · exact ⟨0, g0, t0⟩
    rcases List.mem_cons.1 hx with rfl | hx
    · exact ⟨2, g1, t1⟩
    rcases List.mem_cons.1 hx with rfl | hx
    · exact ⟨3, g2, t2⟩
    · obtain rfl := List.mem_singleton.1 hx
      exact ⟨11, g3, t3⟩)
  have c1 : W.cell? ⟨2, 0, none⟩ = some (.iface 223 (.pointer (some (A 1)))) := by simpa using World.var?_cell g1 (a1 1 _ rfl) 0
  have c3 : W.cell? ⟨11, 0, none⟩ = some (.iface 223 (.pointer (some (A 3)))) := by simpa using World.var?_cell g3 (a1 3 _ rfl) 0
  refine ⟨fun k => if k = 1 then A 0 else if k = 2 then A 1 else if k = 3 then A 2 else A 3, ⟨?_, ?_, ?_, ?_⟩, lt_of_cell c3⟩
  · simpa using World.var?_cell g0 (a1 0 _ rfl) 0
  · simpa using c1
  · simpa using World.var?_cell g2 (a1 2 _ rfl) 0
  · simpa using World.var?_cell g3 (a1 3 _ rfl) 0
end Go.Proofs.YtngjooemanapnaaGreatDoor
namespace Go.Proofs.YtngjooemanapnaaGreatDoor
open Go.ChangeShapes Go.WideShapes Go.ChangeAt Go.RowKit Go.Deep
set_option maxRecDepth 100000

section
variable {H : Type} {enc : TypeId × Value → H} {W : World}
/-- Rows of k cells, each of which reads as an element. -/
theorem rows_view {t e k fuel : Nat} {v : Value} {x : DataW H × List MemPlace} (ht : Tryz.prog.underlying t = some (.slice e)) (hk : Tryz.prog.cellsOf e = k) (hk0 : 0 < k) (h : DataW.trod enc Tryz.prog W 0 (fun _ => true) true fuel t [v] = some x) :
    ∃ rows n, RowAt k W v rows ∧ rows.length ≤ 9223372036854775807 ∧ ∀ r ∈ rows, r.length = k ∧ ∃ y, DataW.trod enc Tryz.prog W 0 (fun _ => true) true n e r = some y := by
  rcases open_slice ht h with ⟨hv, _⟩ | ⟨a, len, cap, m, n, D, Pl, hv, _, hl, hm, hmm, _, hx⟩
  · simp only [List.cons.injEq, and_true] at hv
    subst hv
    exact ⟨[], 0, ⟨none, 0, rfl, fun _ => rfl, Nat.le_refl _, .inl rfl⟩, Nat.zero_le _, fun r hr => by simp at hr⟩
  · simp only [List.cons.injEq, and_true] at hv
    subst hv
    simp only [if_true] at hmm
    subst hmm
    rw [hk] at hx
    obtain ⟨R, hR⟩ := choose_lt (α := List Value) (p := fun i r => W.cells? 0 (a.add (i * k)) k = some r ∧ DataW.trod enc Tryz.prog W 0 (fun _ => true) true n e r = some (D i, Pl i)) hx
    have hrow : ∀ i, i < m → (R i).length = k := fun i hi => (World.cells?_some (hR i hi).1).2.1
    refine ⟨(List.range len).map R, n, ⟨some a, m, by simp, (fun h => by cases h), by simpa using hl, ?_⟩, by rw [List.length_map, List.length_range]; exact Nat.le_trans hl hm, fun r hr => ?_⟩
    · by_cases h0 : len = 0
      · subst h0; exact .inl rfl
      · have h00 := (hR 0 (by omega)).1
        obtain ⟨_, hlen, hcell⟩ := World.cells?_some h00
        obtain ⟨b, o, spot⟩ := a
        have hc0 := hcell 0 hk0
        rw [Nat.zero_mul, List.getElem?_eq_getElem (by omega)] at hc0
        have hspot : spot = none := by simpa [Addr.add] using World.cell?_spot hc0
        subst hspot
        refine .inr ⟨b, o, rfl, fun j r hr => ?_⟩
        have hj : j < len := by have := (List.getElem?_eq_some_iff.1 hr).1; simpa using this
        rw [List.getElem?_map, List.getElem?_range hj] at hr
        obtain rfl := Option.some.inj hr
        refine ⟨hrow j (by omega), fun i u hu => ?_⟩
        obtain ⟨_, hlen, hcell⟩ := World.cells?_some (hR j (by omega)).1
        have hi : i < k := by have := (List.getElem?_eq_some_iff.1 hu).1; omega
        have := hcell i hi
        rw [add_add, Addr.add_lit, hu] at this
        rw [← this]
        congr 2
        omega
    · obtain ⟨i, hi, rfl⟩ := List.mem_map.1 hr
      have hi' := List.mem_range.1 hi
      exact ⟨hrow i (by omega), _, (hR i (by omega)).2⟩
/-- One by one. -/
theorem f2_choose {α β : Type} {R : α → β → Prop} : ∀ {l : List α}, (∀ a ∈ l, ∃ b, R a b) → ∃ m, F2 R l m
  | [], _ => ⟨[], trivial⟩
  | a :: l, h => by
    obtain ⟨b, hb⟩ := h a (List.mem_cons_self ..)
    obtain ⟨m, hm⟩ := f2_choose (fun a ha => h a (List.mem_cons_of_mem _ ha))
    exact ⟨b :: m, hb, hm⟩
/-- A field of one cell. -/
theorem field1 {t n : Nat} {fs : Array Field} {r : List Value} {x : DataW H × List MemPlace} (ht : Tryz.prog.underlying t = some (.struct fs)) (hone : oneCellFields Tryz.prog fs = true) (hl : r.length = fs.size) (h : DataW.trod enc Tryz.prog W 0 (fun _ => true) true n t r = some x) :
    ∃ n', ∀ (i : Nat) (f : Field), fs[i]? = some f → ∃ y, DataW.trod enc Tryz.prog W 0 (fun _ => true) true n' f.type [r.getD i undef] = some y := by
  obtain ⟨xs, n', _, _, _, hxl, hf⟩ := DataW.trod_struct ht h
  refine ⟨n', fun i f hi => ?_⟩
  have hlt : i < fs.size := (Array.getElem?_eq_some_iff.1 hi).1
  obtain ⟨ho, hc1⟩ := hone_of hone i f hi
  have g := hf i f hi
  rw [ho, hc1, take1_drop r i undef (by omega), List.getElem?_eq_getElem (by omega)] at g
  exact ⟨_, g⟩
theorem int_cell {n : Nat} {v : Value} {y : DataW H × List MemPlace} (h : DataW.trod enc Tryz.prog W 0 (fun _ => true) true n 3 [v] = some y) : ∃ z, v = .int .i64 z ∧ (Lit.int .i64 z).wf = true := by
  obtain ⟨z, hz, _, hw⟩ := DataW.trod_int Tryz.underlying3 h
  exact ⟨z, by simpa using hz, hw⟩
theorem str_cell {n : Nat} {v : Value} {y : DataW H × List MemPlace} (h : DataW.trod enc Tryz.prog W 0 (fun _ => true) true n 9 [v] = some y) : ∃ s, v = .string s := by
  obtain ⟨z, hz, _⟩ := DataW.trod_string Tryz.underlying9 h
  exact ⟨z, by simpa using hz⟩
theorem bool_cell {n : Nat} {v : Value} {y : DataW H × List MemPlace} (h : DataW.trod enc Tryz.prog W 0 (fun _ => true) true n 4 [v] = some y) : ∃ s, v = .bool s := by
  obtain ⟨z, hz, _⟩ := DataW.trod_bool Tryz.underlying4 h
  exact ⟨z, by simpa using hz⟩
theorem ints_cellV {n : Nat} {v : Value} {y : DataW H × List MemPlace} (h : DataW.trod enc Tryz.prog W 0 (fun _ => true) true n 38 [v] = some y) : ∃ zs, IntsAt W v zs := by
  obtain ⟨rows, n', ⟨ad, cap, rfl, hn, hc, hq⟩, _, hr⟩ := rows_view Tryz.underlying38 (k := 1) (by kernel_rfl) (by decide) h
  obtain ⟨zs, hf⟩ := f2_choose (R := fun (r : List Value) (z : Int) => r = [.int .i64 z]) (l := rows) (fun r hrm => by
    obtain ⟨hl, y, hy⟩ := hr r hrm
    match r, hl with
    | [v], _ =>
      obtain ⟨z, rfl, _⟩ := int_cell hy
      exact ⟨z, rfl⟩)
  have hlen := f2_len hf
  refine ⟨zs, ad, cap, by rw [hlen], hn, ?_⟩
  rcases hq with hq | ⟨b, o, rfl, hq⟩
  · exact .inl (List.eq_nil_of_length_eq_zero (by rw [← hlen, hq]; rfl))
  · refine .inr ⟨b, o, rfl, fun t ht => ?_⟩
    obtain ⟨r, hrr, rfl⟩ := f2_get hf t (zs.getD t 0) (by rw [List.getD_eq_getElem?_getD, List.getElem?_eq_getElem ht]; rfl)
    have := (hq t _ hrr).2 0 _ rfl
    rw [Nat.mul_one, Nat.add_zero] at this
    exact this
theorem strs_cell {n : Nat} {v : Value} {y : DataW H × List MemPlace} (h : DataW.trod enc Tryz.prog W 0 (fun _ => true) true n 53 [v] = some y) : ∃ ss : List (List UInt8), SrcAt W v ss.length 1 (ss.map encStr) ∧ StrsX W v ss := by
  obtain ⟨rows, n', ⟨ad, cap, rfl, hn, hc, hq⟩, _, hr⟩ := rows_view Tryz.underlying53 (k := 1) (by kernel_rfl) (by decide) h
  obtain ⟨ss, hf⟩ := f2_choose (R := fun (r : List Value) (z : List UInt8) => r = [encStr z]) (l := rows) (fun r hrm => by
    obtain ⟨hl, y, hy⟩ := hr r hrm
    match r, hl with
    | [v], _ =>
      obtain ⟨z, rfl⟩ := str_cell hy
      exact ⟨z.data.toList, by rw [encStr_data]⟩)
  have hlen := f2_len hf
  have hcell : ∀ b o, ad = some ⟨b, o, none⟩ → (∀ j r, rows[j]? = some r → r.length = 1 ∧ ∀ i u, r[i]? = some u → W.cell? ⟨b, o + j * 1 + i, none⟩ = some u) → ∀ t z, ss[t]? = some z → W.cell? ⟨b, o + t, none⟩ = some (encStr z) := fun b o _ hq t z hz => by
    obtain ⟨r, hrr, rfl⟩ := f2_get hf t z hz
    have := (hq t _ hrr).2 0 _ rfl
    rw [Nat.mul_one, Nat.add_zero] at this
    exact this
  refine ⟨ss, ?_, ad, cap, by rw [hlen], ?_⟩
  · cases ad with
    | none =>
      obtain rfl := hn rfl
      rcases hq with hq | ⟨b, o, he, _⟩
      · have h0 : ss = [] := List.eq_nil_of_length_eq_zero (by rw [← hlen, hq]; rfl)
        subst h0
        subst hq
        exact .inl ⟨rfl, rfl, rfl⟩
      · cases he
    | some a =>
      refine .inr ⟨a, cap, by rw [hlen], by simp, fun j u hj => ?_⟩
      rw [List.getElem?_map] at hj
      cases hjj : ss[j]? with
      | none => rw [hjj] at hj; cases hj
      | some z =>
        rw [hjj] at hj
        obtain rfl := Option.some.inj hj
        rcases hq with hq | ⟨b, o, he, hq⟩
        · have h0 : ss = [] := List.eq_nil_of_length_eq_zero (by rw [← hlen, hq]; rfl)
          rw [h0] at hjj
          simp at hjj
        · obtain rfl := Option.some.inj he
          rw [Addr.add_lit]
          exact hcell b o rfl hq j z hjj
  · rcases hq with hq | ⟨b, o, rfl, hq⟩
    · exact .inl (List.eq_nil_of_length_eq_zero (by rw [← hlen, hq]; rfl))
    · refine .inr ⟨b, o, rfl, fun t ht => ?_⟩
      exact hcell b o rfl hq t _ (by rw [List.getElem?_eq_getElem ht, getElem!_pos ss t ht])
theorem dots_cell {n : Nat} {v : Value} {y : DataW H × List MemPlace} (h : DataW.trod enc Tryz.prog W 0 (fun _ => true) true n 78 [v] = some y) : ∃ ds, DotsAt W v ds := by
  obtain ⟨rows, n', hR, _, hr⟩ := rows_view Tryz.underlying78 (k := 3) (by kernel_rfl) (by decide) h
  have : ∀ l : List (List Value), (∀ r ∈ l, ∃ d : D3, r = d.cells) → ∃ ds : List D3, l = ds.map D3.cells := by
    intro l
    induction l with
    | nil => exact fun _ => ⟨[], rfl⟩
    | cons r l ih =>
      intro h
      obtain ⟨d, rfl⟩ := h r (List.mem_cons_self ..)
      obtain ⟨ds, rfl⟩ := ih (fun r hr => h r (List.mem_cons_of_mem _ hr))
      exact ⟨d :: ds, rfl⟩
  obtain ⟨ds, rfl⟩ := this rows fun r hrm => by
    obtain ⟨hl, y, hy⟩ := hr r hrm
    obtain ⟨m, hf⟩ := field1 Tryz.underlying132 (by kernel_rfl) hl hy
    match r, hl with
    | [a, b, c], _ =>
      obtain ⟨_, h0⟩ := hf 0 _ rfl
      obtain ⟨_, h1⟩ := hf 1 _ rfl
      obtain ⟨_, h2⟩ := hf 2 _ rfl
      obtain ⟨z0, e0, _⟩ := int_cell h0
      obtain ⟨z1, e1, _⟩ := int_cell h1
      obtain ⟨z2, e2, _⟩ := int_cell h2
      have e0' : a = .int .i64 z0 := e0
      have e1' : b = .int .i64 z1 := e1
      have e2' : c = .int .i64 z2 := e2
      exact ⟨⟨z0, z1, z2⟩, by rw [e0', e1', e2']; rfl⟩
  exact ⟨ds, hR⟩
theorem op_cells {n : Nat} {r : List Value} {y : DataW H × List MemPlace} (hl : r.length = 7) (h : DataW.trod enc Tryz.prog W 0 (fun _ => true) true n 80 r = some y) : ∃ o, OpRow W r o := by
  obtain ⟨m, hf⟩ := field1 Tryz.underlying80 (by kernel_rfl) hl h
  match r, hl with
  | [a, b, c, d, e, f, g], _ =>
    obtain ⟨_, h0⟩ := hf 0 _ rfl
    obtain ⟨_, h1⟩ := hf 1 _ rfl
    obtain ⟨_, h2⟩ := hf 2 _ rfl
    obtain ⟨_, h3⟩ := hf 3 _ rfl
    obtain ⟨_, h4⟩ := hf 4 _ rfl
    obtain ⟨_, h5⟩ := hf 5 _ rfl
    obtain ⟨_, h6⟩ := hf 6 _ rfl
    obtain ⟨z0, e0, _⟩ := int_cell h0
    obtain ⟨z1, e1⟩ := str_cell h1
    obtain ⟨z2, e2, _⟩ := int_cell h2
    obtain ⟨z3, e3⟩ := str_cell h3
    obtain ⟨z4, e4, _⟩ := int_cell h4
    obtain ⟨z5, e5⟩ := bool_cell h5
    obtain ⟨ds, hd⟩ := dots_cell h6
    have e0' : a = .int .i64 z0 := e0
    have e1' : b = .string z1 := e1
    have e2' : c = .int .i64 z2 := e2
    have e3' : d = .string z3 := e3
    have e4' : e = .int .i64 z4 := e4
    have e5' : f = .bool z5 := e5
    exact ⟨⟨z0, z1, z2, z3, z4, z5, ds⟩, g, by rw [e0', e1', e2', e3', e4', e5']; rfl, hd⟩
theorem ops_cell {n : Nat} {v : Value} {y : DataW H × List MemPlace} (h : DataW.trod enc Tryz.prog W 0 (fun _ => true) true n 39 [v] = some y) : ∃ os, OpsAt W v os := by
  obtain ⟨rows, n', hR, _, hr⟩ := rows_view Tryz.underlying39 (k := 7) (by kernel_rfl) (by decide) h
  obtain ⟨os, hf⟩ := f2_choose (R := OpRow W) (l := rows) fun r hrm => op_cells (hr r hrm).1 (hr r hrm).2.choose_spec
  exact ⟨os, rows, hR, hf⟩
theorem com_cells {n : Nat} {r : List Value} {y : DataW H × List MemPlace} (hl : r.length = 3) (h : DataW.trod enc Tryz.prog W 0 (fun _ => true) true n 41 r = some y) : ∃ c, ComRow W r c := by
  obtain ⟨m, hf⟩ := field1 Tryz.underlying41 (by kernel_rfl) hl h
  match r, hl with
  | [a, b, c], _ =>
    obtain ⟨_, h0⟩ := hf 0 _ rfl
    obtain ⟨_, h1⟩ := hf 1 _ rfl
    obtain ⟨_, h2⟩ := hf 2 _ rfl
    obtain ⟨zs, hz⟩ := ints_cellV h0
    obtain ⟨z1, e1, _⟩ := int_cell h1
    obtain ⟨os, ho⟩ := ops_cell h2
    have e1' : b = .int .i64 z1 := e1
    exact ⟨⟨zs, z1, os⟩, a, c, by rw [e1'], hz, ho⟩
/-- A value's four cells. -/
theorem val_cells {n : Nat} {r : List Value} {y : DataW H × List MemPlace} (hl : r.length = 4) (h : DataW.trod enc Tryz.prog W 0 (fun _ => true) true n 55 r = some y) : ∃ (x : ValV) (sv : Value), r = [.int .i64 x.kind, .string x.text, .int .i64 x.n, sv] ∧ SrcAt W sv x.set.length 1 (x.set.map encStr) ∧ StrsX W sv x.set := by
  obtain ⟨m, hf⟩ := field1 Tryz.underlying55 (by kernel_rfl) hl h
  match r, hl with
  | [a, b, c, d], _ =>
    obtain ⟨_, h0⟩ := hf 0 _ rfl
    obtain ⟨_, h1⟩ := hf 1 _ rfl
    obtain ⟨_, h2⟩ := hf 2 _ rfl
    obtain ⟨_, h3⟩ := hf 3 _ rfl
    obtain ⟨z0, e0, _⟩ := int_cell h0
    obtain ⟨z1, e1⟩ := str_cell h1
    obtain ⟨z2, e2, _⟩ := int_cell h2
    obtain ⟨ss, hs1, hs2⟩ := strs_cell h3
    have e0' : a = .int .i64 z0 := e0
    have e1' : b = .string z1 := e1
    have e2' : c = .int .i64 z2 := e2
    exact ⟨⟨z0, z1, z2, ss⟩, d, by rw [e0', e1', e2'], hs1, hs2⟩
/-- The five cells of what was read. -/
theorem seen_cells {n : Nat} {r : List Value} {y : DataW H × List MemPlace} (hl : r.length = 5) (h : DataW.trod enc Tryz.prog W 0 (fun _ => true) true n 57 r = some y) : ∃ s, SnRowN W r s := by
  obtain ⟨xs, n', _, _, _, hxl, hg⟩ := DataW.trod_struct Tryz.underlying57 h
  match r, hl with
  | [a, b, c, d, e], _ =>
    have g0 : DataW.trod enc Tryz.prog W 0 (fun _ => true) true n' 9 (([a, b, c, d, e].drop 0).take (Tryz.prog.cellsOf 9)) = _ := hg 0 _ rfl
    have g1 : DataW.trod enc Tryz.prog W 0 (fun _ => true) true n' 55 (([a, b, c, d, e].drop 1).take (Tryz.prog.cellsOf 55)) = _ := hg 1 _ rfl
    have k9 : Tryz.prog.cellsOf 9 = 1 := by kernel_rfl
    have k55 : Tryz.prog.cellsOf 55 = 4 := by kernel_rfl
    have hx2 : xs.length = 2 := hxl
    rw [k9, List.getElem?_eq_getElem (by omega)] at g0
    rw [k55, List.getElem?_eq_getElem (by omega)] at g1
    obtain ⟨z0, e0⟩ := str_cell (v := a) g0
    obtain ⟨x, sv, e1, h1, h2⟩ := val_cells (r := [b, c, d, e]) rfl g1
    injection e1 with e1 e2
    injection e2 with e2 e3
    injection e3 with e3 e4
    injection e4 with e4 _
    subst e0 e1 e2 e3 e4
    exact ⟨⟨z0, x⟩, _, rfl, h1, h2⟩
theorem seens_cell {n : Nat} {v : Value} {y : DataW H × List MemPlace} (h : DataW.trod enc Tryz.prog W 0 (fun _ => true) true n 42 [v] = some y) : ∃ rs, SnsAtN W v rs := by
  obtain ⟨rows, n', hR, _, hr⟩ := rows_view Tryz.underlying42 (k := 5) (by kernel_rfl) (by decide) h
  obtain ⟨os, hf⟩ := f2_choose (R := SnRowN W) (l := rows) fun r hrm => seen_cells (hr r hrm).1 (hr r hrm).2.choose_spec
  exact ⟨os, rows, hR, hf⟩
theorem n64_of {k : Int} (h : (Lit.int .i64 k).wf = true) : n64 k := by
  have e1 : IntKind.i64.min = -9223372036854775808 := rfl
  have e2 : IntKind.i64.max = 9223372036854775807 := rfl
  simp [Lit.wf, e1, e2] at h
  exact h
/-- An event's seven cells. -/
theorem ev_cells {n : Nat} {r : List Value} {y : DataW H × List MemPlace} (hl : r.length = 7) (h : DataW.trod enc Tryz.prog W 0 (fun _ => true) true n 44 r = some y) : ∃ e, EvRowN W r e ∧ n64 e.ses := by
  obtain ⟨xs, n', _, _, _, hxl, hg⟩ := DataW.trod_struct Tryz.underlying44 h
  match r, hl with
  | [a, b, c, d, e, f, g], _ =>
    have g0 : DataW.trod enc Tryz.prog W 0 (fun _ => true) true n' 3 (([a, b, c, d, e, f, g].drop 0).take (Tryz.prog.cellsOf 3)) = _ := hg 0 _ rfl
    have g1 : DataW.trod enc Tryz.prog W 0 (fun _ => true) true n' 3 (([a, b, c, d, e, f, g].drop 1).take (Tryz.prog.cellsOf 3)) = _ := hg 1 _ rfl
    have g2 : DataW.trod enc Tryz.prog W 0 (fun _ => true) true n' 38 (([a, b, c, d, e, f, g].drop 2).take (Tryz.prog.cellsOf 38)) = _ := hg 2 _ rfl
    have g3 : DataW.trod enc Tryz.prog W 0 (fun _ => true) true n' 42 (([a, b, c, d, e, f, g].drop 3).take (Tryz.prog.cellsOf 42)) = _ := hg 3 _ rfl
    have g4 : DataW.trod enc Tryz.prog W 0 (fun _ => true) true n' 41 (([a, b, c, d, e, f, g].drop 4).take (Tryz.prog.cellsOf 41)) = _ := hg 4 _ rfl
    have k3 : Tryz.prog.cellsOf 3 = 1 := by kernel_rfl
    have k38 : Tryz.prog.cellsOf 38 = 1 := by kernel_rfl
    have k42 : Tryz.prog.cellsOf 42 = 1 := by kernel_rfl
    have k41 : Tryz.prog.cellsOf 41 = 3 := by kernel_rfl
    have hx5 : xs.length = 5 := hxl
    rw [k3, List.getElem?_eq_getElem (by omega)] at g0 g1
    rw [k38, List.getElem?_eq_getElem (by omega)] at g2
    rw [k42, List.getElem?_eq_getElem (by omega)] at g3
    rw [k41, List.getElem?_eq_getElem (by omega)] at g4
    obtain ⟨z0, e0, w0⟩ := int_cell (v := a) g0
    obtain ⟨z1, e1, _⟩ := int_cell (v := b) g1
    obtain ⟨zs, hz⟩ := ints_cellV (v := c) g2
    obtain ⟨rs, hr⟩ := seens_cell (v := d) g3
    obtain ⟨cc, ⟨wv, ov, e3, hw, ho⟩⟩ := com_cells (r := [e, f, g]) rfl g4
    injection e3 with e31 e3
    injection e3 with e32 e3
    injection e3 with e33 _
    subst e0 e1 e31 e32 e33
    exact ⟨⟨z0, z1, zs, rs, cc⟩, ⟨_, _, _, _, rfl, ⟨hz, hw, ho⟩, hr⟩, n64_of w0⟩
theorem f2_both {α β : Type} {R : α → β → Prop} {p : β → Prop} : ∀ {l : List α} {m : List β}, F2 (fun a b => R a b ∧ p b) l m → F2 R l m ∧ ∀ b ∈ m, p b
  | [], [], _ => ⟨trivial, fun b hb => by simp at hb⟩
  | _ :: _, _ :: _, ⟨h1, h2⟩ => ⟨⟨h1.1, (f2_both h2).1⟩, fun b hb => by
    rcases List.mem_cons.1 hb with rfl | hb
    · exact h1.2
    · exact (f2_both h2).2 b hb⟩
/-- Events that came in. -/
def EvsIn (w : World) (v : Value) (l : List EvV) : Prop := EvsAtN w v l ∧ l.length ≤ 9223372036854775807 ∧ ∀ e ∈ l, n64 e.ses
theorem evs_view {v : Value} {d : DataW H} {p : List MemPlace} {base : Nat} (hv : Value.okWide Tryz.prog W .any base 22 v) (h : DataW.Trod enc Tryz.prog W 0 (fun _ => true) true 22 v d p) : ∃ l, EvsIn W v l := by
  obtain ⟨a0, len, cap, rfl⟩ := okWide_slice Tryz.underlying22 hv
  obtain ⟨fuel, hf⟩ := h
  have hf' : DataW.trod enc Tryz.prog W 0 (fun _ => true) true fuel 22 [.slice a0 len cap] = some (d, p) := by simpa [Value.cells] using hf
  obtain ⟨rows, n', hR, hs, hr⟩ := rows_view Tryz.underlying22 (k := 7) (by kernel_rfl) (by decide) hf'
  obtain ⟨os, hf⟩ := f2_choose (R := fun r e => EvRowN W r e ∧ n64 e.ses) (l := rows) fun r hrm => ev_cells (hr r hrm).1 (hr r hrm).2.choose_spec
  obtain ⟨h1, h2⟩ := f2_both hf
  exact ⟨os, ⟨rows, hR, h1⟩, by rw [← f2_len h1]; exact hs, h2⟩
end
theorem Tryz.read22 : Tryz.prog.readableRec 22 = true := by kernel_rfl
theorem Tryz.lt22 : 22 < Tryz.prog.types.size := of_decide_eq_true (by kernel_rfl)
theorem evs_stay {H : Type} {enc : TypeId × Value → H} {W W' : World} {v : Value} {d : DataW H} {p : List MemPlace} (h : DataW.Trod enc Tryz.prog W 0 (fun _ => true) true 22 v d p) (hb : Below W.heap.size W W') (hlt : ∀ x ∈ p, x.block < W.heap.size) :
    DataW.Trod enc Tryz.prog W' 0 (fun b => decide (b < W.heap.size)) true 22 v d p := Below.trod Tryz.laidOut Tryz.read22 Tryz.lt22 h hb hlt
end Go.Proofs.YtngjooemanapnaaGreatDoor
namespace Go.Proofs.YtngjooemanapnaaGreatDoor
open Go.RowKit Go.Sort Go.Maps
set_option maxRecDepth 100000

theorem checks_out (w : World) (n a b : Int) (ad : Option Addr) (m cap : Nat)
    (k4 : ∀ u, Below w.heap.size w u → Calls Tryz.prog 4 #[] u (OkRet u)) (k5 : ∀ u, Below w.heap.size w u → Calls Tryz.prog 5 #[.slice ad m cap] u fun r w' => r = .returned (.bool false) ∧ Below u.heap.size u w') :
    Calls Tryz.prog 3 #[.int .i64 n, .slice ad m cap, .int .i64 a, .int .i64 b] w (OkRet w) := by
  have K4 := hid k4
  have K5 := hid k5
  clear k4 k5
  go_enter Tryz.func3, Tryz.ntmps3
  go_wp2_with fail
  refine (K4.out w (Below.refl _ _)).mono ?_
  rintro r w1 ⟨rfl, hb1⟩
  have HB1 := hid hb1
  clear hb1
  go_wp2_with fail
  refine (K5.out w1 HB1.out).mono ?_
  rintro r w2 ⟨rfl, hb⟩
  have HB2 := hid (HB1.out.trans (hb.mono HB1.out.size))
  clear hb
  go_wp2
  go_ret
  exact ⟨rfl, HB2.out⟩
theorem checks_walk (A : Nat → Addr) (w : World) (hS : Sents A w.heap.size w) (n a b : Int) (v : Value) (l : List EvV) (hv : EvsIn w v l) :
    Calls Tryz.prog 3 #[.int .i64 n, v, .int .i64 a, .int .i64 b] w fun e w' => e = .returned (.bool true) ∧ Below w.heap.size w w' := by
  obtain ⟨hN, hlen, hses⟩ := hv
  obtain ⟨ad, cap, rfl, _⟩ := hN.shape
  have k4 := fun u (hu : Below w.heap.size w u) => judged_any A w.heap.size u (hS.below hu)
  have k5 := fun u (hu : Below w.heap.size w u) => fitEvents_any u l _ (hN.mono hu (Nat.le_refl _)) hlen
  cases hfit : fitB l with
  | false => exact checks_out w n a b ad l.length cap k4 fun u hu => (k5 u hu).mono fun r w' ⟨h1, h2⟩ => ⟨by rw [h1, hfit], h2⟩
  | true =>
    obtain ⟨h20, hL⟩ := fit_of hfit
    have hE : ∀ e ∈ l, EvFit e := fun e he => (light_ev (hL e he) (hses e he)).2
    have hLt : ∀ e ∈ l, EvLight e := fun e he => (light_ev (hL e he) (hses e he)).1
    have h12 : ∀ u, Below w.heap.size w u → 12 ≤ u.heap.size := fun u hu => Nat.le_trans (by have := hS.gl; omega) (hS.below hu).size
    refine checks_in A w l (checkE n l) (cutsE l) (cutsT l) (seB l a b).1 (errV A (seB l a b).2) n a b ad l.length cap _ ?_ rfl (fun h => ?_) (fun h => pair_at A w l ad cap _ rfl hN.at hE a b (of_decide_eq_false h))
    · exact
        { k4 := k4
          k5 := fun u hu => (k5 u hu).mono fun r w' ⟨h1, h2⟩ => ⟨by rw [h1, hfit], h2⟩
          k6 := fun u hu x e h h1 h2 => faulted_err A w.heap.size u (hS.below hu) x e h h1 h2
          k7 := fun u hu x hx => checkJ_any A w.heap.size u (hS.below hu) n l x hx (by omega) hE
          k8 := fun u hu => eventsOf_any u l _ (hN.mono hu (Nat.le_refl _)) h20 hLt
          k9 := fun u hu => eventsFault_any u l _ (hN.at.mono hu (Nat.le_refl _)) (by omega) hE n
          k10 := fun u hu x hx => seenJ_any A u (hS.below hu).e4 (h12 u hu) l x hx hE a b
          k11 := fun u hu k hk => coded_err A w.heap.size u (hS.below hu) k hk
          k14 := fun u hu x hx => cutsJ_any A w.heap.size u (hS.below hu) l x hx (by omega) hE
          k15 := fun u hu => refCuts_any u l _ (hN.at.mono hu (Nat.le_refl _)) (by omega) hE
          er12 := checkE_le n l
          er0 := checkE_zero
          ce12 := cutsE_le l
          ce0 := cutsE_zero
          ctl := fun ts ht => by have := (cutsT_len l).1 ts ht; omega
          ctn := by have := (cutsT_len l).2; omega }
    · have hs : seB l a b = (false, 2) := by unfold seB; rw [if_pos (of_decide_eq_true h)]
      rw [hs]
      exact ⟨rfl, rfl⟩
end Go.Proofs.YtngjooemanapnaaGreatDoor
