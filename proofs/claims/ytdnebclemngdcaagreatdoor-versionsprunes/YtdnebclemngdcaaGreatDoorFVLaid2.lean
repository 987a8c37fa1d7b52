/- From what the rows list to what the walks ask: the sentinels that package values hands out; the start that the witness takes; The type's handle and all twelve sentinels, out of what the rows list. -/
import Derived.Test.YtdnebclemngdcaaGreatDoorFVMath
import Derived.Test.YtdnebclemngdcaaGreatDoorRows
import Derived.LaidLaws
import Derived.LaidSub
import Derived.LaidHandle
import Derived.ProofKit
import Derived.OpenShut
namespace Go.Proofs.YtdnebclemngdcaaGreatDoor
open Go.RowKit Go.ChangeShapes Go.WideShapes Go.ChangeAt
set_option maxRecDepth 100000

def sent {H : Type} (t : List UInt8) : DataW H := .iface "*errors.errorString" (.ptr (.agg [.lit (.string t)]))
def listed (l : List (String × List UInt8)) : List (String × DataW Unit) := l.map fun x => (x.1, sent x.2)

section
variable {P : Program} {W : World} {ti tp te ts : TypeId} {ms : Array (String × TypeId)} {f : Field}

theorem laidVars_sents (hi : P.underlying ti = some (.interface ms)) (hrow : ∀ u, P.typeName? 3 u = some "*errors.errorString" → u = tp)
    (hp : P.underlying tp = some (.pointer te)) (he : P.underlying te = some (.struct #[f])) (hft : f.type = ts) (hfo : f.offset = 0) (hs : P.underlying ts = some .string) (hc : P.cellsOf te = 1) (hcs : P.cellsOf ts = 1) :
    ∀ (l : List (String × List UInt8)) (ps : List MemPlace),
    DataW.LaidVars P W (listed l) ps →
    (∀ x ∈ l, ∃ g, P.globalNamed x.1 = some g ∧ (P.globals[g]?).map (·.type) = some ti) →
    (∀ b off, MemPlace.cell b off ∈ ps → (∃ c t, W.heap[b]? = some (.cells c t (0, 0))) ∧ ∀ u v, W.cell? ⟨b, off, none⟩ = some (.iface u v) → Value.okWide P W .any 0 u v) →
    ∃ ad : List Addr, ad.length = l.length ∧ (∀ (k : Nat) (x : String × List UInt8) (a : Addr), l[k]? = some x → ad[k]? = some a → W.var? P x.1 = some #[.iface tp (.pointer (some a))]) ∧
      (ad.map fun a => MemPlace.cell a.block a.off).Sublist ps ∧ ∀ a ∈ ad, ∃ v, W.cell? a = some v := by
  intro l
  induction l with
  | nil => exact fun ps _ _ _ => ⟨[], rfl, fun k x a h => by simp at h, List.nil_sublist _, fun a h => by cases h⟩
  | cons x l ih =>
    intro ps h hg hrows
    obtain ⟨g, t, cs, fuel, p, q, h1, h2, h3, h4, h5, rfl⟩ := h
    obtain ⟨g', h1', h2'⟩ := hg x (List.mem_cons_self ..)
    obtain rfl := Option.some.inj (h1.symm.trans h1')
    obtain rfl := Option.some.inj (h2.symm.trans h2')
    obtain ⟨lc⟩ := cs
    have ok0 : ∀ u v, lc = [.iface u v] → Value.okWide P W .any 0 u v := fun u v e => by
      subst e
      exact (hrows g 0 (by simp [MemPlace.row])).2 u v (by simpa using World.var?_cell h1 h3 0)
    obtain ⟨a, s, rfl, hc0, hs0, hz0, rfl⟩ := errorString_of_trod hi hrow hp he hft hfo hs hc hcs h4 ok0
    obtain ⟨ad, e1, e2, e3, e4⟩ := ih q h5 (fun y hy => hg y (List.mem_cons_of_mem _ hy)) (fun b off hm => hrows b off (List.mem_append_right _ hm))
    refine ⟨a :: ad, by simp [e1], ?_, ?_, ?_⟩
    · intro k y b hy hb
      cases k with
      | zero =>
        simp only [List.getElem?_cons_zero, Option.some.injEq] at hy hb
        subst hy hb
        exact h3
      | succ k =>
        simp only [List.getElem?_cons_succ] at hy hb
        exact e2 k y b hy hb
    · simp only [List.map_cons]
      have : MemPlace.row a 1 = [MemPlace.cell a.block a.off] := by simp [MemPlace.row]
      rw [this, List.append_assoc]
      refine List.Sublist.trans ?_ (List.sublist_append_right _ _)
      exact List.Sublist.cons_cons _ e3
    · intro b hb
      rcases List.mem_cons.1 hb with rfl | hb
      · exact ⟨_, hc0⟩
      · exact e4 b hb

/-- THE LISTED SENTINELS: each variable holds a pointer of its own, to a row that bears no mark. -/
theorem laidMet_sents (hi : P.underlying ti = some (.interface ms)) (hrow : ∀ u, P.typeName? 3 u = some "*errors.errorString" → u = tp)
    (hp : P.underlying tp = some (.pointer te)) (he : P.underlying te = some (.struct #[f])) (hft : f.type = ts) (hfo : f.offset = 0) (hs : P.underlying ts = some .string) (hc : P.cellsOf te = 1) (hcs : P.cellsOf ts = 1)
    (l : List (String × List UInt8)) (h : laidMet P (listed l) W) (hg : ∀ x ∈ l, ∃ g, P.globalNamed x.1 = some g ∧ (P.globals[g]?).map (·.type) = some ti) :
    ∃ A : Nat → Addr, (∀ k x, l[k]? = some x → W.var? P x.1 = some #[.iface tp (.pointer (some (A k)))]) ∧ (∀ k, k < l.length → ∃ c t, W.heap[(A k).block]? = some (.cells c t (0, 0))) ∧
      (∀ k, k < l.length → ∃ v, W.cell? (A k) = some v) ∧ ∀ i j, i < l.length → j < l.length → i ≠ j → A i ≠ A j := by
  obtain ⟨ps, hv, hnd, hrows⟩ := h
  obtain ⟨ad, e1, e2, e3, e4⟩ := laidVars_sents hi hrow hp he hft hfo hs hc hcs l ps hv hg hrows
  have hget : ∀ k, k < l.length → ad[k]? = some (ad.getD k ⟨0, 0, none⟩) := fun k hk => by
    rw [List.getD_eq_getElem?_getD, List.getElem?_eq_getElem (by omega)]; rfl
  have hmem : ∀ k, k < l.length → ad.getD k ⟨0, 0, none⟩ ∈ ad := fun k hk => List.mem_of_getElem? (hget k hk)
  refine ⟨fun k => ad.getD k ⟨0, 0, none⟩, ?_, ?_, ?_, ?_⟩
  · intro k x hx
    have hk : k < l.length := (List.getElem?_eq_some_iff.1 hx).1
    exact e2 k x _ hx (hget k hk)
  · intro k hk
    exact (hrows _ _ (e3.subset (List.mem_map.2 ⟨_, hmem k hk, rfl⟩))).1
  · intro k hk
    exact e4 _ (hmem k hk)
  · intro i j hik hjk hne he
    have hnd' : (ad.map fun a => MemPlace.cell a.block a.off).Nodup := hnd.sublist e3
    have hi' : i < (ad.map fun a => MemPlace.cell a.block a.off).length := by simp; omega
    have hj' : j < (ad.map fun a => MemPlace.cell a.block a.off).length := by simp; omega
    have he' : ad.getD i ⟨0, 0, none⟩ = ad.getD j ⟨0, 0, none⟩ := he
    rw [List.getD_eq_getElem?_getD, List.getD_eq_getElem?_getD, List.getElem?_eq_getElem (by omega), List.getElem?_eq_getElem (by omega)] at he'
    simp only [Option.getD_some] at he'
    rcases Nat.lt_or_gt_of_ne hne with h | h
    · exact List.pairwise_iff_getElem.1 hnd' i j hi' hj' h (by rw [List.getElem_map, List.getElem_map, he'])
    · exact List.pairwise_iff_getElem.1 hnd' j i hj' hi' h (by rw [List.getElem_map, List.getElem_map, he'])
end

theorem ownKnobs : ownKnob Tryz.prog.godebug = none := by kernel_rfl
theorem Tryz.laidOut : laidOutB Tryz.prog = true := by kernel_rfl
theorem Tryz.row255 : ∀ u, Tryz.prog.typeName? 3 u = some "*errors.errorString" → u = 255 := typeName_ptr_named (nm := "errors.errorString") (by kernel_rfl) (by kernel_rfl) (by decide)
theorem Tryz.cells276 : Tryz.prog.cellsOf 276 = 1 := by kernel_rfl
theorem Tryz.cells9 : Tryz.prog.cellsOf 9 = 1 := by kernel_rfl

def names4 : List (String × List UInt8) := [("causeway/api.ErrBound", [99, 97, 117, 115, 101, 119, 97, 121, 58, 32, 98, 111, 117, 110, 100]), ("causeway/api.ErrShape", [99, 97, 117, 115, 101, 119, 97, 121, 58, 32, 115, 104, 97, 112, 101]), ("causeway/api.ErrName", [99, 97, 117, 115, 101, 119, 97, 121, 58, 32, 110, 97, 109, 101]), ("causeway/api.ErrKind", [99, 97, 117, 115, 101, 119, 97, 121, 58, 32, 107, 105, 110, 100])]
/-- ErrBound, ErrShape, ErrName and ErrKind, out of a list that holds them in this order. -/
theorem e4_of_laid {W : World} {l : List (String × DataW Unit)} (h : laidMetH Tryz.prog l W)
    (hf : (l.filter fun x => x.2.handleName?.isNone).filter (fun x => (names4.map (·.1)).contains x.1) = listed names4) : ∃ A, E4 A W ∧ 12 ≤ W.heap.size := by
  have h2 : laidMet Tryz.prog (listed names4) W := by rw [← hf]; exact (laidMetH_iff.1 h).1.filter _
  have g0 : Tryz.prog.globalNamed "causeway/api.ErrBound" = some 0 := by kernel_rfl
  have g1 : Tryz.prog.globalNamed "causeway/api.ErrShape" = some 3 := by kernel_rfl
  have g2 : Tryz.prog.globalNamed "causeway/api.ErrName" = some 5 := by kernel_rfl
  have g3 : Tryz.prog.globalNamed "causeway/api.ErrKind" = some 11 := by kernel_rfl
  have t0 : (Tryz.prog.globals[0]?).map (·.type) = some 28 := by kernel_rfl
  have t1 : (Tryz.prog.globals[3]?).map (·.type) = some 28 := by kernel_rfl
  have t2 : (Tryz.prog.globals[5]?).map (·.type) = some 28 := by kernel_rfl
  have t3 : (Tryz.prog.globals[11]?).map (·.type) = some 28 := by kernel_rfl
  obtain ⟨A, a1, _, _, _⟩ := laidMet_sents Tryz.underlying28 Tryz.row255 Tryz.underlying255 Tryz.underlying276 rfl rfl Tryz.underlying9 Tryz.cells276 Tryz.cells9 names4 h2 (fun x hx => by
    rcases List.mem_cons.1 hx with rfl | hx
    · exact ⟨0, g0, t0⟩
    rcases List.mem_cons.1 hx with rfl | hx
    · exact ⟨3, g1, t1⟩
    rcases List.mem_cons.1 hx with rfl | hx
    · exact ⟨5, g2, t2⟩
    · obtain rfl := List.mem_singleton.1 hx
      exact ⟨11, g3, t3⟩)
  have c1 : W.cell? ⟨3, 0, none⟩ = some (.iface 255 (.pointer (some (A 1)))) := by simpa using World.var?_cell g1 (a1 1 _ rfl) 0
  have c3 : W.cell? ⟨11, 0, none⟩ = some (.iface 255 (.pointer (some (A 3)))) := by simpa using World.var?_cell g3 (a1 3 _ rfl) 0
  refine ⟨fun k => if k = 1 then A 0 else if k = 2 then A 1 else if k = 3 then A 2 else A 3, ⟨?_, ?_, ?_, ?_⟩, lt_of_cell c3⟩
  · simpa using World.var?_cell g0 (a1 0 _ rfl) 0
  · simpa using c1
  · simpa using World.var?_cell g2 (a1 2 _ rfl) 0
  · simpa using World.var?_cell g3 (a1 3 _ rfl) 0
end Go.Proofs.YtdnebclemngdcaaGreatDoor
namespace Go.Proofs.YtdnebclemngdcaaGreatDoor
open Go.RowKit Go.ChangeShapes Go.WideShapes Go.ChangeAt
set_option maxRecDepth 100000

theorem Tryz.rt : (Tryz.prog.cutTypes.find? (·.1 == "internal/reflectlite.rtype")).map (·.2) = some 208 := by kernel_rfl
theorem Tryz.oneRow : ((List.range 287).filter fun t => Tryz.prog.rowNamed t [101, 114, 114, 111, 114]) = [28] := by kernel_rfl
theorem Tryz.tsize : Tryz.prog.types.size = 287 := by kernel_rfl
theorem Tryz.et : Tryz.prog.globalNamed "errors.errorType" = some 12 := by kernel_rfl

/-- The handle's cell. -/
theorem handle_of_laid {W : World} {l : List (String × DataW Unit)} (h : laidMetH Tryz.prog l W) (hm : ("errors.errorType", Rows.laid_errors_errorType) ∈ l) : W.cell? ⟨12, 0, none⟩ = some (.iface 208 (.agg #[.pointer (some ⟨13, 28, none⟩)])) := by
  have h' := (laidMetH_iff.1 h).2 _ (List.mem_filter.2 ⟨hm, by rfl⟩)
  have h'' : ∃ name u ty, (Rows.laid_errors_errorType (H := Unit)).handleName? = some name ∧ (Tryz.prog.cutTypes.find? (·.1 == "internal/reflectlite.rtype")).map (·.2) = some u ∧ ty < Tryz.prog.types.size ∧ Tryz.prog.rowNamed ty name = true ∧
      W.var? Tryz.prog "errors.errorType" = some #[.iface u (.agg #[typeHandle Tryz.prog ty])] := h'
  obtain ⟨name, u, ty, e1, e2, e3, e4, e5⟩ := h''
  have en : name = [101, 114, 114, 111, 114] := (Option.some.inj e1).symm
  subst en
  obtain rfl := Option.some.inj (Tryz.rt.symm.trans e2)
  have hm : ty ∈ (List.range 287).filter fun t => Tryz.prog.rowNamed t [101, 114, 114, 111, 114] := List.mem_filter.2 ⟨List.mem_range.2 (by rw [← Tryz.tsize]; exact e3), e4⟩
  rw [Tryz.oneRow] at hm
  obtain rfl := List.mem_singleton.1 hm
  have hh : typeHandle Tryz.prog 28 = .pointer (some ⟨13, 28, none⟩) := by kernel_rfl
  rw [hh] at e5
  simpa using World.var?_cell Tryz.et e5 0

def names12 : List (String × List UInt8) := [("causeway/api.ErrText", [99, 97, 117, 115, 101, 119, 97, 121, 58, 32, 116, 101, 120, 116]), ("causeway/api.ErrBound", [99, 97, 117, 115, 101, 119, 97, 121, 58, 32, 98, 111, 117, 110, 100]), ("causeway/api.ErrShape", [99, 97, 117, 115, 101, 119, 97, 121, 58, 32, 115, 104, 97, 112, 101]), ("causeway/api.ErrName", [99, 97, 117, 115, 101, 119, 97, 121, 58, 32, 110, 97, 109, 101]), ("causeway/api.ErrNone", [99, 97, 117, 115, 101, 119, 97, 121, 58, 32, 110, 111, 110, 101]), ("causeway/api.ErrExist", [99, 97, 117, 115, 101, 119, 97, 121, 58, 32, 101, 120, 105, 115, 116]), ("causeway/api.ErrFull", [99, 97, 117, 115, 101, 119, 97, 121, 58, 32, 102, 117, 108, 108]), ("causeway/api.ErrSum", [99, 97, 117, 115, 101, 119, 97, 121, 58, 32, 115, 117, 109]), ("causeway/api.ErrOld", [99, 97, 117, 115, 101, 119, 97, 121, 58, 32, 111, 108, 100]), ("causeway/api.ErrHeld", [99, 97, 117, 115, 101, 119, 97, 121, 58, 32, 104, 101, 108, 100]), ("causeway/api.ErrWait", [99, 97, 117, 115, 101, 119, 97, 121, 58, 32, 119, 97, 105, 116]), ("causeway/api.ErrKind", [99, 97, 117, 115, 101, 119, 97, 121, 58, 32, 107, 105, 110, 100])]
theorem global12 (k : Nat) (x : String × List UInt8) (h : names12[k]? = some x) : Tryz.prog.globalNamed x.1 = some (gix k) ∧ (Tryz.prog.globals[gix k]?).map (·.type) = some 28 := by
  have hk : k < 12 := (List.getElem?_eq_some_iff.1 h).1
  rcases (by omega : k = 0 ∨ k = 1 ∨ k = 2 ∨ k = 3 ∨ k = 4 ∨ k = 5 ∨ k = 6 ∨ k = 7 ∨ k = 8 ∨ k = 9 ∨ k = 10 ∨ k = 11) with rfl | rfl | rfl | rfl | rfl | rfl | rfl | rfl | rfl | rfl | rfl | rfl <;> (obtain rfl := Option.some.inj h; exact ⟨by kernel_rfl, by kernel_rfl⟩)

/-- ALL THAT THE WALKS ASK, out of a list that holds the handle and, in their order, the twelve sentinels ('keep': by name). -/
theorem sents_of_laid {W : World} {l : List (String × DataW Unit)} (h : laidMetH Tryz.prog l W) (hm : ("errors.errorType", Rows.laid_errors_errorType) ∈ l)
    (hf : (l.filter fun x => x.2.handleName?.isNone).filter (fun x => (names12.map (·.1)).contains x.1) = listed names12) : ∃ A, Sents A W.heap.size W := by
  have h12 : laidMet Tryz.prog (listed names12) W := by rw [← hf]; exact (laidMetH_iff.1 h).1.filter _
  obtain ⟨A, a1, a2, a3, a4⟩ := laidMet_sents Tryz.underlying28 Tryz.row255 Tryz.underlying255 Tryz.underlying276 rfl rfl Tryz.underlying9 Tryz.cells276 Tryz.cells9 names12 h12 (fun x hx => by
    obtain ⟨k, hk⟩ := List.getElem?_of_mem hx
    exact ⟨gix k, global12 k x hk⟩)
  have hh := handle_of_laid h hm
  refine ⟨A, ?_, Nat.le_refl _, fun k hk => ?_, fun k hk => a2 k hk, fun k hk => ?_, fun i j hi hj hne => a4 i j hi hj hne, hh⟩
  · exact lt_of_cell hh
  · have hx : names12[k]? = some (names12[k]'hk) := List.getElem?_eq_getElem _
    simpa using World.var?_cell (global12 k _ hx).1 (a1 k _ hx) 0
  · obtain ⟨v, hv⟩ := a3 k hk
    exact lt_of_cell hv

/-- The four that values hands out, and the handle. -/
theorem e5_of_laid {W : World} {l : List (String × DataW Unit)} (h : laidMetH Tryz.prog l W) (hm : ("errors.errorType", Rows.laid_errors_errorType) ∈ l)
    (hf : (l.filter fun x => x.2.handleName?.isNone).filter (fun x => (names4.map (·.1)).contains x.1) = listed names4) : ∃ A, E5 A W := by
  obtain ⟨A, hE, _⟩ := e4_of_laid h hf
  exact ⟨A, hE, handle_of_laid h hm⟩
end Go.Proofs.YtdnebclemngdcaaGreatDoor
