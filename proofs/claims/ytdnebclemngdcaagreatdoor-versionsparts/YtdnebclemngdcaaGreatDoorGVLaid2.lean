/- The type's handle and all twelve sentinels, out of what the rows list. -/
import Derived.Test.YtdnebclemngdcaaGreatDoorGVLaid
import Derived.Test.YtdnebclemngdcaaGreatDoorGVWorld
namespace Go.Proofs.YtdnebclemngdcaaGreatDoor
open Go.RowKit Go.ChangeShapes Go.WideShapes Go.ChangeAt
set_option maxRecDepth 100000

theorem Tryz.rt : (Tryz.prog.cutTypes.find? (·.1 == "internal/reflectlite.rtype")).map (·.2) = some 208 := by kernel_rfl
theorem Tryz.oneRow : ((List.range 287).filter fun t => Tryz.prog.rowNamed t [101, 114, 114, 111, 114]) = [28] := by kernel_rfl
theorem Tryz.tsize : Tryz.prog.types.size = 287 := by kernel_rfl
theorem Tryz.et : Tryz.prog.globalNamed "errors.errorType" = some 12 := by kernel_rfl

/-- The handle's cell. -/
theorem handle_of_laid {W : World} {l : List (String × DataW Unit)} (h : laidMetH Tryz.prog l W) (hm : ("errors.errorType", Rows.laid_errors_errorType) ∈ l) : W.cell? ⟨12, 0, none⟩ = some (.iface 208 (.agg #[.pointer (some ⟨13, 28, none⟩)])) := by
  have h' := (laidMetH_iff.1 h).2 _ (List.mem_filter.2 ⟨hm, by rfl⟩)
  have h'' : ∃ name u ty, (Rows.laid_errors_errorType (H := Unit)).handleName? = some name ∧ (Tryz.prog.cutTypes.find? (·.1 == "internal/reflectlite.rtype")).map (·.2) = some u ∧ ty < Tryz.prog.types.size ∧ Tryz.prog.rowNamed ty name = true ∧
      W.var? Tryz.prog "errors.errorType" = some #[.iface u (.agg #[typeHandle Tryz.prog ty])] := h'
  obtain ⟨name, u, ty, e1, e2, e3, e4, e5⟩ := h''
  have en : name = [101, 114, 114, 111, 114] := (Option.some.inj e1).symm
  subst en
  obtain rfl := Option.some.inj (Tryz.rt.symm.trans e2)
  have hm : ty ∈ (List.range 287).filter fun t => Tryz.prog.rowNamed t [101, 114, 114, 111, 114] := List.mem_filter.2 ⟨List.mem_range.2 (by rw [← Tryz.tsize]; exact e3), e4⟩
  rw [Tryz.oneRow] at hm
  obtain rfl := List.mem_singleton.1 hm
  have hh : typeHandle Tryz.prog 28 = .pointer (some ⟨13, 28, none⟩) := by kernel_rfl
  rw [hh] at e5
  simpa using World.var?_cell Tryz.et e5 0

def names12 : List (String × List UInt8) := [("causeway/api.ErrText", [99, 97, 117, 115, 101, 119, 97, 121, 58, 32, 116, 101, 120, 116]), ("causeway/api.ErrBound", [99, 97, 117, 115, 101, 119, 97, 121, 58, 32, 98, 111, 117, 110, 100]), ("causeway/api.ErrShape", [99, 97, 117, 115, 101, 119, 97, 121, 58, 32, 115, 104, 97, 112, 101]), ("causeway/api.ErrName", [99, 97, 117, 115, 101, 119, 97, 121, 58, 32, 110, 97, 109, 101]), ("causeway/api.ErrNone", [99, 97, 117, 115, 101, 119, 97, 121, 58, 32, 110, 111, 110, 101]), ("causeway/api.ErrExist", [99, 97, 117, 115, 101, 119, 97, 121, 58, 32, 101, 120, 105, 115, 116]), ("causeway/api.ErrFull", [99, 97, 117, 115, 101, 119, 97, 121, 58, 32, 102, 117, 108, 108]), ("causeway/api.ErrSum", [99, 97, 117, 115, 101, 119, 97, 121, 58, 32, 115, 117, 109]), ("causeway/api.ErrOld", [99, 97, 117, 115, 101, 119, 97, 121, 58, 32, 111, 108, 100]), ("causeway/api.ErrHeld", [99, 97, 117, 115, 101, 119, 97, 121, 58, 32, 104, 101, 108, 100]), ("causeway/api.ErrWait", [99, 97, 117, 115, 101, 119, 97, 121, 58, 32, 119, 97, 105, 116]), ("causeway/api.ErrKind", [99, 97, 117, 115, 101, 119, 97, 121, 58, 32, 107, 105, 110, 100])]
theorem global12 (k : Nat) (x : String × List UInt8) (h : names12[k]? = some x) : Tryz.prog.globalNamed x.1 = some (gix k) ∧ (Tryz.prog.globals[gix k]?).map (·.type) = some 28 := by
  have hk : k < 12 := (List.getElem?_eq_some_iff.1 h).1
  rcases (by omega : k = 0 ∨ k = 1 ∨ k = 2 ∨ k = 3 ∨ k = 4 ∨ k = 5 ∨ k = 6 ∨ k = 7 ∨ k = 8 ∨ k = 9 ∨ k = 10 ∨ k = 11) with rfl | rfl | rfl | rfl | rfl | rfl | rfl | rfl | rfl | rfl | rfl | rfl <;> (obtain rfl := Option.some.inj h; exact ⟨by kernel_rfl, by kernel_rfl⟩)

/-- ALL THAT THE WALKS ASK, out of a list that holds the handle and, in their order, the twelve sentinels ('keep': by name). -/
theorem sents_of_laid {W : World} {l : List (String × DataW Unit)} (h : laidMetH Tryz.prog l W) (hm : ("errors.errorType", Rows.laid_errors_errorType) ∈ l)
    (hf : (l.filter fun x => x.2.handleName?.isNone).filter (fun x => (names12.map (·.1)).contains x.1) = listed names12) : ∃ A, Sents A W.heap.size W := by
  have h12 : laidMet Tryz.prog (listed names12) W := by rw [← hf]; exact (laidMetH_iff.1 h).1.filter _
  obtain ⟨A, a1, a2, a3, a4⟩ := laidMet_sents Tryz.underlying28 Tryz.row255 Tryz.underlying255 Tryz.underlying276 rfl rfl Tryz.underlying9 Tryz.cells276 Tryz.cells9 names12 h12 (fun x hx => by
    obtain ⟨k, hk⟩ := List.getElem?_of_mem hx
    exact ⟨gix k, global12 k x hk⟩)
  have hh := handle_of_laid h hm
  refine ⟨A, ?_, Nat.le_refl _, fun k hk => ?_, fun k hk => a2 k hk, fun k hk => ?_, fun i j hi hj hne => a4 i j hi hj hne, hh⟩
  · exact lt_of_cell hh
  · have hx : names12[k]? = some (names12[k]'hk) := List.getElem?_eq_getElem _
    simpa using World.var?_cell (global12 k _ hx).1 (a1 k _ hx) 0
  · obtain ⟨v, hv⟩ := a3 k hk
    exact lt_of_cell hv

/-- The four that values hands out, and the handle. -/
theorem e5_of_laid {W : World} {l : List (String × DataW Unit)} (h : laidMetH Tryz.prog l W) (hm : ("errors.errorType", Rows.laid_errors_errorType) ∈ l)
    (hf : (l.filter fun x => x.2.handleName?.isNone).filter (fun x => (names4.map (·.1)).contains x.1) = listed names4) : ∃ A, E5 A W := by
  obtain ⟨A, hE, _⟩ := e4_of_laid h hf
  exact ⟨A, hE, handle_of_laid h hm⟩
end Go.Proofs.YtdnebclemngdcaaGreatDoor
