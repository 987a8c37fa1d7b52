/- What the rows of this seat share: slices of ints as they come in, the listed errors, the start that the witness takes. -/
import Derived.Test.YtfechdagacmliaaDoorLaid
import Derived.Test.YtfechdagacmliaaDoorInts
import Derived.Test.YtfechdagacmliaaDoorCheck
import Derived.ProofKit
import Derived.LaidMore
import Derived.OpenShut
namespace Go.Proofs.YtfechdagacmliaaDoor
open Go.ChangeShapes Go.WideShapes Go.ChangeAt Go.RowKit
set_option maxRecDepth 100000

theorem ownKnobs : ownKnob Tryd.prog.godebug = none := by kernel_rfl
theorem Tryd.laidOut : laidOutB Tryd.prog = true := by kernel_rfl
theorem Tryd.cells3 : Tryd.prog.cellsOf 3 = 1 := by kernel_rfl
theorem Tryd.read22 : Tryd.prog.readableRec 22 = true := by kernel_rfl
theorem Tryd.lt22 : 22 < Tryd.prog.types.size := of_decide_eq_true (by kernel_rfl)

/-- A slice of ints that came in. -/
theorem ints_view {H : Type} {enc : TypeId × Value → H} {W : World} {base : Nat} {v : Value} {d : DataW H} {p : List MemPlace} (hv : Value.okWide Tryd.prog W .any base 22 v) (h : DataW.Trod enc Tryd.prog W 0 (fun _ => true) true 22 v d p) :
    ∃ zs, IntsAt W v zs := by
  obtain ⟨a0, len, cap, rfl⟩ := okWide_slice Tryd.underlying22 hv
  obtain ⟨fuel, hf⟩ := h
  rcases open_ints Tryd.underlying22 Tryd.underlying3 Tryd.cells3 hf with ⟨hcs, hx⟩ | ⟨a, len', cap', zs, hcs, _, hl, hm, hz, hx, hcell, hwz⟩
  · simp [Value.cells] at hcs
    obtain ⟨rfl, rfl, rfl⟩ := hcs
    exact ⟨[], none, 0, rfl, (fun _ => rfl), .inl rfl⟩
  · simp [Value.cells] at hcs
    obtain ⟨rfl, rfl, rfl⟩ := hcs
    simp only [if_true] at hz
    have hlen : (zs.take len).length = len := by rw [List.length_take]; omega
    refine ⟨zs.take len, some a, cap, by rw [hlen], (fun h => by cases h), ?_⟩
    by_cases h0 : len = 0
    · subst h0; exact .inl rfl
    · obtain ⟨b, off, rfl, hc⟩ := ints_at hcell (by omega)
      refine .inr ⟨b, off, rfl, fun t ht => ?_⟩
      rw [hlen] at ht
      rw [hc t (by omega)]
      simp [List.getD_eq_getElem?_getD, ht]

/-- It reads behind the call as it read before. -/
theorem ints_stay {H : Type} {enc : TypeId × Value → H} {W W' : World} {v : Value} {d : DataW H} {p : List MemPlace} (h : DataW.Trod enc Tryd.prog W 0 (fun _ => true) true 22 v d p) (hb : Below W.heap.size W W') (hlt : ∀ x ∈ p, x.block < W.heap.size) :
    DataW.Trod enc Tryd.prog W' 0 (fun b => decide (b < W.heap.size)) true 22 v d p :=
  Below.trod Tryd.laidOut Tryd.read22 Tryd.lt22 h hb hlt

def names2 : List (String × List UInt8) := [("causeway/api.ErrBound", [99, 97, 117, 115, 101, 119, 97, 121, 58, 32, 98, 111, 117, 110, 100]), ("causeway/api.ErrShape", [99, 97, 117, 115, 101, 119, 97, 121, 58, 32, 115, 104, 97, 112, 101])]
/-- ErrBound and ErrShape, out of a list that holds them in this order and no handle. -/
theorem e2_of_laid {W : World} {l : List (String × DataW Unit)} (h : laidMetH Tryd.prog l W)
    (hf : (l.filter fun x => x.2.handleName?.isNone).filter (fun x => (names2.map (·.1)).contains x.1) = listed names2) : ∃ A, E2 A W := by
  have h2 : laidMet Tryd.prog (listed names2) W := by rw [← hf]; exact (laidMetH_iff.1 h).1.filter _
  have g0 : Tryd.prog.globalNamed "causeway/api.ErrBound" = some 1 := by kernel_rfl
  have g1 : Tryd.prog.globalNamed "causeway/api.ErrShape" = some 2 := by kernel_rfl
  have t0 : (Tryd.prog.globals[1]?).map (·.type) = some 25 := by kernel_rfl
  have t1 : (Tryd.prog.globals[2]?).map (·.type) = some 25 := by kernel_rfl
  obtain ⟨A, a1, _, _, _⟩ := laidMet_sents Tryd.underlying25 Tryd.row60 Tryd.underlying60 Tryd.underlying62 rfl rfl Tryd.underlying9 Tryd.cells62 Tryd.cells9 names2 h2 (fun x hx => by
    rcases List.mem_cons.1 hx with rfl | hx
    · exact ⟨1, g0, t0⟩
    · obtain rfl := List.mem_singleton.1 hx
      exact ⟨2, g1, t1⟩)
  refine ⟨fun k => A (k - 1), ?_, ?_⟩
  · simpa using World.var?_cell g0 (a1 0 _ rfl) 0
  · simpa using World.var?_cell g1 (a1 1 _ rfl) 0
end Go.Proofs.YtfechdagacmliaaDoor
