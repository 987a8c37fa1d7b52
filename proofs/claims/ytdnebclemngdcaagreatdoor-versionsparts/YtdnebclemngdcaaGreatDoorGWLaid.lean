/- What the laws of versions list: six sentinels and the type's handle. -/
import Derived.Test.YtdnebclemngdcaaGreatDoorGVLaid2
import Derived.Test.YtdnebclemngdcaaGreatDoorGVView
namespace Go.Proofs.YtdnebclemngdcaaGreatDoor
open Go.RowKit Go.ChangeShapes Go.WideShapes Go.ChangeAt
set_option maxRecDepth 100000
set_option linter.unusedSectionVars false
variable [Inhabited ComV] [DecidableEq D3] [Inhabited D3] [Inhabited Dd] [Inhabited OpV]

/-- The sentinels that values and versions hand out, and the type's handle. -/
structure SentV (A : Nat → Addr) (B : Nat) (w : World) : Prop where
  gl : 13 ≤ B
  size : B ≤ w.heap.size
  e5 : E5 A w
  c8 : w.cell? ⟨1, 0, none⟩ = some (.iface 255 (.pointer (some (A 8))))
  c5 : w.cell? ⟨2, 0, none⟩ = some (.iface 255 (.pointer (some (A 5))))
theorem SentV.e4 {A : Nat → Addr} {B : Nat} {w : World} (h : SentV A B w) : E4 A w := h.e5.e4
theorem SentV.below {A : Nat → Addr} {B : Nat} {w w' : World} (h : SentV A B w) (hb : Below B w w') : SentV A B w' where
  gl := h.gl
  size := Nat.le_trans h.size hb.size
  e5 := h.e5.below hb h.gl
  c8 := by rw [hb.cell (p := ⟨1, 0, none⟩) (by have := h.gl; show 1 < B; omega)]; exact h.c8
  c5 := by rw [hb.cell (p := ⟨2, 0, none⟩) (by have := h.gl; show 2 < B; omega)]; exact h.c5
def names6 : List (String × List UInt8) := [("causeway/api.ErrBound", [99, 97, 117, 115, 101, 119, 97, 121, 58, 32, 98, 111, 117, 110, 100]), ("causeway/api.ErrShape", [99, 97, 117, 115, 101, 119, 97, 121, 58, 32, 115, 104, 97, 112, 101]), ("causeway/api.ErrName", [99, 97, 117, 115, 101, 119, 97, 121, 58, 32, 110, 97, 109, 101]), ("causeway/api.ErrExist", [99, 97, 117, 115, 101, 119, 97, 121, 58, 32, 101, 120, 105, 115, 116]), ("causeway/api.ErrOld", [99, 97, 117, 115, 101, 119, 97, 121, 58, 32, 111, 108, 100]), ("causeway/api.ErrKind", [99, 97, 117, 115, 101, 119, 97, 121, 58, 32, 107, 105, 110, 100])]
theorem sentV_of_laid {W : World} {l : List (String × DataW Unit)} (h : laidMetH Tryz.prog l W) (hm : ("errors.errorType", Rows.laid_errors_errorType) ∈ l)
    (hf : (l.filter fun x => x.2.handleName?.isNone).filter (fun x => (names6.map (·.1)).contains x.1) = listed names6) : ∃ A, SentV A 13 W := by
  have hh := handle_of_laid h hm
  have h2 : laidMet Tryz.prog (listed names6) W := by rw [← hf]; exact (laidMetH_iff.1 h).1.filter _
  have g0 : Tryz.prog.globalNamed "causeway/api.ErrBound" = some 0 := by kernel_rfl
  have g1 : Tryz.prog.globalNamed "causeway/api.ErrShape" = some 3 := by kernel_rfl
  have g2 : Tryz.prog.globalNamed "causeway/api.ErrName" = some 5 := by kernel_rfl
  have g3 : Tryz.prog.globalNamed "causeway/api.ErrExist" = some 2 := by kernel_rfl
  have g4 : Tryz.prog.globalNamed "causeway/api.ErrOld" = some 1 := by kernel_rfl
  have g5 : Tryz.prog.globalNamed "causeway/api.ErrKind" = some 11 := by kernel_rfl
  have t0 : (Tryz.prog.globals[0]?).map (·.type) = some 28 := by kernel_rfl
  have t1 : (Tryz.prog.globals[3]?).map (·.type) = some 28 := by kernel_rfl
  have t2 : (Tryz.prog.globals[5]?).map (·.type) = some 28 := by kernel_rfl
  have t3 : (Tryz.prog.globals[2]?).map (·.type) = some 28 := by kernel_rfl
  have t4 : (Tryz.prog.globals[1]?).map (·.type) = some 28 := by kernel_rfl
  have t5 : (Tryz.prog.globals[11]?).map (·.type) = some 28 := by kernel_rfl
  obtain ⟨A, a1, _, _, _⟩ := laidMet_sents Tryz.underlying28 Tryz.row255 Tryz.underlying255 Tryz.underlying276 rfl rfl Tryz.underlying9 Tryz.cells276 Tryz.cells9 names6 h2 (fun x hx => by
    rcases List.mem_cons.1 hx with rfl | hx
    · exact ⟨0, g0, t0⟩
    rcases List.mem_cons.1 hx with rfl | hx
    · exact ⟨3, g1, t1⟩
    rcases List.mem_cons.1 hx with rfl | hx
    · exact ⟨5, g2, t2⟩
    rcases List.mem_cons.1 hx with rfl | hx
    · exact ⟨2, g3, t3⟩
    rcases List.mem_cons.1 hx with rfl | hx
    · exact ⟨1, g4, t4⟩
    · obtain rfl := List.mem_singleton.1 hx
      exact ⟨11, g5, t5⟩)
  have hsz : 13 ≤ W.heap.size := lt_of_cell hh
  refine ⟨fun k => if k = 1 then A 0 else if k = 2 then A 1 else if k = 3 then A 2 else if k = 5 then A 3 else if k = 8 then A 4 else A 5, ⟨Nat.le_refl _, hsz, ⟨⟨?_, ?_, ?_, ?_⟩, hh⟩, ?_, ?_⟩⟩
  · simpa using World.var?_cell g0 (a1 0 _ rfl) 0
  · simpa using World.var?_cell g1 (a1 1 _ rfl) 0
  · simpa using World.var?_cell g2 (a1 2 _ rfl) 0
  · simpa using World.var?_cell g5 (a1 5 _ rfl) 0
  · simpa using World.var?_cell g4 (a1 4 _ rfl) 0
  · simpa using World.var?_cell g3 (a1 3 _ rfl) 0
end Go.Proofs.YtdnebclemngdcaaGreatDoor
