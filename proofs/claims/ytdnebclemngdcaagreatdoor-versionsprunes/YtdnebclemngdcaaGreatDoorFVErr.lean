/- withoutPlace and checkList by their contracts, where something is wrong. -/
import Derived.Test.YtdnebclemngdcaaGreatDoorFVAs
import Derived.Test.YtdnebclemngdcaaGreatDoorFVMath
import Derived.Test.YtdnebclemngdcaaGreatDoorFVList
namespace Go.Proofs.YtdnebclemngdcaaGreatDoor
open Go.RowKit
set_option maxRecDepth 100000
set_option linter.unusedSectionVars false
variable [Inhabited ComV] [DecidableEq D3] [Inhabited D3] [Inhabited Dd] [Inhabited OpV]

abbrev hnd : Value := .iface 208 (.agg #[.pointer (some ⟨13, 28, none⟩)])
set_option maxHeartbeats 1000000 in
theorem without_sent (w : World) (a : Addr) (hg : w.cell? ⟨12, 0, none⟩ = some hnd) : Calls Tryz.prog 140 #[.iface 255 (.pointer (some a))] w fun e w' => e = .returned (.iface 255 (.pointer (some a))) ∧ Below w.heap.size w w' := by
  have HG := hid hg
  clear hg
  go_enter Tryz.func140, Tryz.ntmps140
  go_wp2_with (go_at_call 81; refine (as_miss _ _ _ (cell_alloc HG.out _)).mono ?_; rintro e w' ⟨rfl, rfl⟩)
  go_ret
  refine ⟨rfl, ?_⟩
  go_grown
set_option maxHeartbeats 1000000 in
theorem without_fault (w : World) (pb : Nat) (a : Addr) (hg : w.cell? ⟨12, 0, none⟩ = some hnd) (c1 : w.cell? ⟨pb, 1, none⟩ = some (.iface 255 (.pointer (some a)))) : Calls Tryz.prog 140 #[.iface 89 (.pointer (some ⟨pb, 0, none⟩))] w fun e w' => e = .returned (.iface 255 (.pointer (some a))) ∧ Below w.heap.size w w' := by
  have HG := hid hg
  have hpl : pb < w.heap.size := lt_of_cell c1
  have f1 : ∀ o1 o2 o3 o4 o5, (((((w.alloc o1).alloc o2).alloc o3).alloc o4).alloc o5).cell? ⟨pb, 1, none⟩ = some (.iface 255 (.pointer (some a))) := fun _ _ _ _ _ => (cell_alloc (cell_alloc (cell_alloc (cell_alloc (cell_alloc c1 _) _) _) _) _)
  have hne : w.heap.size ≠ pb := by omega
  clear hg c1
  go_enter Tryz.func140, Tryz.ntmps140
  go_wp2_with (go_at_call 81; refine (as_hit _ _ (.pointer none) _ (cell_alloc HG.out _) (by simp) (by simp)).mono ?_; rintro e w' ⟨rfl, rfl⟩)
  go_ret
  refine ⟨rfl, ?_⟩
  go_grown
end Go.Proofs.YtdnebclemngdcaaGreatDoor
