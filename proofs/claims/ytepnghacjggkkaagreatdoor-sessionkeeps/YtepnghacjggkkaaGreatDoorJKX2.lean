/- SessionKeeps: any steps, any key. -/
import Derived.Test.YtepnghacjggkkaaGreatDoorJKX
namespace Go.Proofs.YtepnghacjggkkaaGreatDoor
open Go.RowKit Go.Maps
set_option maxRecDepth 100000

set_option maxHeartbeats 8000000 in
theorem keeps_out (A : Nat → Addr) (w : World) (hS : Sen A w.heap.size w) (va : Option Addr) (n vc : Nat) (key : ByteArray) (h : (12 : Int) < (n : Int) ∨ (¬ (12 : Int) < (n : Int) ∧ (60 : Int) < (key.size : Int))) :
    Calls Tryz.prog 4 #[.slice va n vc, .string key] w fun e w' => e = .returned (.bool true) ∧ Below w.heap.size w w' := by
  have K5 := hid (opened_ok A _ w hS)
  clear hS
  rcases h with h1 | ⟨h1, h2⟩ <;>
    (go_enter Tryz.func4, Tryz.ntmps4
     go_wp2_with fail
     refine K5.out.mono ?_
     rintro e w1 ⟨rfl, hb1⟩
     go_wp2_with fail
     go_ret
     exact ⟨rfl, hb1⟩)
theorem keeps_walk (A : Nat → Addr) (w : World) (hS : Sents A w.heap.size w) (vv : Value) (xs : List StepV) (hv : StepsAt w vv xs) (key : ByteArray) :
    Calls Tryz.prog 4 #[vv, .string key] w fun e w' => e = .returned (.bool true) ∧ Below w.heap.size w w' := by
  have hv0 := hv
  obtain ⟨va, vc, rfl, _⟩ := hv0
  by_cases h : xs.length ≤ 12 ∧ key.size ≤ 60
  · exact keeps_in A w hS va xs.length vc xs rfl h.1 hv key h.2
  · exact keeps_out A w hS.sen va xs.length vc key (by omega)
end Go.Proofs.YtepnghacjggkkaaGreatDoor
