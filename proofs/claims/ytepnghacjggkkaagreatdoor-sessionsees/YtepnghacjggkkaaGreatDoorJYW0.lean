/- SessionSees: numbers out of range; SessionSees: any numbers, any visits, any beats. -/
import Derived.Test.YtepnghacjggkkaaGreatDoorJYS1
import Derived.Test.YtepnghacjggkkaaGreatDoorJYTX
namespace Go.Proofs.YtepnghacjggkkaaGreatDoor
open Go.RowKit Go.Maps
set_option maxRecDepth 100000
set_option linter.unusedSectionVars false
variable [Inhabited ComV] [DecidableEq D3] [Inhabited D3] [Inhabited Dd] [Inhabited Dn] [Inhabited OpV]

set_option maxHeartbeats 8000000 in
theorem sees_out (A : Nat → Addr) (w : World) (hS : Sen A w.heap.size w) (n k : Int) (vn bn vc bc : Nat) (va ba : Option Addr) (h : n < 1 ∨ (1 ≤ n ∧ 6 < n) ∨ (1 ≤ n ∧ n ≤ 6 ∧ k < 1) ∨ (1 ≤ n ∧ n ≤ 6 ∧ 1 ≤ k ∧ 6 < k) ∨ (1 ≤ n ∧ n ≤ 6 ∧ 1 ≤ k ∧ k ≤ 6 ∧ 20 < (vn : Int)) ∨ (1 ≤ n ∧ n ≤ 6 ∧ 1 ≤ k ∧ k ≤ 6 ∧ (vn : Int) ≤ 20 ∧ 20 < (bn : Int))) :
    Calls Tryz.prog 3 #[.int .i64 n, .int .i64 k, .slice va vn vc, .slice ba bn bc] w fun e w' => e = .returned (.bool true) ∧ Below w.heap.size w w' := by
  have K5 := hid (opened_ok A _ w hS)
  clear hS
  rcases h with h1 | ⟨h1, h2⟩ | ⟨h1, h2, h3⟩ | ⟨h1, h2, h3, h4⟩ | ⟨h1, h2, h3, h4, h5⟩ | ⟨h1, h2, h3, h4, h5, h6⟩ <;>
    (go_enter Tryz.func3, Tryz.ntmps3
     go_wp2_with fail
     refine K5.out.mono ?_
     rintro e w1 ⟨rfl, hb1⟩
     go_wp2_with fail
     go_ret
     exact ⟨rfl, hb1⟩)
end Go.Proofs.YtepnghacjggkkaaGreatDoor
namespace Go.Proofs.YtepnghacjggkkaaGreatDoor
open Go.RowKit Go.Maps
set_option maxRecDepth 100000
set_option linter.unusedSectionVars false
variable [Inhabited ComV] [DecidableEq D3] [Inhabited D3] [Inhabited Dd] [Inhabited Dn] [Inhabited OpV]

theorem sees_walk (A : Nat → Addr) (w : World) (hS : Sents A w.heap.size w) (n k : Int) (vv bv : Value) (vs bs : List Int) (hv : IntsAt w vv vs) (hb : IntsAt w bv bs) :
    Calls Tryz.prog 3 #[.int .i64 n, .int .i64 k, vv, bv] w fun e w' => e = .returned (.bool true) ∧ Below w.heap.size w w' := by
  have hv0 := hv
  have hb0 := hb
  obtain ⟨va, vc, rfl, _⟩ := hv0
  obtain ⟨ba, bc, rfl, _⟩ := hb0
  by_cases h : 1 ≤ n ∧ n ≤ 6 ∧ 1 ≤ k ∧ k ≤ 6 ∧ vs.length ≤ 20 ∧ bs.length ≤ 20
  · obtain ⟨h1, h2, h3, h4, h5, h6⟩ := h
    obtain ⟨n', rfl⟩ : ∃ n' : Nat, n = n' := ⟨n.toNat, by omega⟩
    obtain ⟨k', rfl⟩ : ∃ k' : Nat, k = k' := ⟨k.toNat, by omega⟩
    exact sees_inx A w hS n' k' (by omega) (by omega) (by omega) (by omega) vs bs h5 h6 va ba vc bc hv hb
  · exact sees_out A w hS.sen n k vs.length bs.length vc bc va ba (by omega)
end Go.Proofs.YtepnghacjggkkaaGreatDoor
