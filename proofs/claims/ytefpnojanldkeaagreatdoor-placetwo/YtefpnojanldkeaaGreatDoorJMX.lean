/- PlaceTwo: numbers out of range; PlaceTwo: any number, any ops, any key; What the laws of places list: the handle, and four of the sentinels. -/
import Derived.Test.YtefpnojanldkeaaGreatDoorJMV
import Derived.Test.YtefpnojanldkeaaGreatDoorJOK
import Derived.Test.YtefpnojanldkeaaGreatDoorJWPutB
import Derived.Test.YtefpnojanldkeaaGreatDoorJTC2
namespace Go.Proofs.YtefpnojanldkeaaGreatDoor
open Go.RowKit Go.Maps
set_option maxRecDepth 100000
set_option linter.unusedSectionVars false
variable [Inhabited ComV] [DecidableEq D3] [Inhabited D3] [Inhabited Dd] [Inhabited Dn] [Inhabited OpV]

set_option maxHeartbeats 4000000 in
theorem two_out (A : Nat → Addr) (w : World) (hS : Sen A w.heap.size w) (n : Int) (fn sn fc sc : Nat) (fa sa : Option Addr) (key : ByteArray) (h : n < 1 ∨ (1 ≤ n ∧ 6 < n) ∨ (1 ≤ n ∧ n ≤ 6 ∧ 8 < (fn : Int)) ∨ (1 ≤ n ∧ n ≤ 6 ∧ (fn : Int) ≤ 8 ∧ 8 < (sn : Int)) ∨ (1 ≤ n ∧ n ≤ 6 ∧ (fn : Int) ≤ 8 ∧ (sn : Int) ≤ 8 ∧ 60 < (key.size : Int))) :
    Calls Tryz.prog 5 #[.int .i64 n, .slice fa fn fc, .slice sa sn sc, .string key] w fun e w' => e = .returned (.bool true) ∧ Below w.heap.size w w' := by
  have K6 := hid (placed_any A _ w hS)
  clear hS
  rcases h with h1 | ⟨h1, h2⟩ | ⟨h1, h2, h3⟩ | ⟨h1, h2, h3, h4⟩ | ⟨h1, h2, h3, h4, h5⟩ <;>
    (go_enter Tryz.func5, Tryz.ntmps5
     go_wp2_with fail
     refine K6.out.mono ?_
     rintro e w1 ⟨rfl, hb1⟩
     go_wp2_with fail
     go_ret
     exact ⟨rfl, hb1⟩)
end Go.Proofs.YtefpnojanldkeaaGreatDoor
namespace Go.Proofs.YtefpnojanldkeaaGreatDoor
open Go.RowKit Go.Maps
set_option maxRecDepth 100000
set_option linter.unusedSectionVars false
variable [Inhabited ComV] [DecidableEq D3] [Inhabited D3] [Inhabited Dd] [Inhabited Dn] [Inhabited OpV]

theorem two_walk (A : Nat → Addr) (w : World) (hS : Sents A w.heap.size w) (n : Int) (fv sv : Value) (fs ss : List OpV) (hf : OpsAt w fv fs) (hs : OpsAt w sv ss) (hfz : ∀ o ∈ fs, o.dots.length ≤ 9223372036854775807 ∧ o.text.size ≤ 9223372036854775807) (hsz : ∀ o ∈ ss, o.dots.length ≤ 9223372036854775807 ∧ o.text.size ≤ 9223372036854775807) (key : ByteArray) :
    Calls Tryz.prog 5 #[.int .i64 n, fv, sv, .string key] w fun e w' => e = .returned (.bool true) ∧ Below w.heap.size w w' := by
  have hf0 := hf
  have hs0 := hs
  obtain ⟨fa, fc, rfl, _⟩ := hf0.shape
  obtain ⟨sa, sc, rfl, _⟩ := hs0.shape
  by_cases h : 1 ≤ n ∧ n ≤ 6 ∧ fs.length ≤ 8 ∧ ss.length ≤ 8 ∧ key.size ≤ 60
  · obtain ⟨h1, h2, h3, h4, h5⟩ := h
    obtain ⟨k, rfl⟩ : ∃ k : Nat, n = k := ⟨n.toNat, by omega⟩
    exact two_in A w hS k (by omega) (by omega) fs ss h3 h4 fa sa fc sc hf hs hfz hsz key h5
  · exact two_out A w hS.sen n fs.length ss.length fc sc fa sa key (by omega)
end Go.Proofs.YtefpnojanldkeaaGreatDoor
namespace Go.Proofs.YtefpnojanldkeaaGreatDoor
open Go.RowKit Go.ChangeShapes Go.WideShapes Go.ChangeAt
set_option maxRecDepth 100000
set_option linter.unusedSectionVars false
variable [Inhabited ComV] [DecidableEq D3] [Inhabited D3] [Inhabited Dd] [Inhabited Dn] [Inhabited OpV]

def names4 : List (String × List UInt8) := [("causeway/api.ErrBound", [99, 97, 117, 115, 101, 119, 97, 121, 58, 32, 98, 111, 117, 110, 100]), ("causeway/api.ErrShape", [99, 97, 117, 115, 101, 119, 97, 121, 58, 32, 115, 104, 97, 112, 101]), ("causeway/api.ErrName", [99, 97, 117, 115, 101, 119, 97, 121, 58, 32, 110, 97, 109, 101]), ("causeway/api.ErrKind", [99, 97, 117, 115, 101, 119, 97, 121, 58, 32, 107, 105, 110, 100])]
def g4 : Nat → Nat
  | 0 => 0 | 1 => 1 | 2 => 7 | _ => 11
theorem global4 (k : Nat) (x : String × List UInt8) (h : names4[k]? = some x) : Tryz.prog.globalNamed x.1 = some (g4 k) ∧ (Tryz.prog.globals[g4 k]?).map (·.type) = some 27 := by
  have hk : k < 4 := (List.getElem?_eq_some_iff.1 h).1
  rcases (by omega : k = 0 ∨ k = 1 ∨ k = 2 ∨ k = 3) with rfl | rfl | rfl | rfl <;> (obtain rfl := Option.some.inj h; exact ⟨by kernel_rfl, by kernel_rfl⟩)
theorem sen_of_laid {W : World} {l : List (String × DataW Unit)} (h : laidMetH Tryz.prog l W) (hm : ("errors.errorType", Rows.laid_errors_errorType) ∈ l)
    (hf : (l.filter fun x => x.2.handleName?.isNone).filter (fun x => (names4.map (·.1)).contains x.1) = listed names4) : ∃ A, Sen A W.heap.size W := by
  have h4 : laidMet Tryz.prog (listed names4) W := by rw [← hf]; exact (laidMetH_iff.1 h).1.filter _
  obtain ⟨A, a1, a2, a3, a4⟩ := laidMet_sents Tryz.underlying27 Tryz.row238 Tryz.underlying238 Tryz.underlying258 rfl rfl Tryz.underlying9 Tryz.cells258 Tryz.cells9 names4 h4 (fun x hx => by
    obtain ⟨k, hk⟩ := List.getElem?_of_mem hx
    exact ⟨g4 k, global4 k x hk⟩)
  have hh := handle_of_laid h hm
  have hc : ∀ k, (hk : k < 4) → W.cell? ⟨g4 k, 0, none⟩ = some (.iface 238 (.pointer (some (A k)))) := fun k hk => by
    have hx : names4[k]? = some (names4[k]'hk) := List.getElem?_eq_getElem _
    simpa using World.var?_cell (global4 k _ hx).1 (a1 k _ hx) 0
  exact ⟨fun k => if k = 1 then A 0 else if k = 2 then A 1 else if k = 3 then A 2 else A 3, lt_of_cell hh, Nat.le_refl _, hc 0 (by decide), hc 1 (by decide), hc 2 (by decide), hc 3 (by decide)⟩
end Go.Proofs.YtefpnojanldkeaaGreatDoor
