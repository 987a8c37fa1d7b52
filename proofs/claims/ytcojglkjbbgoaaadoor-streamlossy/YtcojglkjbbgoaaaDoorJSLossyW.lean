/- StreamLossy: any number, any bools. -/
import Derived.Test.YtcojglkjbbgoaaaDoorJSLossy
import Derived.Test.YtcojglkjbbgoaaaDoorJSView
import Derived.Deep.Grids
namespace Go.Proofs.YtcojglkjbbgoaaaDoor
open Go.ChangeShapes Go.WideShapes Go.ChangeAt Go.RowKit
set_option maxRecDepth 100000

/-- A slice of bools as an argument. -/
def BoolsAt (w : World) (v : Value) : Prop := ∃ ad L cap, ∃ X : Nat → Bool, v = .slice ad L cap ∧ ∀ k, k < L → ∃ b off, ad = some ⟨b, off, none⟩ ∧ w.cell? ⟨b, off + k, none⟩ = some (.bool (X k))
theorem Tryd.cells4 : Tryd.prog.cellsOf 4 = 1 := by kernel_rfl
theorem Tryd.read72 : Tryd.prog.readableRec 72 = true := by kernel_rfl
theorem Tryd.lt72 : 72 < Tryd.prog.types.size := of_decide_eq_true (by kernel_rfl)
theorem bools_view {H : Type} {enc : TypeId × Value → H} {W : World} {base : Nat} {v : Value} {d : DataW H} {p : List MemPlace} (hv : Value.okWide Tryd.prog W .any base 72 v) (h : DataW.Trod enc Tryd.prog W 0 (fun _ => true) true 72 v d p) :
    ∃ _z : Unit, BoolsAt W v := by
  refine ⟨(), ?_⟩
  obtain ⟨a0, len, cap, rfl⟩ := okWide_slice Tryd.underlying72 hv
  obtain ⟨fuel, hf⟩ := h
  rcases Go.Deep.open_bools Tryd.underlying72 Tryd.underlying4 Tryd.cells4 hf with ⟨hcs, hx⟩ | ⟨a, len', cap', B, hcs, _, hl, _, _, hcell⟩
  · simp [Value.cells] at hcs
    obtain ⟨rfl, rfl, rfl⟩ := hcs
    exact ⟨none, 0, 0, fun _ => false, rfl, fun k hk => by omega⟩
  · simp [Value.cells] at hcs
    obtain ⟨rfl, rfl, rfl⟩ := hcs
    refine ⟨some a, len, cap, B, rfl, fun k hk => ?_⟩
    have h0 := hcell k (by omega)
    obtain ⟨b, off, spot⟩ := a
    have hspot : spot = none := by simpa [Addr.add] using World.cell?_spot (hcell 0 (by omega))
    subst hspot
    exact ⟨b, off, rfl, by rw [← Go.WideShapes.add_plain]; exact h0⟩
theorem bools_stay {H : Type} {enc : TypeId × Value → H} {W W' : World} {v : Value} {d : DataW H} {p : List MemPlace} (h : DataW.Trod enc Tryd.prog W 0 (fun _ => true) true 72 v d p) (hb : Below W.heap.size W W') (hlt : ∀ x ∈ p, x.block < W.heap.size) :
    DataW.Trod enc Tryd.prog W' 0 (fun b => decide (b < W.heap.size)) true 72 v d p :=
  Below.trod Tryd.laidOut Tryd.read72 Tryd.lt72 h hb hlt
set_option maxHeartbeats 1000000 in
theorem lossy_out0 (w : World) (n : Int) (L A cl ca : Nat) (al aa : Option Addr) (h0 : n < 0) :
    Calls Tryd.prog 5 #[.int .i64 n, .slice al L cl, .slice aa A ca] w fun e w' => e = .returned (.bool true) ∧ Below w.heap.size w w' := by
  go_enter Tryd.func5, Tryd.ntmps5
  go_wp2_with fail
  refine (sent_ok w).mono ?_
  rintro e w0 ⟨rfl, hb0⟩
  have B0 := hid hb0
  clear hb0
  go_wp2_with fail
  go_ret
  exact ⟨rfl, B0.out⟩
set_option maxHeartbeats 1000000 in
theorem lossy_out1 (w : World) (n : Int) (L A cl ca : Nat) (al aa : Option Addr) (h0 : ¬ n < 0) (h1 : 30 < n) :
    Calls Tryd.prog 5 #[.int .i64 n, .slice al L cl, .slice aa A ca] w fun e w' => e = .returned (.bool true) ∧ Below w.heap.size w w' := by
  go_enter Tryd.func5, Tryd.ntmps5
  go_wp2_with fail
  refine (sent_ok w).mono ?_
  rintro e w0 ⟨rfl, hb0⟩
  have B0 := hid hb0
  clear hb0
  go_wp2_with fail
  go_ret
  exact ⟨rfl, B0.out⟩
set_option maxHeartbeats 1000000 in
theorem lossy_out2 (w : World) (n : Int) (L A cl ca : Nat) (al aa : Option Addr) (h0 : ¬ n < 0) (h1 : ¬ 30 < n) (h2 : 300 < (L : Int)) :
    Calls Tryd.prog 5 #[.int .i64 n, .slice al L cl, .slice aa A ca] w fun e w' => e = .returned (.bool true) ∧ Below w.heap.size w w' := by
  go_enter Tryd.func5, Tryd.ntmps5
  go_wp2_with fail
  refine (sent_ok w).mono ?_
  rintro e w0 ⟨rfl, hb0⟩
  have B0 := hid hb0
  clear hb0
  go_wp2_with fail
  go_ret
  exact ⟨rfl, B0.out⟩
set_option maxHeartbeats 1000000 in
theorem lossy_out3 (w : World) (n : Int) (L A cl ca : Nat) (al aa : Option Addr) (h0 : ¬ n < 0) (h1 : ¬ 30 < n) (h2 : ¬ 300 < (L : Int)) (h3 : 20 < (A : Int)) :
    Calls Tryd.prog 5 #[.int .i64 n, .slice al L cl, .slice aa A ca] w fun e w' => e = .returned (.bool true) ∧ Below w.heap.size w w' := by
  go_enter Tryd.func5, Tryd.ntmps5
  go_wp2_with fail
  refine (sent_ok w).mono ?_
  rintro e w0 ⟨rfl, hb0⟩
  have B0 := hid hb0
  clear hb0
  go_wp2_with fail
  go_ret
  exact ⟨rfl, B0.out⟩
theorem lossy_walk (w : World) (n : Int) (v1 v2 : Value) (h1 : BoolsAt w v1) (h2 : BoolsAt w v2) :
    Calls Tryd.prog 5 #[.int .i64 n, v1, v2] w fun e w' => e = .returned (.bool true) ∧ Below w.heap.size w w' := by
  obtain ⟨al, L, cl, X, rfl, hX⟩ := h1
  obtain ⟨aa, A, ca, Y, rfl, hY⟩ := h2
  by_cases c0 : n < 0
  · exact lossy_out0 w n L A cl ca al aa c0
  by_cases c1 : 30 < n
  · exact lossy_out1 w n L A cl ca al aa c0 c1
  by_cases c2 : 300 < (L : Int)
  · exact lossy_out2 w n L A cl ca al aa c0 c1 c2
  by_cases c3 : 20 < (A : Int)
  · exact lossy_out3 w n L A cl ca al aa c0 c1 c2 c3
  obtain ⟨m, hm⟩ : ∃ m : Nat, n = (m : Int) := ⟨n.toNat, by omega⟩
  subst hm
  exact lossy_in w m L A cl ca al aa (by omega) (by omega) (by omega) X Y hX hY
end Go.Proofs.YtcojglkjbbgoaaaDoor
