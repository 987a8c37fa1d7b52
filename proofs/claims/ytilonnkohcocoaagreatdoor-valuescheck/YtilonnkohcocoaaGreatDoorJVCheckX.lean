/- ValuesCheck's walk, at an op and a commit as they come in. -/
import Derived.Test.YtilonnkohcocoaaGreatDoorJVCheckW
import Derived.Test.YtilonnkohcocoaaGreatDoorJVView2
namespace Go.Proofs.YtilonnkohcocoaaGreatDoor
open Go.RowKit
theorem check_vals (A : Nat → Addr) (B : Nat) (w : World) (hS : Sents A B w) (v0 : Value) (o : OpV) (h0 : OpVal w v0 o) (n : Int) (v2 : Value) (c : ComV) (h2 : ComVal w v2 c) :
    Calls Tryz.prog 3 #[v0, .int .i64 n, v2] w fun e w' => e = .returned (.bool true) ∧ Below w.heap.size w w' := by
  obtain ⟨dv, rfl, hd⟩ := h0
  obtain ⟨wv, ov, rfl, hw, ho⟩ := h2
  exact check_walk A B w hS o dv hd n c wv ov hw ho
end Go.Proofs.YtilonnkohcocoaaGreatDoor
