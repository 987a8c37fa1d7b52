/- Dots as the keys of a map. -/
import Derived.Test.YtdnebclemngdcaaGreatDoorFVCmpD
import Derived.Test.YtdnebclemngdcaaGreatDoorChecked
import Derived.Maps.OwnSet
import Derived.DeepKeys5
namespace Go.Proofs.YtdnebclemngdcaaGreatDoor
open Go.RowKit Go.Maps
set_option linter.unusedSectionVars false
variable [Inhabited ComV] [DecidableEq D3] [Inhabited D3] [Inhabited Dd] [Inhabited OpV]

theorem keyed65 : Keyed Tryz.prog 87 :=
  Keyed.of_law (deep_law_gate (by kernel_rfl) (of_decide_eq_true (by kernel_rfl)) (of_decide_eq_true (by kernel_rfl)) (by kernel_rfl) (by kernel_rfl))

def wf3 (d : D3) : Prop := (Lit.int .i64 d.p).wf = true ∧ (Lit.int .i64 d.t).wf = true ∧ (Lit.int .i64 d.a).wf = true
def klD (d : D3) : Lit := .string (keyBytes [.int .i64 d.p, .int .i64 d.t, .int .i64 d.a])
theorem keyLits_int (D : Nat) (n : Int) (h : (Lit.int .i64 n).wf = true) : Tryz.prog.keyLits (D + 1) 3 [.int .i64 n] = some [.int .i64 n] := by
  simp [Program.keyLits, Tryz.underlying3, h]
theorem keyLits_dot (D : Nat) (p t a : Int) (h1 : (Lit.int .i64 p).wf = true) (h2 : (Lit.int .i64 t).wf = true) (h3 : (Lit.int .i64 a).wf = true) :
    Tryz.prog.keyLits (D + 1 + 1) 87 [.int .i64 p, .int .i64 t, .int .i64 a] = some [.int .i64 p, .int .i64 t, .int .i64 a] := by
  have hc : Tryz.prog.cellsOf 87 = 3 := by kernel_rfl
  have hc3 : Tryz.prog.cellsOf 3 = 1 := by kernel_rfl
  unfold Program.keyLits
  rw [Tryz.underlying87]
  simp [hc, hc3, keyLits_int, h1, h2, h3]

theorem key_dot (d : D3) (h : wf3 d) : keyOf Tryz.prog 87 (.agg #[.int .i64 d.p, .int .i64 d.t, .int .i64 d.a]) = some (klD d) := by
  obtain ⟨h1, h2, h3⟩ := h
  obtain ⟨p, t, a⟩ := d
  simp only at h1 h2 h3
  have hk : Tryz.prog.keyType 87 = true := by kernel_rfl
  have hts : Tryz.prog.types.size + 1 = 286 + 1 + 1 := by kernel_rfl
  unfold keyOf
  rw [Tryz.underlying87, hts]
  simp only
  have hc : Tryz.prog.cellsOf 87 = 3 := by kernel_rfl
  have hc3 : Tryz.prog.cellsOf 3 = 1 := by kernel_rfl
  have hf : Value.formed Tryz.prog 87 (.agg #[.int .i64 p, .int .i64 t, .int .i64 a]) = true := by
    simp [Value.formed, Tryz.underlying87, hc]
  have hl := keyLits_dot 286 p t a h1 h2 h3
  rw [hk, hf]
  simp only [Bool.and_self, if_true, Value.cells, hl, klD, Option.map_some]

theorem klD_key (d : D3) : WideAt.IsKeyLit (klD d) := trivial
theorem klD_inj {d e : D3} (hd : wf3 d) (he : wf3 e) (h : klD d = klD e) : d = e := by
  have := keyed65.inj (key_dot d hd) (by rw [h]; exact key_dot e he)
  obtain ⟨p, t, a⟩ := d
  obtain ⟨p', t', a'⟩ := e
  simpa using this
end Go.Proofs.YtdnebclemngdcaaGreatDoor
