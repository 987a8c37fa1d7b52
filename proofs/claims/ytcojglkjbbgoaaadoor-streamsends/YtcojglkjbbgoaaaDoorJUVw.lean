/- Acts as they come in. -/
import Derived.Test.YtcojglkjbbgoaaaDoorJUV0
import Derived.Test.YtcojglkjbbgoaaaDoorJHVw
namespace Go.Proofs.YtcojglkjbbgoaaaDoor
open Go.ChangeShapes Go.WideShapes Go.ChangeAt Go.RowKit Go.Deep
set_option maxRecDepth 100000

section
variable {H : Type} {enc : TypeId × Value → H} {W : World}
/-- Five cells that came in. -/
theorem act_cells {n : Nat} {r : List Value} {y : DataW H × List MemPlace} (hl : r.length = 5) (h : DataW.trod enc Tryd.prog W 0 (fun _ => true) true n 54 r = some y) : ∃ (x : ActV) (a1 : Option Addr) (n1 c1 : Nat) (a2 : Option Addr) (n2 c2 : Nat), r = [.string x.kind, .slice a1 n1 c1, .int .i64 x.c.place, .slice a2 n2 c2, .int .i64 x.n] ∧ IntsAt W (.slice a1 n1 c1) x.c.when_ ∧ OpsAt W (.slice a2 n2 c2) x.c.ops := by
  obtain ⟨xs, n', _, _, _, hxl, hg⟩ := DataW.trod_struct Tryd.underlying54 h
  match r, hl with
  | [a, b, c, d, e], _ =>
    have g0 : DataW.trod enc Tryd.prog W 0 (fun _ => true) true n' 9 (([a, b, c, d, e].drop 0).take (Tryd.prog.cellsOf 9)) = _ := hg 0 _ rfl
    have g1 : DataW.trod enc Tryd.prog W 0 (fun _ => true) true n' 35 (([a, b, c, d, e].drop 1).take (Tryd.prog.cellsOf 35)) = _ := hg 1 _ rfl
    have g2 : DataW.trod enc Tryd.prog W 0 (fun _ => true) true n' 3 (([a, b, c, d, e].drop 4).take (Tryd.prog.cellsOf 3)) = _ := hg 2 _ rfl
    have k3 : Tryd.prog.cellsOf 3 = 1 := by kernel_rfl
    have k9 : Tryd.prog.cellsOf 9 = 1 := by kernel_rfl
    have k35 : Tryd.prog.cellsOf 35 = 3 := by kernel_rfl
    have hx3 : xs.length = 3 := hxl
    rw [k9, List.getElem?_eq_getElem (by omega)] at g0
    rw [k35, List.getElem?_eq_getElem (by omega)] at g1
    rw [k3, List.getElem?_eq_getElem (by omega)] at g2
    obtain ⟨z0, e0⟩ := str_cell (v := a) g0
    obtain ⟨c1, ⟨wv, ov, e1, hw, ho⟩, _⟩ := com_cells (r := [b, c, d]) rfl g1
    obtain ⟨z2, e2, _⟩ := int_cell (v := e) g2
    injection e1 with e11 e1
    injection e1 with e12 e1
    injection e1 with e13 _
    subst e0 e2 e11 e12 e13
    obtain ⟨a1, q1, rfl⟩ := hw.len
    obtain ⟨a2, q2, rfl⟩ := ho.len
    exact ⟨⟨z0, c1, z2⟩, a1, _, q1, a2, _, q2, rfl, hw, ho⟩
/-- A slice of acts that came in. -/
theorem acts_view {v : Value} {d : DataW H} {p : List MemPlace} {base : Nat} (hv : Value.okWide Tryd.prog W .any base 46 v) (h : DataW.Trod enc Tryd.prog W 0 (fun _ => true) true 46 v d p) : ∃ xs, ActsAt W v xs := by
  obtain ⟨a0, len, cap, rfl⟩ := okWide_slice Tryd.underlying46 hv
  obtain ⟨fuel, hf⟩ := h
  have hf' : DataW.trod enc Tryd.prog W 0 (fun _ => true) true fuel 46 [.slice a0 len cap] = some (d, p) := by simpa [Value.cells] using hf
  obtain ⟨rows, n', ⟨ad, cap', hv', hn, hc, hq⟩, hr⟩ := rows_view Tryd.underlying46 (k := 5) (by kernel_rfl) (by decide) hf'
  obtain ⟨qs, hf0⟩ := f2_choose (R := fun (r : List Value) (x : ActV) => ∃ (a1 : Option Addr) (n1 c1 : Nat) (a2 : Option Addr) (n2 c2 : Nat), r = [.string x.kind, .slice a1 n1 c1, .int .i64 x.c.place, .slice a2 n2 c2, .int .i64 x.n] ∧ IntsAt W (.slice a1 n1 c1) x.c.when_ ∧ OpsAt W (.slice a2 n2 c2) x.c.ops) (l := rows) (fun r hrm => by
    obtain ⟨hl, y, hy⟩ := hr r hrm
    exact act_cells hl hy)
  have hlen := f2_len hf0
  refine ⟨qs, ad, cap', by rw [hv', hlen], ?_⟩
  rcases hq with hq | ⟨b, o, rfl, hq⟩
  · exact .inl (List.eq_nil_of_length_eq_zero (by rw [← hlen, hq]; rfl))
  · refine .inr ⟨b, o, rfl, fun i x hx => ?_⟩
    obtain ⟨r, hr, a1, n1, c1, a2, n2, c2, rfl, hi, ho⟩ := f2_get hf0 i x hx
    have k := (hq i _ hr).2
    exact ⟨a1, n1, c1, a2, n2, c2, k 0 _ rfl, k 1 _ rfl, k 2 _ rfl, k 3 _ rfl, k 4 _ rfl, hi, ho⟩
end
theorem Tryd.read46 : Tryd.prog.readableRec 46 = true := by kernel_rfl
theorem Tryd.lt46 : 46 < Tryd.prog.types.size := of_decide_eq_true (by kernel_rfl)
theorem acts_stay {H : Type} {enc : TypeId × Value → H} {W W' : World} {v : Value} {d : DataW H} {p : List MemPlace} (h : DataW.Trod enc Tryd.prog W 0 (fun _ => true) true 46 v d p) (hb : Below W.heap.size W W') (hlt : ∀ x ∈ p, x.block < W.heap.size) :
    DataW.Trod enc Tryd.prog W' 0 (fun b => decide (b < W.heap.size)) true 46 v d p := Below.trod Tryd.laidOut Tryd.read46 Tryd.lt46 h hb hlt
end Go.Proofs.YtcojglkjbbgoaaaDoor
