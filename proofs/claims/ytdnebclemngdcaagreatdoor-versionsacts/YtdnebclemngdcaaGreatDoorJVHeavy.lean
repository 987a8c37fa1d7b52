/- HeavyCommit by its contract. -/
import Derived.Test.YtdnebclemngdcaaGreatDoorJVSetsI
namespace Go.Proofs.YtdnebclemngdcaaGreatDoor
open Go.RowKit Go.Sort Go.Maps
set_option maxRecDepth 100000
set_option linter.unusedSectionVars false
variable [Inhabited ComV] [DecidableEq D3] [Inhabited D3] [Inhabited Dd] [Inhabited Dn] [Inhabited OpV]

def heavyO (o : OpV) : Bool := decide (60 < o.key.size) || (decide (200 < o.text.size) || decide (70 < o.dots.length))
def heavyB (c : ComV) : Bool := decide (20 < c.when_.length) || (decide (20 < c.ops.length) || c.ops.any heavyO)
def heavyN (c : ComV) : Int := if heavyB c = true then 1 else 0
def HeavyRet (c : ComV) (w : World) (e : Ending) (w' : World) : Prop := e = .returned (.int .i64 (heavyN c)) ∧ Below w.heap.size w w'
theorem heavyN_one {c : ComV} (h : heavyB c = true) : heavyN c = 1 := if_pos h
theorem heavyN_zero {c : ComV} (h : heavyB c = false) : heavyN c = 0 := if_neg (by rw [h]; decide)
theorem heavyN_long {c : ComV} (h : 20 < c.when_.length ∨ 20 < c.ops.length) : heavyN c = 1 := heavyN_one (by
  unfold heavyB; rcases h with h | h
  · rw [decide_eq_true h]; rfl
  · rw [decide_eq_true h]; simp)
theorem heavyN_op {c : ComV} {o : OpV} (h : o ∈ c.ops) (ho : heavyO o = true) : heavyN c = 1 := heavyN_one (by
  unfold heavyB; rw [List.any_eq_true.2 ⟨o, h, ho⟩]; simp)
theorem heavyN_light {c : ComV} (h1 : ¬20 < c.when_.length) (h2 : ¬20 < c.ops.length) (h3 : ∀ j, j < c.ops.length → heavyO c.ops[j]! = false) : heavyN c = 0 := heavyN_zero (by
  unfold heavyB
  rw [decide_eq_false h1, decide_eq_false h2, List.any_eq_false.2 fun o ho => by
    obtain ⟨j, hj, rfl⟩ := List.getElem_of_mem ho; have := h3 j hj; rw [getElem!_pos c.ops j hj] at this; rw [this]
    decide]
  rfl)

set_option maxHeartbeats 2000000 in
theorem heavyCommit (w : World) (c : ComV) (wv ov : Value) (hw : IntsAt w wv c.when_) (ho : OpsAt w ov c.ops) :
    Calls Tryz.prog 21 #[.agg #[wv, .int .i64 c.place, ov]] w fun e w' => HeavyRet c w e w' := by
  obtain ⟨a1, c1, rfl, _, _⟩ := hw; obtain ⟨a2, c2, rfl, _, _, ho⟩ := ho.shape; obtain ⟨n, hn⟩ : ∃ n, n = c.when_.length := ⟨_, rfl⟩; obtain ⟨m, hm⟩ : ∃ m, m = c.ops.length := ⟨_, rfl⟩; rw [← hn, ← hm]; have HN := hid hn; have HM := hid hm; have HO := hid ho; obtain ⟨p, hp⟩ : ∃ p, p = c.place := ⟨_, rfl⟩; rw [← hp]; clear hn hm ho hp; go_enter Tryz.func21, Tryz.ntmps21
  by_cases h1 : (20 : Int) < n
  · go_wp2; go_ret
    exact ⟨ret_int (heavyN_long (.inl (by have := HN.out; omega))).symm, below_alloc _ _⟩
  by_cases h2 : (20 : Int) < m
  · go_wp2; go_ret
    exact ⟨ret_int (heavyN_long (.inr (by have := HM.out; omega))).symm, below_alloc _ _⟩
  have b1 : decide ((20 : Int) < n) = false := decide_eq_false h1; have b2 : decide ((20 : Int) < m) = false := decide_eq_false h2; have H1 := hid h1; have H2 := hid h2; have hm20 : m ≤ 20 := by omega
  clear h1 h2; go_upto_region 4 with (fail); clear b1 b2
  go_loopw [3] (fun i wr => ∃ k : Nat, k ≤ m ∧ i = .int .i64 k ∧ Hid (∀ t, t < k → heavyO c.ops[t]! = false) ∧ Hid (Below w.heap.size w wr) ∧ Hid (w.heap.size < wr.heap.size) ∧ wr.cell? ⟨w.heap.size, 2, none⟩ = some (.slice a2 m c2)) (fun i _ => m - (intOf i).toNat)
  case atStart => exact ⟨0, Nat.zero_le _, rfl, fun t ht => absurd ht (Nat.not_lt_zero _), below_alloc _ _, (show w.heap.size < (w.alloc _).heap.size by simp), (World.cell?_alloc_at _ _ _ _ rfl).trans rfl⟩
  case round =>
    obtain ⟨k, hk, rfl, HL, HB, HS, hc⟩ := hrel
    by_cases hlt : k < m
    · obtain ⟨b, off, rfl, ho'⟩ := HO.out.resolve_left (fun h => by have := HM.out; rw [h] at this; simp at this; omega); obtain ⟨dp, dc, _, _, q1, _, q3, _, _, q6⟩ := ho' k (by have := HM.out; omega); have up : ∀ {a : Addr} {v : Value}, w.cell? a = some v → wr.cell? a = some v := fun {a v} h => by rw [HB.out.cell (lt_of_cell h)]; exact h
      have r1 := up q1; have r3 := up q3; have r6 := up q6; have hmem : c.ops[k]! ∈ c.ops := by rw [getElem!_pos c.ops k (by have := HM.out; omega)]; exact List.getElem_mem _
      obtain ⟨o, hoe⟩ : ∃ o, o = c.ops[k]! := ⟨_, rfl⟩; rw [← hoe] at r1 r3 r6 hmem; have HOE := hid hoe; have HMEM := hid hmem; clear q1 q3 q6 ho' up hoe hmem
      by_cases x1 : (60 : Int) < o.key.size
      · go_wp2; go_ret
        exact ⟨ret_int (heavyN_op HMEM.out (by unfold heavyO; rw [decide_eq_true (by omega : 60 < o.key.size)]; rfl)).symm, HB.out⟩
      by_cases x2 : (200 : Int) < o.text.size
      · go_wp2; go_ret
        exact ⟨ret_int (heavyN_op HMEM.out (by unfold heavyO; rw [decide_eq_true (by omega : 200 < o.text.size)]; simp)).symm, HB.out⟩
      by_cases x3 : (70 : Int) < o.dots.length
      · go_wp2; go_ret
        exact ⟨ret_int (heavyN_op HMEM.out (by unfold heavyO; rw [decide_eq_true (by omega : 70 < o.dots.length)]; simp)).symm, HB.out⟩
      have hlo : Hid (heavyO o = false) := by
        unfold heavyO; rw [decide_eq_false (by omega : ¬60 < o.key.size), decide_eq_false (by omega : ¬200 < o.text.size), decide_eq_false (by omega : ¬70 < o.dots.length)]; exact hid rfl
      go_wp2; go_roundw
      case rel => exact ⟨k + 1, by omega, by go_num, fun t ht => by rcases Nat.lt_succ_iff_lt_or_eq.1 ht with h | rfl; exact HL.out t h; rw [← HOE.out]; exact hlo.out, HB.out, HS.out, hc⟩
      case measure => simp [intOf]; omega
    · obtain rfl : k = m := by omega
      go_wp2; go_ret
      exact ⟨ret_int (heavyN_light (by have := HN.out; have := H1.out; omega) (by have := HM.out; have := H2.out; omega) (fun j hj => HL.out j (by have := HM.out; omega))).symm, HB.out⟩

end Go.Proofs.YtdnebclemngdcaaGreatDoor
