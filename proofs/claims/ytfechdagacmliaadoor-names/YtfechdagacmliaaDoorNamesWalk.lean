/- causewaylaw1.Names answers true wherever the sentinels are as listed. -/
import Derived.Test.YtfechdagacmliaaDoorCode
import Derived.Test.YtfechdagacmliaaDoorInts
namespace Go.Proofs.YtfechdagacmliaaDoor
open Go.RowKit

theorem new_any (s : ByteArray) (w : World) : Calls Tryd.prog 12 #[.string s] w fun e w' => e = .returned (.iface 60 (.pointer (some ⟨w.heap.size, 0, none⟩))) ∧ w' = w.alloc (.cells #[.string s] 62) := by
  go_enter Tryd.func12, Tryd.ntmps12
  go_wp2
  go_ret
  exact ⟨rfl, rfl⟩

def nums : List Int := [6, 6, 16, 60, 1099511627776, 12, 60, 8, 200, 6000, 3000, 300, 100, 16, 1, 2, 3]

set_option maxHeartbeats 4000000 in
theorem names_any (A : Nat → Addr) (B : Nat) (w : World) (hS : Sents A B w) :
    Calls Tryd.prog 3 #[] w fun e w' => e = .returned (.bool true) ∧ Below w.heap.size w w' := by
  have hz : 12 < w.heap.size := by have := hS.gl; have := hS.size; omega
  go_enter Tryd.func3, Tryd.ntmps3
  go_wp2_with fail
  refine (sameInts _ _ _ nums nums ((lit_ints w _ 3 nums rfl _ 17 17 rfl rfl).mono (below_alloc _ _) (Nat.le_refl _)) (lit_ints _ _ 3 nums rfl _ 17 17 (by simp) rfl) (by decide)).mono ?_
  rintro e w1 ⟨rfl, q, hw1⟩
  have hb1 : Below w.heap.size w w1 := by
    rw [hw1]
    refine below_draws ?_ q
    go_grown
  clear hw1
  have hS1 := hS.below (hb1.mono hS.size)
  have hz1 : 12 < w1.heap.size := by have := hb1.size; omega
  have g0 := hS1.cell 0 (by omega)
  have g1 := hS1.cell 1 (by omega)
  have g2 := hS1.cell 2 (by omega)
  have g3 := hS1.cell 3 (by omega)
  have g4 := hS1.cell 4 (by omega)
  have g5 := hS1.cell 5 (by omega)
  have g6 := hS1.cell 6 (by omega)
  have g7 := hS1.cell 7 (by omega)
  have g8 := hS1.cell 8 (by omega)
  have g9 := hS1.cell 9 (by omega)
  have g10 := hS1.cell 10 (by omega)
  have g11 := hS1.cell 11 (by omega)
  rw [show decide (nums = nums) = true from decide_eq_true rfl]
  go_wp2_with fail
  go_loopw [4] (fun i wr => ∃ m : Nat, m ≤ 12 ∧ i = .int .i64 m ∧ (∀ j, j < 12 → wr.cell? ⟨w1.heap.size, j, none⟩ = some (.iface 60 (.pointer (some (A j))))) ∧ Sents A B wr ∧ Below w.heap.size w wr ∧ w1.heap.size < wr.heap.size) (fun i _ => 12 - (intOf i).toNat)
  case atStart =>
    refine ⟨0, Nat.zero_le _, rfl, fun j hj => twelve_cell A _ _ j rfl hj, ?_, ?_, by simp⟩
    · exact hS1.below ((below_alloc _ _).mono hS1.size)
    · exact hb1.trans ((below_alloc _ _).mono hb1.size)
  case round =>
    obtain ⟨m, hm, rfl, hrow, hSr, hbl, hlt⟩ := hrel
    have HR : Hid (∀ j, j < 12 → wr.cell? ⟨w1.heap.size, j, none⟩ = some (.iface 60 (.pointer (some (A j))))) := hrow
    by_cases h12 : m < 12
    · have hc := hrow m h12
      have hc2 : ∀ o, (wr.alloc o).cell? ⟨w1.heap.size, m, none⟩ = some (.iface 60 (.pointer (some (A m)))) := fun o => cell_alloc hc o
      clear hrow g0 g1 g2 g3 g4 g5 g6 g7 g8 g9 g10 g11
      go_wp2_with fail
      refine (code_fault A B _ m wr.heap.size 7 (hSr.below ((below_alloc _ _).mono hSr.size)) h12 (by rw [World.cell?_alloc_at _ _ _ _ rfl]; rfl) (by rw [World.cell?_alloc_at _ _ _ _ rfl]; rfl)).mono ?_
      rintro e w2 ⟨rfl, hb2⟩
      have hb2' : Below wr.heap.size wr w2 := (below_alloc wr _).trans (hb2.mono (by simp))
      clear hb2
      have hc3 : w2.cell? ⟨w1.heap.size, m, none⟩ = some (.iface 60 (.pointer (some (A m)))) := by rw [hb2'.cell (p := ⟨w1.heap.size, m, none⟩) hlt]; exact hc
      have hS2 : Sents A B w2 := hSr.below (hb2'.mono hSr.size)
      clear hc hc2
      go_wp2_with (go_at_call 11; refine (coded_sent A B _ m _ hS2 h12 rfl).mono ?_; rintro e w3 ⟨rfl, hb3⟩)
      go_roundw
      case rel =>
        have hb4 : Below wr.heap.size wr w3 := hb2'.trans (hb3.mono hb2'.size)
        refine ⟨m + 1, by omega, by go_num, fun j hj => ?_, hS2.below (hb3.mono hS2.size), hbl.trans (hb4.mono hbl.size), Nat.lt_of_lt_of_le hlt hb4.size⟩
        rw [hb4.cell (p := ⟨w1.heap.size, j, none⟩) hlt]
        exact HR.out j hj
      case measure => simp [intOf]; omega
    · clear hrow g0 g1 g2 g3 g4 g5 g6 g7 g8 g9 g10 g11
      obtain rfl : m = 12 := by omega
      have hSn : ∀ o, Sents A B (wr.alloc o) := fun o => hSr.below ((below_alloc _ _).mono hSr.size)
      have hne : ∀ j, j < 12 → (⟨wr.heap.size, 0, none⟩ : Addr) ≠ A j := fun j hj e => by have h1 := hSr.lt j hj; have h2 := hSr.size; rw [← e] at h1; simp only at h1; omega
      go_wp2_with fail
      refine (new_any _ _).mono ?_
      rintro e w2 ⟨rfl, rfl⟩
      go_wp2_with fail
      refine (code_other A B _ _ (hSn _) hne ⟨_, _, heap_alloc_new _ _⟩).mono ?_
      rintro e w3 ⟨rfl, hb3⟩
      have hb4 : Below wr.heap.size wr w3 := (below_alloc wr _).trans (hb3.mono (by simp))
      clear hb3
      go_wp2_with (go_at_call 11; refine (coded_nil _).mono ?_; rintro e w4 ⟨rfl, rfl⟩)
      go_ret
      exact ⟨rfl, hbl.trans (hb4.mono hbl.size)⟩
end Go.Proofs.YtfechdagacmliaaDoor
