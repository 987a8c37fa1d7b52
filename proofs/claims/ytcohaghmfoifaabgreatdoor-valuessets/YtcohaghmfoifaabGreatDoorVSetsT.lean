/- A set of one text; SameTexts by its contract. -/
import Derived.Test.YtcohaghmfoifaabGreatDoorVSetsM
namespace Go.Proofs.YtcohaghmfoifaabGreatDoor
open Go.RowKit Go.Sort Go.Maps
set_option maxRecDepth 100000

theorem compact_upTo_rep (x : List UInt8) (n : Nat) : ∀ m, m ≤ n → Lib.compactUpTo (List.replicate n x).toArray m = if m = 0 then [] else [x] := by
  intro m
  induction m with
  | zero => intro _; rfl
  | succ m ih =>
    intro hm
    have g : ∀ j, j < n → (List.replicate n x).toArray[j]! = x := fun j hj => by
      rw [getElem!_pos _ j (by simpa using hj)]
      simp
    rw [Lib.compactUpTo_succ, ih (by omega), if_neg (by omega : ¬ m + 1 = 0)]
    by_cases h : m = 0
    · subst h
      rw [if_pos rfl, Lib.keeps_lt_one _ 0 (by decide), if_pos rfl, g 0 (by omega)]
      rfl
    · rw [if_neg h, Lib.keeps_neg (by omega) (by rw [g m (by omega), g (m - 1) (by omega)]), if_neg (by decide)]
      rfl
theorem setA_rep (t : ByteArray) (n : Nat) : setA (List.replicate n t) = if n = 0 then [] else [t.data.toList] := by
  unfold setA
  rw [List.map_replicate]
  have hp := List.mergeSort_perm (List.replicate n t.data.toList) fun x y => decide (x ≤ y)
  rw [List.perm_replicate.1 hp]
  unfold Lib.compact
  rw [List.length_replicate, compact_upTo_rep _ _ _ (Nat.le_refl _)]
set_option maxHeartbeats 1000000 in
theorem sameTexts_one (w : World) (b1 c1 b2 c2 : Nat) (t : ByteArray) (h1 : w.cell? ⟨b1, 0, none⟩ = some (.string t)) (h2 : w.cell? ⟨b2, 0, none⟩ = some (.string t)) :
    Calls Tryz.prog 29 #[.slice (some ⟨b1, 0, none⟩) 1 c1, .slice (some ⟨b2, 0, none⟩) 1 c2] w fun e w' => e = .returned (.bool true) ∧ ∃ q, w' = w.drewN q := by
  go_enter Tryz.func29, Tryz.ntmps29
  go_wp2
  refine wp_loop_rounds 2 ?_
  rw [rounds_succ]
  go_wp2
  go_quiet (fail)
  go_wp2
  rw [rounds_succ]
  go_wp2
  go_ret
  exact ⟨rfl, _, rfl⟩
end Go.Proofs.YtcohaghmfoifaabGreatDoor
