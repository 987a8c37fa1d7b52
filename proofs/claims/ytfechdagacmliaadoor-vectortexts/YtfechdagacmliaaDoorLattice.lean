/- Vectors are a lattice; their weights: plain mathematics. -/
import Derived.Test.YtfechdagacmliaaDoorRef
import Derived.Test.YtfechdagacmliaaDoorAhead
namespace Go.Proofs.YtfechdagacmliaaDoor

theorem comb_length (F : Int → Int → Int) (zs ys : List Int) : (comb F zs ys).length = zs.length := mid_length _ _ _ _ _
theorem comb_getD (F : Int → Int → Int) (zs ys : List Int) (i : Nat) (h : i < zs.length) : (comb F zs ys).getD i 0 = F (zs.getD i 0) (ys.getD i 0) := by
  unfold comb mid
  rw [List.getD_eq_getElem?_getD, List.getElem?_map, List.getElem?_range h]
  simp [h]
theorem mnI_def (x y : Int) : mnI x y ≤ x ∧ mnI x y ≤ y ∧ (mnI x y = x ∨ mnI x y = y) := by unfold mnI; split <;> omega
theorem mxI_def (x y : Int) : x ≤ mxI x y ∧ y ≤ mxI x y ∧ (mxI x y = x ∨ mxI x y = y) := by unfold mxI; split <;> omega
theorem mn_mx (x y : Int) : mnI x y + mxI x y = x + y := by unfold mnI mxI; split <;> split <;> omega

theorem chk_least {zs ys : List Int} (h : two zs ys = 0) : chk (comb mnI zs ys) = 0 := by
  obtain ⟨h1, h2, hn⟩ := two_zero.1 h
  have a := chk_zero.1 h1
  have b := chk_zero.1 h2
  refine chk_zero.2 ⟨by rw [comb_length]; exact a.1, by rw [comb_length]; exact a.2.1, fun t ht => ?_⟩
  rw [comb_length] at ht
  rw [comb_getD _ _ _ _ ht]
  have := a.2.2 t ht
  have := b.2.2 t (by omega)
  have := mnI_def (zs.getD t 0) (ys.getD t 0)
  omega
theorem chk_most {zs ys : List Int} (h : two zs ys = 0) : chk (comb mxI zs ys) = 0 := by
  obtain ⟨h1, h2, hn⟩ := two_zero.1 h
  have a := chk_zero.1 h1
  have b := chk_zero.1 h2
  refine chk_zero.2 ⟨by rw [comb_length]; exact a.1, by rw [comb_length]; exact a.2.1, fun t ht => ?_⟩
  rw [comb_length] at ht
  rw [comb_getD _ _ _ _ ht]
  have := a.2.2 t ht
  have := b.2.2 t (by omega)
  have := mxI_def (zs.getD t 0) (ys.getD t 0)
  omega

theorem sumTo_add {a b c d : List Int} {n : Nat} (h : ∀ i, i < n → a.getD i 0 + b.getD i 0 = c.getD i 0 + d.getD i 0) : ∀ k, k ≤ n → sumTo a k + sumTo b k = sumTo c k + sumTo d k
  | 0, _ => rfl
  | k + 1, hk => by
    have h1 := sumTo_add h k (by omega)
    have h2 := h k (by omega)
    simp only [sumTo]
    omega
theorem sum_comb {zs ys : List Int} (hn : zs.length = ys.length) : sum (comb mnI zs ys) + sum (comb mxI zs ys) = sum zs + sum ys := by
  unfold sum
  rw [comb_length, comb_length, ← hn]
  refine sumTo_add (n := zs.length) (fun i hi => ?_) _ (Nat.le_refl _)
  rw [comb_getD _ _ _ _ hi, comb_getD _ _ _ _ hi]
  exact mn_mx _ _
theorem sumTo_le {a b : List Int} {n : Nat} (h : ∀ i, i < n → a.getD i 0 ≤ b.getD i 0) : ∀ k, k ≤ n → sumTo a k ≤ sumTo b k ∧ (sumTo a k = sumTo b k → ∀ i, i < k → a.getD i 0 = b.getD i 0)
  | 0, _ => ⟨Int.le_refl _, fun _ i hi => absurd hi (Nat.not_lt_zero _)⟩
  | k + 1, hk => by
    have h1 := sumTo_le h k (by omega)
    have h2 := h k (by omega)
    simp only [sumTo]
    refine ⟨by omega, fun e i hi => ?_⟩
    rcases Nat.lt_succ_iff_lt_or_eq.1 hi with hlt | rfl
    · exact h1.2 (by omega) i hlt
    · omega
theorem sum_le {zs ys : List Int} (hn : zs.length = ys.length) (h : leB zs ys = true) : sum zs ≤ sum ys := by
  unfold sum
  rw [← hn]
  exact (sumTo_le (leB_iff.1 h) _ (Nat.le_refl _)).1
theorem sum_same {zs ys : List Int} (hn : zs.length = ys.length) (h : leB zs ys = true) (he : sum zs = sum ys) : zs = ys := by
  unfold sum at he
  rw [← hn] at he
  exact getD_ext rfl hn.symm ((sumTo_le (leB_iff.1 h) _ (Nat.le_refl _)).2 he)
theorem sum_bd {zs : List Int} (h : chk zs = 0) : 0 ≤ sum zs ∧ sum zs ≤ 6597069766656 := by
  have a := chk_zero.1 h
  have b := sumTo_bd a.2.2 zs.length (Nat.le_refl _)
  have := a.2.1
  unfold sum
  omega

/-! ### the lattice -/
theorem le_most_left {zs ys : List Int} : leB zs (comb mxI zs ys) = true := leB_iff.2 fun i hi => by
  rw [comb_getD _ _ _ _ hi]
  exact (mxI_def _ _).1
theorem le_most_right {zs ys : List Int} (hn : zs.length = ys.length) : leB ys (comb mxI zs ys) = true := leB_iff.2 fun i hi => by
  rw [comb_getD _ _ _ _ (by omega)]
  exact (mxI_def _ _).2.1
theorem most_le {zs ys xs : List Int} (hn : zs.length = ys.length) : (leB zs xs && leB ys xs) = leB (comb mxI zs ys) xs := by
  rw [Bool.eq_iff_iff, Bool.and_eq_true, leB_iff, leB_iff, leB_iff, comb_length]
  constructor
  · rintro ⟨h1, h2⟩ i hi
    rw [comb_getD _ _ _ _ hi]
    have := h1 i hi
    have := h2 i (by omega)
    have := mxI_def (zs.getD i 0) (ys.getD i 0)
    omega
  · intro h
    refine ⟨fun i hi => ?_, fun i hi => ?_⟩
    · have := h i hi
      rw [comb_getD _ _ _ _ hi] at this
      have := mxI_def (zs.getD i 0) (ys.getD i 0)
      omega
    · have := h i (by omega)
      rw [comb_getD _ _ _ _ (by omega)] at this
      have := mxI_def (zs.getD i 0) (ys.getD i 0)
      omega
theorem most_least (zs ys : List Int) : comb mxI zs (comb mnI zs ys) = zs := by
  refine getD_ext (n := zs.length) (comb_length _ _ _) rfl fun i hi => ?_
  rw [comb_getD _ _ _ _ hi, comb_getD _ _ _ _ hi]
  have := mnI_def (zs.getD i 0) (ys.getD i 0)
  have := mxI_def (zs.getD i 0) (mnI (zs.getD i 0) (ys.getD i 0))
  omega
theorem least_most (zs ys : List Int) : comb mnI zs (comb mxI zs ys) = zs := by
  refine getD_ext (n := zs.length) (comb_length _ _ _) rfl fun i hi => ?_
  rw [comb_getD _ _ _ _ hi, comb_getD _ _ _ _ hi]
  have := mxI_def (zs.getD i 0) (ys.getD i 0)
  have := mnI_def (zs.getD i 0) (mxI (zs.getD i 0) (ys.getD i 0))
  omega
theorem two_mk {zs ys : List Int} (h1 : chk zs = 0) (h2 : chk ys = 0) (hn : zs.length = ys.length) : two zs ys = 0 := two_zero.2 ⟨h1, h2, hn⟩
end Go.Proofs.YtfechdagacmliaaDoor
