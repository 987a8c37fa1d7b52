/- Vectors as lists of numbers: plain mathematics. -/
import Derived.WalkKit
namespace Go.Proofs.YtdnebclemngdcaaGreatDoor

def inR (t : Int) : Bool := decide (0 ≤ t ∧ t ≤ 1099511627776)
/-- The number of the error of a vector: 0 none, 2 a bound, 3 a shape. -/
def chk (zs : List Int) : Int := if zs.length < 1 ∨ 6 < zs.length then 3 else if zs.all inR then 0 else 2
/-- The number of the error of two vectors. -/
def two (zs ys : List Int) : Int := if chk zs ≠ 0 then chk zs else if chk ys ≠ 0 then chk ys else if zs.length ≠ ys.length then 3 else 0
def leB (zs ys : List Int) : Bool := (List.range zs.length).all fun i => decide (zs.getD i 0 ≤ ys.getD i 0)

theorem chk_shape {zs : List Int} (h : zs.length < 1 ∨ 6 < zs.length) : chk zs = 3 := if_pos h
theorem chk_zero {zs : List Int} : chk zs = 0 ↔ 1 ≤ zs.length ∧ zs.length ≤ 6 ∧ ∀ t, t < zs.length → 0 ≤ zs.getD t 0 ∧ zs.getD t 0 ≤ 1099511627776 := by
  unfold chk
  by_cases h : zs.length < 1 ∨ 6 < zs.length
  · rw [if_pos h]
    exact ⟨fun e => by omega, fun e => by omega⟩
  · rw [if_neg h]
    by_cases ha : zs.all inR = true
    · rw [if_pos ha]
      refine ⟨fun _ => ⟨by omega, by omega, fun t ht => ?_⟩, fun _ => rfl⟩
      have := List.all_eq_true.1 ha (zs.getD t 0) (by rw [List.getD_eq_getElem?_getD, List.getElem?_eq_getElem ht]; exact List.getElem_mem ht)
      exact of_decide_eq_true this
    · rw [if_neg ha]
      refine ⟨fun e => by omega, fun ⟨_, _, e⟩ => absurd (List.all_eq_true.2 fun x hx => ?_) ha⟩
      obtain ⟨t, ht, rfl⟩ := List.getElem_of_mem hx
      have := e t ht
      rw [List.getD_eq_getElem?_getD, List.getElem?_eq_getElem ht] at this
      exact decide_eq_true this
theorem chk_bad {zs : List Int} {t : Nat} (h1 : 1 ≤ zs.length) (h2 : zs.length ≤ 6) (ht : t < zs.length) (h : ¬ (0 ≤ zs.getD t 0 ∧ zs.getD t 0 ≤ 1099511627776)) : chk zs = 2 := by
  have h0 : chk zs ≠ 0 := fun e => h ((chk_zero.1 e).2.2 t ht)
  unfold chk at h0 ⊢
  rw [if_neg (by omega)] at h0 ⊢
  by_cases ha : zs.all inR = true
  · rw [if_pos ha] at h0; exact absurd rfl h0
  · rw [if_neg ha]
theorem chk_cases (zs : List Int) : chk zs = 0 ∨ chk zs = 2 ∨ chk zs = 3 := by
  unfold chk
  split
  · exact .inr (.inr rfl)
  · split
    · exact .inl rfl
    · exact .inr (.inl rfl)
theorem two_cases (zs ys : List Int) : two zs ys = 0 ∨ two zs ys = 2 ∨ two zs ys = 3 := by
  have h1 := chk_cases zs
  have h2 := chk_cases ys
  unfold two
  split
  · exact h1
  · split
    · exact h2
    · split
      · exact .inr (.inr rfl)
      · exact .inl rfl
theorem two_zero {zs ys : List Int} : two zs ys = 0 ↔ chk zs = 0 ∧ chk ys = 0 ∧ zs.length = ys.length := by
  unfold two
  split
  · rename_i h; exact ⟨fun e => absurd e h, fun e => absurd e.1 h⟩
  · rename_i h
    split
    · rename_i h'; exact ⟨fun e => absurd e h', fun e => absurd e.2.1 h'⟩
    · rename_i h'
      split
      · rename_i h''; exact ⟨fun e => absurd e (by decide), fun e => absurd e.2.2 h''⟩
      · rename_i h''; exact ⟨fun _ => ⟨by omega, by omega, by omega⟩, fun _ => rfl⟩
theorem leB_iff {zs ys : List Int} : leB zs ys = true ↔ ∀ i, i < zs.length → zs.getD i 0 ≤ ys.getD i 0 := by
  unfold leB
  rw [List.all_eq_true]
  constructor
  · intro h i hi
    exact of_decide_eq_true (h i (List.mem_range.2 hi))
  · intro h i hi
    exact decide_eq_true (h i (List.mem_range.1 hi))

/-- The sum of the first k. -/
def sumTo (zs : List Int) : Nat → Int
  | 0 => 0
  | k + 1 => sumTo zs k + zs.getD k 0
theorem sumTo_bd {zs : List Int} (h : ∀ t, t < zs.length → 0 ≤ zs.getD t 0 ∧ zs.getD t 0 ≤ 1099511627776) : ∀ k, k ≤ zs.length → 0 ≤ sumTo zs k ∧ sumTo zs k ≤ k * 1099511627776
  | 0, _ => by simp [sumTo]
  | k + 1, hk => by
    have h1 := sumTo_bd h k (by omega)
    have h2 := h k (by omega)
    simp only [sumTo]
    omega
end Go.Proofs.YtdnebclemngdcaaGreatDoor
