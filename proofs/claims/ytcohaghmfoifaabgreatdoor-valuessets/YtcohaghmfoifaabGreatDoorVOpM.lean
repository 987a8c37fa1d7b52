/- Ops, commits and what is asked of them: plain mathematics. -/
import Derived.Test.YtcohaghmfoifaabGreatDoorVCmp
namespace Go.Proofs.YtcohaghmfoifaabGreatDoor

/-- An op. -/
structure OpV where
  at_ : Int
  key : ByteArray
  kind : Int
  text : ByteArray
  n : Int
  rem : Bool
  dots : List D3
  deriving Inhabited
/-- A commit. -/
structure ComV where
  when_ : List Int
  place : Int
  ops : List OpV
  deriving Inhabited

def letterB (c : UInt8) : Bool := decide ((97 ≤ c.toNat ∧ c.toNat ≤ 122) ∨ (48 ≤ c.toNat ∧ c.toNat ≤ 57) ∨ c.toNat = 45)
def nameB (s : ByteArray) : Bool := decide (1 ≤ s.size) && (decide (s.size ≤ 16) && s.data.toList.all letterB)
def dotB (n : Int) (d : D3) : Bool := decide (0 ≤ d.p) && (decide (d.p < n) && (decide (1 ≤ d.t) && (decide (d.t ≤ 1099511627776) && (decide (0 ≤ d.a) && decide (d.a < 12)))))
def kindB (k : Int) : Bool := decide (k = 1) || (decide (k = 2) || decide (k = 3))
/-- A field is not zero that the op's kind does not have. -/
def foreignB (o : OpV) : Bool :=
  if o.kind = 1 then !decide (o.n = 0) || (o.rem || decide (0 < o.dots.length))
  else if o.kind = 2 then !decide (o.text = ByteArray.empty) || (o.rem || decide (0 < o.dots.length))
  else !decide (o.n = 0) || (!o.rem && decide (0 < o.dots.length))
/-- The number of the error of an op: 0 none. -/
def opErr (o : OpV) (n : Int) : Nat :=
  if n < 1 ∨ 6 < n ∨ o.at_ < 0 ∨ 12 ≤ o.at_ then 2
  else if nameB o.key = false then 4
  else if kindB o.kind = false then 12
  else if foreignB o = true then 3
  else if 60 < o.text.size ∨ o.n < -1099511627776 ∨ 1099511627776 < o.n ∨ 60 < o.dots.length then 2
  else if o.dots.all (dotB n) = false then 2
  else 0

theorem nameB_false {s : ByteArray} (h : s.size < 1 ∨ 16 < s.size) : nameB s = false := by
  unfold nameB
  rcases h with h | h
  · rw [decide_eq_false (by omega)]; rfl
  · rw [decide_eq_false (p := s.size ≤ 16) (by omega)]; simp
theorem letters_bad {s : ByteArray} {k : Nat} (hk : k < s.size) (h : letterB s[k] = false) : nameB s = false := by
  unfold nameB
  have : s.data.toList.all letterB = false := by
    rw [List.all_eq_false]
    exact ⟨s[k], by
      have : s.data.toList[k]'(by rw [Array.length_toList]; exact hk) = s[k] := rfl
      rw [← this]
      exact List.getElem_mem _, by rw [h]; decide⟩
  rw [this]
  simp
theorem letters_ok {s : ByteArray} (h1 : 1 ≤ s.size) (h2 : s.size ≤ 16) (h : ∀ k (hk : k < s.size), letterB s[k] = true) : nameB s = true := by
  unfold nameB
  rw [decide_eq_true h1, decide_eq_true h2]
  simp only [Bool.true_and, List.all_eq_true]
  intro c hc
  obtain ⟨k, hk, rfl⟩ := List.getElem_of_mem hc
  exact h k (by rw [Array.length_toList] at hk; exact hk)
end Go.Proofs.YtcohaghmfoifaabGreatDoor
