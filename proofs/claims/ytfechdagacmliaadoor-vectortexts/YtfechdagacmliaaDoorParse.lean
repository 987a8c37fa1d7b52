/- How the reference reads a vector's text: plain mathematics. -/
import Derived.Test.YtfechdagacmliaaDoorTextMath
namespace Go.Proofs.YtfechdagacmliaaDoor
open Go.Lib

/-- The loop of the reference: what is left, what is read, the number under way, its digits. -/
def vo : List UInt8 → List Int → Nat → Nat → Option (List Int)
  | [], out, n, d => if d = 0 then none else some (out ++ [(n : Int)])
  | c :: r, out, n, d =>
    if 48 ≤ c.toNat ∧ c.toNat ≤ 57 then
      if (0 < d ∧ n = 0) ∨ 13 < d then none else vo r out (10 * n + (c.toNat - 48)) (d + 1)
    else if c ≠ 46 ∨ d = 0 then none else vo r (out ++ [(n : Int)]) 0 0

/-- What is read already, as text. -/
def body (out : List Int) (x : List UInt8) : List UInt8 := (out.map fun z => Lib.itoa z ++ [46]).flatten ++ x
theorem body_nil (x : List UInt8) : body [] x = x := rfl
theorem body_snoc (out : List Int) (z : Int) (x : List UInt8) : body (out ++ [z]) x = body out (Lib.itoa z ++ 46 :: x) := by
  simp [body]
theorem text_snoc : ∀ (out : List Int) (z : Int), textOf (out ++ [z]) = body out (Lib.itoa z)
  | [], z => by simp [textOf, body, join_one]
  | [y], z => by simp [textOf, body, join_two, join_one]
  | y :: x :: out, z => by
    have ih := text_snoc (x :: out) z
    have e : textOf (y :: x :: out ++ [z]) = Lib.itoa y ++ 46 :: textOf (x :: out ++ [z]) := by
      unfold textOf
      rw [List.cons_append, List.cons_append, List.map_cons, List.map_cons, join_two]
    rw [e, ih]
    simp [body]

theorem vo_sound : ∀ (r : List UInt8) (out : List Int) (n d : Nat) (v : List Int), vo r out n d = some v → (d = 0 → n = 0) → (0 < d → (decDigits n).length = d) →
    textOf v = body out ((if d = 0 then [] else decDigits n) ++ r)
  | [], out, n, d, v, h, h0, h1 => by
    unfold vo at h
    split at h
    · cases h
    · rename_i hd
      obtain rfl := Option.some.inj h
      rw [text_snoc, if_neg hd, List.append_nil, itoa_nat (by omega)]
      simp
  | c :: r, out, n, d, v, h, h0, h1 => by
    unfold vo at h
    split at h
    · rename_i hc
      split at h
      · cases h
      · rename_i hb
        have hcc : c = UInt8.ofNat (48 + (c.toNat - 48)) := by
          apply UInt8.toNat.inj
          rw [u8_digit (by omega)]; omega
        have ih := vo_sound r out (10 * n + (c.toNat - 48)) (d + 1) v h (by omega)
        by_cases hd : d = 0
        · subst hd
          obtain rfl := h0 rfl
          have e : decDigits (10 * 0 + (c.toNat - 48)) = [c] := by
            rw [Nat.mul_zero, Nat.zero_add, dd_small (by omega), ← hcc]
          rw [e] at ih
          have := ih (by simp)
          rw [this]
          simp
        · have hn : n ≠ 0 := fun e => hb (.inl ⟨by omega, e⟩)
          have e : decDigits (10 * n + (c.toNat - 48)) = decDigits n ++ [c] := by
            rw [dd_big (by omega), show (10 * n + (c.toNat - 48)) / 10 = n by omega, show (10 * n + (c.toNat - 48)) % 10 = c.toNat - 48 by omega, ← hcc]
          rw [e] at ih
          have := ih (fun _ => by rw [List.length_append, h1 (by omega)]; simp)
          rw [this, if_neg (by omega), if_neg hd]
          simp
    · split at h
      · cases h
      · rename_i hb
        have hc : c = 46 := Decidable.byContradiction fun e => hb (.inl e)
        have hd : d ≠ 0 := fun e => hb (.inr e)
        subst hc
        have ih := vo_sound r (out ++ [(n : Int)]) 0 0 v h (fun _ => rfl) (by omega)
        rw [ih, body_snoc, if_neg hd, itoa_nat (by omega)]
        simp

theorem vo_number : ∀ (k m : Nat), m < k → m < 100000000000000 → ∀ (r : List UInt8) (out : List Int), vo (decDigits m ++ r) out 0 0 = vo r out m (decDigits m).length
  | 0, m, h, _, _, _ => absurd h (Nat.not_lt_zero _)
  | k + 1, m, h, hb, r, out => by
    by_cases h10 : m < 10
    · rw [dd_small h10]
      simp only [List.singleton_append, vo, u8_digit h10, List.length_singleton]
      rw [if_pos (by omega), if_neg (by omega)]
      congr 1
      omega
    · have ih := vo_number k (m / 10) (by omega) (by omega) (UInt8.ofNat (48 + m % 10) :: r) out
      rw [dd_big h10, List.append_assoc, List.singleton_append, ih]
      have hl := dd_len 13 (m / 10) (by omega)
      have hl13 : (decDigits (m / 10)).length ≤ 13 := by
        have := dd_len 12 (m / 10) (by omega)
        omega
      simp only [vo, u8_digit (show m % 10 < 10 by omega), List.length_append, List.length_singleton]
      rw [if_pos (by omega), if_neg (by omega)]
      congr 1
      omega
theorem vo_text : ∀ (v : List Int) (out : List Int), v ≠ [] → (∀ z ∈ v, 0 ≤ z ∧ z ≤ 1099511627776) → vo (textOf v) out 0 0 = some (out ++ v)
  | [], _, h, _ => absurd rfl h
  | [z], out, _, hz => by
    have hz' := hz z (List.mem_singleton.2 rfl)
    have e : textOf [z] = decDigits z.toNat ++ [] := by simp [textOf, join_one, itoa_nat hz'.1]
    rw [e, vo_number _ _ (Nat.lt_succ_self _) (by omega)]
    have := dd_len_pos z.toNat
    unfold vo
    rw [if_neg (by omega), Int.toNat_of_nonneg hz'.1]
  | z :: y :: r, out, _, hz => by
    have hz' := hz z (List.mem_cons_self ..)
    have ih := vo_text (y :: r) (out ++ [z]) (by simp) (fun x hx => hz x (List.mem_cons_of_mem _ hx))
    have e : textOf (z :: y :: r) = decDigits z.toNat ++ 46 :: textOf (y :: r) := by
      unfold textOf
      rw [List.map_cons, List.map_cons, join_two, itoa_nat hz'.1]
    rw [e, vo_number _ _ (Nat.lt_succ_self _) (by omega)]
    have := dd_len_pos z.toNat
    have s : vo (46 :: textOf (y :: r)) out z.toNat (decDigits z.toNat).length = vo (textOf (y :: r)) (out ++ [((z.toNat : Nat) : Int)]) 0 0 := by
      simp only [vo]
      rw [if_neg (by decide), if_neg (fun h => h.elim (fun e => e rfl) (fun e => by omega))]
    rw [s, Int.toNat_of_nonneg hz'.1, ih]
    simp

theorem chk_mem {v : List Int} (h : chk v = 0) : v ≠ [] ∧ ∀ z ∈ v, 0 ≤ z ∧ z ≤ 1099511627776 := by
  have a := chk_zero.1 h
  refine ⟨fun e => by rw [e] at a; simp at a, fun z hz => ?_⟩
  obtain ⟨t, ht, rfl⟩ := List.getElem_of_mem hz
  have := a.2.2 t ht
  rw [List.getD_eq_getElem?_getD, List.getElem?_eq_getElem ht] at this
  exact this
/-- A text is that of at most one vector, and the reference reads it. -/
theorem vo_of_text {v : List Int} (h : chk v = 0) : vo (textOf v) [] 0 0 = some v := by
  have a := chk_mem h
  have := vo_text v [] a.1 a.2
  simpa using this
theorem text_of_vo {s : List UInt8} {v : List Int} (h : vo s [] 0 0 = some v) : textOf v = s := by
  have := vo_sound s [] 0 0 v h (fun _ => rfl) (fun h => absurd h (Nat.lt_irrefl _))
  simpa [body_nil] using this
theorem text_inj {v u : List Int} (hv : chk v = 0) (hu : chk u = 0) (h : textOf v = textOf u) : v = u := by
  have a := vo_of_text hv
  have b := vo_of_text hu
  rw [h, b] at a
  exact (Option.some.inj a).symm
theorem text_len14 : ∀ (u : List Int), (∀ z ∈ u, 0 ≤ z ∧ z ≤ 1099511627776) → (textOf u).length ≤ 14 * u.length := by
  intro u
  induction u with
  | nil => intro _; simp [textOf, join_nil]
  | cons z r ih =>
    intro hu
    have hz := hu z (List.mem_cons_self ..)
    have hl : (Lib.itoa z).length ≤ 13 := by
      rw [itoa_nat hz.1]
      exact dd_len 12 _ (by omega)
    have ih' := ih fun x hx => hu x (List.mem_cons_of_mem _ hx)
    cases r with
    | nil => simp [textOf, join_one]; omega
    | cons y r =>
      have e : textOf (z :: y :: r) = Lib.itoa z ++ 46 :: textOf (y :: r) := by
        unfold textOf
        rw [List.map_cons, List.map_cons, join_two]
      rw [e, List.length_append, List.length_cons, List.length_cons]
      simp only [List.length_cons] at ih' ⊢
      omega
theorem text_len {v : List Int} (h : chk v = 0) : (textOf v).length ≤ 100 := by
  have a := chk_zero.1 h
  have := text_len14 v (chk_mem h).2
  omega
theorem body_app (out : List Int) (x y : List UInt8) : body out (x ++ y) = body out x ++ y := by simp [body]
theorem text_app {out : List Int} (h : out ≠ []) (z : Int) : textOf (out ++ [z]) = textOf out ++ 46 :: Lib.itoa z := by
  obtain ⟨o, y, rfl⟩ : ∃ o y, out = o ++ [y] := ⟨out.dropLast, out.getLast h, (List.dropLast_concat_getLast h).symm⟩
  rw [text_snoc, body_snoc, text_snoc, ← body_app]
theorem text_one (z : Int) : textOf [z] = Lib.itoa z := by simp [textOf, join_one]
end Go.Proofs.YtfechdagacmliaaDoor
