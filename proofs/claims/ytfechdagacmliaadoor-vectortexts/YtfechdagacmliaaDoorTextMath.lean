/- The texts of vectors: plain mathematics. -/
import Derived.Lib.ItoaNum
import Derived.Lib.Join
import Derived.Lib.Split
import Derived.Lib.IndexBytes
import Derived.Lib.AtoiAll
import Derived.Test.YtfechdagacmliaaDoorMath
namespace Go.Proofs.YtfechdagacmliaaDoor
open Go.Lib

/-- The text of a vector. -/
def textOf (zs : List Int) : List UInt8 := Lib.join (zs.map Lib.itoa) [46]

theorem itoa_nat {z : Int} (h : 0 ≤ z) : Lib.itoa z = Lib.decDigits z.toNat := if_neg (by omega)
theorem dd_small {m : Nat} (h : m < 10) : decDigits m = [UInt8.ofNat (48 + m)] := decDigits_one h
theorem dd_big {m : Nat} (h : ¬ m < 10) : decDigits m = decDigits (m / 10) ++ [UInt8.ofNat (48 + m % 10)] := by rw [decDigits, dif_neg h]

theorem u8_digit {k : Nat} (h : k < 10) : (UInt8.ofNat (48 + k)).toNat = 48 + k := by
  rw [UInt8.toNat_ofNat']
  omega

theorem dd_digits : ∀ (n m : Nat), m < n → ∀ c ∈ decDigits m, 48 ≤ c.toNat ∧ c.toNat ≤ 57
  | 0, m, h => absurd h (Nat.not_lt_zero _)
  | n + 1, m, h => by
    intro c hc
    by_cases h10 : m < 10
    · rw [dd_small h10] at hc
      obtain rfl := List.mem_singleton.1 hc
      rw [u8_digit h10]; omega
    · rw [dd_big h10] at hc
      rcases List.mem_append.1 hc with hc | hc
      · exact dd_digits n (m / 10) (by omega) c hc
      · obtain rfl := List.mem_singleton.1 hc
        rw [u8_digit (by omega)]; omega
theorem dd_ne (m : Nat) : decDigits m ≠ [] := by
  by_cases h : m < 10
  · rw [dd_small h]; simp
  · rw [dd_big h]; simp
theorem dd_len_pos (m : Nat) : 1 ≤ (decDigits m).length := by
  have := dd_ne m
  cases h : decDigits m with
  | nil => exact absurd h this
  | cons a l => simp
theorem dd_len : ∀ (k m : Nat), m < 10 ^ (k + 1) → (decDigits m).length ≤ k + 1
  | 0, m, h => by rw [dd_small (by simpa using h)]; simp
  | k + 1, m, h => by
    by_cases h10 : m < 10
    · rw [dd_small h10]; simp
    · rw [dd_big h10, List.length_append]
      have := dd_len k (m / 10) (by rw [Nat.pow_succ] at h; omega)
      simp; omega
theorem itoa_no_dot {z : Int} (h : 0 ≤ z) : ∀ c ∈ Lib.itoa z, c ≠ 46 := by
  intro c hc e
  rw [itoa_nat h] at hc
  have := dd_digits _ _ (Nat.lt_succ_self _) c hc
  rw [e] at this
  exact absurd this.1 (by decide)

/-! ### joining and splitting -/
theorem join_two (x y : List UInt8) (r : List (List UInt8)) : Lib.join (x :: y :: r) [46] = x ++ 46 :: Lib.join (y :: r) [46] := by
  rw [join_cons, join_cons]
  simp [joinTail]
theorem indexByte_miss : ∀ {p : List UInt8}, (∀ c ∈ p, c ≠ 46) → Lib.indexByte p 46 = -1
  | [], _ => rfl
  | b :: l, h => by
    have hb : (b == 46) = false := beq_eq_false_iff_ne.2 (h b (List.mem_cons_self ..))
    have ih := indexByte_miss (p := l) fun c hc => h c (List.mem_cons_of_mem _ hc)
    simp [Lib.indexByte, hb, ih]
theorem indexByte_hit : ∀ {p : List UInt8} (r : List UInt8), (∀ c ∈ p, c ≠ 46) → Lib.indexByte (p ++ 46 :: r) 46 = p.length
  | [], r, _ => by simp [Lib.indexByte]
  | b :: l, r, h => by
    have hb : (b == 46) = false := beq_eq_false_iff_ne.2 (h b (List.mem_cons_self ..))
    have ih := indexByte_hit (p := l) r fun c hc => h c (List.mem_cons_of_mem _ hc)
    have hne : ((l.length : Int) == -1) = false := beq_eq_false_iff_ne.2 (by omega)
    simp [Lib.indexByte, hb, ih, hne]
theorem splitK_join : ∀ (ps : List (List UInt8)) (k : Nat), ps ≠ [] → ps.length ≤ k + 1 → (∀ p ∈ ps, ∀ c ∈ p, c ≠ 46) → splitK [46] 0 k (Lib.join ps [46]) = ps
  | [], _, h, _, _ => absurd rfl h
  | [p], k, _, _, h => by
    rw [join_one]
    cases k with
    | zero => rfl
    | succ k =>
      unfold splitK
      rw [index_one, indexByte_miss (h p (List.mem_singleton.2 rfl)), if_pos (by decide)]
  | p :: q :: r, k, _, hk, h => by
    cases k with
    | zero => simp at hk
    | succ k =>
      have hp := h p (List.mem_cons_self ..)
      have ih := splitK_join (q :: r) k (by simp) (by simpa using hk) (fun x hx => h x (List.mem_cons_of_mem _ hx))
      unfold splitK
      rw [join_two, index_one, indexByte_hit _ hp]
      have hne : ((p.length : Int) == -1) = false := beq_eq_false_iff_ne.2 (by omega)
      rw [hne, if_neg (by decide)]
      have e1 : ((p.length : Int).toNat + 0) = p.length := by omega
      have e2 : ((p.length : Int).toNat + [(46 : UInt8)].length) = p.length + 1 := by simp
      rw [e1, e2]
      have e3 : (p ++ 46 :: Lib.join (q :: r) [46]).take p.length = p := by simp
      have e4 : (p ++ 46 :: Lib.join (q :: r) [46]).drop (p.length + 1) = Lib.join (q :: r) [46] := by
        rw [List.drop_append]; simp
      rw [e3, e4, ih]

/-! ### a numeral is read -/
theorem parse_app : ∀ (l : List UInt8) (r : List UInt8) (acc : Nat), parseUint10 acc (l ++ r) = (match parseUint10 acc l with | .ok u => parseUint10 u r | e => e)
  | [], r, acc => by simp [parseUint10]
  | c :: l, r, acc => by
    simp only [List.cons_append, parseUint10]
    split
    · split
      · rfl
      · split
        · rfl
        · exact parse_app l r _
    · rfl
theorem parse_dd : ∀ (n m : Nat), m < n → m < 100000000000000 → parseUint10 0 (decDigits m) = .ok m
  | 0, m, h, _ => absurd h (Nat.not_lt_zero _)
  | n + 1, m, h, hb => by
    by_cases h10 : m < 10
    · rw [dd_small h10]
      simp only [parseUint10, u8_digit h10]
      rw [if_pos (by omega), if_neg (by omega), if_neg (by omega)]
      congr 1
      omega
    · rw [dd_big h10, parse_app, parse_dd n (m / 10) (by omega) (by omega)]
      simp only [parseUint10, u8_digit (show m % 10 < 10 by omega)]
      rw [if_pos (by omega), if_neg (by omega), if_neg (by omega)]
      congr 1
      omega
theorem atoi_itoa {z : Int} (h0 : 0 ≤ z) (h1 : z ≤ 1099511627776) : atoiAll (Lib.itoa z) = .ok z := by
  rw [itoa_nat h0]
  obtain ⟨c, r, hc⟩ : ∃ c r, decDigits z.toNat = c :: r := by
    cases h : decDigits z.toNat with
    | nil => exact absurd h (dd_ne _)
    | cons c r => exact ⟨c, r, rfl⟩
  have hd := dd_digits _ _ (Nat.lt_succ_self z.toNat) c (by rw [hc]; exact List.mem_cons_self ..)
  have hp := parse_dd _ _ (Nat.lt_succ_self z.toNat) (by omega)
  rw [hc] at hp ⊢
  unfold atoiAll
  simp only
  rw [if_neg (by omega)]
  unfold parseMag
  rw [if_neg (by simp), hp]
  simp only
  rw [if_neg (by omega), if_neg (by omega), if_neg (by omega)]
  congr 1
  omega
end Go.Proofs.YtfechdagacmliaaDoor
