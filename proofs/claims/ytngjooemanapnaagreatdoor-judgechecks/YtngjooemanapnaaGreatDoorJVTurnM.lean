/- Rounds: plain mathematics; Commits in another order, in parts, some twice: what once makes of them: plain mathematics. -/
import Derived.Test.YtngjooemanapnaaGreatDoorJVOf
import Derived.Test.YtngjooemanapnaaGreatDoorJVCmpD
import Derived.Test.YtngjooemanapnaaGreatDoorJVOnceM
import Derived.Test.YtngjooemanapnaaGreatDoorJVCom
import Derived.Test.YtngjooemanapnaaGreatDoorJVStandM
import Derived.Test.YtngjooemanapnaaGreatDoorJVOnce
import Derived.Test.YtngjooemanapnaaGreatDoorJVMap
namespace Go.Proofs.YtngjooemanapnaaGreatDoor

/-- All numbers below n that are in no round, and that have seen none that is in no round. -/
def nowL (n : Nat) (rel : Nat → Nat → Bool) (P : Nat → Bool) : List Nat := (List.range n).filter fun b => !P b && (List.range n).all fun a => !rel a b || P a
/-- How many that are in no round a number has seen; -1: it is in a round. -/
def cntJ (n : Nat) (rel : Nat → Nat → Bool) (P : Nat → Bool) (b : Nat) : Nat := ((List.range n).filter fun a => rel a b && !P a).length
def wtL (n : Nat) (rel : Nat → Nat → Bool) (P : Nat → Bool) (b : Nat) : Int := if P b = true then -1 else (cntJ n rel P b : Int)
/-- What is in a round has seen only what is in one. -/
def ClosedL (n : Nat) (rel : Nat → Nat → Bool) (P : Nat → Bool) : Prop := ∀ b, b < n → P b = true → ∀ a, a < n → rel a b = true → P a = true
/-- The next round is laid. -/
def laidL (n : Nat) (rel : Nat → Nat → Bool) (P : Nat → Bool) : Nat → Bool := fun b => P b || decide (b ∈ nowL n rel P)
theorem mem_nowL {n : Nat} {rel : Nat → Nat → Bool} {P : Nat → Bool} {b : Nat} : b ∈ nowL n rel P ↔ b < n ∧ P b = false ∧ ∀ a, a < n → rel a b = true → P a = true := by
  unfold nowL
  rw [List.mem_filter, List.mem_range, Bool.and_eq_true, List.all_eq_true]
  constructor
  · rintro ⟨h1, h2, h3⟩
    refine ⟨h1, by simpa using h2, fun a ha hr => ?_⟩
    have := h3 a (List.mem_range.2 ha)
    rw [hr] at this
    simpa using this
  · rintro ⟨h1, h2, h3⟩
    refine ⟨h1, by simp [h2], fun a ha => ?_⟩
    cases hr : rel a b with
    | false => rfl
    | true => simp [h3 a (List.mem_range.1 ha) hr]
theorem cntJ_zero {n : Nat} {rel : Nat → Nat → Bool} {P : Nat → Bool} {b : Nat} : cntJ n rel P b = 0 ↔ ∀ a, a < n → rel a b = true → P a = true := by
  unfold cntJ
  rw [List.length_eq_zero_iff, List.filter_eq_nil_iff]
  constructor
  · intro h a ha hr
    have := h a (List.mem_range.2 ha)
    rw [hr] at this
    simpa using this
  · intro h a ha
    cases hr : rel a b with
    | false => simp
    | true => simp [h a (List.mem_range.1 ha) hr]
/-- Those that wait for nothing are the next round. -/
theorem wtL_zero {n : Nat} {rel : Nat → Nat → Bool} {P : Nat → Bool} {b : Nat} (hb : b < n) : wtL n rel P b = 0 ↔ b ∈ nowL n rel P := by
  rw [mem_nowL]
  unfold wtL
  cases hP : P b with
  | true => simp
  | false =>
    rw [if_neg (by simp)]
    constructor
    · intro h
      exact ⟨hb, rfl, cntJ_zero.1 (by omega)⟩
    · rintro ⟨_, _, h⟩
      have := cntJ_zero.2 h
      omega
theorem closed_none (n : Nat) (rel : Nat → Nat → Bool) : ClosedL n rel fun _ => false := fun _ _ h => by simp at h
theorem ClosedL.laid {n : Nat} {rel : Nat → Nat → Bool} {P : Nat → Bool} (h : ClosedL n rel P) : ClosedL n rel (laidL n rel P) := fun b hb hP a ha hr => by
  unfold laidL at hP ⊢
  rw [Bool.or_eq_true] at hP ⊢
  rcases hP with hP | hP
  · exact .inl (h b hb hP a ha hr)
  · exact .inl ((mem_nowL.1 (of_decide_eq_true hP)).2.2 a ha hr)
/-- Of what is in a round none waits for one of the next. -/
theorem now_none {n : Nat} {rel : Nat → Nat → Bool} {P : Nat → Bool} (h : ClosedL n rel P) {b : Nat} (hb : b < n) (hP : laidL n rel P b = true) : ((nowL n rel P).filter fun a => rel a b) = [] := by
  rw [List.filter_eq_nil_iff]
  intro a ha hr
  have ha' := mem_nowL.1 ha
  have : P a = true := by
    unfold laidL at hP
    rw [Bool.or_eq_true] at hP
    rcases hP with hP | hP
    · exact h b hb hP a ha'.1 hr
    · exact (mem_nowL.1 (of_decide_eq_true hP)).2.2 a ha'.1 hr
  rw [ha'.2.1] at this
  cases this
theorem filter_split {α : Type} (l : List α) (p q r : α → Bool) (h : ∀ x ∈ l, p x = true → (q x = true ∧ r x = false) ∨ (q x = false ∧ r x = true)) (h2 : ∀ x ∈ l, p x = false → q x = false ∧ r x = false) : (l.filter p).length = (l.filter q).length + (l.filter r).length := by
  induction l with
  | nil => rfl
  | cons x l ih =>
    have ih := ih (fun y hy => h y (by simp [hy])) (fun y hy => h2 y (by simp [hy]))
    rw [List.filter_cons, List.filter_cons, List.filter_cons]
    cases hp : p x with
    | true =>
      rcases h x (by simp) hp with ⟨h3, h4⟩ | ⟨h3, h4⟩
      · rw [h3, h4]; simp; omega
      · rw [h3, h4]; simp; omega
    | false =>
      obtain ⟨h3, h4⟩ := h2 x (by simp) hp
      rw [h3, h4]; simp; omega
/-- Each that is laid is one less for all that have seen it. -/
theorem wtL_laid {n : Nat} {rel : Nat → Nat → Bool} {P : Nat → Bool} (h : ClosedL n rel P) {b : Nat} (hb : b < n) : (if b ∈ nowL n rel P then -1 else wtL n rel P b) - (((nowL n rel P).filter fun a => rel a b).length : Int) = wtL n rel (laidL n rel P) b := by
  cases hQ : laidL n rel P b with
  | true =>
    rw [now_none h hb hQ]
    have e : wtL n rel (laidL n rel P) b = -1 := by unfold wtL; rw [if_pos hQ]
    rw [e]
    unfold laidL at hQ
    rw [Bool.or_eq_true] at hQ
    rcases hQ with hQ | hQ
    · split
      · simp
      · unfold wtL; rw [if_pos hQ]; simp
    · rw [if_pos (of_decide_eq_true hQ)]; simp
  | false =>
    have hQ' := hQ
    unfold laidL at hQ'
    rw [Bool.or_eq_false_iff] at hQ'
    rw [if_neg (of_decide_eq_false hQ'.2)]
    unfold wtL
    rw [if_neg (by rw [hQ'.1]; simp), if_neg (by rw [hQ]; simp)]
    have e1 : ((nowL n rel P).filter fun a => rel a b).length = ((List.range n).filter fun a => rel a b && decide (a ∈ nowL n rel P)).length := by
      have : (nowL n rel P).filter (fun a => rel a b) = (List.range n).filter fun a => rel a b && decide (a ∈ nowL n rel P) := by
        conv => lhs; unfold nowL
        rw [List.filter_filter]
        refine List.filter_congr fun a ha => ?_
        congr 1
        rw [Bool.eq_iff_iff, decide_eq_true_eq, mem_nowL, Bool.and_eq_true, List.all_eq_true]
        constructor
        · rintro ⟨h2, h3⟩
          refine ⟨List.mem_range.1 ha, by simpa using h2, fun c hc hr => ?_⟩
          have := h3 c (List.mem_range.2 hc)
          rw [hr] at this
          simpa using this
        · rintro ⟨_, h2, h3⟩
          refine ⟨by simp [h2], fun c hc => ?_⟩
          cases hr : rel c a with
          | false => rfl
          | true => simp [h3 c (List.mem_range.1 hc) hr]
      rw [this]
    have e2 : cntJ n rel P b = cntJ n rel (laidL n rel P) b + ((List.range n).filter fun a => rel a b && decide (a ∈ nowL n rel P)).length := by
      unfold cntJ
      refine filter_split _ _ _ _ (fun a ha hp => ?_) (fun a ha hp => ?_)
      · rw [Bool.and_eq_true] at hp
        have hPa : P a = false := by simpa using hp.2
        by_cases hn : a ∈ nowL n rel P
        · exact .inr ⟨by simp [laidL, hn], by simp [hp.1, hn]⟩
        · exact .inl ⟨by simp [laidL, hn, hPa, hp.1], by simp [hn]⟩
      · rw [Bool.and_eq_false_iff] at hp
        rcases hp with hp | hp
        · simp [hp]
        · have hPa : P a = true := by simpa using hp
          refine ⟨by simp [laidL, hPa], ?_⟩
          have : a ∉ nowL n rel P := fun q => by have := (mem_nowL.1 q).2.1; rw [hPa] at this; cases this
          simp [this]
    rw [e1, e2]
    omega
/-- The next round's numbers, each once. -/
theorem nowL_nodup (n : Nat) (rel : Nat → Nat → Bool) (P : Nat → Bool) : (nowL n rel P).Nodup := List.Nodup.sublist List.filter_sublist List.nodup_range
/-- How many are in no round. -/
def leftL' (n : Nat) (P : Nat → Bool) : Nat := ((List.range n).filter fun b => !P b).length
theorem left_laid (n : Nat) (rel : Nat → Nat → Bool) (P : Nat → Bool) : leftL' n P = leftL' n (laidL n rel P) + (nowL n rel P).length := by
  unfold leftL'
  have e : (nowL n rel P).length = ((List.range n).filter fun b => decide (b ∈ nowL n rel P)).length := by
    have : (List.range n).filter (fun b => decide (b ∈ nowL n rel P)) = nowL n rel P := by
      conv => rhs; unfold nowL
      refine List.filter_congr fun b hb => ?_
      rw [Bool.eq_iff_iff, decide_eq_true_eq, mem_nowL, Bool.and_eq_true, List.all_eq_true]
      constructor
      · rintro ⟨_, h2, h3⟩
        refine ⟨by simp [h2], fun c hc => ?_⟩
        cases hr : rel c b with
        | false => rfl
        | true => simp [h3 c (List.mem_range.1 hc) hr]
      · rintro ⟨h2, h3⟩
        refine ⟨List.mem_range.1 hb, by simpa using h2, fun c hc hr => ?_⟩
        have := h3 c (List.mem_range.2 hc)
        rw [hr] at this
        simpa using this
    rw [this]
  rw [e]
  refine filter_split _ _ _ _ (fun a _ hp => ?_) (fun a _ hp => ?_)
  · have hPa : P a = false := by simpa using hp
    by_cases hn : a ∈ nowL n rel P
    · exact .inr ⟨by simp [laidL, hn], by simp [hn]⟩
    · exact .inl ⟨by simp [laidL, hn, hPa], by simp [hn]⟩
  · have hPa : P a = true := by simpa using hp
    have : a ∉ nowL n rel P := fun q => by have := (mem_nowL.1 q).2.1; rw [hPa] at this; cases this
    exact ⟨by simp [laidL, hPa], by simp [this]⟩
/-- Round by round, with fuel: the rounds, and whether none is held. -/
def cutsL (n : Nat) (rel : Nat → Nat → Bool) : Nat → (Nat → Bool) → List (List Nat) → List (List Nat) × Bool
  | 0, _, out => (out, true)
  | f + 1, P, out => if leftL' n P = 0 then (out, true) else if nowL n rel P = [] then ([], false) else cutsL n rel f (laidL n rel P) (out ++ [nowL n rel P])
end Go.Proofs.YtngjooemanapnaaGreatDoor
namespace Go.Proofs.YtngjooemanapnaaGreatDoor
open Go.RowKit
set_option linter.unusedSectionVars false
variable [Inhabited ComV] [DecidableEq D3] [Inhabited D3] [Inhabited Dd] [Inhabited Dn] [Inhabited OpV]

/-- All ops, as they come. -/
def flatA (l : List ComV) : List Dn := l.flatMap fun c => c.ops.map (dnOf c)
theorem foldl_addCom (l : List ComV) : ∀ acc, l.foldl addCom acc = (flatA l).foldl addDn acc := by
  induction l with
  | nil => intro acc; rfl
  | cons c r ih =>
    intro acc
    have e : flatA (c :: r) = c.ops.map (dnOf c) ++ flatA r := rfl
    rw [e, List.foldl_append, List.foldl_cons, ih]
    rfl
theorem onceA_flat (l : List ComV) : onceA l = (flatA l).foldl addDn [] := foldl_addCom l []
theorem mem_addDn {acc : List Dn} {d x : Dn} (h : x ∈ addDn acc d) : x ∈ acc ∨ x = d := by
  unfold addDn at h
  split at h
  · exact .inl h
  · rcases List.mem_append.1 h with h | h
    · exact .inl h
    · exact .inr (List.mem_singleton.1 h)
theorem mem_addDn_left {acc : List Dn} {x : Dn} (h : x ∈ acc) (d : Dn) : x ∈ addDn acc d := by
  unfold addDn
  split
  · exact h
  · exact List.mem_append_left _ h
theorem foldl_addDn_left (ds : List Dn) : ∀ {acc : List Dn} {x : Dn}, x ∈ acc → x ∈ ds.foldl addDn acc := by
  induction ds with
  | nil => intro acc x h; exact h
  | cons d r ih => intro acc x h; exact ih (mem_addDn_left h d)
theorem foldl_addDn_mem (ds : List Dn) : ∀ {acc : List Dn} {x : Dn}, x ∈ ds.foldl addDn acc → x ∈ acc ∨ x ∈ ds := by
  induction ds with
  | nil => intro acc x h; exact .inl h
  | cons d r ih =>
    intro acc x h
    rcases ih h with h | h
    · rcases mem_addDn h with h | h
      · exact .inl h
      · exact .inr (by rw [h]; exact List.mem_cons_self ..)
    · exact .inr (List.mem_cons_of_mem _ h)
theorem addDn_dot (acc : List Dn) (d : Dn) : ∃ e ∈ addDn acc d, e.dot = d.dot := by
  unfold addDn
  split
  · rename_i h
    obtain ⟨x, hx, he⟩ := List.any_eq_true.1 h
    exact ⟨x, hx, of_decide_eq_true he⟩
  · exact ⟨d, List.mem_append_right _ (List.mem_singleton.2 rfl), rfl⟩
theorem foldl_addDn_dot (ds : List Dn) : ∀ {acc : List Dn} {d : Dn}, d ∈ ds → ∃ e ∈ ds.foldl addDn acc, e.dot = d.dot := by
  induction ds with
  | nil => intro acc d h; simp at h
  | cons x r ih =>
    intro acc d h
    rcases List.mem_cons.1 h with rfl | h
    · obtain ⟨e, he, hd⟩ := addDn_dot acc d
      exact ⟨e, foldl_addDn_left r he, hd⟩
    · exact ih h
/-- No two ops have one dot. -/
def OneDot (l : List ComV) : Prop := ∀ a ∈ flatA l, ∀ b ∈ flatA l, a.dot = b.dot → a = b
theorem mem_onceA {l : List ComV} (h : OneDot l) (d : Dn) : d ∈ onceA l ↔ d ∈ flatA l := by
  rw [onceA_flat]
  constructor
  · intro hd
    rcases foldl_addDn_mem _ hd with h | h
    · simp at h
    · exact h
  · intro hd
    obtain ⟨e, he, hde⟩ := foldl_addDn_dot (flatA l) (acc := []) hd
    rcases foldl_addDn_mem _ he with h' | h'
    · simp at h'
    · rw [← h e h' d hd hde]
      exact he
theorem perm_of_mem {α : Type} : ∀ {a b : List α}, a.Pairwise (· ≠ ·) → b.Pairwise (· ≠ ·) → (∀ x, x ∈ a ↔ x ∈ b) → a.Perm b
  | [], b, _, _, h => by
    have : b = [] := List.eq_nil_iff_forall_not_mem.2 fun x hx => by simpa using (h x).2 hx
    rw [this]
  | x :: a, b, ha, hb, h => by
    obtain ⟨b1, b2, rfl⟩ := List.append_of_mem ((h x).1 (List.mem_cons_self ..))
    have hp : (b1 ++ x :: b2).Perm (x :: (b1 ++ b2)) := List.perm_middle
    have hb' := hb.perm hp (fun h => Ne.symm h)
    refine (List.Perm.cons x (perm_of_mem (List.pairwise_cons.1 ha).2 (List.pairwise_cons.1 hb').2 fun y => ?_)).trans hp.symm
    have h1 := (h y).trans hp.mem_iff
    rw [List.mem_cons, List.mem_cons] at h1
    have hxa : x ∉ a := fun hx => (List.pairwise_cons.1 ha).1 x hx rfl
    have hxb : x ∉ b1 ++ b2 := fun hx => (List.pairwise_cons.1 hb').1 x hx rfl
    constructor
    · intro hy
      rcases h1.1 (.inr hy) with rfl | h2
      · exact absurd hy hxa
      · exact h2
    · intro hy
      rcases h1.2 (.inr hy) with rfl | h2
      · exact absurd hy hxb
      · exact h2
theorem onceA_distinct (l : List ComV) : (onceA l).Pairwise (· ≠ ·) := by
  have := onceA_nodup l
  rw [List.Nodup, List.pairwise_map] at this
  exact this.imp fun h e => h (by rw [e])
/-- The same ops, in any order and however often: the same ones count. -/
theorem onceA_perm {l l' : List ComV} (h : OneDot l) (hm : ∀ d, d ∈ flatA l' ↔ d ∈ flatA l) : (onceA l').Perm (onceA l) := by
  have h' : OneDot l' := fun a ha b hb => h a ((hm a).1 ha) b ((hm b).1 hb)
  exact perm_of_mem (onceA_distinct _) (onceA_distinct _) fun x => by rw [mem_onceA h', mem_onceA h, hm]
theorem isOps_turned {key : ByteArray} {l l' : List ComV} {ds ds' : List Dn} (h : OneDot l) (hm : ∀ d, d ∈ flatA l' ↔ d ∈ flatA l) (h1 : IsOps key l ds) (h2 : IsOps key l' ds') : ds' = ds := by
  obtain ⟨ys, hy, rfl⟩ := h1
  obtain ⟨ys', hy', rfl⟩ := h2
  have : InOrder key l ys' := ⟨hy'.1.trans ((onceA_perm h hm).filter _), hy'.2⟩
  rw [inOrder_unique this hy]
theorem at_rise {n : Int} {os : List OpV} (h : ∀ i, i < os.length → opBad n os i = 0) : ∀ i j, i < j → j < os.length → os[i]!.at_ < os[j]!.at_ := by
  intro i j hij
  induction j with
  | zero => omega
  | succ j ih =>
    intro hj
    have hb := h (j + 1) hj
    have he := opErr_of_bad hb
    unfold opBad at hb
    rw [if_neg (by rw [he]; decide)] at hb
    have hlt : os[j]!.at_ < os[j + 1]!.at_ := by
      by_cases h : os[j]!.at_ < os[j + 1]!.at_
      · exact h
      · rw [if_pos ⟨by omega, by rw [Nat.add_sub_cancel]; omega⟩] at hb
        exact absurd hb (by decide)
    rcases Nat.lt_or_ge i j with h | h
    · exact Int.lt_trans (ih h (by omega)) hlt
    · obtain rfl : i = j := by omega
      exact hlt
def timeC (c : ComV) : Int := c.when_.getD c.place.toNat 0
/-- Each commit has its own place and time. -/
def OwnTimes (l : List ComV) : Prop := ∀ i, i < l.length → ∀ k, k < i → ¬(l[k]!.place = l[i]!.place ∧ timeC l[k]! = timeC l[i]!)
theorem oneDot_of {l : List ComV} (hok : ∀ c ∈ l, ComOk c) (ht : OwnTimes l) : OneDot l := by
  intro a ha b hb he
  obtain ⟨c, hc, ha⟩ := List.mem_flatMap.1 ha
  obtain ⟨c', hc', hb⟩ := List.mem_flatMap.1 hb
  obtain ⟨o, ho, rfl⟩ := List.mem_map.1 ha
  obtain ⟨o', ho', rfl⟩ := List.mem_map.1 hb
  obtain ⟨i, hi, rfl⟩ := List.getElem_of_mem hc
  obtain ⟨k, hk, rfl⟩ := List.getElem_of_mem hc'
  simp only [dnOf, D3.mk.injEq] at he
  obtain ⟨h1, h2, h3⟩ := he
  have hik : i = k := by
    rcases Nat.lt_trichotomy i k with h | h | h
    · have := ht k hk i h
      rw [getElem!_pos l i hi, getElem!_pos l k hk] at this
      exact absurd ⟨h1, h2⟩ this
    · exact h
    · have := ht i hi k h
      rw [getElem!_pos l i hi, getElem!_pos l k hk] at this
      exact absurd ⟨h1.symm, h2.symm⟩ this
  subst hik
  obtain ⟨p, hp, rfl⟩ := List.getElem_of_mem ho
  obtain ⟨q, hq, rfl⟩ := List.getElem_of_mem ho'
  have hr := at_rise (hok _ hc).ops
  have hpq : p = q := by
    rcases Nat.lt_trichotomy p q with h | h | h
    · have := hr p q h hq
      rw [getElem!_pos _ p hp, getElem!_pos _ q hq] at this
      omega
    · exact h
    · have := hr q p h hp
      rw [getElem!_pos _ p hp, getElem!_pos _ q hq] at this
      omega
  subst hpq
  rfl
/-- A commit in parts. -/
def cutC (cut : Int) (c : ComV) : List ComV := if 0 < cut ∧ cut < c.ops.length then [{ c with ops := c.ops.drop cut.toNat }, { c with ops := c.ops.take cut.toNat }] else [c]
theorem cutC_mem {cut : Int} {c x : ComV} (h : x ∈ cutC cut c) : x.when_ = c.when_ ∧ x.place = c.place ∧ ∃ s n, x.ops = (c.ops.drop s).take n ∧ s + x.ops.length ≤ c.ops.length ∧ (c.ops ≠ [] → x.ops ≠ []) := by
  unfold cutC at h
  split at h
  · rename_i hc
    rcases List.mem_cons.1 h with rfl | h
    · refine ⟨rfl, rfl, cut.toNat, c.ops.length, ?_, ?_, fun _ => ?_⟩
      · exact (List.take_of_length_le (by simp)).symm
      · simp; omega
      · intro e
        have := congrArg List.length e
        simp at this
        omega
    · obtain rfl := List.mem_singleton.1 h
      refine ⟨rfl, rfl, 0, cut.toNat, rfl, ?_, fun _ => ?_⟩
      · simp; omega
      · intro e
        have := congrArg List.length e
        rw [List.length_take, List.length_nil] at this
        omega
  · obtain rfl := List.mem_singleton.1 h
    exact ⟨rfl, rfl, 0, x.ops.length, (List.take_of_length_le (by simp)).symm, by simp, fun h => h⟩
theorem opBad_part {n : Int} {os : List OpV} {s m i : Nat} (h : ∀ i, i < os.length → opBad n os i = 0) (hi : i < ((os.drop s).take m).length) : opBad n ((os.drop s).take m) i = 0 := by
  have hl : ((os.drop s).take m).length ≤ os.length - s := by simp; omega
  have g : ∀ j, j < ((os.drop s).take m).length → ((os.drop s).take m)[j]! = os[s + j]! := fun j hj => by
    rw [getElem!_pos _ j hj, getElem!_pos os (s + j) (by omega), List.getElem_take, List.getElem_drop]
  have hb := h (s + i) (by omega)
  have he := opErr_of_bad hb
  unfold opBad at hb ⊢
  rw [if_neg (by rw [he]; decide)] at hb
  rw [g i hi, if_neg (by rw [he]; decide)]
  split
  · rename_i hc
    rw [if_pos ⟨by omega, by rw [show s + i - 1 = s + (i - 1) by omega, ← g (i - 1) (by omega)]; exact hc.2⟩] at hb
    exact absurd hb (by decide)
  · rfl
theorem comErr_of {c : ComV} (h : ComOk c) : (comErr c).1 = 0 := by
  have h1 := h.lo
  have h2 := h.hi
  have h3 := h.time
  have h4 := h.few
  unfold comErr
  rw [if_neg (by rw [h.chk]; decide), if_neg (by omega), if_neg h.some_, scan_none h.ops]
theorem comOk_part {cut : Int} {c x : ComV} (hc : ComOk c) (h : x ∈ cutC cut c) : ComOk x := by
  obtain ⟨h1, h2, s, n, h3, h4, h5⟩ := cutC_mem h
  refine ⟨by rw [h1]; exact hc.chk, by rw [h2]; exact hc.lo, by rw [h1, h2]; exact hc.hi, by rw [h1, h2]; exact hc.time, by have := hc.few; omega, h5 hc.some_, ?_⟩
  intro i hi
  rw [h1, h3]
  exact opBad_part hc.ops (by rw [← h3]; exact hi)
theorem flat_cutC (cut : Int) (c : ComV) (d : Dn) : d ∈ flatA (cutC cut c) ↔ d ∈ c.ops.map (dnOf c) := by
  unfold cutC
  split
  · have e : flatA [{ c with ops := c.ops.drop cut.toNat }, { c with ops := c.ops.take cut.toNat }] = (c.ops.drop cut.toNat).map (dnOf c) ++ (c.ops.take cut.toNat).map (dnOf c) := by
      simp only [flatA, List.flatMap_cons, List.flatMap_nil, List.append_nil]
      rfl
    rw [e, List.mem_append, Or.comm, ← List.mem_append, ← List.map_append, List.take_append_drop]
  · simp [flatA]
/-- Which commit the i-th round takes. -/
def turnK (order : List Int) (i : Nat) : Int := if i < order.length then order.getD i 0 else (i : Int) - order.length
def turnC (l : List ComV) (order : List Int) (cut : Int) (i : Nat) : List ComV := if 0 ≤ turnK order i ∧ turnK order i < l.length then cutC cut l[(turnK order i).toNat]! else []
/-- What the first m rounds make. -/
def turnL (l : List ComV) (order : List Int) (cut : Int) (m : Nat) : List ComV := (List.range m).flatMap (turnC l order cut)
theorem turnL_succ (l : List ComV) (order : List Int) (cut : Int) (m : Nat) : turnL l order cut (m + 1) = turnL l order cut m ++ turnC l order cut m := by
  unfold turnL
  rw [List.range_succ, List.flatMap_append]
  simp
theorem turnL_mem {l : List ComV} {order : List Int} {cut : Int} {m : Nat} {x : ComV} (h : x ∈ turnL l order cut m) : ∃ c ∈ l, x ∈ cutC cut c := by
  obtain ⟨i, _, h⟩ := List.mem_flatMap.1 h
  unfold turnC at h
  split at h
  · rename_i hk
    refine ⟨_, ?_, h⟩
    rw [getElem!_pos l _ (by omega)]
    exact List.getElem_mem _
  · simp at h
theorem flat_mem {l : List ComV} {d : Dn} : d ∈ flatA l ↔ ∃ c ∈ l, d ∈ c.ops.map (dnOf c) := List.mem_flatMap
theorem turnL_flat (l : List ComV) (order : List Int) (cut : Int) (d : Dn) : d ∈ flatA (turnL l order cut (order.length + l.length)) ↔ d ∈ flatA l := by
  constructor
  · intro h
    obtain ⟨x, hx, h⟩ := flat_mem.1 h
    obtain ⟨c, hc, hx⟩ := turnL_mem hx
    exact flat_mem.2 ⟨c, hc, (flat_cutC cut c d).1 (flat_mem.2 ⟨x, hx, h⟩)⟩
  · intro h
    obtain ⟨c, hc, h⟩ := flat_mem.1 h
    obtain ⟨k, hk, rfl⟩ := List.getElem_of_mem hc
    obtain ⟨x, hx, h⟩ := flat_mem.1 ((flat_cutC cut _ d).2 h)
    refine flat_mem.2 ⟨x, List.mem_flatMap.2 ⟨order.length + k, List.mem_range.2 (by omega), ?_⟩, h⟩
    have e : turnK order (order.length + k) = k := by
      unfold turnK
      rw [if_neg (by omega)]
      omega
    unfold turnC
    rw [e, if_pos ⟨by omega, by omega⟩, Int.toNat_natCast, getElem!_pos l k hk]
    exact hx
theorem cutC_len (cut : Int) (c : ComV) : (cutC cut c).length ≤ 2 := by unfold cutC; split <;> simp
theorem turnL_len (l : List ComV) (order : List Int) (cut : Int) (m : Nat) : (turnL l order cut m).length ≤ 2 * m := by
  induction m with
  | zero => simp [turnL]
  | succ m ih =>
    rw [turnL_succ, List.length_append]
    have : (turnC l order cut m).length ≤ 2 := by
      unfold turnC
      split
      · exact cutC_len _ _
      · simp
    omega
theorem listOk_of {l : List ComV} {n : Nat} (h1 : ∀ c ∈ l, ComOk c) (h2 : ∀ c ∈ l, c.when_.length = n) : ∀ i, i < l.length → listBad l i = 0 := by
  intro i hi
  unfold listBad
  have e : ∀ j, j < l.length → l[j]! ∈ l := fun j hj => by rw [getElem!_pos l j hj]; exact List.getElem_mem _
  rw [if_neg (by rw [comErr_of (h1 _ (e i hi))]; decide), if_neg (by rw [h2 _ (e i hi), h2 _ (e 0 (by omega))]; exact fun h => h rfl)]
theorem listOk_com {l : List ComV} (h : ∀ i, i < l.length → listBad l i = 0) : (∀ c ∈ l, ComOk c) ∧ ∀ c ∈ l, c.when_.length = l[0]!.when_.length := by
  have g : ∀ c ∈ l, (comErr c).1 = 0 ∧ c.when_.length = l[0]!.when_.length := fun c hc => by
    obtain ⟨i, hi, rfl⟩ := List.getElem_of_mem hc
    have := h i hi
    unfold listBad at this
    rw [getElem!_pos l i hi] at this
    split at this
    · rename_i e; exact absurd this e
    · rename_i e
      split at this
      · exact absurd this (by decide)
      · rename_i e2
        exact ⟨by simpa using e, by simpa using e2⟩
  exact ⟨fun c hc => comOk_of (g c hc).1, fun c hc => (g c hc).2⟩
/-- What the rounds make is right where the commits are. -/
theorem turnL_ok {l : List ComV} {order : List Int} {cut : Int} {m : Nat} (h : ∀ i, i < l.length → listBad l i = 0) : ∀ i, i < (turnL l order cut m).length → listBad (turnL l order cut m) i = 0 := by
  obtain ⟨h1, h2⟩ := listOk_com h
  refine listOk_of (n := l[0]!.when_.length) (fun x hx => ?_) (fun x hx => ?_)
  · obtain ⟨c, hc, hx⟩ := turnL_mem hx
    exact comOk_part (h1 c hc) hx
  · obtain ⟨c, hc, hx⟩ := turnL_mem hx
    rw [(cutC_mem hx).1]
    exact h2 c hc
end Go.Proofs.YtngjooemanapnaaGreatDoor
