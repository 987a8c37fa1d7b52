/- A commit's parts are commits; what CheckCommit says of them; What a line of place t hears of one commit and one beat of place f: plain mathematics; The parts of commits of several places may be put, in whatever order; The least of times 0 and 1; what may be read then. -/
import Derived.Test.YtefpnojanldkeaaGreatDoorJLK
import Derived.Test.YtefpnojanldkeaaGreatDoorJTC2
import Derived.Test.YtefpnojanldkeaaGreatDoorJVRefN
import Derived.Test.YtefpnojanldkeaaGreatDoorJLR
import Derived.Test.YtefpnojanldkeaaGreatDoorJWPutB
namespace Go.Proofs.YtefpnojanldkeaaGreatDoor
open Go.RowKit Go.Maps
set_option maxRecDepth 100000
set_option linter.unusedSectionVars false
variable [Inhabited ComV] [DecidableEq D3] [Inhabited D3] [Inhabited Dd] [Inhabited Dn] [Inhabited OpV]

theorem opErr_v (o : OpV) (n : Int) : V.opErr (toO o) n = opErr o n := by
  have h1 : V.foreignB (toO o) = foreignB o := by
    unfold V.foreignB foreignB
    simp only [toO, List.length_map]
    rfl
  have h2 : (o.dots.map toD).all (V.dotB n) = o.dots.all (dotB n) := by
    rw [List.all_map]
    rfl
  unfold V.opErr opErr
  rw [h1]
  show (if n < 1 ∨ 6 < n ∨ o.at_ < 0 ∨ 12 ≤ o.at_ then 2 else if nameB o.key = false then 4 else if kindB o.kind = false then 12 else if foreignB o = true then 3 else if 60 < o.text.size ∨ o.n < -1099511627776 ∨ 1099511627776 < o.n ∨ 60 < (o.dots.map toD).length then 2 else if (o.dots.map toD).all (V.dotB n) = false then 2 else 0) = _
  rw [h2, List.length_map]
theorem opBad_v (n : Int) (os : List OpV) (i : Nat) (hi : i < os.length) : @V.opBad inhO n (os.map toO) i = opBad n os i := by
  have g : ∀ j, j < os.length → @getElem! (List V.OpV) Nat V.OpV _ _ inhO (os.map toO) j = toO os[j]! := fun j hj => by
    letI := inhO
    rw [getElem!_pos os j hj, getElem!_pos (os.map toO) j (by simpa using hj)]
    simp
  unfold V.opBad opBad
  rw [g i hi, opErr_v]
  by_cases h0 : 0 < i
  · rw [g (i - 1) (by omega)]
    rfl
  · rw [if_neg (show ¬ (0 < i ∧ _) from fun e => h0 e.1), if_neg (show ¬ (0 < i ∧ _) from fun e => h0 e.1)]
theorem comE_of {c : ComV} (h : ComOk c) : (comE c).1 = 0 := by
  have hc : V.chk c.when_ = 0 := h.chk
  unfold comE V.comErr
  rw [if_neg (by show ¬ V.chk c.when_ ≠ 0; rw [hc]; simp), if_neg (by
    have h1 := h.lo; have h2 := h.hi; have h3 := h.time; have h4 := h.few
    show ¬ (c.place < 0 ∨ (c.when_.length : Int) ≤ c.place ∨ c.when_.getD c.place.toNat 0 = 0 ∨ 12 < (c.ops.map toO).length)
    rw [List.length_map]
    omega), if_neg (by show ¬ c.ops.map toO = []; simp; exact h.some_)]
  letI := inhD
  letI := inhO
  rw [V.scan_none fun i hi => ?_]
  have hi' : i < c.ops.length := by simpa [toC] using hi
  exact (opBad_v _ _ _ hi').trans (h.ops i hi')
/-- The ops stand by their numbers. -/
def Rising (os : List OpV) : Prop := os.Pairwise fun a b => a.at_ < b.at_
theorem rising_idx (os : List OpV) : Rising (opsIdx os) := by
  unfold Rising
  rw [List.pairwise_iff_getElem]
  intro i j hi hj hij
  have e : ∀ k (hk : k < (opsIdx os).length), ((opsIdx os)[k]).at_ = (k : Nat) := fun k hk => by
    have h1 := opsIdx_get os k
    rw [List.getElem?_eq_getElem hk, List.getElem?_eq_getElem (by rw [opsIdx_len] at hk; exact hk)] at h1
    rw [Option.some.inj h1]
  rw [e i hi, e j hj]
  omega
theorem comOk_part {c : ComV} (h : ComOk c) (hr : Rising c.ops) {k s : Nat} (hn : partOps c.ops k s ≠ []) : ComOk (partV c k s) := by
  refine ⟨h.chk, h.lo, h.hi, h.time, Nat.le_trans (List.length_filter_le _ _) h.few, hn, fun i hi => ?_⟩
  have hi' : i < (partOps c.ops k s).length := hi
  have hmem : (partOps c.ops k s)[i] ∈ c.ops := (List.mem_filter.1 (List.getElem_mem hi')).1
  obtain ⟨j, hj, hje⟩ := List.mem_iff_getElem.1 hmem
  have ho := h.ops j hj
  show opBad c.when_.length (partOps c.ops k s) i = 0
  unfold opBad at ho ⊢
  rw [getElem!_pos c.ops j hj, hje] at ho
  rw [getElem!_pos (partOps c.ops k s) i hi']
  have h0 : opErr (partOps c.ops k s)[i] c.when_.length = 0 := by
    by_cases e : opErr (partOps c.ops k s)[i] c.when_.length = 0
    · exact e
    · rw [if_pos e] at ho
      exact ho
  rw [h0, if_neg (by simp), if_neg]
  rintro ⟨h1, h2⟩
  rw [getElem!_pos (partOps c.ops k s) (i - 1) (by omega)] at h2
  have hp : Rising (partOps c.ops k s) := List.Pairwise.filter _ hr
  have := (List.pairwise_iff_getElem.1 hp) (i - 1) i (by omega) hi' (by omega)
  omega
end Go.Proofs.YtefpnojanldkeaaGreatDoor
namespace Go.Proofs.YtefpnojanldkeaaGreatDoor
set_option maxRecDepth 10000
set_option linter.unusedSectionVars false
variable [Inhabited ComV] [DecidableEq D3] [Inhabited D3] [Inhabited Dd] [Inhabited Dn] [Inhabited OpV]

/-- 1 where the shard has a part. -/
def qS (c : ComV) (k s : Nat) : Nat := if partOps c.ops k s = [] then 0 else 1
def cmM (f t : Nat) (c : ComV) (k s : Nat) : MsgV := ⟨f, t, s, 1, 1, false, partV c k s⟩
def bmM (f t : Nat) (c : ComV) (k s : Nat) : MsgV := ⟨f, t, s, (qS c k s : Nat) + 1, 1, true, ⟨[], 0, []⟩⟩
theorem qS_le (c : ComV) (k s : Nat) : qS c k s ≤ 1 := by unfold qS; split <;> omega
/-- Nothing has come by the line (the beat may be kept). -/
structure Lno (f t : Nat) (c : ComV) (k s : Nat) (y : LnV) : Prop where
  rt : y.rt = 0
  rq : y.rq = 0
  mm : (∀ j, y.mm j = none) ∨ (qS c k s = 1 ∧ ∀ j, y.mm j = if j = 2 then some (bmM f t c k s) else none)
/-- The part has come, if there is one. -/
structure Lyes (c : ComV) (k s : Nat) (y : LnV) : Prop where
  rt : y.rt = 1
  rq : (y.rq = 1 ∧ qS c k s = 1) ∨ y.rq = (qS c k s : Nat) + 1
  mm : ∀ j, y.mm j = none
/-- It is known. -/
def Known (y : LnV) (m : MsgV) : Prop := y.mm m.seq ≠ none ∨ m.seq ≤ y.rq
/-- It is new: what comes, and where the line is then. -/
structure Fresh (y : LnV) (m : MsgV) (cl : List MsgV) : Prop where
  no : y.mm m.seq = none
  lt : y.rq < m.seq
  near : m.seq - (y.rq + 1) ≤ 200
  in_ : HearIn y m cl
theorem hear_c_yes {f t : Nat} {c : ComV} {k s : Nat} {y : LnV} (h : Lyes c k s y) (hq : qS c k s = 1) : Known y (cmM f t c k s) := by
  refine .inr ?_
  show (1 : Int) ≤ y.rq
  rcases h.rq with e | e <;> omega
theorem hear_c_no {f t : Nat} {c : ComV} {k s : Nat} {y : LnV} (h : Lno f t c k s y) (hq : qS c k s = 1) : ∃ cl, Fresh y (cmM f t c k s) cl ∧ (cl = [cmM f t c k s] ∨ cl = [cmM f t c k s, bmM f t c k s]) ∧ Lyes c k s (hearY y (cmM f t c k s) cl) := by
  have e0 := h.rq
  have sb : (bmM f t c k s).seq = 2 := by show ((qS c k s : Nat) : Int) + 1 = 2; omega
  rcases h.mm with hm | ⟨_, hm⟩
  · refine ⟨[cmM f t c k s], ⟨hm _, by rw [e0]; show (0 : Int) < 1; decide, by rw [e0]; show (1 : Int) - (0 + 1) ≤ 200; decide, ⟨by rw [e0]; show (0 : Int) + 1 ≤ 1000; decide, fun i x hx => ?_, ?_⟩⟩, .inl rfl, ⟨rfl, .inl ⟨by show y.rq + 1 = 1; omega, hq⟩, fun j => ?_⟩⟩
    · obtain ⟨rfl, rfl⟩ : i = 0 ∧ x = cmM f t c k s := by
        cases i with
        | zero => exact ⟨rfl, by simpa using hx.symm⟩
        | succ i => simp at hx
      rw [e0]
      exact ⟨if_pos rfl, rfl⟩
    · rw [e0]
      exact (if_neg (show ¬ (0 : Int) + 2 = 1 by decide)).trans (hm _)
    · show comeM _ _ _ j = none
      unfold comeM updM
      rw [e0]
      by_cases e : (0 : Int) < j ∧ j ≤ 0 + ([cmM f t c k s].length : Nat)
      · rw [if_pos e]
      · rw [if_neg e, if_neg (by intro e'; apply e; rw [e']; exact (show (0 : Int) < 1 ∧ (1 : Int) ≤ 0 + 1 by decide))]
        exact hm j
  · refine ⟨[cmM f t c k s, bmM f t c k s], ⟨(hm _).trans (if_neg (show ¬ (1 : Int) = 2 by decide)), by rw [e0]; show (0 : Int) < 1; decide, by rw [e0]; show (1 : Int) - (0 + 1) ≤ 200; decide, ⟨by rw [e0]; show (0 : Int) + 2 ≤ 1000; decide, fun i x hx => ?_, ?_⟩⟩, .inr rfl, ⟨rfl, .inr (by show y.rq + 2 = _; omega), fun j => ?_⟩⟩
    · match i, hx with
      | 0, hx =>
        obtain rfl : cmM f t c k s = x := by simpa using hx
        rw [e0]
        exact ⟨if_pos rfl, rfl⟩
      | 1, hx =>
        obtain rfl : bmM f t c k s = x := by simpa using hx
        rw [e0]
        exact ⟨(if_neg (show ¬ (0 : Int) + 2 = 1 by decide)).trans ((hm _).trans (if_pos (by decide))), sb⟩
      | n + 2, hx => simp at hx
    · rw [e0]
      exact (if_neg (show ¬ (0 : Int) + 3 = 1 by decide)).trans ((hm _).trans (if_neg (show ¬ (0 : Int) + 3 = 2 by decide)))
    · show comeM _ _ _ j = none
      unfold comeM updM
      rw [e0]
      by_cases e : (0 : Int) < j ∧ j ≤ 0 + ([cmM f t c k s, bmM f t c k s].length : Nat)
      · rw [if_pos e]
      · rw [if_neg e, if_neg (by intro e'; apply e; rw [e']; exact (show (0 : Int) < 1 ∧ (1 : Int) ≤ 0 + 2 by decide)), hm j, if_neg (by intro e'; apply e; rw [e']; exact (show (0 : Int) < 2 ∧ (2 : Int) ≤ 0 + 2 by decide))]
theorem hear_b_no {f t : Nat} {c : ComV} {k s : Nat} {y : LnV} (h : Lno f t c k s y) : Known y (bmM f t c k s) ∨ (qS c k s = 1 ∧ Fresh y (bmM f t c k s) [] ∧ Lno f t c k s (hearY y (bmM f t c k s) [])) ∨ (qS c k s = 0 ∧ Fresh y (bmM f t c k s) [bmM f t c k s] ∧ Lyes c k s (hearY y (bmM f t c k s) [bmM f t c k s])) := by
  have e0 := h.rq
  have hle := qS_le c k s
  rcases h.mm with hm | ⟨hq, hm⟩
  · by_cases hq : qS c k s = 1
    · have sb : (bmM f t c k s).seq = 2 := by show ((qS c k s : Nat) : Int) + 1 = 2; omega
      refine .inr (.inl ⟨hq, ⟨hm _, by rw [e0, sb]; decide, by rw [e0, sb]; decide, ⟨by rw [e0]; decide, fun i x hx => by simp at hx, ?_⟩⟩, ⟨h.rt, by show y.rq + 0 = 0; omega, .inr ⟨hq, fun j => ?_⟩⟩⟩)
      · rw [e0]
        unfold updM
        rw [sb]
        exact (if_neg (show ¬ (0 : Int) + 1 = 2 by decide)).trans (hm _)
      · show comeM _ _ _ j = _
        unfold comeM updM
        rw [e0, sb, if_neg (by intro e; have := e.2; have := e.1; simp at *; omega)]
        by_cases e : j = 2
        · rw [if_pos e, if_pos e]
        · rw [if_neg e, if_neg e]
          exact hm j
    · have hq0 : qS c k s = 0 := by omega
      have sb : (bmM f t c k s).seq = 1 := by show ((qS c k s : Nat) : Int) + 1 = 1; omega
      refine .inr (.inr ⟨hq0, ⟨hm _, by rw [e0, sb]; decide, by rw [e0, sb]; decide, ⟨by rw [e0]; show (0 : Int) + 1 ≤ 1000; decide, fun i x hx => ?_, ?_⟩⟩, ⟨rfl, .inr (by show y.rq + 1 = _; omega), fun j => ?_⟩⟩)
      · obtain ⟨rfl, rfl⟩ : i = 0 ∧ x = bmM f t c k s := by
          cases i with
          | zero => exact ⟨rfl, by simpa using hx.symm⟩
          | succ i => simp at hx
        rw [e0]
        unfold updM
        rw [sb]
        exact ⟨if_pos rfl, rfl⟩
      · rw [e0]
        unfold updM
        rw [sb]
        exact (if_neg (show ¬ (0 : Int) + 2 = 1 by decide)).trans (hm _)
      · show comeM _ _ _ j = none
        unfold comeM updM
        rw [e0, sb]
        by_cases e : (0 : Int) < j ∧ j ≤ 0 + ([bmM f t c k s].length : Nat)
        · rw [if_pos e]
        · rw [if_neg e, if_neg (by intro e'; apply e; rw [e']; exact (show (0 : Int) < 1 ∧ (1 : Int) ≤ 0 + 1 by decide))]
          exact hm j
  · refine .inl (.inl ?_)
    have sb : (bmM f t c k s).seq = 2 := by show ((qS c k s : Nat) : Int) + 1 = 2; omega
    rw [sb, hm]
    simp
theorem hear_b_yes {f t : Nat} {c : ComV} {k s : Nat} {y : LnV} (h : Lyes c k s y) : Known y (bmM f t c k s) ∨ (qS c k s = 1 ∧ Fresh y (bmM f t c k s) [bmM f t c k s] ∧ Lyes c k s (hearY y (bmM f t c k s) [bmM f t c k s])) := by
  have hm := h.mm
  rcases h.rq with ⟨e0, hq⟩ | e0
  · have sb : (bmM f t c k s).seq = 2 := by show ((qS c k s : Nat) : Int) + 1 = 2; omega
    refine .inr ⟨hq, ⟨hm _, by rw [e0, sb]; decide, by rw [e0, sb]; decide, ⟨by rw [e0]; show (1 : Int) + 1 ≤ 1000; decide, fun i x hx => ?_, ?_⟩⟩, ⟨rfl, .inr (by show y.rq + 1 = _; omega), fun j => ?_⟩⟩
    · obtain ⟨rfl, rfl⟩ : i = 0 ∧ x = bmM f t c k s := by
        cases i with
        | zero => exact ⟨rfl, by simpa using hx.symm⟩
        | succ i => simp at hx
      rw [e0]
      unfold updM
      rw [sb]
      exact ⟨if_pos rfl, rfl⟩
    · rw [e0]
      unfold updM
      rw [sb]
      exact (if_neg (show ¬ (1 : Int) + 2 = 2 by decide)).trans (hm _)
    · show comeM _ _ _ j = none
      unfold comeM updM
      rw [e0, sb]
      by_cases e : (1 : Int) < j ∧ j ≤ 1 + ([bmM f t c k s].length : Nat)
      · rw [if_pos e]
      · rw [if_neg e, if_neg (by intro e'; apply e; rw [e']; exact (show (1 : Int) < 2 ∧ (2 : Int) ≤ 1 + 1 by decide))]
        exact hm j
  · refine .inl (.inr ?_)
    show ((qS c k s : Nat) : Int) + 1 ≤ y.rq
    omega
theorem lno0 (f t : Nat) (c : ComV) (k s : Nat) : Lno f t c k s lnv0 := ⟨rfl, rfl, .inl fun _ => rfl⟩
end Go.Proofs.YtefpnojanldkeaaGreatDoor
namespace Go.Proofs.YtefpnojanldkeaaGreatDoor
set_option maxRecDepth 10000
set_option linter.unusedSectionVars false
variable [Inhabited ComV] [DecidableEq D3] [Inhabited D3] [Inhabited Dd] [Inhabited Dn] [Inhabited OpV]

theorem rising_inj {os : List OpV} (h : Rising os) {a b : OpV} (ha : a ∈ os) (hb : b ∈ os) (e : a.at_ = b.at_) : a = b := by
  obtain ⟨i, hi, rfl⟩ := List.mem_iff_getElem.1 ha
  obtain ⟨j, hj, rfl⟩ := List.mem_iff_getElem.1 hb
  rcases Nat.lt_trichotomy i j with l | l | l
  · have := (List.pairwise_iff_getElem.1 h) i j hi hj l
    omega
  · subst l; rfl
  · have := (List.pairwise_iff_getElem.1 h) j i hj hi l
    omega
/-- What is known of the commit of each place that commits. -/
structure SrcOk (n : Nat) (C : Nat → ComV) (j : Nat) : Prop where
  ok : ComOk (C j)
  rise : Rising (C j).ops
  len : (C j).when_.length = n
  place : (C j).place = j
  old : leB (C j).when_ (List.replicate n 0) = false
  light : Light (C j)
  small : SmallC (C j)
/-- The part of a place's commit by shard. -/
def partP (C : Nat → ComV) (k : Nat) (p : Nat × Nat) : ComV := partV (C p.1) k p.2
theorem kept_parts {n k : Nat} {C : Nat → ComV} (D : List (Nat × Nat)) (hD : D.Nodup) (hC : ∀ p ∈ D, SrcOk n C p.1) (hn : ∀ p ∈ D, partOps (C p.1).ops k p.2 ≠ []) : KeptL n (D.map (partP C k)) := by
  refine ⟨fun x hx => ?_, fun x hx => ?_, fun x hx => ?_, ?_⟩
  · obtain ⟨p, hp, rfl⟩ := List.mem_map.1 hx
    exact comOk_part (hC p hp).ok (hC p hp).rise (hn p hp)
  · obtain ⟨p, hp, rfl⟩ := List.mem_map.1 hx
    exact (hC p hp).len
  · obtain ⟨p, hp, rfl⟩ := List.mem_map.1 hx
    exact (hC p hp).old
  · induction D with
    | nil => simp
    | cons p D ih =>
      rw [List.map_cons, List.flatMap_cons, List.nodup_append]
      have hD' := List.nodup_cons.1 hD
      have hp := hC p (by simp)
      refine ⟨dotsC_nodup (comOk_part hp.ok hp.rise (hn p (by simp))), ih hD'.2 (fun t ht => hC t (by simp [ht])) fun t ht => hn t (by simp [ht]), fun a ha b hb e => ?_⟩
      subst e
      obtain ⟨o, h1, h2⟩ := List.mem_map.1 ha
      obtain ⟨x, h3, h4⟩ := List.mem_flatMap.1 hb
      obtain ⟨t, ht, rfl⟩ := List.mem_map.1 h3
      obtain ⟨o', h5, h6⟩ := List.mem_map.1 h4
      have m1 := List.mem_filter.1 h1
      have m2 := List.mem_filter.1 h5
      have e6 := h2.trans h6.symm
      have ea : o.at_ = o'.at_ := by injection e6
      have ep : (C p.1).place = (C t.1).place := by injection e6
      have e1 : p.1 = t.1 := by
        rw [hp.place, (hC t (by simp [ht])).place] at ep
        omega
      have m2' : o' ∈ (C p.1).ops := by rw [e1]; exact m2.1
      have eo := rising_inj hp.rise m1.1 m2' ea
      subst eo
      have q1 := of_decide_eq_true m1.2
      have q2 := of_decide_eq_true m2.2
      have e2 : p.2 = t.2 := q1.symm.trans q2
      have : p = t := Prod.ext e1 e2
      subst this
      exact hD'.1 ht
theorem put_part {n k : Nat} {C : Nat → ComV} {D : List (Nat × Nat)} {p : Nat × Nat} (hD : (D ++ [p]).Nodup) (hC : ∀ t ∈ D ++ [p], SrcOk n C t.1) (hn : ∀ t ∈ D ++ [p], partOps (C t.1).ops k t.2 ≠ []) : PutOk (stOf n (D.map (partP C k))) (partP C k p) := by
  have e := kept_parts (D ++ [p]) hD hC hn
  rw [List.map_append] at e
  exact KeptL.put e
theorem small_part {c : ComV} (h : SmallC c) (k s : Nat) : SmallC (partV c k s) := ⟨h.1, Nat.le_trans (List.length_filter_le _ _) h.2.1, fun o ho => h.2.2 o (List.mem_filter.1 ho).1⟩
end Go.Proofs.YtefpnojanldkeaaGreatDoor
namespace Go.Proofs.YtefpnojanldkeaaGreatDoor
set_option maxRecDepth 10000
set_option linter.unusedSectionVars false
variable [Inhabited ComV] [DecidableEq D3] [Inhabited D3] [Inhabited Dd] [Inhabited Dn] [Inhabited OpV]

theorem least_ge {rt : Nat → Int} {x : Int} (hx : x ≤ 1099511627776) : ∀ {k : Nat}, (∀ s, s < k → x ≤ rt s) → x ≤ leastT rt k
  | 0, _ => hx
  | k + 1, h => by
    have h1 := least_ge hx (k := k) fun s hs => h s (by omega)
    have h2 := h k (by omega)
    show x ≤ min (leastT rt k) (rt k)
    omega
theorem least_le {rt : Nat → Int} : ∀ {k s : Nat}, s < k → leastT rt k ≤ rt s
  | k + 1, s, h => by
    show min (leastT rt k) (rt k) ≤ rt s
    by_cases e : s = k
    · subst e; omega
    · have := least_le (rt := rt) (k := k) (s := s) (by omega)
      omega
theorem least_all {rt : Nat → Int} {k : Nat} (hk : 1 ≤ k) (h : ∀ s, s < k → rt s = 1) : leastT rt k = 1 := by
  have h1 := least_ge (rt := rt) (x := 1) (by decide) (k := k) fun s hs => by rw [h s hs]; decide
  have h2 := least_le (rt := rt) (k := k) (s := 0) (by omega)
  rw [h 0 (by omega)] at h2
  omega
theorem least_none {rt : Nat → Int} {k s : Nat} (h : ∀ s, s < k → rt s = 0 ∨ rt s = 1) (hs : s < k) (h0 : rt s = 0) : leastT rt k = 0 := by
  have h1 := least_ge (rt := rt) (x := 0) (by decide) (k := k) fun s hs => by rcases h s hs with e | e <;> rw [e] <;> decide
  have h2 := least_le (rt := rt) (k := k) hs
  omega
/-- What is seen is a part of one op of the key, of a commit within the vector. -/
theorem seen_mem {C : Nat → ComV} {n k : Nat} {D : List (Nat × Nat)} {at_ : List Int} {key : ByteArray} {x : ComV} (h : x ∈ seenL (stOf n (D.map (partP C k))) key at_) : ∃ p ∈ D, ∃ o ∈ (C p.1).ops, x = partC (C p.1) o ∧ o.key = key ∧ shardN o.key k = p.2 ∧ leB (C p.1).when_ at_ = true := by
  have h0 := List.mem_filter.1 h
  have h1 := List.mem_filter.1 h0.1
  obtain ⟨y, h2, h3⟩ := List.mem_flatMap.1 h1.1
  obtain ⟨p, hp, rfl⟩ := List.mem_map.1 h2
  obtain ⟨o, ho, rfl⟩ := List.mem_map.1 h3
  have ho' := List.mem_filter.1 ho
  exact ⟨p, hp, o, ho'.1, rfl, of_decide_eq_true h1.2, of_decide_eq_true ho'.2, h0.2⟩
/-- Where the part of its shard has come, an op of the key is seen. -/
theorem seen_some {C : Nat → ComV} {n k j : Nat} {D : List (Nat × Nat)} {at_ : List Int} (h : leB (C j).when_ at_ = true) {o : OpV} (ho : o ∈ (C j).ops) (hs : (j, shardN o.key k) ∈ D) : partC (C j) o ∈ seenL (stOf n (D.map (partP C k))) o.key at_ := by
  have e : partC (partP C k (j, shardN o.key k)) o = partC (C j) o := rfl
  refine List.mem_filter.2 ⟨List.mem_filter.2 ⟨List.mem_flatMap.2 ⟨partP C k (j, shardN o.key k), List.mem_map.2 ⟨_, hs, rfl⟩, List.mem_map.2 ⟨o, List.mem_filter.2 ⟨ho, by simp⟩, e⟩⟩, ?_⟩, h⟩
  simp [keyOfC, partC]
/-- Nothing is seen: no value. -/
theorem isOps_nil {key : ByteArray} {ds : List Dn} (h : IsOps key [] ds) : ds = [] := by
  obtain ⟨ys, ⟨h1, _⟩, rfl⟩ := h
  have : ys = [] := List.Perm.eq_nil (by simpa [onceA] using h1)
  rw [this]
  rfl
/-- Ops of one key, all counters: the value is a counter. -/
theorem isOps_two {key : ByteArray} {l : List ComV} {ds : List Dn} (h : IsOps key l ds) (h1 : OneDot l) (hne : flatA l ≠ []) (hk : ∀ d ∈ flatA l, d.o.key = key ∧ d.o.kind = 2) : ds ≠ [] ∧ (∀ d ∈ ds, d.o.kind = 2) ∧ ds.Perm (onceA l) := by
  obtain ⟨ys, ⟨hp, _⟩, rfl⟩ := h
  have e : ((onceA l).filter fun x => decide (x.o.key = key)) = onceA l := List.filter_eq_self.2 fun d hd => decide_eq_true (hk d ((mem_onceA h1 d).1 hd)).1
  rw [e] at hp
  have hy : ∀ d ∈ ys, d.o.kind = 2 := fun d hd => (hk d ((mem_onceA h1 d).1 (hp.mem_iff.1 hd))).2
  have hy0 : ys ≠ [] := fun e0 => by
    obtain ⟨d, hd⟩ := List.exists_mem_of_ne_nil _ hne
    have := hp.mem_iff.2 ((mem_onceA h1 d).2 hd)
    rw [e0] at this
    simp at this
  have e0 : ofKind ys = ys := List.filter_eq_self.2 fun d hd => by
    have h0 : 0 < ys.length := List.length_pos_iff.2 hy0
    have : ys[0]!.o.kind = 2 := by rw [getElem!_pos ys 0 h0]; exact hy _ (List.getElem_mem _)
    rw [this, hy d hd]
    decide
  rw [e0]
  exact ⟨hy0, hy, hp⟩
theorem valA_two {ds : List Dn} (h0 : ds ≠ []) (h : ∀ d ∈ ds, d.o.kind = 2) : (valA ds).kind = 2 ∧ (valA ds).n = sumN ds := by
  have hl : 0 < ds.length := List.length_pos_iff.2 h0
  have e : ds[0]!.o.kind = 2 := by rw [getElem!_pos ds 0 hl]; exact h _ (List.getElem_mem _)
  unfold valA
  rw [if_neg h0, e]
  exact ⟨rfl, rfl⟩
end Go.Proofs.YtefpnojanldkeaaGreatDoor
