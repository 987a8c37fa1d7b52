/- A counter's commits; a text is in a set if it has dots: plain mathematics; What the reference makes of ops: insertion, which ops are live: plain mathematics; Rising texts, each once; rising dots; the value that the reference makes: plain mathematics; The reference's ahead and lessDot by their contracts. -/
import Derived.Test.YtdnebclemngdcaaGreatDoorJVTurnM
import Derived.Test.YtdnebclemngdcaaGreatDoorJVSetsI
namespace Go.Proofs.YtdnebclemngdcaaGreatDoor
open Go.RowKit
set_option linter.unusedSectionVars false
variable [Inhabited ComV] [DecidableEq D3] [Inhabited D3] [Inhabited Dd] [Inhabited Dn] [Inhabited OpV]

theorem mem_compactUpTo {α : Type} [Inhabited α] [DecidableEq α] (d : Array α) (x : α) : ∀ m, x ∈ Lib.compactUpTo d m ↔ ∃ j, j < m ∧ d[j]! = x := by
  intro m
  induction m with
  | zero => simp [Lib.compactUpTo]
  | succ m ih =>
    rw [Lib.compactUpTo_succ, List.mem_append, ih]
    constructor
    · rintro (⟨j, h1, h2⟩ | h)
      · exact ⟨j, by omega, h2⟩
      · split at h
        · exact ⟨m, by omega, (List.mem_singleton.1 h).symm⟩
        · simp at h
    · rintro ⟨j, h1, h2⟩; rcases Nat.lt_or_ge j m with h | h
      · exact .inl ⟨j, h, h2⟩
      · obtain rfl : j = m := by omega
        by_cases hk : Lib.keeps d j = true
        · exact .inr (by rw [if_pos hk]; exact List.mem_singleton.2 h2.symm)
        · have hj : j ≠ 0 := fun e => hk (by subst e; exact Lib.keeps_lt_one d 0 (by decide))
          have he : d[j]! = d[j - 1]! := by
            rcases Decidable.em (d[j]! = d[j - 1]!) with h | h
            · exact h
            · exact absurd (Lib.keeps_pos h) hk
          exact .inl ⟨j - 1, by omega, by rw [← he]; exact h2⟩
theorem mem_compact {α : Type} [Inhabited α] [DecidableEq α] (l : List α) (x : α) : x ∈ Lib.compact l ↔ x ∈ l := by
  unfold Lib.compact; rw [mem_compactUpTo]
  constructor
  · rintro ⟨j, h1, h2⟩; rw [getElem!_pos l.toArray j (by simpa using h1)] at h2; rw [← h2]; simp
  · intro h; obtain ⟨j, h1, h2⟩ := List.getElem_of_mem h; exact ⟨j, h1, by rw [getElem!_pos l.toArray j (by simpa using h1)]; simpa using h2⟩
theorem sum_perm {a b : List Dn} (h : a.Perm b) : ∀ s : Int, a.foldl (fun s d => s + d.o.n) s = b.foldl (fun s d => s + d.o.n) s := by
  induction h with
  | nil => intro s; rfl
  | cons x _ ih => intro s; exact ih _
  | swap x y l => intro s; simp only [List.foldl_cons]; congr 1; omega
  | trans _ _ ih1 ih2 => intro s; exact (ih1 s).trans (ih2 s)
end Go.Proofs.YtdnebclemngdcaaGreatDoor
namespace Go.Proofs.YtdnebclemngdcaaGreatDoor
open Go.RowKit
set_option linter.unusedSectionVars false
variable [Inhabited ComV] [DecidableEq D3] [Inhabited D3] [Inhabited Dd] [Inhabited Dn] [Inhabited OpV]

theorem ltN_asymm {x y : Dn} (h : ltN x y = true) : ltN y x = false := by
  obtain ⟨_, ⟨p, t, a⟩, wx⟩ := x; obtain ⟨_, ⟨p', t', a'⟩, wy⟩ := y; simp only [ltN, ltD, decide_eq_false_iff_not, decide_eq_true_eq] at h ⊢; omega
theorem ltN_le_trans {x z z' : Dn} (h1 : ltN z x = false) (h2 : ltN z' z = false) : ltN z' x = false := by
  obtain ⟨_, ⟨p, t, a⟩, wx⟩ := x; obtain ⟨_, ⟨p', t', a'⟩, wy⟩ := z; obtain ⟨_, ⟨p2, t2, a2⟩, wz⟩ := z'; simp only [ltN, ltD, decide_eq_false_iff_not, decide_eq_true_eq] at h1 h2 ⊢; omega
def insAt (p : Dn → Bool) (out : List Dn) (x : Dn) : List Dn := out.takeWhile p ++ x :: out.dropWhile p
def insN (out : List Dn) (x : Dn) : List Dn := insAt (fun y => ltN y x) out x
def sortR (l : List Dn) : List Dn := l.foldl insN []
theorem insN_perm (out : List Dn) (x : Dn) : (insN out x).Perm (out ++ [x]) := by
  unfold insN insAt; have h1 : (out.takeWhile (fun y => ltN y x) ++ x :: out.dropWhile (fun y => ltN y x)).Perm (x :: (out.takeWhile (fun y => ltN y x) ++ out.dropWhile (fun y => ltN y x))) := List.perm_middle; rw [List.takeWhile_append_dropWhile] at h1; exact h1.trans (List.perm_append_singleton x out).symm
theorem sortR_perm_aux (l : List Dn) : ∀ acc, (l.foldl insN acc).Perm (acc ++ l) := by
  induction l with
  | nil => intro acc; simp
  | cons x r ih =>
    intro acc; have h := (ih (insN acc x)).trans ((insN_perm acc x).append_right r)
    simpa using h
theorem sortR_perm (l : List Dn) : (sortR l).Perm l := by simpa [sortR] using sortR_perm_aux l []
def Sorted (l : List Dn) : Prop := l.Pairwise (fun a b => ltN b a = false)
theorem mem_drop_le {x : Dn} : ∀ {out : List Dn}, Sorted out → ∀ z ∈ out.dropWhile (fun y => ltN y x), ltN z x = false
  | [], _, z, hz => by simp at hz
  | y :: r, hs, z, hz => by
    have hs' := List.pairwise_cons.1 hs
    by_cases h : ltN y x = true
    · rw [List.dropWhile_cons_of_pos (p := fun y => ltN y x) h] at hz; exact mem_drop_le hs'.2 z hz
    · rw [List.dropWhile_cons_of_neg (p := fun y => ltN y x) h] at hz; have hy : ltN y x = false := by simpa using h
      rcases List.mem_cons.1 hz with rfl | hz
      · exact hy
      · exact ltN_le_trans hy (hs'.1 z hz)
theorem mem_take_lt {x : Dn} : ∀ {out : List Dn}, ∀ z ∈ out.takeWhile (fun y => ltN y x), ltN z x = true
  | [], z, hz => by simp at hz
  | y :: r, z, hz => by
    by_cases h : ltN y x = true
    · rw [List.takeWhile_cons_of_pos (p := fun y => ltN y x) h] at hz; rcases List.mem_cons.1 hz with rfl | hz
      · exact h
      · exact mem_take_lt z hz
    · rw [List.takeWhile_cons_of_neg (p := fun y => ltN y x) h] at hz; simp at hz
theorem insN_sorted {out : List Dn} (h : Sorted out) (x : Dn) : Sorted (insN out x) := by
  unfold insN insAt Sorted
  have hsplit : (out.takeWhile (fun y => ltN y x) ++ out.dropWhile (fun y => ltN y x)).Pairwise (fun a b => ltN b a = false) := by
    rw [List.takeWhile_append_dropWhile]; exact h
  rw [List.pairwise_append] at hsplit; rw [List.pairwise_append]; refine ⟨hsplit.1, List.pairwise_cons.2 ⟨fun z hz => mem_drop_le h z hz, hsplit.2.1⟩, fun a ha b hb => ?_⟩; rcases List.mem_cons.1 hb with rfl | hb
  · exact ltN_asymm (mem_take_lt a ha)
  · exact hsplit.2.2 a ha b hb
theorem sortR_sorted (l : List Dn) : Sorted (sortR l) := by
  have : ∀ (l acc : List Dn), Sorted acc → Sorted (l.foldl insN acc) := by
    intro l
    induction l with
    | nil => intro acc h; exact h
    | cons x r ih => intro acc h; exact ih _ (insN_sorted h x)
  exact this l [] List.Pairwise.nil
def opsR (key : ByteArray) (l : List ComV) : List Dn := ofKind (sortR ((onceA l).filter fun x => decide (x.o.key = key)))
theorem opsR_isOps (key : ByteArray) (l : List ComV) : IsOps key l (opsR key l) := ⟨_, ⟨sortR_perm _, sortR_sorted _⟩, rfl⟩

/-! ### live -/
theorem addStep_other (ds : List Dn) : ∀ (M : D3 → Option ByteArray) (d : D3), (∀ z ∈ ds, z.dot ≠ d) → (ds.foldl addStep M) d = M d := by
  induction ds with
  | nil => intro M d _; rfl
  | cons y r ih =>
    intro M d h; rw [List.foldl_cons, ih _ d (fun z hz => h z (List.mem_cons_of_mem _ hz))]; unfold addStep
    split
    · rfl
    · unfold upd; rw [if_neg (fun e => h y (List.mem_cons_self ..) e.symm)]
theorem addStep_at (ds : List Dn) (hd : ds.Pairwise (fun x y => x.dot ≠ y.dot)) : ∀ (M : D3 → Option ByteArray), ∀ x ∈ ds, (ds.foldl addStep M) x.dot = if x.o.rem = true then M x.dot else some x.o.text := by
  induction ds with
  | nil => intro M x hx; simp at hx
  | cons y r ih =>
    intro M x hx; have hd' := List.pairwise_cons.1 hd; rw [List.foldl_cons]; rcases List.mem_cons.1 hx with rfl | hx
    · rw [addStep_other r _ _ (fun z hz => (hd'.1 z hz).symm)]; unfold addStep
      split
      · rfl
      · unfold upd; rw [if_pos rfl]
    · rw [ih hd'.2 _ x hx]
      split
      · unfold addStep
        split
        · rfl
        · unfold upd; rw [if_neg (hd'.1 x hx).symm]
      · rfl
theorem delFold (t : ByteArray) (ds : List D3) : ∀ (M : D3 → Option ByteArray) (d : D3), (ds.foldl (delStep t) M) d = if d ∈ ds ∧ (M d).getD ByteArray.empty = t then none else M d := by
  induction ds with
  | nil => intro M d; simp
  | cons e r ih =>
    intro M d; rw [List.foldl_cons, ih]
    by_cases he : d = e
    · subst he
      by_cases ht : (M d).getD ByteArray.empty = t
      · have h1 : delStep t M d d = none := by
          unfold delStep; rw [if_pos ht]; unfold upd; rw [if_pos rfl]
        rw [h1]; rw [if_pos (c := d ∈ d :: r ∧ (M d).getD ByteArray.empty = t) ⟨List.mem_cons_self .., ht⟩]
        split <;> rfl
      · have h1 : delStep t M d d = M d := by
          unfold delStep; rw [if_neg ht]
        rw [h1, if_neg (fun h => ht h.2), if_neg (fun h => ht h.2)]
    · have h1 : delStep t M e d = M d := by
        unfold delStep
        split
        · unfold upd; rw [if_neg he]
        · rfl
      rw [h1]; have : d ∈ e :: r ↔ d ∈ r := by rw [List.mem_cons]; exact ⟨fun h => h.resolve_left he, .inr⟩
      simp only [this]
theorem remFold (ds : List Dn) : ∀ (M : D3 → Option ByteArray) (d : D3), (ds.foldl remStep M) d = if ∃ y ∈ ds, d ∈ y.o.dots ∧ (M d).getD ByteArray.empty = y.o.text then none else M d := by
  induction ds with
  | nil => intro M d; simp
  | cons y r ih =>
    intro M d; rw [List.foldl_cons, ih]; have h1 : remStep M y d = if d ∈ y.o.dots ∧ (M d).getD ByteArray.empty = y.o.text then none else M d := delFold _ _ _ _
    by_cases hy : d ∈ y.o.dots ∧ (M d).getD ByteArray.empty = y.o.text
    · rw [h1, if_pos hy, if_pos (c := ∃ z ∈ y :: r, d ∈ z.o.dots ∧ (M d).getD ByteArray.empty = z.o.text) ⟨y, List.mem_cons_self .., hy⟩]
      split <;> rfl
    · rw [h1, if_neg hy]
      by_cases hr : ∃ z ∈ r, d ∈ z.o.dots ∧ (M d).getD ByteArray.empty = z.o.text
      · obtain ⟨z, hz, h⟩ := hr; rw [if_pos ⟨z, hz, h⟩, if_pos ⟨z, List.mem_cons_of_mem _ hz, h⟩]
      · rw [if_neg hr, if_neg (fun ⟨z, hz, h⟩ => by
          rcases List.mem_cons.1 hz with rfl | hz
          · exact hy h
          · exact hr ⟨z, hz, h⟩)]
def liveB (ds : List Dn) (x : Dn) : Bool := !x.o.rem && !(ds.any fun y => y.o.rem && (decide (y.o.text = x.o.text) && decide (x.dot ∈ y.o.dots)))
theorem live_final {ds : List Dn} (hd : ds.Pairwise (fun x y => x.dot ≠ y.dot)) (hr : ∀ y ∈ ds, y.o.rem = false → y.o.dots = []) : ∀ x ∈ ds, (finalMap ds x.dot).isSome = liveB ds x := by
  intro x hx; unfold finalMap liveB; rw [remFold, addStep_at ds hd _ x hx]
  cases hrem : x.o.rem with
  | true => simp
  | false =>
    simp only [Bool.false_eq_true, if_false, Option.getD_some]
    by_cases hy : ∃ y ∈ ds, x.dot ∈ y.o.dots ∧ x.o.text = y.o.text
    · rw [if_pos hy]; obtain ⟨y, hym, h1, h2⟩ := hy
      have hyr : y.o.rem = true := by
        cases h : y.o.rem with
        | true => rfl
        | false => rw [hr y hym h] at h1; simp at h1
      have : (ds.any fun y => y.o.rem && (decide (y.o.text = x.o.text) && decide (x.dot ∈ y.o.dots))) = true := List.any_eq_true.2 ⟨y, hym, by simp [hyr, h2, h1]⟩; rw [this]; rfl
    · rw [if_neg hy]
      have : (ds.any fun y => y.o.rem && (decide (y.o.text = x.o.text) && decide (x.dot ∈ y.o.dots))) = false := List.any_eq_false.2 fun y hym h => hy ⟨y, hym, by
        simp only [Bool.and_eq_true, decide_eq_true_eq] at h; exact ⟨h.2.2, h.2.1.symm⟩⟩
      rw [this]; rfl
end Go.Proofs.YtdnebclemngdcaaGreatDoor
namespace Go.Proofs.YtdnebclemngdcaaGreatDoor
open Go.RowKit
set_option linter.unusedSectionVars false
variable [Inhabited ComV] [DecidableEq D3] [Inhabited D3] [Inhabited Dd] [Inhabited Dn] [Inhabited OpV]

abbrev Tx := List UInt8
def enterL (l : List Tx) (s : Tx) : List Tx :=
  l.takeWhile (fun x => decide (x < s)) ++ (if (l.dropWhile (fun x => decide (x < s))).head? = some s then l.dropWhile (fun x => decide (x < s)) else s :: l.dropWhile (fun x => decide (x < s)))
def Rise (l : List Tx) : Prop := l.Pairwise (· < ·)
theorem take_lt {s : Tx} : ∀ {l : List Tx}, ∀ z ∈ l.takeWhile (fun x => decide (x < s)), z < s
  | [], z, hz => by simp at hz
  | y :: r, z, hz => by
    by_cases h : y < s
    · rw [List.takeWhile_cons_of_pos (p := fun x => decide (x < s)) (decide_eq_true h)] at hz; rcases List.mem_cons.1 hz with rfl | hz
      · exact h
      · exact take_lt z hz
    · rw [List.takeWhile_cons_of_neg (p := fun x => decide (x < s)) (by simpa using h)] at hz; simp at hz
theorem drop_ge {s : Tx} : ∀ {l : List Tx}, Rise l → ∀ z ∈ l.dropWhile (fun x => decide (x < s)), s ≤ z
  | [], _, z, hz => by simp at hz
  | y :: r, hs, z, hz => by
    have hs' := List.pairwise_cons.1 hs
    by_cases h : y < s
    · rw [List.dropWhile_cons_of_pos (p := fun x => decide (x < s)) (decide_eq_true h)] at hz; exact drop_ge hs'.2 z hz
    · rw [List.dropWhile_cons_of_neg (p := fun x => decide (x < s)) (by simpa using h)] at hz; have hy : s ≤ y := List.not_lt.1 h; rcases List.mem_cons.1 hz with rfl | hz
      · exact hy
      · exact List.le_iff_lt_or_eq.2 (.inl (List.lt_of_le_of_lt hy (hs'.1 z hz)))
theorem enterL_mem (l : List Tx) (s x : Tx) : x ∈ enterL l s ↔ x = s ∨ x ∈ l := by
  have hl : x ∈ l ↔ x ∈ l.takeWhile (fun x => decide (x < s)) ∨ x ∈ l.dropWhile (fun x => decide (x < s)) := by
    rw [← List.mem_append, List.takeWhile_append_dropWhile]
  unfold enterL; rw [List.mem_append, hl]
  split
  · rename_i h
    have hm : s ∈ l.dropWhile (fun x => decide (x < s)) := List.mem_of_mem_head? (by rw [h]; rfl)
    constructor
    · rintro (h1 | h1)
      · exact .inr (.inl h1)
      · exact .inr (.inr h1)
    · rintro (rfl | h1 | h1)
      · exact .inr hm
      · exact .inl h1
      · exact .inr h1
  · rw [List.mem_cons]
    constructor
    · rintro (h1 | h1 | h1)
      · exact .inr (.inl h1)
      · exact .inl h1
      · exact .inr (.inr h1)
    · rintro (h1 | h1 | h1)
      · exact .inr (.inl h1)
      · exact .inl h1
      · exact .inr (.inr h1)
theorem enterL_rise {l : List Tx} (h : Rise l) (s : Tx) : Rise (enterL l s) := by
  have hsplit : (l.takeWhile (fun x => decide (x < s)) ++ l.dropWhile (fun x => decide (x < s))).Pairwise (· < ·) := by
    rw [List.takeWhile_append_dropWhile]; exact h
  rw [List.pairwise_append] at hsplit; unfold enterL Rise; rw [List.pairwise_append]
  split
  · exact hsplit
  · rename_i hne
    refine ⟨hsplit.1, List.pairwise_cons.2 ⟨fun z hz => ?_, hsplit.2.1⟩, fun a ha b hb => ?_⟩
    · rcases List.le_iff_lt_or_eq.1 (drop_ge h z hz) with h1 | h1
      · exact h1
      · subst h1
        exfalso
        cases hd : l.dropWhile (fun x => decide (x < s)) with
        | nil => rw [hd] at hz; simp at hz
        | cons y r =>
          rw [hd] at hz hne; have h2 := hsplit.2.1; rw [hd] at h2; rcases List.mem_cons.1 hz with rfl | hz
          · exact hne rfl
          · have h3 := (List.pairwise_cons.1 h2).1 _ hz; have h4 := drop_ge h y (by rw [hd]; exact List.mem_cons_self ..); exact List.lt_irrefl s (List.lt_of_le_of_lt h4 h3)
    · rcases List.mem_cons.1 hb with rfl | hb
      · exact take_lt a ha
      · exact hsplit.2.2 a ha b hb
def enters (ts : List Tx) : List Tx := ts.foldl enterL []
theorem enters_aux (ts : List Tx) : ∀ acc, Rise acc → Rise (ts.foldl enterL acc) ∧ ∀ x, x ∈ ts.foldl enterL acc ↔ x ∈ acc ∨ x ∈ ts := by
  induction ts with
  | nil => intro acc h; exact ⟨h, fun x => by simp⟩
  | cons t r ih =>
    intro acc h; obtain ⟨h1, h2⟩ := ih (enterL acc t) (enterL_rise h t); refine ⟨h1, fun x => ?_⟩; rw [List.foldl_cons, h2, enterL_mem, List.mem_cons]
    constructor
    · rintro ((h | h) | h)
      · exact .inr (.inl h)
      · exact .inl h
      · exact .inr (.inr h)
    · rintro (h | h | h)
      · exact .inl (.inr h)
      · exact .inl (.inl h)
      · exact .inr h
theorem rise_unique {a b : List Tx} (ha : Rise a) (hb : Rise b) (h : ∀ x, x ∈ a ↔ x ∈ b) : a = b := by
  have ne : ∀ {l : List Tx}, Rise l → l.Pairwise (· ≠ ·) := fun h => List.Pairwise.imp (fun {x y} (hx : x < y) (e : x = y) => List.lt_irrefl y (by rw [e] at hx; exact hx)) h
  have hp : a.Perm b := perm_of_mem (ne ha) (ne hb) h; exact hp.eq_of_pairwise (fun x y _ _ h1 h2 => absurd h2 (List.lt_asymm h1)) ha hb
theorem sort_le (l : List Tx) : (l.mergeSort fun x y => decide (x ≤ y)).Pairwise (fun a b => a ≤ b) :=
  (List.pairwise_mergeSort (fun a b c h g => by simp at *; exact List.le_trans h g) (fun a b => by simpa using List.le_total a b) l).imp fun h => of_decide_eq_true h
theorem compactUpTo_rise (l : List Tx) (h : l.Pairwise (fun a b => a ≤ b)) : ∀ m, m ≤ l.length → Rise (Lib.compactUpTo l.toArray m) := by
  have hle : ∀ i j, i ≤ j → j < l.length → l.toArray[i]! ≤ l.toArray[j]! := fun i j hij hj => by
    rcases Nat.lt_or_ge i j with h1 | h1
    · have := List.pairwise_iff_getElem.1 h i j (by omega) hj h1; rw [getElem!_pos l.toArray i (by simp; omega), getElem!_pos l.toArray j (by simpa using hj)]
      simpa using this
    · obtain rfl : i = j := by omega
      exact List.le_refl _
  intro m
  induction m with
  | zero => intro _; simp [Lib.compactUpTo, Rise]
  | succ m ih =>
    intro hm; rw [Lib.compactUpTo_succ]; unfold Rise; rw [List.pairwise_append]; refine ⟨ih (by omega), ?_, fun a ha b hb => ?_⟩
    · split <;> simp
    · split at hb
      · rename_i hk
        obtain rfl := List.mem_singleton.1 hb; obtain ⟨j, hj, rfl⟩ := (mem_compactUpTo _ _ _).1 ha; have hm0 : m ≠ 0 := by omega
        have hne : l.toArray[m]! ≠ l.toArray[m - 1]! := by
          unfold Lib.keeps at hk; have := of_decide_eq_true hk; exact this.resolve_left hm0
        have h1 := hle j (m - 1) (by omega) (by omega); have h2 := hle (m - 1) m (by omega) (by omega); rcases List.le_iff_lt_or_eq.1 h2 with h3 | h3
        · exact List.lt_of_le_of_lt h1 h3
        · exact absurd h3.symm hne
      · simp at hb
theorem setA_rise (ts : List ByteArray) : Rise (setA ts) := compactUpTo_rise _ (sort_le _) _ (Nat.le_refl _)
theorem enters_setA (ts : List ByteArray) : enters (ts.map (·.data.toList)) = setA ts := by
  obtain ⟨h1, h2⟩ := enters_aux (ts.map (·.data.toList)) [] List.Pairwise.nil; refine rise_unique h1 (setA_rise ts) fun x => ?_
  unfold enters; rw [h2]; unfold setA; rw [mem_compact, List.mem_mergeSort]; simp
end Go.Proofs.YtdnebclemngdcaaGreatDoor
namespace Go.Proofs.YtdnebclemngdcaaGreatDoor
open Go.RowKit Go.Sort Go.Maps
set_option maxRecDepth 100000
set_option linter.unusedSectionVars false
variable [Inhabited ComV] [DecidableEq D3] [Inhabited D3] [Inhabited Dd] [Inhabited Dn] [Inhabited OpV]

set_option maxHeartbeats 2000000 in
theorem ahead_any (w : World) (x y : Dd) : Calls Tryz.prog 89 #[.agg x.enc.toArray, .agg y.enc.toArray] w fun e w' => e = .returned (.bool (ltN x.abs y.abs)) ∧ w' = (w.alloc (.cells x.enc.toArray 113)).alloc (.cells y.enc.toArray 113) := by
  obtain ⟨x1, x2, x3, x4, x5, x6, xp, xl, xc, ⟨x8, x9, x10⟩, x11, xd⟩ := x; obtain ⟨y1, y2, y3, y4, y5, y6, yp, yl, yc, ⟨y8, y9, y10⟩, y11, yd⟩ := y; obtain ⟨r, hr⟩ : ∃ r, r = ltN (Dd.abs ⟨x1, x2, x3, x4, x5, x6, xp, xl, xc, ⟨x8, x9, x10⟩, x11, xd⟩) (Dd.abs ⟨y1, y2, y3, y4, y5, y6, yp, yl, yc, ⟨y8, y9, y10⟩, y11, yd⟩) := ⟨_, rfl⟩; rw [← hr]
  have hr' : r = decide (x11 < y11 ∨ x11 = y11 ∧ (x8 < y8 ∨ x8 = y8 ∧ (x9 < y9 ∨ x9 = y9 ∧ x10 < y10))) := by
    rw [hr]; unfold ltN ltD Dd.abs; simp only [decide_eq_true_eq]
  have HR := hid hr'; clear hr hr'; show Calls Tryz.prog 89 #[.agg #[.int .i64 x1, .string x2, .int .i64 x3, .string x4, .int .i64 x5, .bool x6, .slice xp xl xc, .int .i64 x8, .int .i64 x9, .int .i64 x10, .int .i64 x11], .agg #[.int .i64 y1, .string y2, .int .i64 y3, .string y4, .int .i64 y5, .bool y6, .slice yp yl yc, .int .i64 y8, .int .i64 y9, .int .i64 y10, .int .i64 y11]] w _
  by_cases h1 : x11 = y11
  · subst h1; have b1 : (x11 != x11) = false := by simp
    by_cases h2 : x8 = y8
    · subst h2; have b2 : (x8 != x8) = false := by simp
      by_cases h3 : x9 = y9
      · subst h3; have b3 : (x9 != x9) = false := by simp
        go_enter Tryz.func89, Tryz.ntmps89; go_wp2; go_ret; exact ⟨ret_bool (by rw [HR.out]; simp), rfl⟩
      · have b3 : (x9 != y9) = true := by simpa using h3
        have H3 := hid h3; clear h3; go_enter Tryz.func89, Tryz.ntmps89; go_wp2; go_ret; exact ⟨ret_bool (by rw [HR.out]; have := H3.out; simp [this]), rfl⟩
    · have b2 : (x8 != y8) = true := by simpa using h2
      have H2 := hid h2; clear h2; go_enter Tryz.func89, Tryz.ntmps89; go_wp2; go_ret; exact ⟨ret_bool (by rw [HR.out]; have := H2.out; simp [this]), rfl⟩
  · have b1 : (x11 != y11) = true := by simpa using h1
    have H1 := hid h1; clear h1; go_enter Tryz.func89, Tryz.ntmps89; go_wp2; go_ret; exact ⟨ret_bool (by rw [HR.out]; have := H1.out; rw [decide_eq_decide]; omega), rfl⟩
set_option maxHeartbeats 2000000 in
theorem lessDot_any (w : World) (x y : D3) : Calls Tryz.prog 62 #[.agg x.cells.toArray, .agg y.cells.toArray] w fun e w' => e = .returned (.bool (ltD x y)) ∧ w' = (w.alloc (.cells x.cells.toArray 87)).alloc (.cells y.cells.toArray 87) := by
  obtain ⟨x8, x9, x10⟩ := x; obtain ⟨y8, y9, y10⟩ := y; obtain ⟨r, hr⟩ : ∃ r, r = ltD ⟨x8, x9, x10⟩ ⟨y8, y9, y10⟩ := ⟨_, rfl⟩; rw [← hr]
  have hr' : r = decide (x8 < y8 ∨ x8 = y8 ∧ (x9 < y9 ∨ x9 = y9 ∧ x10 < y10)) := by
    rw [hr]; unfold ltD; rfl
  have HR := hid hr'; clear hr hr'; show Calls Tryz.prog 62 #[.agg #[.int .i64 x8, .int .i64 x9, .int .i64 x10], .agg #[.int .i64 y8, .int .i64 y9, .int .i64 y10]] w _
  by_cases h2 : x8 = y8
  · subst h2; have b2 : (x8 != x8) = false := by simp
    by_cases h3 : x9 = y9
    · subst h3; have b3 : (x9 != x9) = false := by simp
      go_enter Tryz.func62, Tryz.ntmps62; go_wp2; go_ret; exact ⟨ret_bool (by rw [HR.out]; simp), rfl⟩
    · have b3 : (x9 != y9) = true := by simpa using h3
      have H3 := hid h3; clear h3; go_enter Tryz.func62, Tryz.ntmps62; go_wp2; go_ret; exact ⟨ret_bool (by rw [HR.out]; have := H3.out; simp [this]), rfl⟩
  · have b2 : (x8 != y8) = true := by simpa using h2
    have H2 := hid h2; clear h2; go_enter Tryz.func62, Tryz.ntmps62; go_wp2; go_ret; exact ⟨ret_bool (by rw [HR.out]; have := H2.out; simp [this]), rfl⟩
end Go.Proofs.YtdnebclemngdcaaGreatDoor
