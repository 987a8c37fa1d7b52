/- What the reference makes of ops that are in order: the value, the dots: plain mathematics. -/
import Derived.Test.YtdnebclemngdcaaGreatDoorJVOfRA
import Derived.Test.YtdnebclemngdcaaGreatDoorJVSetsI
namespace Go.Proofs.YtdnebclemngdcaaGreatDoor
open Go.RowKit
set_option linter.unusedSectionVars false
variable [Inhabited ComV] [DecidableEq D3] [Inhabited D3] [Inhabited Dd] [Inhabited Dn] [Inhabited OpV]

theorem op_rem {o : OpV} {n : Int} (h : opErr o n = 0) (hr : o.rem = false) : o.dots = [] := by
  have hf : foreignB o = false := by
    cases hb : foreignB o with
    | false => rfl
    | true =>
      exfalso
      unfold opErr at h; rw [hb] at h
      split at h
      · exact absurd h (by decide)
      · split at h
        · exact absurd h (by decide)
        · split at h
          · exact absurd h (by decide)
          · rw [if_pos rfl] at h; exact absurd h (by decide)
  have hz : decide (0 < o.dots.length) = false := by
    unfold foreignB at hf
    split at hf
    · simp only [Bool.or_eq_false_iff] at hf; exact hf.2.2
    · split at hf
      · simp only [Bool.or_eq_false_iff] at hf; exact hf.2.2
      · simp only [Bool.or_eq_false_iff, hr, Bool.not_false, Bool.true_and] at hf; exact hf.2
  exact List.eq_nil_of_length_eq_zero (by have := of_decide_eq_false hz; omega)
theorem isOps_rem {key : ByteArray} {l : List ComV} {ds : List Dn} (h : IsOps key l ds) (hok : ∀ i, i < l.length → ComOk l[i]!) : ∀ d ∈ ds, d.o.rem = false → d.o.dots = [] := fun d hd hr => by
  obtain ⟨c, hc, o, ho, rfl⟩ := onceA_mem l d (isOps_mem h d hd); obtain ⟨i, hi, rfl⟩ := List.getElem_of_mem hc; obtain ⟨t, ht, rfl⟩ := List.getElem_of_mem ho; have hC := hok i hi; rw [getElem!_pos l i hi] at hC; have := opErr_of_bad (hC.ops t ht); rw [getElem!_pos _ t ht] at this; exact op_rem this hr
theorem isOps_ne {key : ByteArray} {l : List ComV} {ds : List Dn} (h : IsOps key l ds) : ds.Pairwise (fun x y => x.dot ≠ y.dot) := by
  obtain ⟨ys, ⟨hp, _⟩, rfl⟩ := h
  have hnd : ((onceA l).filter fun x => decide (x.o.key = key)).Pairwise (fun x y => x.dot ≠ y.dot) := by
    have := onceA_nodup l; rw [List.Nodup, List.pairwise_map] at this; exact this.filter _
  exact (hnd.perm hp.symm (fun h e => h e.symm)).filter _
theorem isOps_kind {key : ByteArray} {l : List ComV} {ds : List Dn} (h : IsOps key l ds) : ∀ d ∈ ds, d.o.kind = ds[0]!.o.kind := by
  obtain ⟨ys, _, rfl⟩ := h; have hk : ∀ d ∈ ofKind ys, d.o.kind = ys[0]!.o.kind := fun d hd => of_decide_eq_true (List.mem_filter.1 hd).2
  intro d hd; have h0 : 0 < (ofKind ys).length := List.length_pos_of_mem hd; have h1 := hk (ofKind ys)[0]! (by rw [getElem!_pos (ofKind ys) 0 h0]; exact List.getElem_mem _); rw [hk d hd, h1]
theorem stand_live {key : ByteArray} {l : List ComV} {ds : List Dn} (h : IsOps key l ds) (hok : ∀ i, i < l.length → ComOk l[i]!) : standA ds = ds.filter (liveB ds) := by
  unfold standA; exact List.filter_congr fun x hx => live_final (isOps_ne h) (isOps_rem h hok) x hx
def setTo (ds : List Dn) (k : Nat) : List Tx := enters (((ds.take k).filter (liveB ds)).map (·.o.text.data.toList))
theorem setTo_succ {ds : List Dn} {k : Nat} (h : k < ds.length) : setTo ds (k + 1) = if liveB ds ds[k]! = true then enterL (setTo ds k) ds[k]!.o.text.data.toList else setTo ds k := by
  unfold setTo enters; rw [List.take_succ_eq_append_getElem h, List.filter_append, List.map_append, List.foldl_append, getElem!_pos ds k h]
  split
  · rename_i hl; simp [hl]
  · rename_i hl; simp [hl]
theorem setTo_all {key : ByteArray} {l : List ComV} {ds : List Dn} (h : IsOps key l ds) (hok : ∀ i, i < l.length → ComOk l[i]!) : setTo ds ds.length = setA ((standA ds).map (·.o.text)) := by
  rw [stand_live h hok, ← enters_setA]; unfold setTo; rw [List.take_length, List.map_map]; rfl
theorem enterL_len (l : List Tx) (s : Tx) : (enterL l s).length ≤ l.length + 1 := by
  have h : (l.takeWhile (fun x => decide (x < s))).length + (l.dropWhile (fun x => decide (x < s))).length = l.length := by
    rw [← List.length_append, List.takeWhile_append_dropWhile]
  unfold enterL; rw [List.length_append]
  split
  · omega
  · simp only [List.length_cons]; omega
theorem setTo_len (ds : List Dn) (k : Nat) (hk : k ≤ ds.length) : (setTo ds k).length ≤ k := by
  induction k with
  | zero => exact Nat.le_refl _
  | succ k ih =>
    have := ih (by omega); rw [setTo_succ (by omega)]
    split
    · have := enterL_len (setTo ds k) ds[k]!.o.text.data.toList; omega
    · omega
theorem comOk_list {l : List ComV} (hok : ∀ i, i < l.length → listBad l i = 0) : ∀ i, i < l.length → ComOk l[i]! := fun i hi => comOk_of (c := l[i]!) (by
  have := hok i hi; unfold listBad at this
  split at this
  · rename_i h; exact absurd this h
  · rename_i h; simpa using h)
/-! ### Dots -/
theorem ltD_same {x y : D3} (h1 : ltD x y = false) (h2 : ltD y x = false) : x = y := by
  obtain ⟨p, t, a⟩ := x; obtain ⟨p', t', a'⟩ := y; simp only [ltD, decide_eq_false_iff_not] at h1 h2; simp only [D3.mk.injEq]; omega
theorem isDots_same {text : ByteArray} {ds : List Dn} {a b : List D3} (ha : IsDots text ds a) (hb : IsDots text ds b) : a = b := by
  rcases ha with ⟨h1, rfl⟩ | ⟨⟨h0, h1⟩, hp, hs⟩
  · rcases hb with ⟨_, rfl⟩ | ⟨⟨h0, h2⟩, _⟩
    · rfl
    · rcases h1 with h | h
      · exact absurd h h0
      · exact absurd h2 h
  · rcases hb with ⟨h, _⟩ | ⟨_, hp', hs'⟩
    · rcases h with h | h
      · exact absurd h h0
      · exact absurd h1 h
    · exact (hp.trans hp'.symm).eq_of_pairwise (fun x y _ _ g1 g2 => ltD_same g2 g1) hs hs'
theorem ltD_asymm {x y : D3} (h : ltD x y = true) : ltD y x = false := by
  obtain ⟨p, t, a⟩ := x; obtain ⟨p', t', a'⟩ := y; simp only [ltD, decide_eq_false_iff_not, decide_eq_true_eq] at h ⊢; omega
theorem ltD_le_trans {x z z' : D3} (h1 : ltD z x = false) (h2 : ltD z' z = false) : ltD z' x = false := by
  obtain ⟨p, t, a⟩ := x; obtain ⟨p', t', a'⟩ := z; obtain ⟨p2, t2, a2⟩ := z'; simp only [ltD, decide_eq_false_iff_not] at h1 h2 ⊢; omega
def insDAt (p : D3 → Bool) (out : List D3) (x : D3) : List D3 := out.takeWhile p ++ x :: out.dropWhile p
def insD (out : List D3) (x : D3) : List D3 := insDAt (fun y => ltD y x) out x
def sortD (l : List D3) : List D3 := l.foldl insD []
theorem insD_perm (out : List D3) (x : D3) : (insD out x).Perm (out ++ [x]) := by
  unfold insD insDAt; have h1 : (out.takeWhile (fun y => ltD y x) ++ x :: out.dropWhile (fun y => ltD y x)).Perm (x :: (out.takeWhile (fun y => ltD y x) ++ out.dropWhile (fun y => ltD y x))) := List.perm_middle; rw [List.takeWhile_append_dropWhile] at h1; exact h1.trans (List.perm_append_singleton x out).symm
theorem sortD_perm_aux (l : List D3) : ∀ acc, (l.foldl insD acc).Perm (acc ++ l) := by
  induction l with
  | nil => intro acc; simp
  | cons x r ih =>
    intro acc; have h := (ih (insD acc x)).trans ((insD_perm acc x).append_right r)
    simpa using h
theorem sortD_perm (l : List D3) : (sortD l).Perm l := by simpa [sortD] using sortD_perm_aux l []
def SortedD (l : List D3) : Prop := l.Pairwise (fun a b => ltD b a = false)
theorem mem_drop_leD {x : D3} : ∀ {out : List D3}, SortedD out → ∀ z ∈ out.dropWhile (fun y => ltD y x), ltD z x = false
  | [], _, z, hz => by simp at hz
  | y :: r, hs, z, hz => by
    have hs' := List.pairwise_cons.1 hs
    by_cases h : ltD y x = true
    · rw [List.dropWhile_cons_of_pos (p := fun y => ltD y x) h] at hz; exact mem_drop_leD hs'.2 z hz
    · rw [List.dropWhile_cons_of_neg (p := fun y => ltD y x) h] at hz; have hy : ltD y x = false := by simpa using h
      rcases List.mem_cons.1 hz with rfl | hz
      · exact hy
      · exact ltD_le_trans hy (hs'.1 z hz)
theorem mem_take_ltD {x : D3} : ∀ {out : List D3}, ∀ z ∈ out.takeWhile (fun y => ltD y x), ltD z x = true
  | [], z, hz => by simp at hz
  | y :: r, z, hz => by
    by_cases h : ltD y x = true
    · rw [List.takeWhile_cons_of_pos (p := fun y => ltD y x) h] at hz; rcases List.mem_cons.1 hz with rfl | hz
      · exact h
      · exact mem_take_ltD z hz
    · rw [List.takeWhile_cons_of_neg (p := fun y => ltD y x) h] at hz; simp at hz
theorem insD_sorted {out : List D3} (h : SortedD out) (x : D3) : SortedD (insD out x) := by
  unfold insD insDAt SortedD
  have hsplit : (out.takeWhile (fun y => ltD y x) ++ out.dropWhile (fun y => ltD y x)).Pairwise (fun a b => ltD b a = false) := by
    rw [List.takeWhile_append_dropWhile]; exact h
  rw [List.pairwise_append] at hsplit; rw [List.pairwise_append]; refine ⟨hsplit.1, List.pairwise_cons.2 ⟨fun z hz => mem_drop_leD h z hz, hsplit.2.1⟩, fun a ha b hb => ?_⟩; rcases List.mem_cons.1 hb with rfl | hb
  · exact ltD_asymm (mem_take_ltD a ha)
  · exact hsplit.2.2 a ha b hb
theorem sortD_sorted (l : List D3) : SortedD (sortD l) := by
  have : ∀ (l acc : List D3), SortedD acc → SortedD (l.foldl insD acc) := by
    intro l
    induction l with
    | nil => intro acc h; exact h
    | cons x r ih => intro acc h; exact ih _ (insD_sorted h x)
  exact this l [] List.Pairwise.nil
def dotB2 (text : ByteArray) (ds : List Dn) (x : Dn) : Bool := decide (x.o.kind = 3) && (decide (x.o.text = text) && liveB ds x)
def dotsTo (text : ByteArray) (ds : List Dn) (k : Nat) : List D3 := sortD (((ds.take k).filter (dotB2 text ds)).map (·.dot))
theorem dotsTo_succ {text : ByteArray} {ds : List Dn} {k : Nat} (h : k < ds.length) : dotsTo text ds (k + 1) = if dotB2 text ds ds[k]! = true then insD (dotsTo text ds k) ds[k]!.dot else dotsTo text ds k := by
  unfold dotsTo sortD; rw [List.take_succ_eq_append_getElem h, List.filter_append, List.map_append, List.foldl_append, getElem!_pos ds k h]
  split
  · rename_i hl; simp [hl]
  · rename_i hl; simp [hl]
theorem sortD_len (l : List D3) : (sortD l).length = l.length := (sortD_perm l).length_eq
theorem dotsTo_len (text : ByteArray) (ds : List Dn) (k : Nat) : (dotsTo text ds k).length ≤ ds.length := by
  unfold dotsTo; rw [sortD_len, List.length_map]; exact Nat.le_trans (List.length_filter_le _ _) (by simp; omega)
theorem dotsTo_all {key text : ByteArray} {l : List ComV} {ds : List Dn} (h : IsOps key l ds) (hok : ∀ i, i < l.length → ComOk l[i]!) : IsDots text ds (dotsTo text ds ds.length) := by
  have hk := isOps_kind h; unfold dotsTo; rw [List.take_length]
  by_cases h3 : ds ≠ [] ∧ ds[0]!.o.kind = 3
  · refine .inr ⟨h3, ?_, sortD_sorted _⟩; refine (sortD_perm _).trans ?_; unfold dotsUp; rw [stand_live h hok, List.filter_filter]
    have : ds.filter (dotB2 text ds) = ds.filter (fun a => decide (a.o.text = text) && liveB ds a) := List.filter_congr fun x hx => by
      unfold dotB2; rw [decide_eq_true ((hk x hx).trans h3.2), Bool.true_and]
    rw [this]
  · have hn : ds = [] ∨ ds[0]!.o.kind ≠ 3 := by
      by_cases h0 : ds = []
      · exact .inl h0
      · exact .inr fun h => h3 ⟨h0, h⟩
    refine .inl ⟨hn, ?_⟩
    have : ds.filter (dotB2 text ds) = [] := List.filter_eq_nil_iff.2 fun x hx hb => by
      unfold dotB2 at hb; simp only [Bool.and_eq_true, decide_eq_true_eq] at hb; rcases hn with h | h
      · rw [h] at hx; simp at hx
      · exact h ((hk x hx).symm.trans hb.1)
    rw [this]; rfl
theorem split_atD {x : D3} : ∀ {ys : List D3} {k : Nat}, (∀ j, j < k → ltD ys[j]! x = true) → k ≤ ys.length → (k = ys.length ∨ ltD ys[k]! x = false) → insD ys x = ys.take k ++ x :: ys.drop k
  | [], k, _, hk, _ => by
    obtain rfl : k = 0 := by simpa using hk
    rfl
  | y :: r, 0, _, _, h2 => by
    have h : ltD y x = false := h2.resolve_left (by simp); unfold insD insDAt; rw [List.takeWhile_cons_of_neg (p := fun y => ltD y x) (by simpa using h), List.dropWhile_cons_of_neg (p := fun y => ltD y x) (by simpa using h)]; rfl
  | y :: r, k + 1, h1, hk, h2 => by
    have h : ltD y x = true := h1 0 (by omega)
    have ih := split_atD (x := x) (ys := r) (k := k) (fun j hj => by have := h1 (j + 1) (by omega); simpa using this) (by simpa using hk) (by
      rcases h2 with h2 | h2
      · exact .inl (by simpa using h2)
      · exact .inr (by simpa using h2))
    unfold insD insDAt at ih ⊢; rw [List.takeWhile_cons_of_pos (p := fun y => ltD y x) h, List.dropWhile_cons_of_pos (p := fun y => ltD y x) h, List.cons_append, ih]; rfl
end Go.Proofs.YtdnebclemngdcaaGreatDoor
