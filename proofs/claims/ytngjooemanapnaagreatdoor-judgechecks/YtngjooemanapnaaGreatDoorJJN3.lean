/- Rounds: what the counts are, step by step; rows of rounds. -/
import Derived.Test.YtngjooemanapnaaGreatDoorJJN2
namespace Go.Proofs.YtngjooemanapnaaGreatDoor
open Go.RowKit Go.Sort Go.Maps
set_option maxRecDepth 100000
set_option linter.unusedSectionVars false
variable [Inhabited ComV] [DecidableEq D3] [Inhabited D3] [Inhabited Dd] [Inhabited Dn] [Inhabited OpV]

theorem Waits.congr {w : World} {vb wb n : Nat} {f g : Nat → Int} (h : Waits w vb wb n f) (e : ∀ t, t < n → f t = g t) : Waits w vb wb n g := by
  obtain ⟨h1, cs, h2, h3⟩ := h
  exact ⟨h1, cs, h2, fun t ht => by rw [← e t ht]; exact h3 t ht⟩
/-- How many of the first a has t seen? -/
def cnt1 (R : Nat → Nat → Bool) (a t : Nat) : Int := (((List.range a).filter fun x => R x t).length : Nat)
theorem cnt1_succ (R : Nat → Nat → Bool) (a t : Nat) : cnt1 R (a + 1) t = cnt1 R a t + if R a t = true then 1 else 0 := by
  unfold cnt1
  rw [List.range_succ, List.filter_append, List.length_append]
  by_cases h : R a t = true
  · rw [if_pos h]; simp [h]
  · rw [if_neg h]; simp [h]
theorem cnt1_bd (R : Nat → Nat → Bool) (a t : Nat) : 0 ≤ cnt1 R a t ∧ cnt1 R a t ≤ a := by
  unfold cnt1
  have : ((List.range a).filter fun x => R x t).length ≤ a := Nat.le_trans (List.length_filter_le _ _) (by simp)
  omega
theorem cnt1_wt (R : Nat → Nat → Bool) (n t : Nat) : cnt1 R n t = wtL n R (fun _ => false) t := by
  unfold cnt1 wtL cntJ
  simp
theorem wtL_bd (n : Nat) (R : Nat → Nat → Bool) (P : Nat → Bool) (t : Nat) : -1 ≤ wtL n R P t ∧ wtL n R P t ≤ n := by
  unfold wtL cntJ
  have : ((List.range n).filter fun a => R a t && !P a).length ≤ n := Nat.le_trans (List.length_filter_le _ _) (by simp)
  split
  · omega
  · omega
theorem freeL_now (n : Nat) (R : Nat → Nat → Bool) (P : Nat → Bool) : freeL n (wtL n R P) = nowL n R P := by
  unfold freeL
  have : ∀ b ∈ List.range n, decide (wtL n R P b = 0) = decide (b ∈ nowL n R P) := fun b hb => by
    rw [Bool.eq_iff_iff, decide_eq_true_eq, decide_eq_true_eq]
    exact wtL_zero (List.mem_range.1 hb)
  rw [List.filter_congr this]
  conv => rhs; unfold nowL
  refine List.filter_congr fun b hb => ?_
  rw [Bool.eq_iff_iff, decide_eq_true_eq, mem_nowL, Bool.and_eq_true, List.all_eq_true]
  constructor
  · rintro ⟨_, h2, h3⟩
    refine ⟨by simp [h2], fun c hc => ?_⟩
    cases hr : R c b with
    | false => rfl
    | true => simp [h3 c (List.mem_range.1 hc) hr]
  · rintro ⟨h2, h3⟩
    refine ⟨List.mem_range.1 hb, by simpa using h2, fun c hc hr => ?_⟩
    have := h3 c (List.mem_range.2 hc)
    rw [hr] at this
    simpa using this
theorem takeF_now (n : Nat) (R : Nat → Nat → Bool) (P : Nat → Bool) (t : Nat) (ht : t < n) : takeF n (wtL n R P) t = if t ∈ nowL n R P then -1 else wtL n R P t := by
  unfold takeF
  by_cases h : wtL n R P t = 0
  · rw [if_pos ⟨ht, h⟩, if_pos ((wtL_zero ht).1 h)]
  · rw [if_neg (fun x => h x.2), if_neg (fun x => h ((wtL_zero ht).2 x))]
/-- i of the next round's numbers have been taken off. -/
def offF (n : Nat) (R : Nat → Nat → Bool) (P : Nat → Bool) (i t : Nat) : Int := (if t ∈ nowL n R P then -1 else wtL n R P t) - ((((nowL n R P).take i).filter fun a => R a t).length : Nat)
theorem offF_zero (n : Nat) (R : Nat → Nat → Bool) (P : Nat → Bool) (t : Nat) : offF n R P 0 t = if t ∈ nowL n R P then -1 else wtL n R P t := by simp [offF]
theorem offF_succ (n : Nat) (R : Nat → Nat → Bool) (P : Nat → Bool) (i t : Nat) (h : i < (nowL n R P).length) : offF n R P (i + 1) t = offF n R P i t + if R (nowL n R P)[i] t = true then -1 else 0 := by
  unfold offF
  rw [List.take_succ_eq_append_getElem h, List.filter_append, List.length_append]
  by_cases q : R (nowL n R P)[i] t = true
  · rw [if_pos q]; simp [q]; omega
  · rw [if_neg q]; simp [q]
theorem offF_bd (n : Nat) (R : Nat → Nat → Bool) (P : Nat → Bool) (i t : Nat) : -1 - (n : Int) ≤ offF n R P i t ∧ offF n R P i t ≤ n := by
  unfold offF
  have h1 : (((nowL n R P).take i).filter fun a => R a t).length ≤ n := by
    refine Nat.le_trans (List.length_filter_le _ _) (Nat.le_trans (by rw [List.length_take]; exact Nat.min_le_right _ _) ?_)
    unfold nowL
    exact Nat.le_trans (List.length_filter_le _ _) (by simp)
  have h2 := wtL_bd n R P t
  split
  · omega
  · omega
theorem offF_all {n : Nat} {R : Nat → Nat → Bool} {P : Nat → Bool} (h : ClosedL n R P) {t : Nat} (ht : t < n) : offF n R P (nowL n R P).length t = wtL n R (laidL n R P) t := by
  unfold offF
  rw [List.take_of_length_le (Nat.le_refl _)]
  exact wtL_laid h ht
theorem nowL_lt {n : Nat} {R : Nat → Nat → Bool} {P : Nat → Bool} {a : Nat} (h : a ∈ nowL n R P) : a < n := (mem_nowL.1 h).1
theorem nowL_len (n : Nat) (R : Nat → Nat → Bool) (P : Nat → Bool) : (nowL n R P).length ≤ n := by
  unfold nowL
  exact Nat.le_trans (List.length_filter_le _ _) (by simp)
/-- A round in a row of its own. -/
def RoundAt (B : Nat) (w : World) (v : Value) (ts : List Nat) : Prop := ∃ g c cs, v = .slice (some ⟨g, 0, none⟩) ts.length c ∧ B ≤ g ∧ w.heap[g]? = some (.cells cs 3 (0, 0)) ∧ ∀ i, i < ts.length → cs[i]? = some (natV (ts.getD i 0))
theorem RoundAt.of {B : Nat} {w : World} {base : Nat} {v : Value} {ts : List Nat} (h : w.ownsRow base 3 1 v ts.length (ts.map natV)) (hB : B ≤ base) (h0 : ts ≠ []) : RoundAt B w v ts := by
  obtain ⟨_, h2⟩ := h
  rcases h2 with ⟨_, h3⟩ | ⟨g, cap, cur, rfl, hb, hh, hn, hm, hs, ht⟩
  · exact absurd (List.eq_nil_of_length_eq_zero h3) h0
  · refine ⟨g, cap, cur, rfl, by omega, hh, fun i hi => ?_⟩
    have e : (cur.toList.take (ts.length * 1))[i]? = (ts.map natV)[i]? := by rw [ht]
    rw [List.getElem?_take, if_pos (by omega), Array.getElem?_toList, List.getElem?_map, List.getElem?_eq_getElem hi] at e
    rw [e, List.getD_eq_getElem?_getD, List.getElem?_eq_getElem hi]
    rfl
theorem RoundAt.only {B wb : Nat} {w w' : World} {v : Value} {ts : List Nat} (h : RoundAt B w v ts) (hO : OnlyB wb w w') (hB : wb < B) : RoundAt B w' v ts := by
  obtain ⟨g, c, cs, rfl, h1, h2, h3⟩ := h
  exact ⟨g, c, cs, rfl, h1, (hO.2.2.2.2 g (lt_of_heap h2) (by omega)).trans h2, h3⟩
theorem RoundAt.grown {B : Nat} {w w' : World} {v : Value} {ts : List Nat} {o : Option Nat} (h : RoundAt B w v ts) (hg : w.grownBy w' o) (ho : ∀ q, o = some q → ∃ cs, w.heap[q]? = some (.cells cs 38 (0, 0))) : RoundAt B w' v ts := by
  obtain ⟨g, c, cs, rfl, h1, h2, h3⟩ := h
  refine ⟨g, c, cs, rfl, h1, (hg.block g (lt_of_heap h2) fun e => ?_).trans h2, h3⟩
  obtain ⟨cs', h4⟩ := ho g e.symm
  rw [h2] at h4
  injection h4 with h4
  injection h4 with _ h4
  cases h4
theorem RoundAt.ints {B : Nat} {w : World} {v : Value} {ts : List Nat} (h : RoundAt B w v ts) : IntsAt w v (ts.map fun t => ((t : Nat) : Int)) := by
  obtain ⟨g, c, cs, rfl, h1, h2, h3⟩ := h
  refine ⟨_, c, by rw [List.length_map], (fun e => by cases e), .inr ⟨g, 0, rfl, fun t ht => ?_⟩⟩
  rw [List.length_map] at ht
  rw [Nat.zero_add]
  simp only [World.cell?, h2]
  rw [h3 t ht]
  simp [natV, List.getD_eq_getElem?_getD, List.getElem?_eq_getElem ht]
/-- The slice v reads as these rounds. -/
def TssAt (w : World) (v : Value) (tss : List (List Nat)) : Prop := ∃ ad cap, v = .slice ad tss.length cap ∧ (tss = [] ∨ ∃ b, ad = some ⟨b, 0, none⟩ ∧ ∀ j, j < tss.length → ∃ sv, w.cell? ⟨b, j, none⟩ = some sv ∧ IntsAt w sv ((tss.getD j []).map fun t => ((t : Nat) : Int)))
theorem TssAt.of {B : Nat} {w : World} {base : Nat} {v : Value} {vs : List Value} {tss : List (List Nat)} (h : w.ownsRow base 38 1 v vs.length vs) (hf : F2 (RoundAt B w) vs tss) : TssAt w v tss := by
  have hl := f2_len hf
  obtain ⟨_, h2⟩ := h
  rcases h2 with ⟨rfl, h3⟩ | ⟨g, cap, cur, rfl, hb, hh, hn, hm, hs, ht⟩
  · exact ⟨none, 0, by rw [← hl, h3], .inl (List.eq_nil_of_length_eq_zero (by omega))⟩
  · refine ⟨_, cap, by rw [hl], .inr ⟨g, rfl, fun j hj => ?_⟩⟩
    obtain ⟨sv, h4, h5⟩ := f2_get hf j (tss.getD j []) (by rw [List.getD_eq_getElem?_getD, List.getElem?_eq_getElem hj]; rfl)
    refine ⟨sv, ?_, h5.ints⟩
    have e : (cur.toList.take (vs.length * 1))[j]? = vs[j]? := by rw [ht]
    rw [List.getElem?_take, if_pos (by omega), Array.getElem?_toList] at e
    simp only [World.cell?, hh]
    rw [e, h4]
    simp
theorem f2_snoc {α β : Type} {R : α → β → Prop} : ∀ {l : List α} {m : List β} {a : α} {b : β}, F2 R l m → R a b → F2 R (l ++ [a]) (m ++ [b])
  | [], [], _, _, _, h => ⟨h, trivial⟩
  | _ :: _, _ :: _, _, _, ⟨h1, h2⟩, h => ⟨h1, f2_snoc h2 h⟩
end Go.Proofs.YtngjooemanapnaaGreatDoor
