/- slices.SortFunc over ops with their dots, and over dots. -/
import Derived.Test.YtdnebclemngdcaaGreatDoorGVDelF
import Derived.Test.YtdnebclemngdcaaGreatDoorGVLayS
import Derived.Shelf.SlSortCmp.NoneTotal
namespace Go.Proofs.YtdnebclemngdcaaGreatDoor
open Go.RowKit Go.Sort Go.Lib Go.Shelf
set_option linter.unusedSectionVars false
variable [Inhabited ComV] [DecidableEq D3] [Inhabited D3] [Inhabited Dd] [Inhabited OpV]

theorem cmpI_lt (x y : Int) : cmpI x y < 0 ↔ x < y := by
  unfold cmpI
  split
  · omega
  · split <;> omega
theorem cmpI_eq (x y : Int) : cmpI x y = 0 ↔ x = y := by
  unfold cmpI
  split
  · omega
  · split <;> omega
/-- Which of two dots comes first. -/
def ltD (a b : D3) : Bool := decide (a.p < b.p ∨ a.p = b.p ∧ (a.t < b.t ∨ a.t = b.t ∧ a.a < b.a))
theorem cmpD_lt (a b : D3) : cmpD a b < 0 ↔ ltD a b = true := by
  unfold cmpD ltD
  simp only [orI, cmpI_eq, decide_eq_true_eq]
  have h1 := cmpI_lt a.p b.p
  have h2 := cmpI_lt a.t b.t
  have h3 := cmpI_lt a.a b.a
  by_cases e1 : a.p = b.p
  · rw [if_pos e1]
    by_cases e2 : a.t = b.t
    · rw [if_pos e2]
      by_cases e3 : a.a = b.a
      · rw [if_pos e3]; omega
      · rw [if_neg e3]; omega
    · rw [if_neg e2]; omega
  · rw [if_neg e1]; omega
theorem cmpD_eq (a b : D3) : cmpD a b = 0 ↔ a = b := by
  unfold cmpD
  simp only [orI, cmpI_eq]
  obtain ⟨a1, a2, a3⟩ := a
  obtain ⟨b1, b2, b3⟩ := b
  simp only [D3.mk.injEq]
  have q1 := cmpI_eq a1 b1
  have q2 := cmpI_eq a2 b2
  have q3 := cmpI_eq a3 b3
  by_cases e1 : a1 = b1
  · rw [if_pos e1]
    by_cases e2 : a2 = b2
    · rw [if_pos e2]
      by_cases e3 : a3 = b3
      · rw [if_pos e3]; simp [e1, e2, e3]
      · rw [if_neg e3]; simp [e3]; omega
    · rw [if_neg e2]; simp [e2]; omega
  · rw [if_neg e1]; simp [e1]; omega
/-- Which of two ops counts first. -/
def ltW (x y : Dd) : Bool := decide (x.wt < y.wt ∨ x.wt = y.wt ∧ ltD x.dot y.dot = true)
theorem ltOf_cmpW : ltOf cmpW = ltW := by
  funext x y
  unfold ltOf cmpW ltW
  simp only [orI, cmpI_eq]
  have h1 := cmpI_lt x.wt y.wt
  have h2 := cmpD_lt x.dot y.dot
  have h3 := cmpD_eq x.dot y.dot
  by_cases e1 : x.wt = y.wt
  · rw [if_pos e1]
    by_cases e2 : cmpD x.dot y.dot = 0
    · rw [if_pos e2]
      congr 1
      rw [← h2]
      apply propext
      omega
    · rw [if_neg e2]
      congr 1
      rw [← h2]
      apply propext
      omega
  · rw [if_neg e1]
    congr 1
    apply propext
    omega
theorem ltOf_cmpD : ltOf cmpD = ltD := by
  funext x y
  unfold ltOf
  have h2 := cmpD_lt x y
  cases h : ltD x y with
  | true => exact decide_eq_true (h2.2 h)
  | false => exact decide_eq_false (fun hh => by rw [h2.1 hh] at h; cases h)
theorem swoD : SWO ltD where
  irrefl x := by simp [ltD]
  trans x y z h1 h2 := by simp only [ltD, decide_eq_true_eq] at *; omega
  ntrans x y z h1 h2 := by simp only [ltD, decide_eq_false_iff_not] at *; omega
theorem swoW : SWO ltW where
  irrefl x := by simp [ltW, ltD]
  trans x y z h1 h2 := by simp only [ltW, ltD, decide_eq_true_eq] at *; omega
  ntrans x y z h1 h2 := by simp only [ltW, ltD, decide_eq_true_eq, decide_eq_false_iff_not] at *; omega

theorem below_sortWorld {α : Type} [Inhabited α] (enc : α → List Value) (k : Nat) {B : Nat} (w : World) (blk n : Nat) (d : Array α) (os : Array Obj) (hB : B ≤ blk) (hblk : blk < w.heap.size) : Below B w (sortWorldK enc k w blk 0 n d os) := by
  refine ⟨rfl, rfl, rfl, by unfold sortWorldK putRowK putRow mapBlock; simp [Sort.ahead]; try omega, fun i hi => ?_⟩
  unfold sortWorldK
  rw [heap_grow_old _ _ (by unfold putRowK putRow mapBlock; simp [Sort.ahead]; omega)]
  unfold putRowK putRow mapBlock
  simp only [Sort.ahead]
  simp [Array.getElem?_modify, show blk ≠ i by omega]

theorem perm_of_permIn {α : Type} [Inhabited α] {d d' : Array α} (h : PermIn 0 d.size d d') : d'.toList.Perm d.toList := by
  obtain ⟨h1, _, h3⟩ := h
  rw [Array.extract_eq_self_of_le (Nat.le_refl _)] at h3
  rw [← h1, Array.extract_eq_self_of_le (Nat.le_refl _)] at h3
  exact h3
theorem pairwise_of_sortedIn {α : Type} [Inhabited α] {lt : α → α → Bool} {d : Array α} (h : SortedIn lt 0 d.size d) : d.toList.Pairwise (fun a b => lt b a = false) := by
  rw [List.pairwise_iff_getElem]
  intro i j hi hj hij
  have := h i j (Nat.zero_le _) hij (by simpa using hj)
  rw [getElem!_pos d j (by simpa using hj), getElem!_pos d i (by simpa using hi)] at this
  simpa using this

theorem sortFunc_row (w : World) (B : Nat) (v : Value) (xs : List Dd) (hr : RowD w B v xs) (hsz : xs.length ≤ 1000000) :
    Calls Tryz.prog 112 #[v, .func (.func 113) #[] #[]] w fun e w' => e = .returned (.tuple #[]) ∧ ∃ ys : List Dd, ys.Perm xs ∧ ys.Pairwise (fun a b => ltW b a = false) ∧ RowD w' B v ys ∧ Below B w w' := by
  by_cases h0 : xs = []
  · subst h0
    have : ∃ p cap, v = .slice p 0 cap := by
      rcases hr with ⟨rfl, _⟩ | ⟨g, cap, rfl, _⟩
      · exact ⟨_, _, rfl⟩
      · exact ⟨_, _, rfl⟩
    obtain ⟨p, cap, rfl⟩ := this
    have hn := AnyF.slices_SortFunc_none (P := Tryz.prog) (ρ := Tryz.sortDd_ren) { Tryz.sortDd with } p cap (.func (.func 113) #[] #[]) w
    change Calls Tryz.prog 112 _ _ _ at hn
    refine hn.mono ?_
    rintro e w' ⟨rfl, rfl⟩
    exact ⟨rfl, [], List.Perm.refl _, List.Pairwise.nil, hr, Below.refl _ _⟩
  · rcases hr with ⟨_, h⟩ | ⟨g, cap, rfl, hB, hg, hcap, hH⟩
    · exact absurd h h0
    · have hcon := AnyQ.slices_SortFunc Tryz.sortDd 11 Tryz.isAgg131 Tryz.sizeOf131 Dd.enc Dd.enc_length Dd.enc_one cmpW (by rw [ltOf_cmpW]; exact swoW) 113 #[] g 0 cap xs.toArray w (enters_of Tryz.func113 (by kernel_rfl) rfl)
        (fun _ _ _ _ x y => sortCmp_any _ x y) hH hg (by simp; omega)
      change Calls Tryz.prog 112 _ _ _ at hcon
      rw [ltOf_cmpW] at hcon
      simp only [List.size_toArray] at hcon
      refine hcon.mono ?_
      rintro e w' ⟨rfl, d', n, os, hp, hs, rfl⟩
      have hp' : PermIn 0 xs.toArray.size xs.toArray d' := by simpa using hp
      have hsz' : d'.size = xs.length := by simpa using hp'.1
      refine ⟨rfl, d'.toList, by simpa using perm_of_permIn hp', pairwise_of_sortedIn (by rw [hsz']; exact hs), .inr ⟨g, cap, by simp [hsz'], hB, lt_sortWorldK _ _ _ _ _ _ _ _ hg, by simp [hsz']; exact hcap, ?_⟩, below_sortWorld _ _ _ _ _ _ _ hB hg⟩
      simpa using holdsK_sortWorldK Dd.enc 11 w g 0 n xs.toArray d' os hg hH (by simpa using hsz')
end Go.Proofs.YtdnebclemngdcaaGreatDoor
