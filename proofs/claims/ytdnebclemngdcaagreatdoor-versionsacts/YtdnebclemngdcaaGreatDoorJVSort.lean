/- Contracts of Go's library at this program's numbers, by the kit's own layings; slices.SortFunc over ops with their dots, and over dots. -/
import Derived.Shelf.SlSortCmp.WholeK
import Derived.Shelf.SlGeneric
import Derived.Ground.SlsfProg
import Derived.Test.YtdnebclemngdcaaGreatDoorProg
import Derived.Test.YtdnebclemngdcaaGreatDoorJVDelF
import Derived.Shelf.SlSortCmp.NoneTotal
namespace Go.Proofs
open Go.Shelf
def Tryz.sortDd_ren : Go.Shelf.Ren := ⟨fun | 6 => 112 | 15 => 100 | 14 => 143 | 28 => 135 | 29 => 136 | 20 => 168 | 21 => 169 | 22 => 170 | 23 => 171 | 24 => 172 | 25 => 173 | 26 => 174 | 27 => 175 | 46 => 184 | 47 => 164 | 48 => 165 | 49 => 185 | 50 => 186 | 57 => 189 | n => n, fun | 22 => 127 | 24 => 131 | 25 => 168 | 3 => 3 | 39 => 152 | 0 => 0 | 53 => 198 | 55 => 200 | 4 => 4 | 46 => 192 | 45 => 191 | 50 => 171 | 5 => 5 | 9 => 9 | 66 => 233 | 70 => 237 | 76 => 248 | 77 => 101 | n => n, fun | n => n⟩
theorem Tryz.sortDd : Go.Proofs.SlLaysF0.n6 Tryz.prog Tryz.sortDd_ren := {
  mixed := by kernel_rfl
  f6 := ⟨Tryz.f112.name, by decide, Tryz.func112.trans (congrArg some (by kernel_rfl))⟩
  f14 := ⟨Tryz.f143.name, by decide, Tryz.func143.trans (congrArg some (by kernel_rfl))⟩
  f15 := Tryz.func100.trans (congrArg some (by kernel_rfl))
  f20 := ⟨Tryz.f168.name, by decide, Tryz.func168.trans (congrArg some (by kernel_rfl))⟩
  f21 := ⟨Tryz.f169.name, by decide, Tryz.func169.trans (congrArg some (by kernel_rfl))⟩
  f22 := ⟨Tryz.f170.name, by decide, Tryz.func170.trans (congrArg some (by kernel_rfl))⟩
  f23 := ⟨Tryz.f171.name, by decide, Tryz.func171.trans (congrArg some (by kernel_rfl))⟩
  f24 := ⟨Tryz.f172.name, by decide, Tryz.func172.trans (congrArg some (by kernel_rfl))⟩
  f25 := ⟨Tryz.f173.name, by decide, Tryz.func173.trans (congrArg some (by kernel_rfl))⟩
  f26 := ⟨Tryz.f174.name, by decide, Tryz.func174.trans (congrArg some (by kernel_rfl))⟩
  f27 := ⟨Tryz.f175.name, by decide, Tryz.func175.trans (congrArg some (by kernel_rfl))⟩
  f28 := Tryz.func135.trans (congrArg some (by kernel_rfl))
  f29 := Tryz.func136.trans (congrArg some (by kernel_rfl))
  f46 := ⟨Tryz.f184.name, by decide, Tryz.func184.trans (congrArg some (by kernel_rfl))⟩
  f47 := Tryz.func164.trans (congrArg some (by kernel_rfl))
  f48 := Tryz.func165.trans (congrArg some (by kernel_rfl))
  f49 := ⟨Tryz.f185.name, by decide, Tryz.func185.trans (congrArg some (by kernel_rfl))⟩
  f50 := ⟨Tryz.f186.name, by decide, Tryz.func186.trans (congrArg some (by kernel_rfl))⟩
  f57 := ⟨Tryz.f189.name, by decide, Tryz.func189.trans (congrArg some (by kernel_rfl))⟩
  t0 := Tryz.underlying0
  a0 := Tryz.isAgg0
  z0 := Tryz.sizeOf0
  v0 := Tryz.zeroValue0
  t3 := Tryz.underlying3
  a3 := Tryz.isAgg3
  z3 := Tryz.sizeOf3
  v3 := Tryz.zeroValue3
  t4 := Tryz.underlying4
  a4 := Tryz.isAgg4
  z4 := Tryz.sizeOf4
  v4 := Tryz.zeroValue4
  t5 := Tryz.underlying5
  a5 := Tryz.isAgg5
  z5 := Tryz.sizeOf5
  v5 := Tryz.zeroValue5
  t9 := Tryz.underlying9
  a9 := Tryz.isAgg9
  z9 := Tryz.sizeOf9
  v9 := Tryz.zeroValue9
  t22 := Tryz.underlying127
  a22 := Tryz.isAgg127
  z22 := Tryz.sizeOf127
  v22 := Tryz.zeroValue127
  t25 := Tryz.underlying168
  a25 := Tryz.isAgg168
  z25 := Tryz.sizeOf168
  v25 := Tryz.zeroValue168
  t39 := Tryz.underlying152
  a39 := Tryz.isAgg152
  z39 := Tryz.sizeOf152
  v39 := Tryz.zeroValue152
  t45 := Tryz.underlying191
  a45 := Tryz.isAgg191
  z45 := Tryz.sizeOf191
  v45 := Tryz.zeroValue191
  t46 := Tryz.underlying192
  a46 := Tryz.isAgg192
  z46 := Tryz.sizeOf192
  v46 := Tryz.zeroValue192
  t50 := Tryz.underlying171
  a50 := Tryz.isAgg171
  z50 := Tryz.sizeOf171
  v50 := Tryz.zeroValue171
  t53 := Tryz.underlying198
  a53 := Tryz.isAgg198
  z53 := Tryz.sizeOf198
  v53 := Tryz.zeroValue198
  t55 := Tryz.underlying200
  a55 := Tryz.isAgg200
  z55 := Tryz.sizeOf200
  v55 := Tryz.zeroValue200
  t66 := Tryz.underlying233
  a66 := Tryz.isAgg233
  z66 := Tryz.sizeOf233
  v66 := Tryz.zeroValue233
  t70 := Tryz.underlying237
  a70 := Tryz.isAgg237
  z70 := Tryz.sizeOf237
  v70 := Tryz.zeroValue237
  t76 := Tryz.underlying248
  a76 := Tryz.isAgg248
  z76 := Tryz.sizeOf248
  v76 := Tryz.zeroValue248
  t77 := Tryz.underlying101
  a77 := Tryz.isAgg101
  z77 := Tryz.sizeOf101
  v77 := Tryz.zeroValue101 }
def Tryz.sortDot_ren : Go.Shelf.Ren := ⟨fun | 6 => 90 | 15 => 100 | 14 => 125 | 28 => 135 | 29 => 136 | 20 => 155 | 21 => 156 | 22 => 157 | 23 => 158 | 24 => 159 | 25 => 160 | 26 => 161 | 27 => 162 | 46 => 180 | 47 => 164 | 48 => 165 | 49 => 181 | 50 => 182 | 57 => 188 | n => n, fun | 22 => 65 | 24 => 87 | 25 => 145 | 3 => 3 | 39 => 152 | 0 => 0 | 53 => 198 | 55 => 200 | 4 => 4 | 46 => 192 | 45 => 191 | 50 => 171 | 5 => 5 | 9 => 9 | 66 => 233 | 70 => 237 | 76 => 248 | 77 => 101 | n => n, fun | n => n⟩
theorem Tryz.sortDot : Go.Proofs.SlLaysF0.n6 Tryz.prog Tryz.sortDot_ren := {
  mixed := by kernel_rfl
  f6 := ⟨Tryz.f90.name, by decide, Tryz.func90.trans (congrArg some (by kernel_rfl))⟩
  f14 := ⟨Tryz.f125.name, by decide, Tryz.func125.trans (congrArg some (by kernel_rfl))⟩
  f15 := Tryz.func100.trans (congrArg some (by kernel_rfl))
  f20 := ⟨Tryz.f155.name, by decide, Tryz.func155.trans (congrArg some (by kernel_rfl))⟩
  f21 := ⟨Tryz.f156.name, by decide, Tryz.func156.trans (congrArg some (by kernel_rfl))⟩
  f22 := ⟨Tryz.f157.name, by decide, Tryz.func157.trans (congrArg some (by kernel_rfl))⟩
  f23 := ⟨Tryz.f158.name, by decide, Tryz.func158.trans (congrArg some (by kernel_rfl))⟩
  f24 := ⟨Tryz.f159.name, by decide, Tryz.func159.trans (congrArg some (by kernel_rfl))⟩
  f25 := ⟨Tryz.f160.name, by decide, Tryz.func160.trans (congrArg some (by kernel_rfl))⟩
  f26 := ⟨Tryz.f161.name, by decide, Tryz.func161.trans (congrArg some (by kernel_rfl))⟩
  f27 := ⟨Tryz.f162.name, by decide, Tryz.func162.trans (congrArg some (by kernel_rfl))⟩
  f28 := Tryz.func135.trans (congrArg some (by kernel_rfl))
  f29 := Tryz.func136.trans (congrArg some (by kernel_rfl))
  f46 := ⟨Tryz.f180.name, by decide, Tryz.func180.trans (congrArg some (by kernel_rfl))⟩
  f47 := Tryz.func164.trans (congrArg some (by kernel_rfl))
  f48 := Tryz.func165.trans (congrArg some (by kernel_rfl))
  f49 := ⟨Tryz.f181.name, by decide, Tryz.func181.trans (congrArg some (by kernel_rfl))⟩
  f50 := ⟨Tryz.f182.name, by decide, Tryz.func182.trans (congrArg some (by kernel_rfl))⟩
  f57 := ⟨Tryz.f188.name, by decide, Tryz.func188.trans (congrArg some (by kernel_rfl))⟩
  t0 := Tryz.underlying0
  a0 := Tryz.isAgg0
  z0 := Tryz.sizeOf0
  v0 := Tryz.zeroValue0
  t3 := Tryz.underlying3
  a3 := Tryz.isAgg3
  z3 := Tryz.sizeOf3
  v3 := Tryz.zeroValue3
  t4 := Tryz.underlying4
  a4 := Tryz.isAgg4
  z4 := Tryz.sizeOf4
  v4 := Tryz.zeroValue4
  t5 := Tryz.underlying5
  a5 := Tryz.isAgg5
  z5 := Tryz.sizeOf5
  v5 := Tryz.zeroValue5
  t9 := Tryz.underlying9
  a9 := Tryz.isAgg9
  z9 := Tryz.sizeOf9
  v9 := Tryz.zeroValue9
  t22 := Tryz.underlying65
  a22 := Tryz.isAgg65
  z22 := Tryz.sizeOf65
  v22 := Tryz.zeroValue65
  t25 := Tryz.underlying145
  a25 := Tryz.isAgg145
  z25 := Tryz.sizeOf145
  v25 := Tryz.zeroValue145
  t39 := Tryz.underlying152
  a39 := Tryz.isAgg152
  z39 := Tryz.sizeOf152
  v39 := Tryz.zeroValue152
  t45 := Tryz.underlying191
  a45 := Tryz.isAgg191
  z45 := Tryz.sizeOf191
  v45 := Tryz.zeroValue191
  t46 := Tryz.underlying192
  a46 := Tryz.isAgg192
  z46 := Tryz.sizeOf192
  v46 := Tryz.zeroValue192
  t50 := Tryz.underlying171
  a50 := Tryz.isAgg171
  z50 := Tryz.sizeOf171
  v50 := Tryz.zeroValue171
  t53 := Tryz.underlying198
  a53 := Tryz.isAgg198
  z53 := Tryz.sizeOf198
  v53 := Tryz.zeroValue198
  t55 := Tryz.underlying200
  a55 := Tryz.isAgg200
  z55 := Tryz.sizeOf200
  v55 := Tryz.zeroValue200
  t66 := Tryz.underlying233
  a66 := Tryz.isAgg233
  z66 := Tryz.sizeOf233
  v66 := Tryz.zeroValue233
  t70 := Tryz.underlying237
  a70 := Tryz.isAgg237
  z70 := Tryz.sizeOf237
  v70 := Tryz.zeroValue237
  t76 := Tryz.underlying248
  a76 := Tryz.isAgg248
  z76 := Tryz.sizeOf248
  v76 := Tryz.zeroValue248
  t77 := Tryz.underlying101
  a77 := Tryz.isAgg101
  z77 := Tryz.sizeOf101
  v77 := Tryz.zeroValue101 }
end Go.Proofs
namespace Go.Proofs.YtdnebclemngdcaaGreatDoor
open Go.RowKit Go.Sort Go.Lib Go.Shelf
set_option linter.unusedSectionVars false
variable [Inhabited ComV] [DecidableEq D3] [Inhabited D3] [Inhabited Dd] [Inhabited OpV]

theorem cmpI_lt (x y : Int) : cmpI x y < 0 ↔ x < y := by
  unfold cmpI
  split
  · omega
  · split <;> omega
theorem cmpI_eq (x y : Int) : cmpI x y = 0 ↔ x = y := by
  unfold cmpI
  split
  · omega
  · split <;> omega
def ltD (a b : D3) : Bool := decide (a.p < b.p ∨ a.p = b.p ∧ (a.t < b.t ∨ a.t = b.t ∧ a.a < b.a))
theorem cmpD_lt (a b : D3) : cmpD a b < 0 ↔ ltD a b = true := by
  unfold cmpD ltD; simp only [orI, cmpI_eq, decide_eq_true_eq]; have h1 := cmpI_lt a.p b.p; have h2 := cmpI_lt a.t b.t; have h3 := cmpI_lt a.a b.a
  by_cases e1 : a.p = b.p
  · rw [if_pos e1]
    by_cases e2 : a.t = b.t
    · rw [if_pos e2]
      by_cases e3 : a.a = b.a
      · rw [if_pos e3]; omega
      · rw [if_neg e3]; omega
    · rw [if_neg e2]; omega
  · rw [if_neg e1]; omega
theorem cmpD_eq (a b : D3) : cmpD a b = 0 ↔ a = b := by
  unfold cmpD; simp only [orI, cmpI_eq]; obtain ⟨a1, a2, a3⟩ := a; obtain ⟨b1, b2, b3⟩ := b; simp only [D3.mk.injEq]; have q1 := cmpI_eq a1 b1; have q2 := cmpI_eq a2 b2; have q3 := cmpI_eq a3 b3
  by_cases e1 : a1 = b1
  · rw [if_pos e1]
    by_cases e2 : a2 = b2
    · rw [if_pos e2]
      by_cases e3 : a3 = b3
      · rw [if_pos e3]; simp [e1, e2, e3]
      · rw [if_neg e3]; simp [e3]; omega
    · rw [if_neg e2]; simp [e2]; omega
  · rw [if_neg e1]; simp [e1]; omega
def ltW (x y : Dd) : Bool := decide (x.wt < y.wt ∨ x.wt = y.wt ∧ ltD x.dot y.dot = true)
theorem ltOf_cmpW : ltOf cmpW = ltW := by
  funext x y
  unfold ltOf cmpW ltW; simp only [orI, cmpI_eq]; have h1 := cmpI_lt x.wt y.wt; have h2 := cmpD_lt x.dot y.dot; have h3 := cmpD_eq x.dot y.dot
  by_cases e1 : x.wt = y.wt
  · rw [if_pos e1]
    by_cases e2 : cmpD x.dot y.dot = 0
    · rw [if_pos e2]
      congr 1
      rw [← h2]; apply propext; omega
    · rw [if_neg e2]
      congr 1
      rw [← h2]; apply propext; omega
  · rw [if_neg e1]
    congr 1
    apply propext; omega
theorem ltOf_cmpD : ltOf cmpD = ltD := by
  funext x y
  unfold ltOf; have h2 := cmpD_lt x y
  cases h : ltD x y with
  | true => exact decide_eq_true (h2.2 h)
  | false => exact decide_eq_false (fun hh => by rw [h2.1 hh] at h; cases h)
theorem swoD : SWO ltD where
  irrefl x := by simp [ltD]
  trans x y z h1 h2 := by simp only [ltD, decide_eq_true_eq] at *; omega
  ntrans x y z h1 h2 := by simp only [ltD, decide_eq_false_iff_not] at *; omega
theorem swoW : SWO ltW where
  irrefl x := by simp [ltW, ltD]
  trans x y z h1 h2 := by simp only [ltW, ltD, decide_eq_true_eq] at *; omega
  ntrans x y z h1 h2 := by simp only [ltW, ltD, decide_eq_true_eq, decide_eq_false_iff_not] at *; omega

theorem below_sortWorld {α : Type} [Inhabited α] (enc : α → List Value) (k : Nat) {B : Nat} (w : World) (blk n : Nat) (d : Array α) (os : Array Obj) (hB : B ≤ blk) (hblk : blk < w.heap.size) : Below B w (sortWorldK enc k w blk 0 n d os) := by
  refine ⟨rfl, rfl, rfl, by unfold sortWorldK putRowK putRow mapBlock; simp [Sort.ahead]; try omega, fun i hi => ?_⟩; unfold sortWorldK; rw [heap_grow_old _ _ (by unfold putRowK putRow mapBlock; simp [Sort.ahead]; omega)]; unfold putRowK putRow mapBlock; simp only [Sort.ahead]; simp [Array.getElem?_modify, show blk ≠ i by omega]

theorem perm_of_permIn {α : Type} [Inhabited α] {d d' : Array α} (h : PermIn 0 d.size d d') : d'.toList.Perm d.toList := by
  obtain ⟨h1, _, h3⟩ := h; rw [Array.extract_eq_self_of_le (Nat.le_refl _)] at h3; rw [← h1, Array.extract_eq_self_of_le (Nat.le_refl _)] at h3; exact h3
theorem pairwise_of_sortedIn {α : Type} [Inhabited α] {lt : α → α → Bool} {d : Array α} (h : SortedIn lt 0 d.size d) : d.toList.Pairwise (fun a b => lt b a = false) := by
  rw [List.pairwise_iff_getElem]; intro i j hi hj hij; have := h i j (Nat.zero_le _) hij (by simpa using hj); rw [getElem!_pos d j (by simpa using hj), getElem!_pos d i (by simpa using hi)] at this
  simpa using this

theorem sortFunc_row (w : World) (B : Nat) (v : Value) (xs : List Dd) (hr : RowD w B v xs) (hsz : xs.length ≤ 1000000) :
    Calls Tryz.prog 112 #[v, .func (.func 113) #[] #[]] w fun e w' => e = .returned (.tuple #[]) ∧ ∃ ys : List Dd, ys.Perm xs ∧ ys.Pairwise (fun a b => ltW b a = false) ∧ RowD w' B v ys ∧ Below B w w' := by
  by_cases h0 : xs = []
  · subst h0
    have : ∃ p cap, v = .slice p 0 cap := by
      rcases hr with ⟨rfl, _⟩ | ⟨g, cap, rfl, _⟩
      · exact ⟨_, _, rfl⟩
      · exact ⟨_, _, rfl⟩
    obtain ⟨p, cap, rfl⟩ := this; have hn := AnyF.slices_SortFunc_none (P := Tryz.prog) (ρ := Tryz.sortDd_ren) { Tryz.sortDd with } p cap (.func (.func 113) #[] #[]) w
    change Calls Tryz.prog 112 _ _ _ at hn
    refine hn.mono ?_; rintro e w' ⟨rfl, rfl⟩; exact ⟨rfl, [], List.Perm.refl _, List.Pairwise.nil, hr, Below.refl _ _⟩
  · rcases hr with ⟨_, h⟩ | ⟨g, cap, rfl, hB, hg, hcap, hH⟩
    · exact absurd h h0
    · have hcon := AnyQ.slices_SortFunc Tryz.sortDd 11 Tryz.isAgg131 Tryz.sizeOf131 Dd.enc Dd.enc_length Dd.enc_one cmpW (by rw [ltOf_cmpW]; exact swoW) 113 #[] g 0 cap xs.toArray w (enters_of Tryz.func113 (by kernel_rfl) rfl)
        (fun _ _ _ _ x y => sortCmp_any _ x y) hH hg (by simp; omega)
      change Calls Tryz.prog 112 _ _ _ at hcon
      rw [ltOf_cmpW] at hcon; simp only [List.size_toArray] at hcon; refine hcon.mono ?_; rintro e w' ⟨rfl, d', n, os, hp, hs, rfl⟩; have hp' : PermIn 0 xs.toArray.size xs.toArray d' := by simpa using hp
      have hsz' : d'.size = xs.length := by simpa using hp'.1
      refine ⟨rfl, d'.toList, by simpa using perm_of_permIn hp', pairwise_of_sortedIn (by rw [hsz']; exact hs), .inr ⟨g, cap, by simp [hsz'], hB, lt_sortWorldK _ _ _ _ _ _ _ _ hg, by simp [hsz']; exact hcap, ?_⟩, below_sortWorld _ _ _ _ _ _ _ hB hg⟩
      simpa using holdsK_sortWorldK Dd.enc 11 w g 0 n xs.toArray d' os hg hH (by simpa using hsz')
end Go.Proofs.YtdnebclemngdcaaGreatDoor
