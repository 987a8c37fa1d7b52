/- Contracts of Go's library at this program's numbers, by the kit's own layings; slices.SortFunc over ops with their dots, and over dots; What once makes of a list of commits: plain mathematics, and the walk's relation. -/
import Derived.Shelf.SlSortCmp.WholeK
import Derived.Shelf.SlGeneric
import Derived.Ground.SlsfProg
import Derived.Test.YtilonnkohcocoaaGreatDoorProg
import Derived.Test.YtilonnkohcocoaaGreatDoorJVDelF
import Derived.Shelf.SlSortCmp.NoneTotal
import Derived.Test.YtilonnkohcocoaaGreatDoorJVMap
import Derived.Maps.AppendAt
namespace Go.Proofs
open Go.Shelf
def Tryz.sortDd_ren : Go.Shelf.Ren := ⟨fun | 6 => 80 | 15 => 88 | 14 => 114 | 28 => 125 | 29 => 126 | 20 => 139 | 21 => 140 | 22 => 141 | 23 => 142 | 24 => 143 | 25 => 144 | 26 => 145 | 27 => 146 | 46 => 171 | 47 => 157 | 48 => 158 | 49 => 172 | 50 => 173 | 57 => 182 | n => n, fun | 22 => 90 | 24 => 94 | 25 => 135 | 3 => 3 | 39 => 142 | 0 => 0 | 53 => 184 | 55 => 186 | 4 => 4 | 46 => 178 | 45 => 177 | 50 => 139 | 5 => 5 | 9 => 9 | 66 => 223 | 70 => 227 | 76 => 240 | 77 => 78 | n => n, fun | n => n⟩
theorem Tryz.sortDd : Go.Proofs.SlLaysF0.n6 Tryz.prog Tryz.sortDd_ren := {
  mixed := by kernel_rfl
  f6 := ⟨Tryz.f80.name, by decide, Tryz.func80.trans (congrArg some (by kernel_rfl))⟩
  f14 := ⟨Tryz.f114.name, by decide, Tryz.func114.trans (congrArg some (by kernel_rfl))⟩
  f15 := Tryz.func88.trans (congrArg some (by kernel_rfl))
  f20 := ⟨Tryz.f139.name, by decide, Tryz.func139.trans (congrArg some (by kernel_rfl))⟩
  f21 := ⟨Tryz.f140.name, by decide, Tryz.func140.trans (congrArg some (by kernel_rfl))⟩
  f22 := ⟨Tryz.f141.name, by decide, Tryz.func141.trans (congrArg some (by kernel_rfl))⟩
  f23 := ⟨Tryz.f142.name, by decide, Tryz.func142.trans (congrArg some (by kernel_rfl))⟩
  f24 := ⟨Tryz.f143.name, by decide, Tryz.func143.trans (congrArg some (by kernel_rfl))⟩
  f25 := ⟨Tryz.f144.name, by decide, Tryz.func144.trans (congrArg some (by kernel_rfl))⟩
  f26 := ⟨Tryz.f145.name, by decide, Tryz.func145.trans (congrArg some (by kernel_rfl))⟩
  f27 := ⟨Tryz.f146.name, by decide, Tryz.func146.trans (congrArg some (by kernel_rfl))⟩
  f28 := Tryz.func125.trans (congrArg some (by kernel_rfl))
  f29 := Tryz.func126.trans (congrArg some (by kernel_rfl))
  f46 := ⟨Tryz.f171.name, by decide, Tryz.func171.trans (congrArg some (by kernel_rfl))⟩
  f47 := Tryz.func157.trans (congrArg some (by kernel_rfl))
  f48 := Tryz.func158.trans (congrArg some (by kernel_rfl))
  f49 := ⟨Tryz.f172.name, by decide, Tryz.func172.trans (congrArg some (by kernel_rfl))⟩
  f50 := ⟨Tryz.f173.name, by decide, Tryz.func173.trans (congrArg some (by kernel_rfl))⟩
  f57 := ⟨Tryz.f182.name, by decide, Tryz.func182.trans (congrArg some (by kernel_rfl))⟩
  t0 := Tryz.underlying0
  a0 := Tryz.isAgg0
  z0 := Tryz.sizeOf0
  v0 := Tryz.zeroValue0
  t3 := Tryz.underlying3
  a3 := Tryz.isAgg3
  z3 := Tryz.sizeOf3
  v3 := Tryz.zeroValue3
  t4 := Tryz.underlying4
  a4 := Tryz.isAgg4
  z4 := Tryz.sizeOf4
  v4 := Tryz.zeroValue4
  t5 := Tryz.underlying5
  a5 := Tryz.isAgg5
  z5 := Tryz.sizeOf5
  v5 := Tryz.zeroValue5
  t9 := Tryz.underlying9
  a9 := Tryz.isAgg9
  z9 := Tryz.sizeOf9
  v9 := Tryz.zeroValue9
  t22 := Tryz.underlying90
  a22 := Tryz.isAgg90
  z22 := Tryz.sizeOf90
  v22 := Tryz.zeroValue90
  t25 := Tryz.underlying135
  a25 := Tryz.isAgg135
  z25 := Tryz.sizeOf135
  v25 := Tryz.zeroValue135
  t39 := Tryz.underlying142
  a39 := Tryz.isAgg142
  z39 := Tryz.sizeOf142
  v39 := Tryz.zeroValue142
  t45 := Tryz.underlying177
  a45 := Tryz.isAgg177
  z45 := Tryz.sizeOf177
  v45 := Tryz.zeroValue177
  t46 := Tryz.underlying178
  a46 := Tryz.isAgg178
  z46 := Tryz.sizeOf178
  v46 := Tryz.zeroValue178
  t50 := Tryz.underlying139
  a50 := Tryz.isAgg139
  z50 := Tryz.sizeOf139
  v50 := Tryz.zeroValue139
  t53 := Tryz.underlying184
  a53 := Tryz.isAgg184
  z53 := Tryz.sizeOf184
  v53 := Tryz.zeroValue184
  t55 := Tryz.underlying186
  a55 := Tryz.isAgg186
  z55 := Tryz.sizeOf186
  v55 := Tryz.zeroValue186
  t66 := Tryz.underlying223
  a66 := Tryz.isAgg223
  z66 := Tryz.sizeOf223
  v66 := Tryz.zeroValue223
  t70 := Tryz.underlying227
  a70 := Tryz.isAgg227
  z70 := Tryz.sizeOf227
  v70 := Tryz.zeroValue227
  t76 := Tryz.underlying240
  a76 := Tryz.isAgg240
  z76 := Tryz.sizeOf240
  v76 := Tryz.zeroValue240
  t77 := Tryz.underlying78
  a77 := Tryz.isAgg78
  z77 := Tryz.sizeOf78
  v77 := Tryz.zeroValue78 }
def Tryz.sortDot_ren : Go.Shelf.Ren := ⟨fun | 6 => 53 | 15 => 88 | 14 => 87 | 28 => 125 | 29 => 126 | 20 => 117 | 21 => 118 | 22 => 119 | 23 => 120 | 24 => 121 | 25 => 122 | 26 => 123 | 27 => 124 | 46 => 156 | 47 => 157 | 48 => 158 | 49 => 159 | 50 => 160 | 57 => 178 | n => n, fun | 22 => 22 | 24 => 65 | 25 => 98 | 3 => 3 | 39 => 142 | 0 => 0 | 53 => 184 | 55 => 186 | 4 => 4 | 46 => 178 | 45 => 177 | 50 => 139 | 5 => 5 | 9 => 9 | 66 => 223 | 70 => 227 | 76 => 240 | 77 => 78 | n => n, fun | n => n⟩
theorem Tryz.sortDot : Go.Proofs.SlLaysF0.n6 Tryz.prog Tryz.sortDot_ren := {
  mixed := by kernel_rfl
  f6 := ⟨Tryz.f53.name, by decide, Tryz.func53.trans (congrArg some (by kernel_rfl))⟩
  f14 := ⟨Tryz.f87.name, by decide, Tryz.func87.trans (congrArg some (by kernel_rfl))⟩
  f15 := Tryz.func88.trans (congrArg some (by kernel_rfl))
  f20 := ⟨Tryz.f117.name, by decide, Tryz.func117.trans (congrArg some (by kernel_rfl))⟩
  f21 := ⟨Tryz.f118.name, by decide, Tryz.func118.trans (congrArg some (by kernel_rfl))⟩
  f22 := ⟨Tryz.f119.name, by decide, Tryz.func119.trans (congrArg some (by kernel_rfl))⟩
  f23 := ⟨Tryz.f120.name, by decide, Tryz.func120.trans (congrArg some (by kernel_rfl))⟩
  f24 := ⟨Tryz.f121.name, by decide, Tryz.func121.trans (congrArg some (by kernel_rfl))⟩
  f25 := ⟨Tryz.f122.name, by decide, Tryz.func122.trans (congrArg some (by kernel_rfl))⟩
  f26 := ⟨Tryz.f123.name, by decide, Tryz.func123.trans (congrArg some (by kernel_rfl))⟩
  f27 := ⟨Tryz.f124.name, by decide, Tryz.func124.trans (congrArg some (by kernel_rfl))⟩
  f28 := Tryz.func125.trans (congrArg some (by kernel_rfl))
  f29 := Tryz.func126.trans (congrArg some (by kernel_rfl))
  f46 := ⟨Tryz.f156.name, by decide, Tryz.func156.trans (congrArg some (by kernel_rfl))⟩
  f47 := Tryz.func157.trans (congrArg some (by kernel_rfl))
  f48 := Tryz.func158.trans (congrArg some (by kernel_rfl))
  f49 := ⟨Tryz.f159.name, by decide, Tryz.func159.trans (congrArg some (by kernel_rfl))⟩
  f50 := ⟨Tryz.f160.name, by decide, Tryz.func160.trans (congrArg some (by kernel_rfl))⟩
  f57 := ⟨Tryz.f178.name, by decide, Tryz.func178.trans (congrArg some (by kernel_rfl))⟩
  t0 := Tryz.underlying0
  a0 := Tryz.isAgg0
  z0 := Tryz.sizeOf0
  v0 := Tryz.zeroValue0
  t3 := Tryz.underlying3
  a3 := Tryz.isAgg3
  z3 := Tryz.sizeOf3
  v3 := Tryz.zeroValue3
  t4 := Tryz.underlying4
  a4 := Tryz.isAgg4
  z4 := Tryz.sizeOf4
  v4 := Tryz.zeroValue4
  t5 := Tryz.underlying5
  a5 := Tryz.isAgg5
  z5 := Tryz.sizeOf5
  v5 := Tryz.zeroValue5
  t9 := Tryz.underlying9
  a9 := Tryz.isAgg9
  z9 := Tryz.sizeOf9
  v9 := Tryz.zeroValue9
  t22 := Tryz.underlying22
  a22 := Tryz.isAgg22
  z22 := Tryz.sizeOf22
  v22 := Tryz.zeroValue22
  t25 := Tryz.underlying98
  a25 := Tryz.isAgg98
  z25 := Tryz.sizeOf98
  v25 := Tryz.zeroValue98
  t39 := Tryz.underlying142
  a39 := Tryz.isAgg142
  z39 := Tryz.sizeOf142
  v39 := Tryz.zeroValue142
  t45 := Tryz.underlying177
  a45 := Tryz.isAgg177
  z45 := Tryz.sizeOf177
  v45 := Tryz.zeroValue177
  t46 := Tryz.underlying178
  a46 := Tryz.isAgg178
  z46 := Tryz.sizeOf178
  v46 := Tryz.zeroValue178
  t50 := Tryz.underlying139
  a50 := Tryz.isAgg139
  z50 := Tryz.sizeOf139
  v50 := Tryz.zeroValue139
  t53 := Tryz.underlying184
  a53 := Tryz.isAgg184
  z53 := Tryz.sizeOf184
  v53 := Tryz.zeroValue184
  t55 := Tryz.underlying186
  a55 := Tryz.isAgg186
  z55 := Tryz.sizeOf186
  v55 := Tryz.zeroValue186
  t66 := Tryz.underlying223
  a66 := Tryz.isAgg223
  z66 := Tryz.sizeOf223
  v66 := Tryz.zeroValue223
  t70 := Tryz.underlying227
  a70 := Tryz.isAgg227
  z70 := Tryz.sizeOf227
  v70 := Tryz.zeroValue227
  t76 := Tryz.underlying240
  a76 := Tryz.isAgg240
  z76 := Tryz.sizeOf240
  v76 := Tryz.zeroValue240
  t77 := Tryz.underlying78
  a77 := Tryz.isAgg78
  z77 := Tryz.sizeOf78
  v77 := Tryz.zeroValue78 }
end Go.Proofs
namespace Go.Proofs.YtilonnkohcocoaaGreatDoor
open Go.RowKit Go.Sort Go.Lib Go.Shelf
set_option linter.unusedSectionVars false
variable [DecidableEq D3] [Inhabited D3] [Inhabited Dd]

theorem cmpI_lt (x y : Int) : cmpI x y < 0 ↔ x < y := by
  unfold cmpI
  split
  · omega
  · split <;> omega
theorem cmpI_eq (x y : Int) : cmpI x y = 0 ↔ x = y := by
  unfold cmpI
  split
  · omega
  · split <;> omega
/-- Which of two dots comes first. -/
def ltD (a b : D3) : Bool := decide (a.p < b.p ∨ a.p = b.p ∧ (a.t < b.t ∨ a.t = b.t ∧ a.a < b.a))
theorem cmpD_lt (a b : D3) : cmpD a b < 0 ↔ ltD a b = true := by
  unfold cmpD ltD
  simp only [orI, cmpI_eq, decide_eq_true_eq]
  have h1 := cmpI_lt a.p b.p
  have h2 := cmpI_lt a.t b.t
  have h3 := cmpI_lt a.a b.a
  by_cases e1 : a.p = b.p
  · rw [if_pos e1]
    by_cases e2 : a.t = b.t
    · rw [if_pos e2]
      by_cases e3 : a.a = b.a
      · rw [if_pos e3]; omega
      · rw [if_neg e3]; omega
    · rw [if_neg e2]; omega
  · rw [if_neg e1]; omega
theorem cmpD_eq (a b : D3) : cmpD a b = 0 ↔ a = b := by
  unfold cmpD
  simp only [orI, cmpI_eq]
  obtain ⟨a1, a2, a3⟩ := a
  obtain ⟨b1, b2, b3⟩ := b
  simp only [D3.mk.injEq]
  have q1 := cmpI_eq a1 b1
  have q2 := cmpI_eq a2 b2
  have q3 := cmpI_eq a3 b3
  by_cases e1 : a1 = b1
  · rw [if_pos e1]
    by_cases e2 : a2 = b2
    · rw [if_pos e2]
      by_cases e3 : a3 = b3
      · rw [if_pos e3]; simp [e1, e2, e3]
      · rw [if_neg e3]; simp [e3]; omega
    · rw [if_neg e2]; simp [e2]; omega
  · rw [if_neg e1]; simp [e1]; omega
/-- Which of two ops counts first. -/
def ltW (x y : Dd) : Bool := decide (x.wt < y.wt ∨ x.wt = y.wt ∧ ltD x.dot y.dot = true)
theorem ltOf_cmpW : ltOf cmpW = ltW := by
  funext x y
  unfold ltOf cmpW ltW
  simp only [orI, cmpI_eq]
  have h1 := cmpI_lt x.wt y.wt
  have h2 := cmpD_lt x.dot y.dot
  have h3 := cmpD_eq x.dot y.dot
  by_cases e1 : x.wt = y.wt
  · rw [if_pos e1]
    by_cases e2 : cmpD x.dot y.dot = 0
    · rw [if_pos e2]
      congr 1
      rw [← h2]
      apply propext
      omega
    · rw [if_neg e2]
      congr 1
      rw [← h2]
      apply propext
      omega
  · rw [if_neg e1]
    congr 1
    apply propext
    omega
theorem ltOf_cmpD : ltOf cmpD = ltD := by
  funext x y
  unfold ltOf
  have h2 := cmpD_lt x y
  cases h : ltD x y with
  | true => exact decide_eq_true (h2.2 h)
  | false => exact decide_eq_false (fun hh => by rw [h2.1 hh] at h; cases h)
theorem swoD : SWO ltD where
  irrefl x := by simp [ltD]
  trans x y z h1 h2 := by simp only [ltD, decide_eq_true_eq] at *; omega
  ntrans x y z h1 h2 := by simp only [ltD, decide_eq_false_iff_not] at *; omega
theorem swoW : SWO ltW where
  irrefl x := by simp [ltW, ltD]
  trans x y z h1 h2 := by simp only [ltW, ltD, decide_eq_true_eq] at *; omega
  ntrans x y z h1 h2 := by simp only [ltW, ltD, decide_eq_true_eq, decide_eq_false_iff_not] at *; omega

theorem below_sortWorld {α : Type} [Inhabited α] (enc : α → List Value) (k : Nat) {B : Nat} (w : World) (blk n : Nat) (d : Array α) (os : Array Obj) (hB : B ≤ blk) (hblk : blk < w.heap.size) : Below B w (sortWorldK enc k w blk 0 n d os) := by
  refine ⟨rfl, rfl, rfl, by unfold sortWorldK putRowK putRow mapBlock; simp [Sort.ahead]; try omega, fun i hi => ?_⟩
  unfold sortWorldK
  rw [heap_grow_old _ _ (by unfold putRowK putRow mapBlock; simp [Sort.ahead]; omega)]
  unfold putRowK putRow mapBlock
  simp only [Sort.ahead]
  simp [Array.getElem?_modify, show blk ≠ i by omega]

theorem perm_of_permIn {α : Type} [Inhabited α] {d d' : Array α} (h : PermIn 0 d.size d d') : d'.toList.Perm d.toList := by
  obtain ⟨h1, _, h3⟩ := h
  rw [Array.extract_eq_self_of_le (Nat.le_refl _)] at h3
  rw [← h1, Array.extract_eq_self_of_le (Nat.le_refl _)] at h3
  exact h3
theorem pairwise_of_sortedIn {α : Type} [Inhabited α] {lt : α → α → Bool} {d : Array α} (h : SortedIn lt 0 d.size d) : d.toList.Pairwise (fun a b => lt b a = false) := by
  rw [List.pairwise_iff_getElem]
  intro i j hi hj hij
  have := h i j (Nat.zero_le _) hij (by simpa using hj)
  rw [getElem!_pos d j (by simpa using hj), getElem!_pos d i (by simpa using hi)] at this
  simpa using this

theorem sortFunc_row (w : World) (B : Nat) (v : Value) (xs : List Dd) (hr : RowD w B v xs) (hsz : xs.length ≤ 1000000) :
    Calls Tryz.prog 80 #[v, .func (.func 81) #[] #[]] w fun e w' => e = .returned (.tuple #[]) ∧ ∃ ys : List Dd, ys.Perm xs ∧ ys.Pairwise (fun a b => ltW b a = false) ∧ RowD w' B v ys ∧ Below B w w' := by
  by_cases h0 : xs = []
  · subst h0
    have : ∃ p cap, v = .slice p 0 cap := by
      rcases hr with ⟨rfl, _⟩ | ⟨g, cap, rfl, _⟩
      · exact ⟨_, _, rfl⟩
      · exact ⟨_, _, rfl⟩
    obtain ⟨p, cap, rfl⟩ := this
    have hn := AnyF.slices_SortFunc_none (P := Tryz.prog) (ρ := Tryz.sortDd_ren) { Tryz.sortDd with } p cap (.func (.func 81) #[] #[]) w
    change Calls Tryz.prog 80 _ _ _ at hn
    refine hn.mono ?_
    rintro e w' ⟨rfl, rfl⟩
    exact ⟨rfl, [], List.Perm.refl _, List.Pairwise.nil, hr, Below.refl _ _⟩
  · rcases hr with ⟨_, h⟩ | ⟨g, cap, rfl, hB, hg, hcap, hH⟩
    · exact absurd h h0
    · have hcon := AnyQ.slices_SortFunc Tryz.sortDd 11 Tryz.isAgg94 Tryz.sizeOf94 Dd.enc Dd.enc_length Dd.enc_one cmpW (by rw [ltOf_cmpW]; exact swoW) 81 #[] g 0 cap xs.toArray w (enters_of Tryz.func81 (by kernel_rfl) rfl)
        (fun _ _ _ _ x y => sortCmp_any _ x y) hH hg (by simp; omega)
      change Calls Tryz.prog 80 _ _ _ at hcon
      rw [ltOf_cmpW] at hcon
      simp only [List.size_toArray] at hcon
      refine hcon.mono ?_
      rintro e w' ⟨rfl, d', n, os, hp, hs, rfl⟩
      have hp' : PermIn 0 xs.toArray.size xs.toArray d' := by simpa using hp
      have hsz' : d'.size = xs.length := by simpa using hp'.1
      refine ⟨rfl, d'.toList, by simpa using perm_of_permIn hp', pairwise_of_sortedIn (by rw [hsz']; exact hs), .inr ⟨g, cap, by simp [hsz'], hB, lt_sortWorldK _ _ _ _ _ _ _ _ hg, by simp [hsz']; exact hcap, ?_⟩, below_sortWorld _ _ _ _ _ _ _ hB hg⟩
      simpa using holdsK_sortWorldK Dd.enc 11 w g 0 n xs.toArray d' os hg hH (by simpa using hsz')
end Go.Proofs.YtilonnkohcocoaaGreatDoor
namespace Go.Proofs.YtilonnkohcocoaaGreatDoor
open Go.RowKit Go.Maps
set_option linter.unusedSectionVars false
variable [Inhabited ComV] [DecidableEq D3] [Inhabited D3] [Inhabited Dd] [Inhabited OpV]

/-- An op with its dot, and its commit's weight. -/
structure Dn where
  o : OpV
  dot : D3
  wt : Int
variable [Inhabited Dn]
def Dd.abs (x : Dd) : Dn := ⟨⟨x.at_, x.key, x.kind, x.text, x.n, x.rem, x.ds⟩, x.dot, x.wt⟩
def dnOf (c : ComV) (o : OpV) : Dn := ⟨o, ⟨c.place, c.when_.getD c.place.toNat 0, o.at_⟩, sum c.when_⟩
def hasDot (acc : List Dn) (d : D3) : Bool := acc.any fun x => decide (x.dot = d)
def addDn (acc : List Dn) (d : Dn) : List Dn := if hasDot acc d.dot = true then acc else acc ++ [d]
def addCom (acc : List Dn) (c : ComV) : List Dn := (c.ops.map (dnOf c)).foldl addDn acc
/-- Each op once, the first one of its dot. -/
def onceA (l : List ComV) : List Dn := l.foldl addCom []
def addTo (acc : List Dn) (c : ComV) (j : Nat) : List Dn := ((c.ops.take j).map (dnOf c)).foldl addDn acc
theorem addTo_zero (acc : List Dn) (c : ComV) : addTo acc c 0 = acc := rfl
theorem addTo_succ (acc : List Dn) (c : ComV) {j : Nat} (h : j < c.ops.length) : addTo acc c (j + 1) = addDn (addTo acc c j) (dnOf c c.ops[j]!) := by
  unfold addTo
  rw [List.take_succ_eq_append_getElem h, List.map_append, List.foldl_append, getElem!_pos c.ops j h]
  rfl
theorem addTo_all (acc : List Dn) (c : ComV) : addTo acc c c.ops.length = addCom acc c := by
  unfold addTo addCom
  rw [List.take_length]
theorem once_succ {l : List ComV} {k : Nat} (h : k < l.length) : (l.take (k + 1)).foldl addCom [] = addCom ((l.take k).foldl addCom []) l[k]! := by
  rw [List.take_succ_eq_append_getElem h, List.foldl_append, getElem!_pos l k h]
  rfl
theorem hasDot_append (acc : List Dn) (x : Dn) (d : D3) : hasDot (acc ++ [x]) d = (hasDot acc d || decide (x.dot = d)) := by simp [hasDot]

def GoodD (w : World) (x : Dd) : Prop := DotsAt w (.slice x.dp x.dl x.dc) x.ds
/-- Where once stands: the row holds acc, the map acc's dots. -/
structure OnceInv (w wr : World) (v : Value) (acc : List Dn) (n : Nat) : Prop where
  row : ∃ xs : List Dd, wr.ownsRow (w.heap.size + 1) 94 11 v xs.length (xs.flatMap Dd.enc) ∧ xs.map Dd.abs = acc ∧ ∀ x ∈ xs, GoodD w x
  map : ∃ D : DataW Unit, wr.ownsMap Tryz.prog 65 unitElem w.heap.size n D ∧ ∀ d, wf3 d → Maps.has D (klD d) = hasDot acc d
  below : Below w.heap.size w wr
  size : w.heap.size + 1 ≤ wr.heap.size
  len : acc.length ≤ n
theorem OnceInv.alloc {w wr : World} {v : Value} {acc : List Dn} {n : Nat} (h : OnceInv w wr v acc n) (o : Obj) : OnceInv w (wr.alloc o) v acc n where
  row := let ⟨xs, h1, h2⟩ := h.row; ⟨xs, h1.alloc o, h2⟩
  map := let ⟨D, h1, h2⟩ := h.map; ⟨D, h1.alloc o, h2⟩
  below := h.below.alloc (by have := h.size; omega) o
  size := by have := h.size; simp; omega
  len := h.len
theorem OnceInv.draw {w wr : World} {v : Value} {acc : List Dn} {n : Nat} (h : OnceInv w wr v acc n) (q : Nat) : OnceInv w (wr.drewN q) v acc n where
  row := h.row
  map := h.map
  below := below_draws h.below q
  size := h.size
  len := h.len
theorem OnceInv.mono {w wr : World} {v : Value} {acc : List Dn} {n n' : Nat} (h : OnceInv w wr v acc n) (hn : n ≤ n') : OnceInv w wr v acc n' where
  row := h.row
  map := let ⟨D, h1, h2⟩ := h.map; ⟨D, h1.mono hn, h2⟩
  below := h.below
  size := h.size
  len := Nat.le_trans h.len hn
theorem run_makeMap_room {t k e : TypeId} (hu : Tryz.prog.underlying t = some (.map k e)) (m : Nat) (w : World) : (Instr.makeMap t (some (.int .i64 m))).run Tryz.prog w = .ok (.map (some w.heap.size)) (w.alloc (.map #[] 0)) := by
  simp [Instr.makeMap, run_underlying hu, asInt, asIntOf, Result.andThen]
theorem OnceInv.start (w wm : World) (v : Value) (hr : wm.ownsRow (w.heap.size + 1) 94 11 v 0 []) (hg : (w.alloc (.map #[] 0)).grownBy wm none) : OnceInv w wm v [] 0 where
  row := ⟨[], hr, rfl, fun x hx => by simp at hx⟩
  map := ⟨.map [], (World.ownsMap_made _ _ _ _).kept hg (by simp), fun d _ => rfl⟩
  below := (below_alloc _ _).grown hg (by simp) (fun j hj => by cases hj)
  size := by have := hg.size; simpa using this
  len := Nat.le_refl _
/-- A new op: into the map, and to the row's end. -/
theorem OnceInv.step {w wr w1 w2 : World} {v v' : Value} {acc : List Dn} {n : Nat} {o1 o2 : Obj} {D : DataW Unit} {xs : List Dd} {x : Dd} (hx : GoodD w x) (hs : w.heap.size + 1 ≤ wr.heap.size) (hb : Below w.heap.size w wr) (hlen : acc.length ≤ n)
    (hrow : wr.ownsRow (w.heap.size + 1) 94 11 v xs.length (xs.flatMap Dd.enc)) (habs : xs.map Dd.abs = acc) (hgood : ∀ x ∈ xs, GoodD w x)
    (hD : ∀ d, wf3 d → Maps.has D (klD d) = hasDot acc d) (hwf : wf3 x.dot) (his : IsMap D)
    (hg1 : (wr.alloc o1).grownBy w1 (some w.heap.size)) (hm1 : w1.ownsMap Tryz.prog 65 unitElem w.heap.size (n + 1) (D.put (klD x.dot) (.agg [])))
    (hg2 : (w1.alloc o2).grownBy w2 v.ownBlock) (hr2 : w2.ownsRow (w.heap.size + 1) 94 11 v' (xs.length + 1) (xs.flatMap Dd.enc ++ x.enc)) : OnceInv w w2 v' (acc ++ [x.abs]) (n + 1) where
  row := ⟨xs ++ [x], by simpa using hr2, by simp [habs], fun y hy => by
    rcases List.mem_append.1 hy with h | h
    · exact hgood y h
    · rw [List.mem_singleton.1 h]; exact hx⟩
  map := ⟨_, (hm1.alloc o2).kept hg2 (fun e => by have := (hrow.lt w.heap.size e.symm).1; omega), fun d hd => by
    rw [hasDot_append]
    by_cases e : x.dot = d
    · subst e
      rw [has_put_same his (klD_key _), decide_eq_true (show x.abs.dot = x.dot from rfl), Bool.or_true]
    · rw [has_put_other (fun h => e (klD_inj hd hwf h).symm), hD d hd, decide_eq_false (show ¬ x.abs.dot = d from e), Bool.or_false]⟩
  below := by
    have s1 := hg1.size
    have b1 : Below w.heap.size w w1 := (hb.alloc (by omega) o1).grown hg1 (by simp; omega) (fun j hj => by cases hj; exact Nat.le_refl _)
    exact (b1.alloc (by simp at s1; omega) o2).grown hg2 (by simp at s1 ⊢; omega) (fun j hj => Nat.le_trans (Nat.le_succ _) (hrow.lt j hj).1)
  size := by have s1 := hg1.size; have s2 := hg2.size; simp at s1 s2; omega
  len := by simp; omega
end Go.Proofs.YtilonnkohcocoaaGreatDoor
