/- slices.SortFunc over ops with their dots, and over dots; What once makes of a list of commits: plain mathematics, and the walk's relation. -/
import Derived.Test.YtngjooemanapnaaGreatDoorJVSortN
import Derived.Test.YtngjooemanapnaaGreatDoorJVCmpD
import Derived.Test.YtngjooemanapnaaGreatDoorJVCom
import Derived.Test.YtngjooemanapnaaGreatDoorJVLayI
import Derived.Shelf.SlSortCmp.WholeK
import Derived.Test.YtngjooemanapnaaGreatDoorJVMap
import Derived.Test.YtngjooemanapnaaGreatDoorJVCheck
import Derived.Maps.AppendAt
namespace Go.Proofs.YtngjooemanapnaaGreatDoor
open Go.RowKit Go.Sort Go.Lib Go.Shelf
set_option linter.unusedSectionVars false
variable [DecidableEq D3] [Inhabited D3] [Inhabited Dd]

theorem cmpI_lt (x y : Int) : cmpI x y < 0 ↔ x < y := by
  unfold cmpI
  split
  · omega
  · split <;> omega
theorem cmpI_eq (x y : Int) : cmpI x y = 0 ↔ x = y := by
  unfold cmpI
  split
  · omega
  · split <;> omega
/-- Which of two dots comes first. -/
def ltD (a b : D3) : Bool := decide (a.p < b.p ∨ a.p = b.p ∧ (a.t < b.t ∨ a.t = b.t ∧ a.a < b.a))
theorem cmpD_lt (a b : D3) : cmpD a b < 0 ↔ ltD a b = true := by
  unfold cmpD ltD
  simp only [orI, cmpI_eq, decide_eq_true_eq]
  have h1 := cmpI_lt a.p b.p
  have h2 := cmpI_lt a.t b.t
  have h3 := cmpI_lt a.a b.a
  by_cases e1 : a.p = b.p
  · rw [if_pos e1]
    by_cases e2 : a.t = b.t
    · rw [if_pos e2]
      by_cases e3 : a.a = b.a
      · rw [if_pos e3]; omega
      · rw [if_neg e3]; omega
    · rw [if_neg e2]; omega
  · rw [if_neg e1]; omega
theorem cmpD_eq (a b : D3) : cmpD a b = 0 ↔ a = b := by
  unfold cmpD
  simp only [orI, cmpI_eq]
  obtain ⟨a1, a2, a3⟩ := a
  obtain ⟨b1, b2, b3⟩ := b
  simp only [D3.mk.injEq]
  have q1 := cmpI_eq a1 b1
  have q2 := cmpI_eq a2 b2
  have q3 := cmpI_eq a3 b3
  by_cases e1 : a1 = b1
  · rw [if_pos e1]
    by_cases e2 : a2 = b2
    · rw [if_pos e2]
      by_cases e3 : a3 = b3
      · rw [if_pos e3]; simp [e1, e2, e3]
      · rw [if_neg e3]; simp [e3]; omega
    · rw [if_neg e2]; simp [e2]; omega
  · rw [if_neg e1]; simp [e1]; omega
/-- Which of two ops counts first. -/
def ltW (x y : Dd) : Bool := decide (x.wt < y.wt ∨ x.wt = y.wt ∧ ltD x.dot y.dot = true)
theorem ltOf_cmpW : ltOf cmpW = ltW := by
  funext x y
  unfold ltOf cmpW ltW
  simp only [orI, cmpI_eq]
  have h1 := cmpI_lt x.wt y.wt
  have h2 := cmpD_lt x.dot y.dot
  have h3 := cmpD_eq x.dot y.dot
  by_cases e1 : x.wt = y.wt
  · rw [if_pos e1]
    by_cases e2 : cmpD x.dot y.dot = 0
    · rw [if_pos e2]
      congr 1
      rw [← h2]
      apply propext
      omega
    · rw [if_neg e2]
      congr 1
      rw [← h2]
      apply propext
      omega
  · rw [if_neg e1]
    congr 1
    apply propext
    omega
theorem ltOf_cmpD : ltOf cmpD = ltD := by
  funext x y
  unfold ltOf
  have h2 := cmpD_lt x y
  cases h : ltD x y with
  | true => exact decide_eq_true (h2.2 h)
  | false => exact decide_eq_false (fun hh => by rw [h2.1 hh] at h; cases h)
theorem swoD : SWO ltD where
  irrefl x := by simp [ltD]
  trans x y z h1 h2 := by simp only [ltD, decide_eq_true_eq] at *; omega
  ntrans x y z h1 h2 := by simp only [ltD, decide_eq_false_iff_not] at *; omega
theorem swoW : SWO ltW where
  irrefl x := by simp [ltW, ltD]
  trans x y z h1 h2 := by simp only [ltW, ltD, decide_eq_true_eq] at *; omega
  ntrans x y z h1 h2 := by simp only [ltW, ltD, decide_eq_true_eq, decide_eq_false_iff_not] at *; omega
theorem below_sortWorld {α : Type} [Inhabited α] (enc : α → List Value) (k : Nat) {B : Nat} (w : World) (blk n : Nat) (d : Array α) (os : Array Obj) (hB : B ≤ blk) (hblk : blk < w.heap.size) : Below B w (sortWorldK enc k w blk 0 n d os) := by
  refine ⟨rfl, rfl, rfl, by unfold sortWorldK putRowK putRow mapBlock; simp [Sort.ahead]; try omega, fun i hi => ?_⟩
  unfold sortWorldK
  rw [heap_grow_old _ _ (by unfold putRowK putRow mapBlock; simp [Sort.ahead]; omega)]
  unfold putRowK putRow mapBlock
  simp only [Sort.ahead]
  simp [Array.getElem?_modify, show blk ≠ i by omega]
theorem perm_of_permIn {α : Type} [Inhabited α] {d d' : Array α} (h : PermIn 0 d.size d d') : d'.toList.Perm d.toList := by
  obtain ⟨h1, _, h3⟩ := h
  rw [Array.extract_eq_self_of_le (Nat.le_refl _)] at h3
  rw [← h1, Array.extract_eq_self_of_le (Nat.le_refl _)] at h3
  exact h3
theorem pairwise_of_sortedIn {α : Type} [Inhabited α] {lt : α → α → Bool} {d : Array α} (h : SortedIn lt 0 d.size d) : d.toList.Pairwise (fun a b => lt b a = false) := by
  rw [List.pairwise_iff_getElem]
  intro i j hi hj hij
  have := h i j (Nat.zero_le _) hij (by simpa using hj)
  rw [getElem!_pos d j (by simpa using hj), getElem!_pos d i (by simpa using hi)] at this
  simpa using this
theorem sortFunc_row (w : World) (B : Nat) (v : Value) (xs : List Dd) (hr : RowD w B v xs) (hsz : xs.length ≤ 1000000) :
    Calls Tryz.prog 103 #[v, .func (.func 104) #[] #[]] w fun e w' => e = .returned (.tuple #[]) ∧ ∃ ys : List Dd, ys.Perm xs ∧ ys.Pairwise (fun a b => ltW b a = false) ∧ RowD w' B v ys ∧ Below B w w' := by
  by_cases h0 : xs = []
  · subst h0
    have : ∃ p cap, v = .slice p 0 cap := by
      rcases hr with ⟨rfl, _⟩ | ⟨g, cap, rfl, _⟩
      · exact ⟨_, _, rfl⟩
      · exact ⟨_, _, rfl⟩
    obtain ⟨p, cap, rfl⟩ := this
    refine (sortDd_none p cap (.func (.func 104) #[] #[]) w).mono ?_
    rintro e w' ⟨rfl, rfl⟩
    exact ⟨rfl, [], List.Perm.refl _, List.Pairwise.nil, hr, Below.refl _ _⟩
  · rcases hr with ⟨_, h⟩ | ⟨g, cap, rfl, hB, hg, hcap, hH⟩
    · exact absurd h h0
    · have hcon := AnyQ.slices_SortFunc Tryz.sortDd 11 Tryz.isAgg166 Tryz.sizeOf166 Dd.enc Dd.enc_length Dd.enc_one cmpW (by rw [ltOf_cmpW]; exact swoW) 104 #[] g 0 cap xs.toArray w (enters_of Tryz.func104 (by kernel_rfl) rfl)
        (fun _ _ _ _ x y => sortCmp_any _ x y) hH hg (by simp; omega)
      change Calls Tryz.prog 103 _ _ _ at hcon
      rw [ltOf_cmpW] at hcon
      simp only [List.size_toArray] at hcon
      refine hcon.mono ?_
      rintro e w' ⟨rfl, d', n, os, hp, hs, rfl⟩
      have hp' : PermIn 0 xs.toArray.size xs.toArray d' := by simpa using hp
      have hsz' : d'.size = xs.length := by simpa using hp'.1
      refine ⟨rfl, d'.toList, by simpa using perm_of_permIn hp', pairwise_of_sortedIn (by rw [hsz']; exact hs), .inr ⟨g, cap, by simp [hsz'], hB, lt_sortWorldK _ _ _ _ _ _ _ _ hg, by simp [hsz']; exact hcap, ?_⟩, below_sortWorld _ _ _ _ _ _ _ hB hg⟩
      simpa using holdsK_sortWorldK Dd.enc 11 w g 0 n xs.toArray d' os hg hH (by simpa using hsz')
end Go.Proofs.YtngjooemanapnaaGreatDoor
namespace Go.Proofs.YtngjooemanapnaaGreatDoor
open Go.RowKit Go.Maps
set_option linter.unusedSectionVars false
variable [Inhabited ComV] [DecidableEq D3] [Inhabited D3] [Inhabited Dd] [Inhabited OpV]

/-- An op with its dot, and its commit's weight. -/
structure Dn where
  o : OpV
  dot : D3
  wt : Int
variable [Inhabited Dn]
def Dd.abs (x : Dd) : Dn := ⟨⟨x.at_, x.key, x.kind, x.text, x.n, x.rem, x.ds⟩, x.dot, x.wt⟩
def dnOf (c : ComV) (o : OpV) : Dn := ⟨o, ⟨c.place, c.when_.getD c.place.toNat 0, o.at_⟩, sum c.when_⟩
def hasDot (acc : List Dn) (d : D3) : Bool := acc.any fun x => decide (x.dot = d)
def addDn (acc : List Dn) (d : Dn) : List Dn := if hasDot acc d.dot = true then acc else acc ++ [d]
def addCom (acc : List Dn) (c : ComV) : List Dn := (c.ops.map (dnOf c)).foldl addDn acc
/-- Each op once, the first one of its dot. -/
def onceA (l : List ComV) : List Dn := l.foldl addCom []
def addTo (acc : List Dn) (c : ComV) (j : Nat) : List Dn := ((c.ops.take j).map (dnOf c)).foldl addDn acc
theorem addTo_zero (acc : List Dn) (c : ComV) : addTo acc c 0 = acc := rfl
theorem addTo_succ (acc : List Dn) (c : ComV) {j : Nat} (h : j < c.ops.length) : addTo acc c (j + 1) = addDn (addTo acc c j) (dnOf c c.ops[j]!) := by
  unfold addTo
  rw [List.take_succ_eq_append_getElem h, List.map_append, List.foldl_append, getElem!_pos c.ops j h]
  rfl
theorem addTo_all (acc : List Dn) (c : ComV) : addTo acc c c.ops.length = addCom acc c := by
  unfold addTo addCom
  rw [List.take_length]
theorem once_succ {l : List ComV} {k : Nat} (h : k < l.length) : (l.take (k + 1)).foldl addCom [] = addCom ((l.take k).foldl addCom []) l[k]! := by
  rw [List.take_succ_eq_append_getElem h, List.foldl_append, getElem!_pos l k h]
  rfl
theorem hasDot_append (acc : List Dn) (x : Dn) (d : D3) : hasDot (acc ++ [x]) d = (hasDot acc d || decide (x.dot = d)) := by simp [hasDot]
def GoodD (w : World) (x : Dd) : Prop := DotsAt w (.slice x.dp x.dl x.dc) x.ds
/-- Where once stands: the row holds acc, the map acc's dots. -/
structure OnceInv (w wr : World) (v : Value) (acc : List Dn) (n : Nat) : Prop where
  row : ∃ xs : List Dd, wr.ownsRow (w.heap.size + 1) 166 11 v xs.length (xs.flatMap Dd.enc) ∧ xs.map Dd.abs = acc ∧ ∀ x ∈ xs, GoodD w x
  map : ∃ D : DataW Unit, wr.ownsMap Tryz.prog 132 unitElem w.heap.size n D ∧ ∀ d, wf3 d → Maps.has D (klD d) = hasDot acc d
  below : Below w.heap.size w wr
  size : w.heap.size + 1 ≤ wr.heap.size
  len : acc.length ≤ n
theorem OnceInv.alloc {w wr : World} {v : Value} {acc : List Dn} {n : Nat} (h : OnceInv w wr v acc n) (o : Obj) : OnceInv w (wr.alloc o) v acc n where
  row := let ⟨xs, h1, h2⟩ := h.row; ⟨xs, h1.alloc o, h2⟩
  map := let ⟨D, h1, h2⟩ := h.map; ⟨D, h1.alloc o, h2⟩
  below := h.below.alloc (by have := h.size; omega) o
  size := by have := h.size; simp; omega
  len := h.len
theorem OnceInv.draw {w wr : World} {v : Value} {acc : List Dn} {n : Nat} (h : OnceInv w wr v acc n) (q : Nat) : OnceInv w (wr.drewN q) v acc n where
  row := h.row
  map := h.map
  below := below_draws h.below q
  size := h.size
  len := h.len
theorem OnceInv.mono {w wr : World} {v : Value} {acc : List Dn} {n n' : Nat} (h : OnceInv w wr v acc n) (hn : n ≤ n') : OnceInv w wr v acc n' where
  row := h.row
  map := let ⟨D, h1, h2⟩ := h.map; ⟨D, h1.mono hn, h2⟩
  below := h.below
  size := h.size
  len := Nat.le_trans h.len hn
theorem run_makeMap_room {t k e : TypeId} (hu : Tryz.prog.underlying t = some (.map k e)) (m : Nat) (w : World) : (Instr.makeMap t (some (.int .i64 m))).run Tryz.prog w = .ok (.map (some w.heap.size)) (w.alloc (.map #[] 0)) := by
  simp [Instr.makeMap, run_underlying hu, asInt, asIntOf, Result.andThen]
theorem OnceInv.start (w wm : World) (v : Value) (hr : wm.ownsRow (w.heap.size + 1) 166 11 v 0 []) (hg : (w.alloc (.map #[] 0)).grownBy wm none) : OnceInv w wm v [] 0 where
  row := ⟨[], hr, rfl, fun x hx => by simp at hx⟩
  map := ⟨.map [], (World.ownsMap_made _ _ _ _).kept hg (by simp), fun d _ => rfl⟩
  below := (below_alloc _ _).grown hg (by simp) (fun j hj => by cases hj)
  size := by have := hg.size; simpa using this
  len := Nat.le_refl _
/-- A new op: into the map, and to the row's end. -/
theorem OnceInv.step {w wr w1 w2 : World} {v v' : Value} {acc : List Dn} {n : Nat} {o1 o2 : Obj} {D : DataW Unit} {xs : List Dd} {x : Dd} (hx : GoodD w x) (hs : w.heap.size + 1 ≤ wr.heap.size) (hb : Below w.heap.size w wr) (hlen : acc.length ≤ n)
    (hrow : wr.ownsRow (w.heap.size + 1) 166 11 v xs.length (xs.flatMap Dd.enc)) (habs : xs.map Dd.abs = acc) (hgood : ∀ x ∈ xs, GoodD w x)
    (hD : ∀ d, wf3 d → Maps.has D (klD d) = hasDot acc d) (hwf : wf3 x.dot) (his : IsMap D)
    (hg1 : (wr.alloc o1).grownBy w1 (some w.heap.size)) (hm1 : w1.ownsMap Tryz.prog 132 unitElem w.heap.size (n + 1) (D.put (klD x.dot) (.agg [])))
    (hg2 : (w1.alloc o2).grownBy w2 v.ownBlock) (hr2 : w2.ownsRow (w.heap.size + 1) 166 11 v' (xs.length + 1) (xs.flatMap Dd.enc ++ x.enc)) : OnceInv w w2 v' (acc ++ [x.abs]) (n + 1) where
  row := ⟨xs ++ [x], by simpa using hr2, by simp [habs], fun y hy => by
    rcases List.mem_append.1 hy with h | h
    · exact hgood y h
    · rw [List.mem_singleton.1 h]; exact hx⟩
  map := ⟨_, (hm1.alloc o2).kept hg2 (fun e => by have := (hrow.lt w.heap.size e.symm).1; omega), fun d hd => by
    rw [hasDot_append]
    by_cases e : x.dot = d
    · subst e
      rw [has_put_same his (klD_key _), decide_eq_true (show x.abs.dot = x.dot from rfl), Bool.or_true]
    · rw [has_put_other (fun h => e (klD_inj hd hwf h).symm), hD d hd, decide_eq_false (show ¬ x.abs.dot = d from e), Bool.or_false]⟩
  below := by
    have s1 := hg1.size
    have b1 : Below w.heap.size w w1 := (hb.alloc (by omega) o1).grown hg1 (by simp; omega) (fun j hj => by cases hj; exact Nat.le_refl _)
    exact (b1.alloc (by simp at s1; omega) o2).grown hg2 (by simp at s1 ⊢; omega) (fun j hj => Nat.le_trans (Nat.le_succ _) (hrow.lt j hj).1)
  size := by have s1 := hg1.size; have s2 := hg2.size; simp at s1 s2; omega
  len := by simp; omega
end Go.Proofs.YtngjooemanapnaaGreatDoor
