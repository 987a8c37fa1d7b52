/- slices.SortFunc over ops with their dots, and over dots; What once makes of a list of commits: plain mathematics, and the walk's relation; once by its contract, where nothing is wrong. -/
import Derived.Test.YtepnghacjggkkaaGreatDoorGVCom
import Derived.Test.YtepnghacjggkkaaGreatDoorGVSortN
import Derived.Test.YtepnghacjggkkaaGreatDoorGVOpM
import Derived.Test.YtepnghacjggkkaaGreatDoorGVMath
import Derived.Shelf.SlSortCmp.WholeK
import Derived.Maps.AppendAt
import Derived.Deep.RegionHeld
import Derived.Ground.SlsfProg
import Derived.Laws.MakeOwn
import Derived.Shelf.SlGeneric
import Derived.Shelf.SlicesE.DeleteFunc
import Derived.Test.YtepnghacjggkkaaGreatDoorProg
namespace Go.Proofs.YtepnghacjggkkaaGreatDoor
open Go.RowKit Go.Sort Go.Lib Go.Shelf
set_option linter.unusedSectionVars false
variable [Inhabited ComV] [DecidableEq D3] [Inhabited D3] [Inhabited Dd] [Inhabited OpV]

theorem cmpI_lt (x y : Int) : cmpI x y < 0 ↔ x < y := by
  unfold cmpI
  split
  · omega
  · split <;> omega
theorem cmpI_eq (x y : Int) : cmpI x y = 0 ↔ x = y := by
  unfold cmpI
  split
  · omega
  · split <;> omega
def ltD (a b : D3) : Bool := decide (a.p < b.p ∨ a.p = b.p ∧ (a.t < b.t ∨ a.t = b.t ∧ a.a < b.a))
theorem cmpD_lt (a b : D3) : cmpD a b < 0 ↔ ltD a b = true := by
  unfold cmpD ltD
  simp only [orI, cmpI_eq, decide_eq_true_eq]
  have h1 := cmpI_lt a.p b.p
  have h2 := cmpI_lt a.t b.t
  have h3 := cmpI_lt a.a b.a
  by_cases e1 : a.p = b.p
  · rw [if_pos e1]
    by_cases e2 : a.t = b.t
    · rw [if_pos e2]
      by_cases e3 : a.a = b.a
      · rw [if_pos e3]; omega
      · rw [if_neg e3]; omega
    · rw [if_neg e2]; omega
  · rw [if_neg e1]; omega
theorem cmpD_eq (a b : D3) : cmpD a b = 0 ↔ a = b := by
  unfold cmpD
  simp only [orI, cmpI_eq]
  obtain ⟨a1, a2, a3⟩ := a
  obtain ⟨b1, b2, b3⟩ := b
  simp only [D3.mk.injEq]
  have q1 := cmpI_eq a1 b1
  have q2 := cmpI_eq a2 b2
  have q3 := cmpI_eq a3 b3
  by_cases e1 : a1 = b1
  · rw [if_pos e1]
    by_cases e2 : a2 = b2
    · rw [if_pos e2]
      by_cases e3 : a3 = b3
      · rw [if_pos e3]; simp [e1, e2, e3]
      · rw [if_neg e3]; simp [e3]; omega
    · rw [if_neg e2]; simp [e2]; omega
  · rw [if_neg e1]; simp [e1]; omega
def ltW (x y : Dd) : Bool := decide (x.wt < y.wt ∨ x.wt = y.wt ∧ ltD x.dot y.dot = true)
theorem ltOf_cmpW : ltOf cmpW = ltW := by
  funext x y
  unfold ltOf cmpW ltW
  simp only [orI, cmpI_eq]
  have h1 := cmpI_lt x.wt y.wt
  have h2 := cmpD_lt x.dot y.dot
  have h3 := cmpD_eq x.dot y.dot
  by_cases e1 : x.wt = y.wt
  · rw [if_pos e1]
    by_cases e2 : cmpD x.dot y.dot = 0
    · rw [if_pos e2]
      congr 1
      rw [← h2]
      apply propext
      omega
    · rw [if_neg e2]
      congr 1
      rw [← h2]
      apply propext
      omega
  · rw [if_neg e1]
    congr 1
    apply propext
    omega
theorem swoD : SWO ltD where
  irrefl x := by simp [ltD]
  trans x y z h1 h2 := by simp only [ltD, decide_eq_true_eq] at *; omega
  ntrans x y z h1 h2 := by simp only [ltD, decide_eq_false_iff_not] at *; omega
theorem swoW : SWO ltW where
  irrefl x := by simp [ltW, ltD]
  trans x y z h1 h2 := by simp only [ltW, ltD, decide_eq_true_eq] at *; omega
  ntrans x y z h1 h2 := by simp only [ltW, ltD, decide_eq_true_eq, decide_eq_false_iff_not] at *; omega
theorem below_sortWorld {α : Type} [Inhabited α] (enc : α → List Value) (k : Nat) {B : Nat} (w : World) (blk n : Nat) (d : Array α) (os : Array Obj) (hB : B ≤ blk) (hblk : blk < w.heap.size) : Below B w (sortWorldK enc k w blk 0 n d os) := by
  refine ⟨rfl, rfl, rfl, by unfold sortWorldK putRowK putRow mapBlock; simp [Sort.ahead]; try omega, fun i hi => ?_⟩
  unfold sortWorldK
  rw [heap_grow_old _ _ (by unfold putRowK putRow mapBlock; simp [Sort.ahead]; omega)]
  unfold putRowK putRow mapBlock
  simp only [Sort.ahead]
  simp [Array.getElem?_modify, show blk ≠ i by omega]
theorem perm_of_permIn {α : Type} [Inhabited α] {d d' : Array α} (h : PermIn 0 d.size d d') : d'.toList.Perm d.toList := by
  obtain ⟨h1, _, h3⟩ := h
  rw [Array.extract_eq_self_of_le (Nat.le_refl _)] at h3
  rw [← h1, Array.extract_eq_self_of_le (Nat.le_refl _)] at h3
  exact h3
theorem pairwise_of_sortedIn {α : Type} [Inhabited α] {lt : α → α → Bool} {d : Array α} (h : SortedIn lt 0 d.size d) : d.toList.Pairwise (fun a b => lt b a = false) := by
  rw [List.pairwise_iff_getElem]
  intro i j hi hj hij
  have := h i j (Nat.zero_le _) hij (by simpa using hj)
  rw [getElem!_pos d j (by simpa using hj), getElem!_pos d i (by simpa using hi)] at this
  simpa using this
theorem sortFunc_row (w : World) (B : Nat) (v : Value) (xs : List Dd) (hr : RowD w B v xs) (hsz : xs.length ≤ 1000000) :
    Calls Tryz.prog 141 #[v, .func (.func 142) #[] #[]] w fun e w' => e = .returned (.tuple #[]) ∧ ∃ ys : List Dd, ys.Perm xs ∧ ys.Pairwise (fun a b => ltW b a = false) ∧ RowD w' B v ys ∧ Below B w w' := by
  by_cases h0 : xs = []
  · subst h0
    have : ∃ p cap, v = .slice p 0 cap := by
      rcases hr with ⟨rfl, _⟩ | ⟨g, cap, rfl, _⟩
      · exact ⟨_, _, rfl⟩
      · exact ⟨_, _, rfl⟩
    obtain ⟨p, cap, rfl⟩ := this
    refine (sortDd_none p cap (.func (.func 142) #[] #[]) w).mono ?_
    rintro e w' ⟨rfl, rfl⟩
    exact ⟨rfl, [], List.Perm.refl _, List.Pairwise.nil, hr, Below.refl _ _⟩
  · rcases hr with ⟨_, h⟩ | ⟨g, cap, rfl, hB, hg, hcap, hH⟩
    · exact absurd h h0
    · have hcon := AnyQ.slices_SortFunc Tryz.sortDd 11 Tryz.isAgg214 Tryz.sizeOf214 Dd.enc Dd.enc_length Dd.enc_one cmpW (by rw [ltOf_cmpW]; exact swoW) 142 #[] g 0 cap xs.toArray w (enters_of Tryz.func142 (by kernel_rfl) rfl)
        (fun _ _ _ _ x y => sortCmp_any _ x y) hH hg (by simp; omega)
      change Calls Tryz.prog 141 _ _ _ at hcon
      rw [ltOf_cmpW] at hcon
      simp only [List.size_toArray] at hcon
      refine hcon.mono ?_
      rintro e w' ⟨rfl, d', n, os, hp, hs, rfl⟩
      have hp' : PermIn 0 xs.toArray.size xs.toArray d' := by simpa using hp
      have hsz' : d'.size = xs.length := by simpa using hp'.1
      refine ⟨rfl, d'.toList, by simpa using perm_of_permIn hp', pairwise_of_sortedIn (by rw [hsz']; exact hs), .inr ⟨g, cap, by simp [hsz'], hB, lt_sortWorldK _ _ _ _ _ _ _ _ hg, by simp [hsz']; exact hcap, ?_⟩, below_sortWorld _ _ _ _ _ _ _ hB hg⟩
      simpa using holdsK_sortWorldK Dd.enc 11 w g 0 n xs.toArray d' os hg hH (by simpa using hsz')
end Go.Proofs.YtepnghacjggkkaaGreatDoor
namespace Go.Proofs.YtepnghacjggkkaaGreatDoor
open Go.RowKit Go.Maps
set_option linter.unusedSectionVars false
variable [Inhabited ComV] [DecidableEq D3] [Inhabited D3] [Inhabited Dd] [Inhabited OpV]

structure Dn where
  o : OpV
  dot : D3
  wt : Int
variable [Inhabited Dn]
def Dd.abs (x : Dd) : Dn := ⟨⟨x.at_, x.key, x.kind, x.text, x.n, x.rem, x.ds⟩, x.dot, x.wt⟩
def dnOf (c : ComV) (o : OpV) : Dn := ⟨o, ⟨c.place, c.when_.getD c.place.toNat 0, o.at_⟩, sum c.when_⟩
def hasDot (acc : List Dn) (d : D3) : Bool := acc.any fun x => decide (x.dot = d)
def addDn (acc : List Dn) (d : Dn) : List Dn := if hasDot acc d.dot = true then acc else acc ++ [d]
def addCom (acc : List Dn) (c : ComV) : List Dn := (c.ops.map (dnOf c)).foldl addDn acc
def onceA (l : List ComV) : List Dn := l.foldl addCom []
def addTo (acc : List Dn) (c : ComV) (j : Nat) : List Dn := ((c.ops.take j).map (dnOf c)).foldl addDn acc
theorem addTo_zero (acc : List Dn) (c : ComV) : addTo acc c 0 = acc := rfl
theorem addTo_succ (acc : List Dn) (c : ComV) {j : Nat} (h : j < c.ops.length) : addTo acc c (j + 1) = addDn (addTo acc c j) (dnOf c c.ops[j]!) := by
  unfold addTo
  rw [List.take_succ_eq_append_getElem h, List.map_append, List.foldl_append, getElem!_pos c.ops j h]
  rfl
theorem addTo_all (acc : List Dn) (c : ComV) : addTo acc c c.ops.length = addCom acc c := by
  unfold addTo addCom
  rw [List.take_length]
theorem once_succ {l : List ComV} {k : Nat} (h : k < l.length) : (l.take (k + 1)).foldl addCom [] = addCom ((l.take k).foldl addCom []) l[k]! := by
  rw [List.take_succ_eq_append_getElem h, List.foldl_append, getElem!_pos l k h]
  rfl
theorem hasDot_append (acc : List Dn) (x : Dn) (d : D3) : hasDot (acc ++ [x]) d = (hasDot acc d || decide (x.dot = d)) := by simp [hasDot]
def GoodD (w : World) (x : Dd) : Prop := DotsAt w (.slice x.dp x.dl x.dc) x.ds
structure OnceInv (w wr : World) (v : Value) (acc : List Dn) (n : Nat) : Prop where
  row : ∃ xs : List Dd, wr.ownsRow (w.heap.size + 1) 214 11 v xs.length (xs.flatMap Dd.enc) ∧ xs.map Dd.abs = acc ∧ ∀ x ∈ xs, GoodD w x
  map : ∃ D : DataW Unit, wr.ownsMap Tryz.prog 175 unitElem w.heap.size n D ∧ ∀ d, wf3 d → Maps.has D (klD d) = hasDot acc d
  below : Below w.heap.size w wr
  size : w.heap.size + 1 ≤ wr.heap.size
  len : acc.length ≤ n
theorem OnceInv.alloc {w wr : World} {v : Value} {acc : List Dn} {n : Nat} (h : OnceInv w wr v acc n) (o : Obj) : OnceInv w (wr.alloc o) v acc n where
  row := let ⟨xs, h1, h2⟩ := h.row; ⟨xs, h1.alloc o, h2⟩
  map := let ⟨D, h1, h2⟩ := h.map; ⟨D, h1.alloc o, h2⟩
  below := h.below.alloc (by have := h.size; omega) o
  size := by have := h.size; simp; omega
  len := h.len
theorem OnceInv.draw {w wr : World} {v : Value} {acc : List Dn} {n : Nat} (h : OnceInv w wr v acc n) (q : Nat) : OnceInv w (wr.drewN q) v acc n where
  row := h.row
  map := h.map
  below := below_draws h.below q
  size := h.size
  len := h.len
theorem OnceInv.mono {w wr : World} {v : Value} {acc : List Dn} {n n' : Nat} (h : OnceInv w wr v acc n) (hn : n ≤ n') : OnceInv w wr v acc n' where
  row := h.row
  map := let ⟨D, h1, h2⟩ := h.map; ⟨D, h1.mono hn, h2⟩
  below := h.below
  size := h.size
  len := Nat.le_trans h.len hn
theorem run_makeMap_room {t k e : TypeId} (hu : Tryz.prog.underlying t = some (.map k e)) (m : Nat) (w : World) : (Instr.makeMap t (some (.int .i64 m))).run Tryz.prog w = .ok (.map (some w.heap.size)) (w.alloc (.map #[] 0)) := by
  simp [Instr.makeMap, run_underlying hu, asInt, asIntOf, Result.andThen]
theorem OnceInv.start (w wm : World) (v : Value) (hr : wm.ownsRow (w.heap.size + 1) 214 11 v 0 []) (hg : (w.alloc (.map #[] 0)).grownBy wm none) : OnceInv w wm v [] 0 where
  row := ⟨[], hr, rfl, fun x hx => by simp at hx⟩
  map := ⟨.map [], (World.ownsMap_made _ _ _ _).kept hg (by simp), fun d _ => rfl⟩
  below := (below_alloc _ _).grown hg (by simp) (fun j hj => by cases hj)
  size := by have := hg.size; simpa using this
  len := Nat.le_refl _
theorem OnceInv.step {w wr w1 w2 : World} {v v' : Value} {acc : List Dn} {n : Nat} {o1 o2 : Obj} {D : DataW Unit} {xs : List Dd} {x : Dd} (hx : GoodD w x) (hs : w.heap.size + 1 ≤ wr.heap.size) (hb : Below w.heap.size w wr) (hlen : acc.length ≤ n)
    (hrow : wr.ownsRow (w.heap.size + 1) 214 11 v xs.length (xs.flatMap Dd.enc)) (habs : xs.map Dd.abs = acc) (hgood : ∀ x ∈ xs, GoodD w x)
    (hD : ∀ d, wf3 d → Maps.has D (klD d) = hasDot acc d) (hwf : wf3 x.dot) (his : IsMap D)
    (hg1 : (wr.alloc o1).grownBy w1 (some w.heap.size)) (hm1 : w1.ownsMap Tryz.prog 175 unitElem w.heap.size (n + 1) (D.put (klD x.dot) (.agg [])))
    (hg2 : (w1.alloc o2).grownBy w2 v.ownBlock) (hr2 : w2.ownsRow (w.heap.size + 1) 214 11 v' (xs.length + 1) (xs.flatMap Dd.enc ++ x.enc)) : OnceInv w w2 v' (acc ++ [x.abs]) (n + 1) where
  row := ⟨xs ++ [x], by simpa using hr2, by simp [habs], fun y hy => by
    rcases List.mem_append.1 hy with h | h
    · exact hgood y h
    · rw [List.mem_singleton.1 h]; exact hx⟩
  map := ⟨_, (hm1.alloc o2).kept hg2 (fun e => by have := (hrow.lt w.heap.size e.symm).1; omega), fun d hd => by
    rw [hasDot_append]
    by_cases e : x.dot = d
    · subst e
      rw [has_put_same his (klD_key _), decide_eq_true (show x.abs.dot = x.dot from rfl), Bool.or_true]
    · rw [has_put_other (fun h => e (klD_inj hd hwf h).symm), hD d hd, decide_eq_false (show ¬ x.abs.dot = d from e), Bool.or_false]⟩
  below := by
    have s1 := hg1.size
    have b1 : Below w.heap.size w w1 := (hb.alloc (by omega) o1).grown hg1 (by simp; omega) (fun j hj => by cases hj; exact Nat.le_refl _)
    exact (b1.alloc (by simp at s1; omega) o2).grown hg2 (by simp at s1 ⊢; omega) (fun j hj => Nat.le_trans (Nat.le_succ _) (hrow.lt j hj).1)
  size := by have s1 := hg1.size; have s2 := hg2.size; simp at s1 s2; omega
  len := by simp; omega
end Go.Proofs.YtepnghacjggkkaaGreatDoor
namespace Go.Proofs.YtepnghacjggkkaaGreatDoor
open Go.RowKit Go.Maps
set_option maxRecDepth 100000
set_option linter.unusedSectionVars false
variable [Inhabited ComV] [DecidableEq D3] [Inhabited D3] [Inhabited Dd] [Inhabited Dn] [Inhabited OpV]

structure ComOk (c : ComV) : Prop where
  chk : chk c.when_ = 0
  lo : 0 ≤ c.place
  hi : c.place < c.when_.length
  time : c.when_.getD c.place.toNat 0 ≠ 0
  few : c.ops.length ≤ 12
  some_ : c.ops ≠ []
  ops : ∀ i, i < c.ops.length → opBad c.when_.length c.ops i = 0
theorem comOk_of {c : ComV} (h : (comErr c).1 = 0) : ComOk c := by
  unfold comErr at h
  split at h
  · rename_i hc
    rcases chk_cases c.when_ with e | e | e
    · exact absurd e hc
    · rw [e] at h; exact absurd h (by decide)
    · rw [e] at h; exact absurd h (by decide)
  · rename_i hc
    split at h
    · exact absurd h (by decide)
    · rename_i hb
      split at h
      · exact absurd h (by decide)
      · rename_i h0
        exact ⟨by simpa using hc, by omega, by omega, fun e => hb (.inr (.inr (.inl e))), by omega, h0, scan_zero h⟩
theorem opErr_of_bad {n : Int} {os : List OpV} {i : Nat} (h : opBad n os i = 0) : opErr os[i]! n = 0 := by
  unfold opBad at h
  split at h
  · rename_i e; exact absurd h e
  · rename_i e; simpa using e
theorem at_of_opErr {o : OpV} {n : Int} (h : opErr o n = 0) : 0 ≤ o.at_ ∧ o.at_ < 12 := by
  unfold opErr at h
  split at h
  · exact absurd h (by decide)
  · rename_i e; omega
theorem wf_i64 {n : Int} (h1 : 0 ≤ n) (h2 : n ≤ 1099511627776) : (Lit.int .i64 n).wf = true := WalkArith.wf_i64 (by omega)
theorem Tryz.info214 : (Tryz.prog.info? 214).map (fun i => (i.zero, i.size, i.bytes)) = some (some (.agg #[.int .i64 0, .string ByteArray.empty, .int .i64 0, .string ByteArray.empty, .int .i64 0, .bool false, .slice none 0 0, .int .i64 0, .int .i64 0, .int .i64 0, .int .i64 0]), 11, 120) := by kernel_rfl
theorem zero136 (w : World) : (zeroValue 172).run Tryz.prog w = .ok (.agg #[]) w := by kernel_rfl
theorem cell_g {w w1 : World} {o : Obj} {mb : Nat} {a : Addr} {v : Value} (hg : (w.alloc o).grownBy w1 (some mb)) (h : w.cell? a = some v) (hne : a.block ≠ mb) : w1.cell? a = some v :=
  hg.cell (cell_alloc h o) (fun e => hne (Option.some.inj e))
theorem row_ne {w : World} {base : Nat} {e : TypeId} {size : Nat} {v : Value} {n : Nat} {xs : List Value} (h : w.ownsRow base e size v n xs) {b : Nat} (hb : b < base) : some b ≠ v.ownBlock := fun e1 => by
  have := (h.lt b e1.symm).1
  omega
theorem cells11_new (w : World) (cs : List Value) (t : TypeId) (n : Nat) (hn : n = w.heap.size) : ∀ j u, cs[j]? = some u → (w.alloc (.cells cs.toArray t)).cell? ((⟨n, 0, none⟩ : Addr).add j) = some u := by
  intro j u hj
  rw [Addr.add_lit, Nat.zero_add, World.cell?_alloc_at _ _ _ _ hn]
  simpa using hj
theorem once_size {n : Nat} {wz w1 : World} {o o2 : Obj} {r : Option Nat} (h : (wz.alloc o).grownBy w1 r) (hs : n + 1 ≤ wz.heap.size) : n + 1 ≤ (w1.alloc o2).heap.size := by
  have := h.size
  simp at this ⊢
  omega
theorem cells7 (w : World) (x1 : Int) (x2 : ByteArray) (x3 : Int) (x4 : ByteArray) (x5 : Int) (x6 : Bool) (x7 : Value) (t : TypeId) : (w.alloc (.cells #[.int .i64 x1, .string x2, .int .i64 x3, .string x4, .int .i64 x5, .bool x6, x7] t)).cell? ⟨w.heap.size, 0, none⟩ = some (.int .i64 x1) ∧
    (w.alloc (.cells #[.int .i64 x1, .string x2, .int .i64 x3, .string x4, .int .i64 x5, .bool x6, x7] t)).cell? ⟨w.heap.size, 1, none⟩ = some (.string x2) ∧ (w.alloc (.cells #[.int .i64 x1, .string x2, .int .i64 x3, .string x4, .int .i64 x5, .bool x6, x7] t)).cell? ⟨w.heap.size, 2, none⟩ = some (.int .i64 x3) ∧
    (w.alloc (.cells #[.int .i64 x1, .string x2, .int .i64 x3, .string x4, .int .i64 x5, .bool x6, x7] t)).cell? ⟨w.heap.size, 3, none⟩ = some (.string x4) ∧ (w.alloc (.cells #[.int .i64 x1, .string x2, .int .i64 x3, .string x4, .int .i64 x5, .bool x6, x7] t)).cell? ⟨w.heap.size, 4, none⟩ = some (.int .i64 x5) ∧
    (w.alloc (.cells #[.int .i64 x1, .string x2, .int .i64 x3, .string x4, .int .i64 x5, .bool x6, x7] t)).cell? ⟨w.heap.size, 5, none⟩ = some (.bool x6) ∧ (w.alloc (.cells #[.int .i64 x1, .string x2, .int .i64 x3, .string x4, .int .i64 x5, .bool x6, x7] t)).cell? ⟨w.heap.size, 6, none⟩ = some x7 := by
  refine ⟨?_, ?_, ?_, ?_, ?_, ?_, ?_⟩ <;> (rw [World.cell?_alloc_at _ _ _ _ rfl]; rfl)
set_option maxHeartbeats 4000000 in
theorem once_n (A : Nat → Addr) (w : World) (hE : E4 A w) (h4 : 12 ≤ w.heap.size) (b off m c : Nat) (l : List ComV) (hm : l.length = m) (hl : m ≤ 1000) (hok : ∀ i, i < m → ComOk l[i]!)
    (ho : ∀ j, j < m → ∃ wv ov, IntsAt w wv l[j]!.when_ ∧ OpsAt w ov l[j]!.ops ∧ w.cell? ⟨b, off + j * 3, none⟩ = some wv ∧ w.cell? ⟨b, off + j * 3 + 1, none⟩ = some (.int .i64 l[j]!.place) ∧ w.cell? ⟨b, off + j * 3 + 2, none⟩ = some ov) :
    Calls Tryz.prog 138 #[.slice (some ⟨b, off, none⟩) m c] w fun e w' => ∃ v n, e = .returned (.tuple #[v, .nilIface]) ∧ OnceInv w w' v (onceA l) n := by
  have hmm := run_makeMap_room Tryz.underlying131 m
  obtain ⟨i0, hi, hz0, hz1, hz2⟩ := info_parts Tryz.info214
  obtain ⟨wm, hms, hmr, hmg⟩ := run_make_own (P := Tryz.prog) (w.alloc (.map #[] 0)) (w.heap.size + 1) 210 214 i0 _ 11 Tryz.underlying210 hi hz0 hz1 .i64 .i64 m (by rw [hz2]; omega) (by unfold maxLen; omega) (by simp)
  have hsm : Hid (OnceInv w wm _ [] 0) := OnceInv.start w wm _ hmr hmg
  clear hmr hmg
  simp only [World.size_alloc] at hms hsm
  have HO := hid ho
  have HE := hid hE
  have HM := hid hm
  have HK := hid hok
  clear ho hE hm hok
  go_enter Tryz.func138, Tryz.ntmps138
  go_wp2
  go_loopw [5, 23] (fun v i wr => ∃ k : Nat, k ≤ m ∧ i = .int .i64 k ∧ Hid (OnceInv w wr v ((l.take k).foldl addCom []) (12 * k))) (fun _ i _ => m - (intOf i).toNat)
  case atStart => exact ⟨0, Nat.zero_le _, rfl, hsm.out⟩
  case round =>
    obtain ⟨k, hk, rfl, HI⟩ := hrel
    have hsz := HI.out.size
    by_cases hlt : k < m
    · obtain ⟨wv, ov, hi', hop, q0, q1, q2⟩ := HO.out k hlt
      have up : ∀ {a : Addr} {v : Value}, w.cell? a = some v → wr.cell? a = some v := fun {a v} h => by rw [HI.out.below.cell (lt_of_cell h)]; exact h
      have r0 := up q0
      have r1 := up q1
      have r2 := up q2
      have hC := HK.out k hlt
      obtain ⟨x, hx⟩ : ∃ x, x = l[k]! := ⟨_, rfl⟩
      rw [← hx] at r1 hC hi' hop
      have HX := hid hx
      have KW := fun o => Weight_ok A (wr.alloc o) ((HE.out.below HI.out.below h4).below (below_alloc wr o) (by omega)) wv x.when_ ((hi'.mono HI.out.below (Nat.le_refl _)).mono (below_alloc wr o) (Nat.le_refl _)) hC.chk
      have hi0 := hi'
      obtain ⟨a1, c1, rfl, _, hw⟩ := hi'
      obtain ⟨a2, c2, rfl, _, _, hos⟩ := hop.shape
      obtain ⟨b1, o1, rfl, hw2⟩ : ∃ b1 o1, a1 = some ⟨b1, o1, none⟩ ∧ ∀ t, t < x.when_.length → w.cell? ⟨b1, o1 + t, none⟩ = some (.int .i64 (x.when_.getD t 0)) := by
        rcases hw with h | h
        · have := (chk_zero.1 hC.chk).1
          rw [h] at this
          simp at this
        · exact h
      obtain ⟨b2, o2, rfl, hos2⟩ := hos.resolve_left hC.some_
      obtain ⟨p, hp⟩ : ∃ p : Nat, x.place = p := ⟨x.place.toNat, by have := hC.lo; omega⟩
      have hplt : p < x.when_.length := by have := hC.hi; omega
      have ct := hw2 p hplt
      obtain ⟨T, hT⟩ : ∃ T, T = x.when_.getD p 0 := ⟨_, rfl⟩
      rw [← hT] at ct
      rw [hp] at r1
      have HW := hid hw2
      have HOS := hid hos2
      have HT := hid hT
      have HP := hid hp
      have HC := hid hC
      obtain ⟨n, hn⟩ : ∃ n, n = x.when_.length := ⟨_, rfl⟩
      rw [← hn] at KW r0 hplt
      obtain ⟨mo, hmo⟩ : ∃ mo, mo = x.ops.length := ⟨_, rfl⟩
      rw [← hmo] at r2
      have hmo12 : mo ≤ 12 := by rw [hmo]; exact hC.few
      have HMO := hid hmo
      obtain ⟨sw, hsw⟩ : ∃ sw, sw = sum x.when_ := ⟨_, rfl⟩
      rw [← hsw] at KW
      have HSW := hid hsw
      have hn6 : n ≤ 6 := by rw [hn]; exact (chk_zero.1 hC.chk).2.1
      clear q0 q1 q2 hi0 hop hx hw hos hw2 hos2 hT hp hC hn hmo hsw up
      go_wp2_with (go_at_call 156; refine (KW _).mono ?_; rintro e w' ⟨rfl, rfl⟩)
      obtain ⟨wo, hwo⟩ : ∃ wo : World, wo = wr := ⟨wr, rfl⟩
      subst hwo
      obtain ⟨acc, hacc⟩ : ∃ acc, acc = (l.take k).foldl addCom [] := ⟨_, rfl⟩
      rw [← hacc] at HI
      have HA := hid hacc
      clear KW hacc
      obtain ⟨w1, hw1⟩ : ∃ w1, w1 = wo.alloc (.cells #[.slice (some ⟨b1, o1, none⟩) n c1, .int .i64 p, .slice (some ⟨b2, o2, none⟩) mo c2] 47) := ⟨_, rfl⟩
      have C0 : Hid (w1.cell? ⟨wo.heap.size, 0, none⟩ = some (.slice (some ⟨b1, o1, none⟩) n c1)) := hid (by rw [hw1]; simp)
      have C1 : Hid (w1.cell? ⟨wo.heap.size, 1, none⟩ = some (.int .i64 p)) := hid (by rw [hw1]; simp)
      have S1 : Hid (w1.heap.size = wo.heap.size + 1) := hid (by rw [hw1]; simp)
      have I1 : Hid (OnceInv w w1 u5 acc (12 * k)) := by rw [hw1]; exact HI.out.alloc _
      have N1 : Hid (u5.ownBlock ≠ some wo.heap.size) := fun e => by
        obtain ⟨xs, hrow, _⟩ := HI.out.row
        have := (hrow.lt _ e).2
        omega
      rw [← hw1]
      clear hw1 r0 r1 r2
      go_loopw [5, 39] (fun v i wj => ∃ j : Nat, j ≤ mo ∧ i = .int .i64 j ∧ Hid (OnceInv w wj v (addTo acc x j) (12 * k + j)) ∧ Hid (v.ownBlock ≠ some wo.heap.size) ∧ Hid (wo.heap.size + 1 ≤ wj.heap.size) ∧ Hid (wj.cell? ⟨wo.heap.size, 0, none⟩ = some (.slice (some ⟨b1, o1, none⟩) n c1)) ∧ Hid (wj.cell? ⟨wo.heap.size, 1, none⟩ = some (.int .i64 p))) (fun _ i _ => mo - (intOf i).toNat)
      case atStart => exact ⟨0, Nat.zero_le _, rfl, by rw [addTo_zero]; exact I1.out, N1.out, Nat.le_of_eq S1.out.symm, C0.out, C1.out⟩
      case round =>
        obtain ⟨j, hj, rfl, JI, JN, JS, J0, J1⟩ := hrel
        by_cases hjl : j < mo
        · obtain ⟨dp, dc, hd, q0, q1, q2, q3, q4, q5, q6⟩ := HOS.out j (by have := HMO.out; omega)
          have up : ∀ {a : Addr} {v : Value}, w.cell? a = some v → wr.cell? a = some v := fun {a v} h => by rw [JI.out.below.cell (lt_of_cell h)]; exact h
          have r0 := up q0
          have r1 := up q1
          have r2 := up q2
          have r3 := up q3
          have r4 := up q4
          have r5 := up q5
          have r6 := up q6
          have ct' := up ct
          have hoe := opErr_of_bad (HC.out.ops j (by have := HMO.out; omega))
          obtain ⟨y, hy⟩ : ∃ y, y = x.ops[j]! := ⟨_, rfl⟩
          rw [← hy] at r0 r1 r2 r3 r4 r5 r6 hd hoe
          have HY := hid hy
          have hat := at_of_opErr hoe
          obtain ⟨x1, x2, x3, x4, x5, x6, ds⟩ := y
          simp only at r0 r1 r2 r3 r4 r5 r6 hd hat
          obtain ⟨dl, hdl⟩ : ∃ dl, dl = ds.length := ⟨_, rfl⟩
          rw [← hdl] at r6 hd
          have hwf : Hid (wf3 ⟨p, T, x1⟩) := ⟨wf_i64 (by simp only; omega) (by simp only; omega), wf_i64 (by have := (chk_zero.1 HC.out.chk).2.2 p (by have := HC.out.hi; have := HP.out; omega); rw [← HT.out] at this; exact this.1) (by have := (chk_zero.1 HC.out.chk).2.2 p (by have := HC.out.hi; have := HP.out; omega); rw [← HT.out] at this; exact this.2), wf_i64 hat.1 (by simp only; omega)⟩
          have HD := hid hd
          have hblt : b1 < wr.heap.size := lt_of_cell ct'
          have hcb : wo.heap.size < wr.heap.size := by have := JS.out; omega
          have c0 := J0.out
          have c1' := J1.out
          clear q0 q1 q2 q3 q4 q5 q6 hoe hy hat hdl hd up
          obtain ⟨wq, hwq⟩ : ∃ wq, wq = wr.alloc (.cells #[.int .i64 x1, .string x2, .int .i64 x3, .string x4, .int .i64 x5, .bool x6, .slice dp dl dc] 97) := ⟨_, rfl⟩
          go_upto_region 12 with (fail)
          rw [← hwq]
          have s0 : wq.cell? ⟨wr.heap.size, 0, none⟩ = some (.int .i64 x1) := by rw [hwq]; exact (cells7 wr x1 x2 x3 x4 x5 x6 (.slice dp dl dc) 97).1
          have s1 : wq.cell? ⟨wo.heap.size, 0, none⟩ = some (.slice (some ⟨b1, o1, none⟩) n c1) := by rw [hwq]; exact cell_alloc c0 _
          have s2 : wq.cell? ⟨wo.heap.size, 1, none⟩ = some (.int .i64 p) := by rw [hwq]; exact cell_alloc c1' _
          have s3 : wq.cell? ⟨b1, o1 + p, none⟩ = some (.int .i64 T) := by rw [hwq]; exact cell_alloc ct' _
          have HWQ := hid hwq
          clear hwq
          go_region_held (fun w' => w'.cell? ⟨wr.heap.size, 0, none⟩ = some (.int .i64 x1) ∧ w'.cell? ⟨wo.heap.size, 0, none⟩ = some (.slice (some ⟨b1, o1, none⟩) n c1) ∧ w'.cell? ⟨wo.heap.size, 1, none⟩ = some (.int .i64 p) ∧ w'.cell? ⟨b1, o1 + p, none⟩ = some (.int .i64 T)) (go_keep) (fail)
          obtain ⟨wz, hwz⟩ : ∃ wz, wz = (wq.alloc (.cells #[.int .i64 p, .int .i64 T, .int .i64 x1] 175)).drew := ⟨_, rfl⟩
          rw [← hwz]
          obtain ⟨y0, y1, y2, y3, y4, y5, y6⟩ := cells7 wr x1 x2 x3 x4 x5 x6 (.slice dp dl dc) 97
          rw [← HWQ.out] at y0 y1 y2 y3 y4 y5 y6
          have upz : ∀ {a : Addr} {v : Value}, wq.cell? a = some v → wz.cell? a = some v := fun {a v} h => by rw [hwz]; exact cell_alloc h _
          have e0 := upz y0
          have e1 := upz y1
          have e2 := upz y2
          have e3 := upz y3
          have e4 := upz y4
          have e5 := upz y5
          have e6 := upz y6
          have t0 := upz s1
          have t1 := upz s2
          have z0 : wz.cell? ⟨wq.heap.size, 0, none⟩ = some (.int .i64 p) := by rw [hwz]; exact (World.cell?_alloc_at _ _ _ _ rfl).trans rfl
          have z1 : wz.cell? ⟨wq.heap.size, 1, none⟩ = some (.int .i64 T) := by rw [hwz]; exact (World.cell?_alloc_at _ _ _ _ rfl).trans rfl
          have z2 : wz.cell? ⟨wq.heap.size, 2, none⟩ = some (.int .i64 x1) := by rw [hwz]; exact (World.cell?_alloc_at _ _ _ _ rfl).trans rfl
          have sq : wq.heap.size = wr.heap.size + 1 := by rw [HWQ.out]; simp
          have sz : wz.heap.size = wq.heap.size + 1 := by rw [hwz]; show (wq.alloc _).heap.size = _; simp
          have IZ : OnceInv w wz u5 (addTo acc x j) (12 * k + j) := by rw [hwz, HWQ.out]; exact ((JI.out.alloc _).alloc _).draw 1
          have hn1 : wr.heap.size ≠ w.heap.size := by have := JI.out.size; omega
          have hn2 : wq.heap.size ≠ w.heap.size := by have := JI.out.size; omega
          have hn3 : wo.heap.size ≠ w.heap.size := by omega
          have SQ := hid sq
          have SZ := hid sz
          clear sq sz
          obtain ⟨D, hown, hD⟩ := IZ.map
          obtain ⟨xs, hrow, habs, hgood⟩ := IZ.row
          have hlen := IZ.len
          have his := hown.isMap
          have hdD := hD _ hwf.out
          have hkey := key_dot _ hwf.out
          have HGD := hid hgood
          have HAB := hid habs
          have HHD := hid hD
          have HWZ := hid hwz
          have hxl : xs.length ≤ 12 * k + j := by have : xs.length = (addTo acc x j).length := by rw [← habs]; simp
                                                  omega
          clear upz y0 y1 y2 y3 y4 y5 y6 s0 s1 s2 s3 r0 r1 r2 r3 r4 r5 r6 hwz hgood habs hD
          have hdn : (dnOf x ⟨x1, x2, x3, x4, x5, x6, ds⟩).dot = ⟨p, T, x1⟩ := by unfold dnOf; rw [HP.out, Int.toNat_natCast, ← HT.out]
          cases hb : hasDot (addTo acc x j) ⟨p, T, x1⟩ with
          | true =>
            rw [hb] at hdD
            go_wp2_with (at_lookup; refine wpList_lookup_own_unit _ rfl _ _ 131 rfl 175 172 keyed65 Tryz.underlying131 (zero136 _) w.heap.size _ D rfl hown _ _ rfl hkey ?_)
            refine ⟨⟨j + 1, by omega, by go_num, ?_, JN.out, ?_, cell_alloc t0 _, cell_alloc t1 _⟩, by simp [intOf]; omega⟩
            · rw [addTo_succ _ _ (by have := HMO.out; omega), ← HY.out]
              unfold addDn
              rw [hdn, if_pos hb]
              exact (IZ.alloc _).mono (by omega)
            · have e1 := SZ.out
              have e2 := SQ.out
              exact (show wo.heap.size + 1 ≤ (wz.alloc _).heap.size by simp; omega)
          | false =>
            rw [hb] at hdD
            have f0 := fun o => cell_alloc z0 o
            have f1 := fun o => cell_alloc z1 o
            have f2 := fun o => cell_alloc z2 o
            go_wp2_with (first
              | (at_lookup; refine wpList_lookup_own_unit _ rfl _ _ 131 rfl 175 172 keyed65 Tryz.underlying131 (zero136 _) w.heap.size _ D rfl hown _ _ rfl hkey ?_)
              | (at_mapUpdate; refine wpList_mapUpdate_own _ rfl _ _ _ 131 rfl 175 172 keyed65 Tryz.underlying131 (unitElem (H := Unit)) w.heap.size (12 * k + j) _ rfl (hown.alloc _) ?hmx _ _ _ rfl rfl hkey _ [] unitElem_mk ?_; (case hmx => unfold maxLen; omega); intro w1 hown1 hgrow1; have g0 := cell_g hgrow1 e0 hn1; have g1 := cell_g hgrow1 e1 hn1; have g2 := cell_g hgrow1 e2 hn1; have g3 := cell_g hgrow1 e3 hn1; have g4 := cell_g hgrow1 e4 hn1; have g5 := cell_g hgrow1 e5 hn1; have g6 := cell_g hgrow1 e6 hn1; have k0 := cell_g hgrow1 z0 hn2; have k1 := cell_g hgrow1 z1 hn2; have k2 := cell_g hgrow1 z2 hn2)
              | (at_builtin; refine wpList_append_own_at _ rfl _ _ 210 rfl (w.heap.size + 1) 214 i0 _ 11 120 Tryz.underlying210 hi hz0 hz1 hz2 rfl (by decide) _ _ _ rfl (((hrow.alloc _).kept hgrow1 (Or.inr (row_ne hrow (Nat.lt_succ_self _)).symm)).alloc _) ⟨w1.heap.size, 0, none⟩ 1 1 [.int .i64 x1, .string x2, .int .i64 x3, .string x4, .int .i64 x5, .bool x6, .slice dp dl dc, .int .i64 p, .int .i64 T, .int .i64 x1, .int .i64 sw] rfl rfl (cells11_new _ _ _ _ rfl) ?ho1 ?ho2 ?ho3 ?ho4 ?_; (case ho1 => exact Dd.enc_one ⟨x1, x2, x3, x4, x5, x6, dp, dl, dc, ⟨p, T, x1⟩, sw, ds⟩); (case ho2 => unfold maxLen; omega); (case ho3 => omega); (case ho4 => exact once_size hgrow1 IZ.size); intro v' w2 hown' hgrow2 hnil2 hloc)
              | go_in)
            have hxe : Dd.enc ⟨x1, x2, x3, x4, x5, x6, dp, dl, dc, ⟨p, T, x1⟩, sw, ds⟩ = [.int .i64 x1, .string x2, .int .i64 x3, .string x4, .int .i64 x5, .bool x6, .slice dp dl dc, .int .i64 p, .int .i64 T, .int .i64 x1, .int .i64 sw] := rfl
            have hstep := OnceInv.step (x := ⟨x1, x2, x3, x4, x5, x6, dp, dl, dc, ⟨p, T, x1⟩, sw, ds⟩) HD.out IZ.size IZ.below hlen hrow HAB.out HGD.out HHD.out hwf.out his hgrow1 hown1 hgrow2 (by rw [hxe]; exact hown')
            have hsz2 : wo.heap.size + 1 ≤ w2.heap.size := by
              have q1 := hgrow1.size
              have q2 := hgrow2.size
              have q3 := SZ.out
              have q4 := SQ.out
              simp at q1 q2
              omega
            have hcw : ∀ {a : Addr} {v : Value}, wz.cell? a = some v → a.block = wo.heap.size → w2.cell? a = some v := fun {a v} h e => by
              refine hgrow2.cell (cell_alloc (cell_g hgrow1 h (by rw [e]; exact hn3)) _) ?_
              rw [e]
              exact fun h => JN.out h.symm
            refine ⟨⟨j + 1, by omega, by go_num, ?_, ?_, hsz2, hcw t0 rfl, hcw t1 rfl⟩, by simp [intOf]; omega⟩
            · rw [addTo_succ _ _ (by have := HMO.out; omega), ← HY.out]
              unfold addDn
              rw [hdn, if_neg (by rw [hb]; decide)]
              have e1 : dnOf x ⟨x1, x2, x3, x4, x5, x6, ds⟩ = Dd.abs ⟨x1, x2, x3, x4, x5, x6, dp, dl, dc, ⟨p, T, x1⟩, sw, ds⟩ := by
                unfold dnOf Dd.abs
                rw [HP.out, Int.toNat_natCast, ← HT.out, ← HSW.out]
              rw [e1]
              exact hstep
            · have q1 := hgrow1.size
              have q3 := SZ.out
              have q4 := SQ.out
              simp at q1
              rcases hloc with h | h
              · rw [h]; exact JN.out
              · rw [h]
                intro e
                have := Option.some.inj e
                simp at this
                omega
        · obtain rfl : j = mo := by omega
          go_wp2
          refine ⟨⟨k + 1, by omega, by go_num, ?_⟩, by simp [intOf]; omega⟩
          rw [once_succ (by have := HM.out; omega), ← HX.out, ← HA.out, ← addTo_all, ← HMO.out]
          exact JI.out.mono (by omega)
    · obtain rfl : k = m := by omega
      go_wp2
      go_ret2
      exact ⟨_, _, rfl, by have := HI.out; rw [← HM.out, List.take_length] at this; exact this⟩
end Go.Proofs.YtepnghacjggkkaaGreatDoor
