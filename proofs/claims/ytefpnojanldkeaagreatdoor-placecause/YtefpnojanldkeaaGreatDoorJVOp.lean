/- What the listed sentinels give: a predicate that every world of a call keeps; rows of cells in memory; cmp.Compare, cmp.Or and compareDots by their contracts; Ops, commits and what is asked of them: plain mathematics; compareDots by its contract; The closures of opsOn, and slices.DeleteFunc over ops with their dots; isAt, isKind, isName, isDot, hasForeignField by their contracts. -/
import Derived.Test.YtefpnojanldkeaaGreatDoorProg
import Derived.WalkKit
import Derived.Deep.Draws
import Derived.Handy
import Derived.Deep.QuietTactic
import Derived.BigQuiet
import Derived.StillTailTactics
import Derived.Sort.Grow
import Derived.Shelf.SlicesQ.IndexFunc
import Derived.Shelf.GgSortFunc.RowK
import Derived.Lib.SlKept
import Derived.Lib.SliceRun
namespace Go.Proofs.YtefpnojanldkeaaGreatDoor
open Go.RowKit

theorem hid {p : Prop} (h : p) : Hid p := h
/-- The place among the package variables of the error with this number less one. -/
def gix : Nat → Nat
  | 0 => 6 | 1 => 0 | 2 => 1 | 3 => 7 | 4 => 8 | 5 => 4 | 6 => 5 | 7 => 9 | 8 => 3 | 9 => 10 | 10 => 2 | _ => 11
theorem gix_lt (k : Nat) : gix k < 12 := by unfold gix; split <;> decide
/-- Package api's ErrBound, ErrShape, ErrName and ErrKind are where the program's text lays them. -/
structure E4 (A : Nat → Addr) (w : World) : Prop where
  bound : w.cell? ⟨0, 0, none⟩ = some (.iface 238 (.pointer (some (A 1))))
  shape : w.cell? ⟨1, 0, none⟩ = some (.iface 238 (.pointer (some (A 2))))
  name : w.cell? ⟨7, 0, none⟩ = some (.iface 238 (.pointer (some (A 3))))
  kind : w.cell? ⟨11, 0, none⟩ = some (.iface 238 (.pointer (some (A 11))))
theorem E4.below {A : Nat → Addr} {B : Nat} {w w' : World} (h : E4 A w) (hb : Below B w w') (hB : 12 ≤ B) : E4 A w' :=
  ⟨by rw [hb.cell (p := ⟨0, 0, none⟩) (Nat.lt_of_lt_of_le (by decide) hB)]; exact h.bound, by rw [hb.cell (p := ⟨1, 0, none⟩) (Nat.lt_of_lt_of_le (by decide) hB)]; exact h.shape,
   by rw [hb.cell (p := ⟨7, 0, none⟩) (Nat.lt_of_lt_of_le (by decide) hB)]; exact h.name, by rw [hb.cell (p := ⟨11, 0, none⟩) (Nat.lt_of_lt_of_le (by decide) hB)]; exact h.kind⟩
theorem lt_of_cell {w : World} {p : Addr} {v : Value} (h : w.cell? p = some v) : p.block < w.heap.size := by
  rcases Nat.lt_or_ge p.block w.heap.size with h' | h'
  · exact h'
  · simp [World.cell?, Array.getElem?_eq_none h'] at h
theorem cell_alloc {w : World} {p : Addr} {v : Value} (h : w.cell? p = some v) (o : Obj) : (w.alloc o).cell? p = some v := by
  rw [World.cell?_alloc_lt _ _ p (lt_of_cell h)]; exact h
theorem below_alloc (w : World) (o : Obj) : Below w.heap.size w (w.alloc o) := (Below.refl _ _).alloc (Nat.le_refl _) _
theorem below_draws {B : Nat} {a w : World} (h : Below B a w) (n : Nat) : Below B a (w.drewN n) := h.trans ⟨rfl, rfl, rfl, Nat.le_refl _, fun _ _ => rfl⟩
theorem ret_bool {a b : Bool} (h : a = b) : Ending.returned (.bool a) = .returned (.bool b) := by rw [h]
theorem ret_int {k : IntKind} {a b : Int} (h : a = b) : Ending.returned (.int k a) = .returned (.int k b) := by rw [h]
theorem getD_ext {zs ys : List Int} {n : Nat} (h1 : zs.length = n) (h2 : ys.length = n) (h : ∀ t, t < n → zs.getD t 0 = ys.getD t 0) : zs = ys := by
  refine List.ext_getElem (by omega) fun i a b => ?_
  have := h i (by omega)
  simpa [List.getD_eq_getElem?_getD, List.getElem?_eq_getElem a, List.getElem?_eq_getElem b] using this
/-- The slice v reads, in the world w, as the numbers zs. -/
def IntsAt (w : World) (v : Value) (zs : List Int) : Prop :=
  ∃ ad cap, v = .slice ad zs.length cap ∧ (ad = none → cap = 0) ∧ (zs = [] ∨ ∃ b off, ad = some ⟨b, off, none⟩ ∧ ∀ t, t < zs.length → w.cell? ⟨b, off + t, none⟩ = some (.int .i64 (zs.getD t 0)))
theorem IntsAt.mono {w w' : World} {v : Value} {zs : List Int} {B : Nat} (h : IntsAt w v zs) (hb : Below B w w') (hB : w.heap.size ≤ B) : IntsAt w' v zs := by
  obtain ⟨ad, cap, rfl, hn, h⟩ := h
  refine ⟨ad, cap, rfl, hn, ?_⟩
  rcases h with h | ⟨b, off, rfl, h⟩
  · exact .inl h
  · exact .inr ⟨b, off, rfl, fun t ht => by rw [hb.cell (p := ⟨b, off + t, none⟩) (by have := lt_of_cell (h t ht); simp only at this ⊢; omega)]; exact h t ht⟩
end Go.Proofs.YtefpnojanldkeaaGreatDoor
namespace Go.Proofs.YtefpnojanldkeaaGreatDoor
open Go.RowKit Go.Sort
set_option linter.unusedSectionVars false

/-- A dot. -/
structure D3 where
  p : Int
  t : Int
  a : Int
variable [DecidableEq D3] [Inhabited D3]
def D3.cells (d : D3) : List Value := [.int .i64 d.p, .int .i64 d.t, .int .i64 d.a]
def cmpI (x y : Int) : Int := if x < y then -1 else if y < x then 1 else 0
/-- The first that is not 0. -/
def orI : List Int → Int
  | [] => 0
  | x :: r => if x = 0 then orI r else x
def cmpD (a b : D3) : Int := orI [cmpI a.p b.p, cmpI a.t b.t, cmpI a.a b.a]
theorem isNaN_any (w : World) (x : Int) : Calls Tryz.prog 123 #[.int .i64 x] w fun e w' => e = .returned (.bool false) ∧ w' = w := by
  go_enter Tryz.func123, Tryz.ntmps123
  go_wp2
  go_ret
  exact ⟨rfl, rfl⟩
theorem compare_any (w : World) (x y : Int) : Calls Tryz.prog 110 #[.int .i64 x, .int .i64 y] w fun e w' => e = .returned (.int .i64 (cmpI x y)) ∧ w' = w := by
  by_cases h1 : x < y
  · go_enter Tryz.func110, Tryz.ntmps110
    go_wp2_with (go_at_call 123; refine (isNaN_any _ _).mono ?_; rintro e w' ⟨rfl, rfl⟩)
    go_ret
    exact ⟨ret_int (by unfold cmpI; rw [if_pos h1]), rfl⟩
  · by_cases h2 : y < x
    · go_enter Tryz.func110, Tryz.ntmps110
      go_wp2_with (go_at_call 123; refine (isNaN_any _ _).mono ?_; rintro e w' ⟨rfl, rfl⟩)
      go_ret
      exact ⟨ret_int (by unfold cmpI; rw [if_neg (by omega), if_pos h2]), rfl⟩
    · go_enter Tryz.func110, Tryz.ntmps110
      go_wp2_with (go_at_call 123; refine (isNaN_any _ _).mono ?_; rintro e w' ⟨rfl, rfl⟩)
      go_ret
      exact ⟨ret_int (by unfold cmpI; rw [if_neg (by omega), if_neg (by omega)]), rfl⟩
theorem orI_zeros {zs : List Int} (h : ∀ t, t < zs.length → zs.getD t 0 = 0) : orI zs = 0 := by
  induction zs with
  | nil => rfl
  | cons x r ih =>
    have hx : x = 0 := by simpa using h 0 (by simp)
    unfold orI
    rw [if_pos hx]
    exact ih fun t ht => by simpa using h (t + 1) (by simpa using ht)
theorem orI_first {zs : List Int} {k : Nat} (hk : k < zs.length) (h : ∀ t, t < k → zs.getD t 0 = 0) (hn : zs.getD k 0 ≠ 0) : orI zs = zs.getD k 0 := by
  induction zs generalizing k with
  | nil => simp at hk
  | cons x r ih =>
    unfold orI
    cases k with
    | zero =>
      have hx : x ≠ 0 := by simpa using hn
      rw [if_neg hx]
      simp
    | succ k =>
      have hx : x = 0 := by simpa using h 0 (by omega)
      rw [if_pos hx]
      rw [ih (k := k) (by simpa using hk) (fun t ht => by simpa using h (t + 1) (by omega)) (by simpa using hn)]
      simp
/-- cmp.Or. -/
theorem or_n (w : World) (b n c : Nat) (zs : List Int) (hz : zs.length = n) (hl : n ≤ 1000) (hc : ∀ t, t < n → w.cell? ⟨b, 0 + t, none⟩ = some (.int .i64 (zs.getD t 0))) :
    Calls Tryz.prog 109 #[.slice (some ⟨b, 0, none⟩) n c] w fun e w' => e = .returned (.int .i64 (orI zs)) ∧ w' = w := by
  have HZ := hid hz
  have HC := hid hc
  clear hz hc
  go_enter Tryz.func109, Tryz.ntmps109
  go_wp2
  go_loop [8] (fun i => ∃ k : Nat, k ≤ n ∧ i = .int .i64 k ∧ ∀ t, t < k → zs.getD t 0 = 0) (fun i => n - (intOf i).toNat)
  case atStart => exact ⟨0, Nat.zero_le _, rfl, fun t ht => absurd ht (Nat.not_lt_zero _)⟩
  case round =>
    obtain ⟨k, hk, rfl, hin⟩ := hrel
    have HI := hid hin
    clear hin
    by_cases hlt : k < n
    · have e1 := HC.out k hlt
      rw [Nat.zero_add] at e1
      obtain ⟨z, hzz⟩ : ∃ z, z = zs.getD k 0 := ⟨_, rfl⟩
      rw [← hzz] at e1
      have HZZ := hid hzz
      clear hzz
      by_cases ha : z = 0
      · subst ha
        go_wp2
        go_round
        case rel =>
          refine ⟨k + 1, by omega, by go_num, fun t ht => ?_⟩
          rcases Nat.lt_succ_iff_lt_or_eq.1 ht with h | rfl
          · exact HI.out t h
          · exact HZZ.out.symm
        case measure => simp [intOf]; omega
      · have hb : (z != 0) = true := by simpa using ha
        go_wp2
        go_ret
        exact ⟨ret_int (by rw [orI_first (by have := HZ.out; omega) HI.out (by rw [← HZZ.out]; exact ha), HZZ.out]), rfl⟩
    · obtain rfl : k = n := by omega
      go_wp2
      go_ret
      exact ⟨ret_int (orI_zeros (fun t ht => HI.out t (by have := HZ.out; omega))).symm, rfl⟩
theorem or_row (w : World) (t : TypeId) (zs : List Int) (cs : Array Value) (b n c : Nat) (hb : b = w.heap.size) (hn : n = zs.length) (hcs : cs.toList = zs.map (Value.int .i64)) (hl : n ≤ 1000) :
    Calls Tryz.prog 109 #[.slice (some ⟨b, 0, none⟩) n c] (w.alloc (.cells cs t)).drew fun e w' => e = .returned (.int .i64 (orI zs)) ∧ w' = (w.alloc (.cells cs t)).drew := by
  refine or_n _ b n c zs hn.symm hl fun j hj => ?_
  subst hn
  show (w.alloc (.cells cs t)).cell? _ = _
  rw [World.cell?_alloc_at _ _ _ _ hb, ← Array.getElem?_toList, hcs]
  simp [List.getElem?_map, List.getD_eq_getElem?_getD, List.getElem?_eq_getElem hj]
theorem or_row' (w : World) (t : TypeId) (zs : List Int) (cs : Array Value) (b n c : Nat) (hb : b = w.heap.size) (hn : n = zs.length) (hcs : cs.toList = zs.map (Value.int .i64)) (hl : n ≤ 1000) :
    Calls Tryz.prog 109 #[.slice (some ⟨b, 0, none⟩) n c] (w.alloc (.cells cs t)) fun e w' => e = .returned (.int .i64 (orI zs)) ∧ w' = (w.alloc (.cells cs t)) := by
  refine or_n _ b n c zs hn.symm hl fun j hj => ?_
  subst hn
  show (w.alloc (.cells cs t)).cell? _ = _
  rw [World.cell?_alloc_at _ _ _ _ hb, ← Array.getElem?_toList, hcs]
  simp [List.getElem?_map, List.getD_eq_getElem?_getD, List.getElem?_eq_getElem hj]
end Go.Proofs.YtefpnojanldkeaaGreatDoor
namespace Go.Proofs.YtefpnojanldkeaaGreatDoor
set_option linter.unusedSectionVars false
variable [DecidableEq D3] [Inhabited D3]

/-- An op. -/
structure OpV where
  at_ : Int
  key : ByteArray
  kind : Int
  text : ByteArray
  n : Int
  rem : Bool
  dots : List D3
variable [Inhabited OpV]
/-- A commit. -/
structure ComV where
  when_ : List Int
  place : Int
  ops : List OpV
variable [Inhabited ComV]
def letterB (c : UInt8) : Bool := decide ((97 ≤ c.toNat ∧ c.toNat ≤ 122) ∨ (48 ≤ c.toNat ∧ c.toNat ≤ 57) ∨ c.toNat = 45)
def nameB (s : ByteArray) : Bool := decide (1 ≤ s.size) && (decide (s.size ≤ 16) && s.data.toList.all letterB)
def dotB (n : Int) (d : D3) : Bool := decide (0 ≤ d.p) && (decide (d.p < n) && (decide (1 ≤ d.t) && (decide (d.t ≤ 1099511627776) && (decide (0 ≤ d.a) && decide (d.a < 12)))))
def kindB (k : Int) : Bool := decide (k = 1) || (decide (k = 2) || decide (k = 3))
/-- A field is not zero that the op's kind does not have. -/
def foreignB (o : OpV) : Bool :=
  if o.kind = 1 then !decide (o.n = 0) || (o.rem || decide (0 < o.dots.length))
  else if o.kind = 2 then !decide (o.text = ByteArray.empty) || (o.rem || decide (0 < o.dots.length))
  else !decide (o.n = 0) || (!o.rem && decide (0 < o.dots.length))
/-- The number of the error of an op: 0 none. -/
def opErr (o : OpV) (n : Int) : Nat :=
  if n < 1 ∨ 6 < n ∨ o.at_ < 0 ∨ 12 ≤ o.at_ then 2
  else if nameB o.key = false then 4
  else if kindB o.kind = false then 12
  else if foreignB o = true then 3
  else if 60 < o.text.size ∨ o.n < -1099511627776 ∨ 1099511627776 < o.n ∨ 60 < o.dots.length then 2
  else if o.dots.all (dotB n) = false then 2
  else 0
theorem nameB_false {s : ByteArray} (h : s.size < 1 ∨ 16 < s.size) : nameB s = false := by
  unfold nameB
  rcases h with h | h
  · rw [decide_eq_false (by omega)]; rfl
  · rw [decide_eq_false (p := s.size ≤ 16) (by omega)]; simp
theorem letters_bad {s : ByteArray} {k : Nat} (hk : k < s.size) (h : letterB s[k] = false) : nameB s = false := by
  unfold nameB
  have : s.data.toList.all letterB = false := by
    rw [List.all_eq_false]
    exact ⟨s[k], by
      have : s.data.toList[k]'(by rw [Array.length_toList]; exact hk) = s[k] := rfl
      rw [← this]
      exact List.getElem_mem _, by rw [h]; decide⟩
  rw [this]
  simp
theorem letters_ok {s : ByteArray} (h1 : 1 ≤ s.size) (h2 : s.size ≤ 16) (h : ∀ k (hk : k < s.size), letterB s[k] = true) : nameB s = true := by
  unfold nameB
  rw [decide_eq_true h1, decide_eq_true h2]
  simp only [Bool.true_and, List.all_eq_true]
  intro c hc
  obtain ⟨k, hk, rfl⟩ := List.getElem_of_mem hc
  exact h k (by rw [Array.length_toList] at hk; exact hk)
end Go.Proofs.YtefpnojanldkeaaGreatDoor
namespace Go.Proofs.YtefpnojanldkeaaGreatDoor
open Go.RowKit Go.Sort
set_option linter.unusedSectionVars false
variable [DecidableEq D3] [Inhabited D3]

theorem grown3 (w : World) (a b c : Obj) : (((w.alloc a).alloc b).alloc c).drew = grow (w.drewN 1) (#[a] ++ #[b] ++ #[c]) := by
  simp only [alloc_eq_grow, grow_grow]; rfl
theorem grown4 (w : World) (a b o : Obj) (q : Nat) (os : Array Obj) : (grow ((((w.alloc a).alloc b).drew).drewN q) os).alloc o = grow (w.drewN (1 + q)) (#[a] ++ #[b] ++ os ++ #[o]) := by
  simp only [alloc_eq_grow, grow_grow]
  rw [← World.drewN_drewN]
  show grow (grow ((w.drewN 1).drewN q) (#[a] ++ #[b])) (os ++ #[o]) = _
  rw [grow_grow, Array.append_assoc, Array.append_assoc, Array.append_assoc]
set_option maxRecDepth 100000 in
set_option maxHeartbeats 1000000 in
theorem compareDots_any (w : World) (x y : D3) : Calls Tryz.prog 111 #[.agg #[.int .i64 x.p, .int .i64 x.t, .int .i64 x.a], .agg #[.int .i64 y.p, .int .i64 y.t, .int .i64 y.a]] w
    fun e w' => e = .returned (.int .i64 (cmpD x y)) ∧ ∃ q os', w' = grow (w.drewN q) os' := by
  obtain ⟨x1, x2, x3⟩ := x
  obtain ⟨y1, y2, y3⟩ := y
  have mixed : Tryz.prog.follows .mixedOrders = true := by kernel_rfl
  show Calls Tryz.prog 111 #[.agg #[.int .i64 x1, .int .i64 x2, .int .i64 x3], .agg #[.int .i64 y1, .int .i64 y2, .int .i64 y3]] w _
  obtain ⟨w1, hw1⟩ : ∃ w1, w1 = w.alloc (.cells #[.int .i64 x1, .int .i64 x2, .int .i64 x3] 90) := ⟨_, rfl⟩
  obtain ⟨w2, hw2⟩ : ∃ w2, w2 = w1.alloc (.cells #[.int .i64 y1, .int .i64 y2, .int .i64 y3] 90) := ⟨_, rfl⟩
  have s1 : w1.heap.size = w.heap.size + 1 := by rw [hw1]; simp
  have c0 : w2.cell? ⟨w.heap.size, 0, none⟩ = some (.int .i64 x1) := by rw [hw2, hw1]; simp
  have c1 : w2.cell? ⟨w.heap.size, 1, none⟩ = some (.int .i64 x2) := by rw [hw2, hw1]; simp
  have c2 : w2.cell? ⟨w.heap.size, 2, none⟩ = some (.int .i64 x3) := by rw [hw2, hw1]; simp
  have d0 : w2.cell? ⟨w.heap.size + 1, 0, none⟩ = some (.int .i64 y1) := by rw [hw2, hw1]; simp
  have d1 : w2.cell? ⟨w.heap.size + 1, 1, none⟩ = some (.int .i64 y2) := by rw [hw2, hw1]; simp
  have d2 : w2.cell? ⟨w.heap.size + 1, 2, none⟩ = some (.int .i64 y3) := by rw [hw2, hw1]; simp
  go_enter Tryz.func111, Tryz.ntmps111
  go_wp2_with fail
  rw [← hw1, ← hw2]
  have H1 := hid hw1
  have H2 := hid hw2
  have H3 := hid s1
  clear hw1 hw2 s1
  refine wp_region_still_tail 15 mixed (by kernel_rfl) ?_
  simp only [List.take_succ_cons, List.take_zero, List.drop_succ_cons, List.drop_zero]
  still_step
  still_step
  still_step
  still_step
  still_call (compare_any _ _ _)
  still_step
  still_step
  still_step
  still_step
  still_call (compare_any _ _ _)
  still_step
  still_step
  still_step
  still_step
  still_call (compare_any _ _ _)
  refine wpStill_nil ?_
  go_wp2_with fail
  refine (or_row w2 3 [cmpI x1 y1, cmpI x2 y2, cmpI x3 y3] _ _ _ _ rfl rfl rfl (by simp)).mono ?_
  rintro e w' ⟨rfl, rfl⟩
  go_wp2
  go_ret
  have e := grown3 w (.cells #[.int .i64 x1, .int .i64 x2, .int .i64 x3] 90) (.cells #[.int .i64 y1, .int .i64 y2, .int .i64 y3] 90) (.cells #[.int .i64 (cmpI x1 y1), .int .i64 (cmpI x2 y2), .int .i64 (cmpI x3 y3)] 3)
  rw [← H1.out, ← H2.out] at e
  exact ⟨rfl, 1, _, e⟩
/-- An op with its dot, in memory: its Dots' place too. -/
structure Dd where
  at_ : Int
  key : ByteArray
  kind : Int
  text : ByteArray
  n : Int
  rem : Bool
  dp : Option Addr
  dl : Nat
  dc : Nat
  dot : D3
  wt : Int
  ds : List D3
variable [Inhabited Dd]
def Dd.enc (x : Dd) : List Value := [.int .i64 x.at_, .string x.key, .int .i64 x.kind, .string x.text, .int .i64 x.n, .bool x.rem, .slice x.dp x.dl x.dc, .int .i64 x.dot.p, .int .i64 x.dot.t, .int .i64 x.dot.a, .int .i64 x.wt]
def cmpW (x y : Dd) : Int := orI [cmpI x.wt y.wt, cmpD x.dot y.dot]
set_option maxRecDepth 100000 in
set_option maxHeartbeats 1000000 in
theorem sortCmp_any (w : World) (x y : Dd) : Calls Tryz.prog 108 #[.agg x.enc.toArray, .agg y.enc.toArray] w
    fun e w' => e = .returned (.int .i64 (cmpW x y)) ∧ ∃ q os', w' = grow (w.drewN q) os' := by
  obtain ⟨x1, x2, x3, x4, x5, x6, xp, xl, xc, ⟨x8, x9, x10⟩, x11, _⟩ := x
  obtain ⟨y1, y2, y3, y4, y5, y6, yp, yl, yc, ⟨y8, y9, y10⟩, y11, _⟩ := y
  show Calls Tryz.prog 108 #[.agg #[.int .i64 x1, .string x2, .int .i64 x3, .string x4, .int .i64 x5, .bool x6, .slice xp xl xc, .int .i64 x8, .int .i64 x9, .int .i64 x10, .int .i64 x11], .agg #[.int .i64 y1, .string y2, .int .i64 y3, .string y4, .int .i64 y5, .bool y6, .slice yp yl yc, .int .i64 y8, .int .i64 y9, .int .i64 y10, .int .i64 y11]] w
    fun e w' => e = .returned (.int .i64 (orI [cmpI x11 y11, cmpD ⟨x8, x9, x10⟩ ⟨y8, y9, y10⟩])) ∧ ∃ q os', w' = grow (w.drewN q) os'
  have mixed : Tryz.prog.follows .mixedOrders = true := by kernel_rfl
  obtain ⟨w1, hw1⟩ : ∃ w1, w1 = w.alloc (.cells #[.int .i64 x1, .string x2, .int .i64 x3, .string x4, .int .i64 x5, .bool x6, .slice xp xl xc, .int .i64 x8, .int .i64 x9, .int .i64 x10, .int .i64 x11] 148) := ⟨_, rfl⟩
  obtain ⟨w2, hw2⟩ : ∃ w2, w2 = w1.alloc (.cells #[.int .i64 y1, .string y2, .int .i64 y3, .string y4, .int .i64 y5, .bool y6, .slice yp yl yc, .int .i64 y8, .int .i64 y9, .int .i64 y10, .int .i64 y11] 148) := ⟨_, rfl⟩
  have c0 : w2.cell? ⟨w.heap.size, 7, none⟩ = some (.int .i64 x8) := by rw [hw2, hw1]; simp
  have c1 : w2.cell? ⟨w.heap.size, 7 + 1, none⟩ = some (.int .i64 x9) := by rw [hw2, hw1]; simp
  have c2 : w2.cell? ⟨w.heap.size, 7 + 2, none⟩ = some (.int .i64 x10) := by rw [hw2, hw1]; simp
  have c3 : w2.cell? ⟨w.heap.size, 10, none⟩ = some (.int .i64 x11) := by rw [hw2, hw1]; simp
  have d0 : w2.cell? ⟨w.heap.size + 1, 7, none⟩ = some (.int .i64 y8) := by rw [hw2, hw1]; simp
  have d1 : w2.cell? ⟨w.heap.size + 1, 7 + 1, none⟩ = some (.int .i64 y9) := by rw [hw2, hw1]; simp
  have d2 : w2.cell? ⟨w.heap.size + 1, 7 + 2, none⟩ = some (.int .i64 y10) := by rw [hw2, hw1]; simp
  have d3 : w2.cell? ⟨w.heap.size + 1, 10, none⟩ = some (.int .i64 y11) := by rw [hw2, hw1]; simp
  simp only [Nat.reduceAdd] at c1 c2 d1 d2
  go_enter Tryz.func108, Tryz.ntmps108
  go_wp2_with fail
  rw [← hw1, ← hw2]
  have H1 := hid hw1
  have H2 := hid hw2
  clear hw1 hw2
  refine wp_region_still_tail 9 mixed (by kernel_rfl) ?_
  simp only [List.take_succ_cons, List.take_zero, List.drop_succ_cons, List.drop_zero]
  still_step
  still_step
  still_step
  still_step
  still_call (compare_any _ _ _)
  still_step
  still_step
  still_step
  still_step
  refine wpStill_nil ?_
  go_wp2_with fail
  refine (compareDots_any _ ⟨x8, x9, x10⟩ ⟨y8, y9, y10⟩).mono ?_
  rintro e w' ⟨rfl, q, os', hw⟩
  have HW := hid hw
  clear hw
  go_wp2_with fail
  refine (or_row' w' 3 [cmpI x11 y11, cmpD ⟨x8, x9, x10⟩ ⟨y8, y9, y10⟩] _ _ _ _ rfl rfl rfl (by simp)).mono ?_
  rintro e w'' ⟨rfl, rfl⟩
  go_wp2
  go_ret
  have e : w' = grow (w2.drew.drewN q) os' := HW.out
  rw [H2.out, H1.out] at e
  rw [e]
  exact ⟨rfl, 1 + q, _, grown4 _ _ _ _ _ _⟩
end Go.Proofs.YtefpnojanldkeaaGreatDoor
namespace Go.Proofs.YtefpnojanldkeaaGreatDoor
open Go.RowKit Go.Sort
set_option linter.unusedSectionVars false
variable [DecidableEq D3] [Inhabited D3] [Inhabited Dd]

theorem ne_toList {a b : ByteArray} (h : a ≠ b) : ¬ a.toList = b.toList := fun e => h (WideShapes.bytes_inj (by rw [← Lib.toList_data, ← Lib.toList_data]; exact e))
theorem keyNe (W : World) (x : Dd) (B : Nat) (key : ByteArray) (hc : W.cell? ⟨B, 0, none⟩ = some (.string key)) :
    Calls Tryz.prog 106 #[.agg x.enc.toArray, .pointer (some ⟨B, 0, none⟩)] W fun e w' => e = .returned (.bool (!decide (x.key = key))) ∧ w' = W.alloc (.cells x.enc.toArray 148) := by
  obtain ⟨x1, x2, x3, x4, x5, x6, xp, xl, xc, ⟨x8, x9, x10⟩, x11, _⟩ := x
  have hB : B < W.heap.size := lt_of_cell hc
  have hne : B ≠ W.heap.size := by omega
  show Calls Tryz.prog 106 #[.agg #[.int .i64 x1, .string x2, .int .i64 x3, .string x4, .int .i64 x5, .bool x6, .slice xp xl xc, .int .i64 x8, .int .i64 x9, .int .i64 x10, .int .i64 x11], .pointer (some ⟨B, 0, none⟩)] W
    fun e w' => e = .returned (.bool (!decide (x2 = key))) ∧ w' = W.alloc (.cells #[.int .i64 x1, .string x2, .int .i64 x3, .string x4, .int .i64 x5, .bool x6, .slice xp xl xc, .int .i64 x8, .int .i64 x9, .int .i64 x10, .int .i64 x11] 148)
  by_cases h : x2 = key
  · subst h
    go_enter Tryz.func106, Tryz.ntmps106
    go_wp2
    go_ret
    exact ⟨ret_bool (by simp), rfl⟩
  · have hb := ne_toList h
    go_enter Tryz.func106, Tryz.ntmps106
    go_wp2
    go_ret
    exact ⟨ret_bool (by rw [decide_eq_false h]; simp [hb]), rfl⟩
theorem kindNe (W : World) (x : Dd) (B : Nat) (kind : Int) (hc : W.cell? ⟨B, 0, none⟩ = some (.int .i64 kind)) :
    Calls Tryz.prog 112 #[.agg x.enc.toArray, .pointer (some ⟨B, 0, none⟩)] W fun e w' => e = .returned (.bool (!decide (x.kind = kind))) ∧ w' = W.alloc (.cells x.enc.toArray 148) := by
  obtain ⟨x1, x2, x3, x4, x5, x6, xp, xl, xc, ⟨x8, x9, x10⟩, x11, _⟩ := x
  have hB : B < W.heap.size := lt_of_cell hc
  have hne : B ≠ W.heap.size := by omega
  show Calls Tryz.prog 112 #[.agg #[.int .i64 x1, .string x2, .int .i64 x3, .string x4, .int .i64 x5, .bool x6, .slice xp xl xc, .int .i64 x8, .int .i64 x9, .int .i64 x10, .int .i64 x11], .pointer (some ⟨B, 0, none⟩)] W
    fun e w' => e = .returned (.bool (!decide (x3 = kind))) ∧ w' = W.alloc (.cells #[.int .i64 x1, .string x2, .int .i64 x3, .string x4, .int .i64 x5, .bool x6, .slice xp xl xc, .int .i64 x8, .int .i64 x9, .int .i64 x10, .int .i64 x11] 148)
  by_cases h : x3 = kind
  · subst h
    go_enter Tryz.func112, Tryz.ntmps112
    go_wp2
    go_ret
    exact ⟨ret_bool (by simp), rfl⟩
  · have hb : (x3 != kind) = true := by simpa using h
    go_enter Tryz.func112, Tryz.ntmps112
    go_wp2
    go_ret
    exact ⟨ret_bool (by simp [h]), rfl⟩
theorem Dd.enc_length (x : Dd) : x.enc.length = 11 := rfl
theorem Dd.enc_one (x : Dd) : ∀ v ∈ x.enc, v.oneCell' = true := fun v hv => by
  simp only [Dd.enc, List.mem_cons, List.not_mem_nil, or_false] at hv
  rcases hv with rfl | rfl | rfl | rfl | rfl | rfl | rfl | rfl | rfl | rfl | rfl <;> rfl
/-- A row of ops with their dots, in a block from base on; the slice may be cut. -/
def RowD (w : World) (base : Nat) (v : Value) (xs : List Dd) : Prop :=
  (v = .slice none 0 0 ∧ xs = []) ∨ ∃ g cap, v = .slice (some ⟨g, 0, none⟩) xs.length cap ∧ base ≤ g ∧ g < w.heap.size ∧ xs.length ≤ cap ∧ HoldsK Dd.enc 11 w g 0 xs.toArray
theorem holdsK_iff {w : World} {g : Nat} {d : Array Dd} : HoldsK Dd.enc 11 w g 0 d ↔ ∀ j, j < d.size → ∀ i, i < 11 → w.cell? ⟨g, j * 11 + i, none⟩ = some (d[j]!.enc[i]!) ∧ w.frozen? ⟨g, j * 11 + i, none⟩ = false := by
  constructor
  · intro h j hj i hi
    have := h (j * 11 + i) (by rw [size_flatK]; omega)
    rw [get_flatK _ _ _ _ (by omega), show (j * 11 + i) / 11 = j by omega, show (j * 11 + i) % 11 = i by omega, Nat.zero_add] at this
    exact this
  · intro h t ht
    rw [size_flatK] at ht
    rw [get_flatK _ _ _ _ ht, Nat.zero_add]
    have := h (t / 11) (by omega) (t % 11) (by omega)
    rw [show t / 11 * 11 + t % 11 = t by omega] at this
    exact this
theorem holdsK_cells {w : World} {g : Nat} {d : Array Dd} (h : HoldsK Dd.enc 11 w g 0 d) {j : Nat} (hj : j < d.size) {u : Dd} (hu : d[j]! = u) : w.cell? ⟨g, j * 11, none⟩ = some (.int .i64 u.at_) ∧ w.cell? ⟨g, j * 11 + 1, none⟩ = some (.string u.key) ∧ w.cell? ⟨g, j * 11 + 2, none⟩ = some (.int .i64 u.kind) ∧ w.cell? ⟨g, j * 11 + 3, none⟩ = some (.string u.text) ∧ w.cell? ⟨g, j * 11 + 4, none⟩ = some (.int .i64 u.n) ∧ w.cell? ⟨g, j * 11 + 5, none⟩ = some (.bool u.rem) ∧ w.cell? ⟨g, j * 11 + 6, none⟩ = some (.slice u.dp u.dl u.dc) ∧ w.cell? ⟨g, j * 11 + 7, none⟩ = some (.int .i64 u.dot.p) ∧ w.cell? ⟨g, j * 11 + 8, none⟩ = some (.int .i64 u.dot.t) ∧ w.cell? ⟨g, j * 11 + 9, none⟩ = some (.int .i64 u.dot.a) ∧ w.cell? ⟨g, j * 11 + 10, none⟩ = some (.int .i64 u.wt) := by
  rw [holdsK_iff] at h
  have hh := fun i hi => (h j hj i hi).1
  rw [hu] at hh
  exact ⟨hh 0 (by omega), hh 1 (by omega), hh 2 (by omega), hh 3 (by omega), hh 4 (by omega), hh 5 (by omega), hh 6 (by omega), hh 7 (by omega), hh 8 (by omega), hh 9 (by omega), hh 10 (by omega)⟩
theorem holdsK_some {w : World} {g : Nat} {d : Array Dd} (h : HoldsK Dd.enc 11 w g 0 d) {j : Nat} (hj : j < d.size) : ∀ q, q < 11 → (w.cell? ⟨g, j * 11 + q, none⟩).isSome = true := fun q hq => by
  rw [(holdsK_iff.1 h j hj q hq).1]; rfl
theorem holdsK_frz {w : World} {g : Nat} {d : Array Dd} (h : HoldsK Dd.enc 11 w g 0 d) {j : Nat} (hj : j < d.size) : ∀ q, q < 11 → w.frozen? ⟨g, j * 11 + q, none⟩ = false := fun q hq => (holdsK_iff.1 h j hj q hq).2
theorem holdsK_set {w : World} {g : Nat} {d : Array Dd} (h : HoldsK Dd.enc 11 w g 0 d) {i : Nat} (hi : i < d.size) (x : Dd) : HoldsK Dd.enc 11 (w.setCells g (i * 11) x.enc) g 0 (d.setIfInBounds i x) := by
  rw [holdsK_iff] at h ⊢
  intro j hj t ht
  have hj' : j < d.size := by simpa using hj
  rw [World.frozen?_setCells]
  refine ⟨?_, (h j hj' t ht).2⟩
  by_cases e : j = i
  · subst e
    have := World.cell?_setCells_in g x.enc (j * 11) w (fun q hq => by rw [(h j hj' q (by simpa [Dd.enc_length] using hq)).1]; rfl) t (by rw [Dd.enc_length]; exact ht)
    have e2 : (d.setIfInBounds j x)[j]! = x := by simp [hj']
    rw [this, e2, getElem!_pos x.enc t (by rw [Dd.enc_length]; exact ht)]
  · rw [World.cell?_setCells_out g x.enc (i * 11) w _ (fun _ _ => by rw [Dd.enc_length]; simp only; omega), (h j hj' t ht).1]
    have e2 : (d.setIfInBounds i x)[j]! = d[j]! := by simp [hj', Ne.symm e]
    rw [e2]
theorem holdsK_cut {w : World} {g : Nat} {d d' : Array Dd} (h : HoldsK Dd.enc 11 w g 0 d) (hs : d'.size ≤ d.size) (he : ∀ j, j < d'.size → d'[j]! = d[j]!) : HoldsK Dd.enc 11 w g 0 d' := by
  rw [holdsK_iff] at h ⊢
  intro j hj t ht
  rw [he j hj]
  exact h j (by omega) t ht
theorem holdsK_tail {w : World} {g : Nat} {d : Array Dd} (h : HoldsK Dd.enc 11 w g 0 d) (o : Nat) (vs : List Value) (ho : d.size * 11 ≤ o) : HoldsK Dd.enc 11 (w.setCells g o vs) g 0 d := by
  rw [holdsK_iff] at h ⊢
  intro j hj t ht
  rw [World.frozen?_setCells, World.cell?_setCells_out g vs o w _ (fun _ _ => .inl (by simp only; omega))]
  exact h j hj t ht
theorem holdsK_below {w w' : World} {B g : Nat} {d : Array Dd} (h : HoldsK Dd.enc 11 w g 0 d) (hb : Below B w w') (hg : g < B) : HoldsK Dd.enc 11 w' g 0 d := by
  rw [holdsK_iff] at h ⊢
  intro j hj t ht
  have e := hb.block g hg
  have := h j hj t ht
  simp only [World.cell?, World.frozen?, e]
  simpa only [World.cell?, World.frozen?] using this
theorem run_clear_k (w : World) (t e ty : TypeId) (z : Value) (ht : Tryz.prog.underlying t = some (.slice e)) (hv : ∀ w, (zeroValue e).run Tryz.prog w = .ok z w) (b o n c : Nat) (hn : 0 < n) (vs : List Value) (hvs : (Builtin.zeroCells z.cells n).toList = vs) (h1 : ∀ v ∈ vs, v.oneCell' = true)
    (hc : ∀ j, j < vs.length → (w.cell? ⟨b, o + j, none⟩).isSome = true) (hf : ∀ j, j < vs.length → w.frozen? ⟨b, o + j, none⟩ = false) :
    (Builtin.clear_ #[t] ty #[.slice (some ⟨b, o, none⟩) n c]).run Tryz.prog w = .ok (.tuple #[]) (w.setCells b o vs) := by
  have hst := run_storeCells_cells (P := Tryz.prog) b o vs 0 w (by simpa using hc) (by simpa using hf) h1
  simp only [Nat.add_zero] at hst
  obtain ⟨m, rfl⟩ : ∃ m, n = m + 1 := ⟨n - 1, by omega⟩
  simp [Builtin.clear_, run_underlying ht, hv, hvs, hst]
/-- slices.IndexFunc over no op. -/
theorem indexFunc_none (w : World) (p : Option Addr) (cap : Nat) (fv : Value) : Calls Tryz.prog 120 #[.slice p 0 cap, fv] w fun e w' => e = .returned (.int .i64 (-1)) ∧ w' = w := by
  go_enter Tryz.func120, Tryz.ntmps120
  go_wp2
  refine wp_loop_rounds 1 ?_
  rw [rounds_succ]
  go_wp2
  go_ret
  exact ⟨rfl, rfl⟩
theorem below_setCells {B b : Nat} {a : World} (hb : B ≤ b) : ∀ (vs : List Value) (o : Nat) {w : World}, Below B a w → Below B a (w.setCells b o vs)
  | [], _, _, h => h
  | v :: r, o, _, h => below_setCells hb r (o + 1) (h.setCell (p := ⟨b, o, none⟩) hb v)
theorem setCells_size (b : Nat) : ∀ (vs : List Value) (o : Nat) (w : World), (w.setCells b o vs).heap.size = w.heap.size
  | [], _, _ => rfl
  | v :: r, o, w => by
    have h1 := setCells_size b r (o + 1) (w.setCell ⟨b, o, none⟩ v)
    have h2 : (w.setCell ⟨b, o, none⟩ v).heap.size = w.heap.size := by simp
    exact h1.trans h2
/-- A store of a struct into a row, at the operation. -/
theorem wpList_store_k (w : World) {ops : Array Oper} {rest : List Oper} {o : Oper} {a : Act} {Q : Exit → Act → World → Prop} (hg : o.guard = none) (x y : Operand) (ty : TypeId) (hop : o.op = .store ty x y)
    (b off : Nat) (cs : List Value) (hx : a.eval x = .pointer (some ⟨b, off, none⟩)) (hy : a.eval y = .agg cs.toArray) (n : Nat) (hn : cs.length = n) (hs : ∀ w, (sizeOf ty).run Tryz.prog w = .ok n w) (hone : cs.all (fun v => v.oneCell') = true)
    (W : World) (hW : w = W) (hc : ∀ j, j < n → (W.cell? ⟨b, off + j, none⟩).isSome = true) (hf : ∀ j, j < n → W.frozen? ⟨b, off + j, none⟩ = false)
    (hK : wpList Tryz.prog ops Q rest (a.put o.dst undef) (w.setCells b off cs)) : wpList Tryz.prog ops Q (o :: rest) a w := by
  subst hn hW
  have h1 : ∀ v ∈ cs, v.oneCell' = true := List.all_eq_true.1 hone
  have hst := run_storeCells_cells (P := Tryz.prog) b off cs 0 w (by simpa using hc) (by simpa using hf) h1
  simp only [Nat.add_zero] at hst
  refine wpList_plain hg fun K' hK' => ?_
  unfold Oper.wp execOp
  simp only [hop, hx, hy, Instr.storeAt, Instr.sureAddr, Sem.run_bind, Sem.run_pure, Result.andThen_ok, storeVar, hs, Value.cells]
  simp [hst]
  exact hK' _ _ hK
end Go.Proofs.YtefpnojanldkeaaGreatDoor
namespace Go.Proofs.YtefpnojanldkeaaGreatDoor
open Go.RowKit
set_option maxRecDepth 100000
set_option linter.unusedSectionVars false
variable [Inhabited ComV] [DecidableEq D3] [Inhabited D3] [Inhabited Dd] [Inhabited OpV]

theorem isAt_any (w : World) (x : Int) : Calls Tryz.prog 96 #[.int .i64 x] w fun e w' => e = .returned (.bool (decide (0 ≤ x) && decide (x < 12))) ∧ w' = w := by
  by_cases h1 : 0 ≤ x
  · by_cases h2 : x < 12
    · go_enter Tryz.func96, Tryz.ntmps96
      go_wp2
      go_ret
      exact ⟨ret_bool (by simp [h1, h2]), rfl⟩
    · go_enter Tryz.func96, Tryz.ntmps96
      go_wp2
      go_ret
      exact ⟨ret_bool (by simp; omega), rfl⟩
  · go_enter Tryz.func96, Tryz.ntmps96
    go_wp2
    go_ret
    exact ⟨ret_bool (by simp; omega), rfl⟩
theorem isKind_any (w : World) (x : Int) : Calls Tryz.prog 97 #[.int .i64 x] w fun e w' => e = .returned (.bool (kindB x)) ∧ w' = w := by
  by_cases h1 : x = 1
  · subst h1
    go_enter Tryz.func97, Tryz.ntmps97
    go_wp2
    go_ret
    exact ⟨rfl, rfl⟩
  · have b1 : (x == 1) = false := by simpa using h1
    by_cases h2 : x = 2
    · subst h2
      go_enter Tryz.func97, Tryz.ntmps97
      go_wp2
      go_ret
      exact ⟨rfl, rfl⟩
    · have b2 : (x == 2) = false := by simpa using h2
      by_cases h3 : x = 3
      · subst h3
        go_enter Tryz.func97, Tryz.ntmps97
        go_wp2
        go_ret
        exact ⟨rfl, rfl⟩
      · have b3 : (x == 3) = false := by simpa using h3
        go_enter Tryz.func97, Tryz.ntmps97
        go_wp2
        go_ret
        exact ⟨ret_bool (by simp [kindB, h1, h2, h3]), rfl⟩
set_option maxHeartbeats 1000000 in
theorem isName_any (w : World) (s : ByteArray) : Calls Tryz.prog 83 #[.string s] w fun e w' => e = .returned (.bool (nameB s)) ∧ w' = w := by
  by_cases h1 : s.size < 1
  · have e1 : (s.size : Int) < 1 := by omega
    go_enter Tryz.func83, Tryz.ntmps83
    go_wp2
    go_ret
    exact ⟨ret_bool (nameB_false (.inl h1)).symm, rfl⟩
  · have e1 : ¬ (s.size : Int) < 1 := by omega
    by_cases h2 : 16 < s.size
    · have e2 : 16 < (s.size : Int) := by omega
      go_enter Tryz.func83, Tryz.ntmps83
      go_wp2
      go_ret
      exact ⟨ret_bool (nameB_false (.inr h2)).symm, rfl⟩
    · have e2 : ¬ 16 < (s.size : Int) := by omega
      go_enter Tryz.func83, Tryz.ntmps83
      go_wp2
      go_loop [15] (fun i => ∃ k : Nat, k ≤ s.size ∧ i = .int .i64 k ∧ ∀ t (ht : t < s.size), t < k → letterB s[t] = true) (fun i => s.size - (intOf i).toNat)
      case atStart => exact ⟨0, Nat.zero_le _, rfl, fun t _ ht => absurd ht (Nat.not_lt_zero _)⟩
      case round =>
        obtain ⟨k, hk, rfl, hin⟩ := hrel
        have HI := hid hin
        clear hin
        by_cases hlt : k < s.size
        · by_cases hb : letterB s[k] = true
          · have hb' := hb
            simp only [letterB, decide_eq_true_eq] at hb'
            by_cases a1 : (s[k].toNat : Int) < 97
            · by_cases a3 : (s[k].toNat : Int) < 48
              · have a5 : (s[k].toNat : Int) = 45 := by omega
                have a6 : ((s[k].toNat : Int) != 45) = false := by rw [a5]; rfl
                go_wp2
                go_round
                case rel => exact ⟨k + 1, by omega, by go_num, fun t ht h => by rcases Nat.lt_succ_iff_lt_or_eq.1 h with h | rfl; exact HI.out t ht h; exact hb⟩
                case measure => simp [intOf]; omega
              · have a4 : ¬ 57 < (s[k].toNat : Int) := by omega
                go_wp2
                go_round
                case rel => exact ⟨k + 1, by omega, by go_num, fun t ht h => by rcases Nat.lt_succ_iff_lt_or_eq.1 h with h | rfl; exact HI.out t ht h; exact hb⟩
                case measure => simp [intOf]; omega
            · have a2 : ¬ 122 < (s[k].toNat : Int) := by omega
              go_wp2
              go_round
              case rel => exact ⟨k + 1, by omega, by go_num, fun t ht h => by rcases Nat.lt_succ_iff_lt_or_eq.1 h with h | rfl; exact HI.out t ht h; exact hb⟩
              case measure => simp [intOf]; omega
          · have hf : letterB s[k] = false := by simpa using hb
            have hb' := hf
            simp only [letterB, decide_eq_false_iff_not] at hb'
            have a6 : ((s[k].toNat : Int) != 45) = true := by simp; omega
            have HF := hid (letters_bad hlt hf)
            clear hf hb
            by_cases a1 : (s[k].toNat : Int) < 97
            · by_cases a3 : (s[k].toNat : Int) < 48
              · go_wp2
                go_ret
                exact ⟨ret_bool HF.out.symm, rfl⟩
              · have a4 : 57 < (s[k].toNat : Int) := by omega
                go_wp2
                go_ret
                exact ⟨ret_bool HF.out.symm, rfl⟩
            · have a2 : 122 < (s[k].toNat : Int) := by omega
              have a3 : ¬ (s[k].toNat : Int) < 48 := by omega
              have a4 : 57 < (s[k].toNat : Int) := by omega
              go_wp2
              go_ret
              exact ⟨ret_bool HF.out.symm, rfl⟩
        · obtain rfl : k = s.size := by omega
          go_wp2
          go_ret
          exact ⟨ret_bool (letters_ok (by omega) (by omega) fun t ht => HI.out t ht ht).symm, rfl⟩
end Go.Proofs.YtefpnojanldkeaaGreatDoor
