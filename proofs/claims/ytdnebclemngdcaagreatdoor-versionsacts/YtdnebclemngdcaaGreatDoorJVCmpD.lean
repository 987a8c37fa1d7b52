/- cmp.Compare, cmp.Or and compareDots by their contracts; Ops, commits and what is asked of them: plain mathematics; compareDots by its contract. -/
import Derived.Test.YtdnebclemngdcaaGreatDoorJVMath
import Derived.Sort.Grow
namespace Go.Proofs.YtdnebclemngdcaaGreatDoor
open Go.RowKit Go.Sort
set_option linter.unusedSectionVars false

structure D3 where
  p : Int
  t : Int
  a : Int
variable [DecidableEq D3] [Inhabited D3]
def D3.cells (d : D3) : List Value := [.int .i64 d.p, .int .i64 d.t, .int .i64 d.a]

def cmpI (x y : Int) : Int := if x < y then -1 else if y < x then 1 else 0
def orI : List Int → Int
  | [] => 0
  | x :: r => if x = 0 then orI r else x
def cmpD (a b : D3) : Int := orI [cmpI a.p b.p, cmpI a.t b.t, cmpI a.a b.a]

theorem isNaN_any (w : World) (x : Int) : Calls Tryz.prog 139 #[.int .i64 x] w fun e w' => e = .returned (.bool false) ∧ w' = w := by
  go_enter Tryz.func139, Tryz.ntmps139; go_wp2; go_ret; exact ⟨rfl, rfl⟩

theorem compare_any (w : World) (x y : Int) : Calls Tryz.prog 102 #[.int .i64 x, .int .i64 y] w fun e w' => e = .returned (.int .i64 (cmpI x y)) ∧ w' = w := by
  by_cases h1 : x < y
  · go_enter Tryz.func102, Tryz.ntmps102
    go_wp2_with (go_at_call 139; refine (isNaN_any _ _).mono ?_; rintro e w' ⟨rfl, rfl⟩)
    go_ret; exact ⟨ret_int (by unfold cmpI; rw [if_pos h1]), rfl⟩
  · by_cases h2 : y < x
    · go_enter Tryz.func102, Tryz.ntmps102
      go_wp2_with (go_at_call 139; refine (isNaN_any _ _).mono ?_; rintro e w' ⟨rfl, rfl⟩)
      go_ret; exact ⟨ret_int (by unfold cmpI; rw [if_neg (by omega), if_pos h2]), rfl⟩
    · go_enter Tryz.func102, Tryz.ntmps102
      go_wp2_with (go_at_call 139; refine (isNaN_any _ _).mono ?_; rintro e w' ⟨rfl, rfl⟩)
      go_ret; exact ⟨ret_int (by unfold cmpI; rw [if_neg (by omega), if_neg (by omega)]), rfl⟩

theorem orI_zeros {zs : List Int} (h : ∀ t, t < zs.length → zs.getD t 0 = 0) : orI zs = 0 := by
  induction zs with
  | nil => rfl
  | cons x r ih =>
    have hx : x = 0 := by simpa using h 0 (by simp)
    unfold orI; rw [if_pos hx]; exact ih fun t ht => by simpa using h (t + 1) (by simpa using ht)
theorem orI_first {zs : List Int} {k : Nat} (hk : k < zs.length) (h : ∀ t, t < k → zs.getD t 0 = 0) (hn : zs.getD k 0 ≠ 0) : orI zs = zs.getD k 0 := by
  induction zs generalizing k with
  | nil => simp at hk
  | cons x r ih =>
    unfold orI
    cases k with
    | zero =>
      have hx : x ≠ 0 := by simpa using hn
      rw [if_neg hx]; simp
    | succ k =>
      have hx : x = 0 := by simpa using h 0 (by omega)
      rw [if_pos hx]; rw [ih (k := k) (by simpa using hk) (fun t ht => by simpa using h (t + 1) (by omega)) (by simpa using hn)]; simp

theorem or_n (w : World) (b n c : Nat) (zs : List Int) (hz : zs.length = n) (hl : n ≤ 1000) (hc : ∀ t, t < n → w.cell? ⟨b, 0 + t, none⟩ = some (.int .i64 (zs.getD t 0))) :
    Calls Tryz.prog 114 #[.slice (some ⟨b, 0, none⟩) n c] w fun e w' => e = .returned (.int .i64 (orI zs)) ∧ w' = w := by
  have HZ := hid hz; have HC := hid hc; clear hz hc; go_enter Tryz.func114, Tryz.ntmps114; go_wp2
  go_loop [8] (fun i => ∃ k : Nat, k ≤ n ∧ i = .int .i64 k ∧ ∀ t, t < k → zs.getD t 0 = 0) (fun i => n - (intOf i).toNat)
  case atStart => exact ⟨0, Nat.zero_le _, rfl, fun t ht => absurd ht (Nat.not_lt_zero _)⟩
  case round =>
    obtain ⟨k, hk, rfl, hin⟩ := hrel; have HI := hid hin; clear hin
    by_cases hlt : k < n
    · have e1 := HC.out k hlt; rw [Nat.zero_add] at e1; obtain ⟨z, hzz⟩ : ∃ z, z = zs.getD k 0 := ⟨_, rfl⟩; rw [← hzz] at e1; have HZZ := hid hzz; clear hzz
      by_cases ha : z = 0
      · subst ha; go_wp2
        go_round
        case rel =>
          refine ⟨k + 1, by omega, by go_num, fun t ht => ?_⟩; rcases Nat.lt_succ_iff_lt_or_eq.1 ht with h | rfl
          · exact HI.out t h
          · exact HZZ.out.symm
        case measure => simp [intOf]; omega
      · have hb : (z != 0) = true := by simpa using ha
        go_wp2; go_ret
        exact ⟨ret_int (by rw [orI_first (by have := HZ.out; omega) HI.out (by rw [← HZZ.out]; exact ha), HZZ.out]), rfl⟩
    · obtain rfl : k = n := by omega
      go_wp2; go_ret
      exact ⟨ret_int (orI_zeros (fun t ht => HI.out t (by have := HZ.out; omega))).symm, rfl⟩

theorem or_row (w : World) (t : TypeId) (zs : List Int) (cs : Array Value) (b n c : Nat) (hb : b = w.heap.size) (hn : n = zs.length) (hcs : cs.toList = zs.map (Value.int .i64)) (hl : n ≤ 1000) :
    Calls Tryz.prog 114 #[.slice (some ⟨b, 0, none⟩) n c] (w.alloc (.cells cs t)).drew fun e w' => e = .returned (.int .i64 (orI zs)) ∧ w' = (w.alloc (.cells cs t)).drew := by
  refine or_n _ b n c zs hn.symm hl fun j hj => ?_
  subst hn; show (w.alloc (.cells cs t)).cell? _ = _; rw [World.cell?_alloc_at _ _ _ _ hb, ← Array.getElem?_toList, hcs]; simp [List.getElem?_map, List.getD_eq_getElem?_getD, List.getElem?_eq_getElem hj]
theorem or_row' (w : World) (t : TypeId) (zs : List Int) (cs : Array Value) (b n c : Nat) (hb : b = w.heap.size) (hn : n = zs.length) (hcs : cs.toList = zs.map (Value.int .i64)) (hl : n ≤ 1000) :
    Calls Tryz.prog 114 #[.slice (some ⟨b, 0, none⟩) n c] (w.alloc (.cells cs t)) fun e w' => e = .returned (.int .i64 (orI zs)) ∧ w' = (w.alloc (.cells cs t)) := by
  refine or_n _ b n c zs hn.symm hl fun j hj => ?_
  subst hn; show (w.alloc (.cells cs t)).cell? _ = _; rw [World.cell?_alloc_at _ _ _ _ hb, ← Array.getElem?_toList, hcs]; simp [List.getElem?_map, List.getD_eq_getElem?_getD, List.getElem?_eq_getElem hj]
end Go.Proofs.YtdnebclemngdcaaGreatDoor
namespace Go.Proofs.YtdnebclemngdcaaGreatDoor
set_option linter.unusedSectionVars false
variable [DecidableEq D3] [Inhabited D3]

structure OpV where
  at_ : Int
  key : ByteArray
  kind : Int
  text : ByteArray
  n : Int
  rem : Bool
  dots : List D3
variable [Inhabited OpV]
structure ComV where
  when_ : List Int
  place : Int
  ops : List OpV
variable [Inhabited ComV]

def letterB (c : UInt8) : Bool := decide ((97 ≤ c.toNat ∧ c.toNat ≤ 122) ∨ (48 ≤ c.toNat ∧ c.toNat ≤ 57) ∨ c.toNat = 45)
def nameB (s : ByteArray) : Bool := decide (1 ≤ s.size) && (decide (s.size ≤ 16) && s.data.toList.all letterB)
def dotB (n : Int) (d : D3) : Bool := decide (0 ≤ d.p) && (decide (d.p < n) && (decide (1 ≤ d.t) && (decide (d.t ≤ 1099511627776) && (decide (0 ≤ d.a) && decide (d.a < 12)))))
def kindB (k : Int) : Bool := decide (k = 1) || (decide (k = 2) || decide (k = 3))
def foreignB (o : OpV) : Bool :=
  if o.kind = 1 then !decide (o.n = 0) || (o.rem || decide (0 < o.dots.length))
  else if o.kind = 2 then !decide (o.text = ByteArray.empty) || (o.rem || decide (0 < o.dots.length))
  else !decide (o.n = 0) || (!o.rem && decide (0 < o.dots.length))
def opErr (o : OpV) (n : Int) : Nat :=
  if n < 1 ∨ 6 < n ∨ o.at_ < 0 ∨ 12 ≤ o.at_ then 2
  else if nameB o.key = false then 4
  else if kindB o.kind = false then 12
  else if foreignB o = true then 3
  else if 60 < o.text.size ∨ o.n < -1099511627776 ∨ 1099511627776 < o.n ∨ 60 < o.dots.length then 2
  else if o.dots.all (dotB n) = false then 2
  else 0

theorem nameB_false {s : ByteArray} (h : s.size < 1 ∨ 16 < s.size) : nameB s = false := by
  unfold nameB; rcases h with h | h
  · rw [decide_eq_false (by omega)]; rfl
  · rw [decide_eq_false (p := s.size ≤ 16) (by omega)]; simp
theorem letters_bad {s : ByteArray} {k : Nat} (hk : k < s.size) (h : letterB s[k] = false) : nameB s = false := by
  unfold nameB
  have : s.data.toList.all letterB = false := by
    rw [List.all_eq_false]
    exact ⟨s[k], by
      have : s.data.toList[k]'(by rw [Array.length_toList]; exact hk) = s[k] := rfl; rw [← this]; exact List.getElem_mem _, by rw [h]; decide⟩
  rw [this]; simp
theorem letters_ok {s : ByteArray} (h1 : 1 ≤ s.size) (h2 : s.size ≤ 16) (h : ∀ k (hk : k < s.size), letterB s[k] = true) : nameB s = true := by
  unfold nameB; rw [decide_eq_true h1, decide_eq_true h2]; simp only [Bool.true_and, List.all_eq_true]; intro c hc; obtain ⟨k, hk, rfl⟩ := List.getElem_of_mem hc; exact h k (by rw [Array.length_toList] at hk; exact hk)
end Go.Proofs.YtdnebclemngdcaaGreatDoor
namespace Go.Proofs.YtdnebclemngdcaaGreatDoor
open Go.RowKit Go.Sort
set_option linter.unusedSectionVars false
variable [Inhabited ComV] [DecidableEq D3] [Inhabited D3] [Inhabited OpV]

theorem grown3 (w : World) (a b c : Obj) : (((w.alloc a).alloc b).alloc c).drew = grow (w.drewN 1) (#[a] ++ #[b] ++ #[c]) := by
  simp only [alloc_eq_grow, grow_grow]; rfl
theorem grown4 (w : World) (a b o : Obj) (q : Nat) (os : Array Obj) : (grow ((((w.alloc a).alloc b).drew).drewN q) os).alloc o = grow (w.drewN (1 + q)) (#[a] ++ #[b] ++ os ++ #[o]) := by
  simp only [alloc_eq_grow, grow_grow]; rw [← World.drewN_drewN]; show grow (grow ((w.drewN 1).drewN q) (#[a] ++ #[b])) (os ++ #[o]) = _; rw [grow_grow, Array.append_assoc, Array.append_assoc, Array.append_assoc]

set_option maxRecDepth 100000 in
set_option maxHeartbeats 1000000 in
theorem compareDots_any (w : World) (x y : D3) : Calls Tryz.prog 91 #[.agg #[.int .i64 x.p, .int .i64 x.t, .int .i64 x.a], .agg #[.int .i64 y.p, .int .i64 y.t, .int .i64 y.a]] w
    fun e w' => e = .returned (.int .i64 (cmpD x y)) ∧ ∃ q os', w' = grow (w.drewN q) os' := by
  obtain ⟨x1, x2, x3⟩ := x; obtain ⟨y1, y2, y3⟩ := y; have mixed : Tryz.prog.follows .mixedOrders = true := by kernel_rfl
  show Calls Tryz.prog 91 #[.agg #[.int .i64 x1, .int .i64 x2, .int .i64 x3], .agg #[.int .i64 y1, .int .i64 y2, .int .i64 y3]] w _; obtain ⟨w1, hw1⟩ : ∃ w1, w1 = w.alloc (.cells #[.int .i64 x1, .int .i64 x2, .int .i64 x3] 87) := ⟨_, rfl⟩; obtain ⟨w2, hw2⟩ : ∃ w2, w2 = w1.alloc (.cells #[.int .i64 y1, .int .i64 y2, .int .i64 y3] 87) := ⟨_, rfl⟩; have s1 : w1.heap.size = w.heap.size + 1 := by rw [hw1]; simp
  have c0 : w2.cell? ⟨w.heap.size, 0, none⟩ = some (.int .i64 x1) := by rw [hw2, hw1]; simp
  have c1 : w2.cell? ⟨w.heap.size, 1, none⟩ = some (.int .i64 x2) := by rw [hw2, hw1]; simp
  have c2 : w2.cell? ⟨w.heap.size, 2, none⟩ = some (.int .i64 x3) := by rw [hw2, hw1]; simp
  have d0 : w2.cell? ⟨w.heap.size + 1, 0, none⟩ = some (.int .i64 y1) := by rw [hw2, hw1]; simp
  have d1 : w2.cell? ⟨w.heap.size + 1, 1, none⟩ = some (.int .i64 y2) := by rw [hw2, hw1]; simp
  have d2 : w2.cell? ⟨w.heap.size + 1, 2, none⟩ = some (.int .i64 y3) := by rw [hw2, hw1]; simp
  go_enter Tryz.func91, Tryz.ntmps91; go_wp2_with fail; rw [← hw1, ← hw2]; have H1 := hid hw1; have H2 := hid hw2; have H3 := hid s1; clear hw1 hw2 s1; refine wp_region_still_tail 15 mixed (by kernel_rfl) ?_; simp only [List.take_succ_cons, List.take_zero, List.drop_succ_cons, List.drop_zero]
  still_step
  still_step
  still_step
  still_step
  still_call (compare_any _ _ _)
  still_step
  still_step
  still_step
  still_step
  still_call (compare_any _ _ _)
  still_step
  still_step
  still_step
  still_step
  still_call (compare_any _ _ _)
  refine wpStill_nil ?_; go_wp2_with fail; refine (or_row w2 3 [cmpI x1 y1, cmpI x2 y2, cmpI x3 y3] _ _ _ _ rfl rfl rfl (by simp)).mono ?_; rintro e w' ⟨rfl, rfl⟩; go_wp2; go_ret; have e := grown3 w (.cells #[.int .i64 x1, .int .i64 x2, .int .i64 x3] 87) (.cells #[.int .i64 y1, .int .i64 y2, .int .i64 y3] 87) (.cells #[.int .i64 (cmpI x1 y1), .int .i64 (cmpI x2 y2), .int .i64 (cmpI x3 y3)] 3); rw [← H1.out, ← H2.out] at e; exact ⟨rfl, 1, _, e⟩

structure Dd where
  at_ : Int
  key : ByteArray
  kind : Int
  text : ByteArray
  n : Int
  rem : Bool
  dp : Option Addr
  dl : Nat
  dc : Nat
  dot : D3
  wt : Int
  ds : List D3
variable [Inhabited Dd]
def Dd.enc (x : Dd) : List Value := [.int .i64 x.at_, .string x.key, .int .i64 x.kind, .string x.text, .int .i64 x.n, .bool x.rem, .slice x.dp x.dl x.dc, .int .i64 x.dot.p, .int .i64 x.dot.t, .int .i64 x.dot.a, .int .i64 x.wt]
def cmpW (x y : Dd) : Int := orI [cmpI x.wt y.wt, cmpD x.dot y.dot]

set_option maxRecDepth 100000 in
set_option maxHeartbeats 1000000 in
theorem sortCmp_any (w : World) (x y : Dd) : Calls Tryz.prog 113 #[.agg x.enc.toArray, .agg y.enc.toArray] w
    fun e w' => e = .returned (.int .i64 (cmpW x y)) ∧ ∃ q os', w' = grow (w.drewN q) os' := by
  obtain ⟨x1, x2, x3, x4, x5, x6, xp, xl, xc, ⟨x8, x9, x10⟩, x11, _⟩ := x; obtain ⟨y1, y2, y3, y4, y5, y6, yp, yl, yc, ⟨y8, y9, y10⟩, y11, _⟩ := y
  show Calls Tryz.prog 113 #[.agg #[.int .i64 x1, .string x2, .int .i64 x3, .string x4, .int .i64 x5, .bool x6, .slice xp xl xc, .int .i64 x8, .int .i64 x9, .int .i64 x10, .int .i64 x11], .agg #[.int .i64 y1, .string y2, .int .i64 y3, .string y4, .int .i64 y5, .bool y6, .slice yp yl yc, .int .i64 y8, .int .i64 y9, .int .i64 y10, .int .i64 y11]] w
    fun e w' => e = .returned (.int .i64 (orI [cmpI x11 y11, cmpD ⟨x8, x9, x10⟩ ⟨y8, y9, y10⟩])) ∧ ∃ q os', w' = grow (w.drewN q) os'
  have mixed : Tryz.prog.follows .mixedOrders = true := by kernel_rfl
  obtain ⟨w1, hw1⟩ : ∃ w1, w1 = w.alloc (.cells #[.int .i64 x1, .string x2, .int .i64 x3, .string x4, .int .i64 x5, .bool x6, .slice xp xl xc, .int .i64 x8, .int .i64 x9, .int .i64 x10, .int .i64 x11] 131) := ⟨_, rfl⟩; obtain ⟨w2, hw2⟩ : ∃ w2, w2 = w1.alloc (.cells #[.int .i64 y1, .string y2, .int .i64 y3, .string y4, .int .i64 y5, .bool y6, .slice yp yl yc, .int .i64 y8, .int .i64 y9, .int .i64 y10, .int .i64 y11] 131) := ⟨_, rfl⟩; have c0 : w2.cell? ⟨w.heap.size, 7, none⟩ = some (.int .i64 x8) := by rw [hw2, hw1]; simp
  have c1 : w2.cell? ⟨w.heap.size, 7 + 1, none⟩ = some (.int .i64 x9) := by rw [hw2, hw1]; simp
  have c2 : w2.cell? ⟨w.heap.size, 7 + 2, none⟩ = some (.int .i64 x10) := by rw [hw2, hw1]; simp
  have c3 : w2.cell? ⟨w.heap.size, 10, none⟩ = some (.int .i64 x11) := by rw [hw2, hw1]; simp
  have d0 : w2.cell? ⟨w.heap.size + 1, 7, none⟩ = some (.int .i64 y8) := by rw [hw2, hw1]; simp
  have d1 : w2.cell? ⟨w.heap.size + 1, 7 + 1, none⟩ = some (.int .i64 y9) := by rw [hw2, hw1]; simp
  have d2 : w2.cell? ⟨w.heap.size + 1, 7 + 2, none⟩ = some (.int .i64 y10) := by rw [hw2, hw1]; simp
  have d3 : w2.cell? ⟨w.heap.size + 1, 10, none⟩ = some (.int .i64 y11) := by rw [hw2, hw1]; simp
  simp only [Nat.reduceAdd] at c1 c2 d1 d2; go_enter Tryz.func113, Tryz.ntmps113; go_wp2_with fail; rw [← hw1, ← hw2]; have H1 := hid hw1; have H2 := hid hw2; clear hw1 hw2; refine wp_region_still_tail 9 mixed (by kernel_rfl) ?_; simp only [List.take_succ_cons, List.take_zero, List.drop_succ_cons, List.drop_zero]
  still_step
  still_step
  still_step
  still_step
  still_call (compare_any _ _ _)
  still_step
  still_step
  still_step
  still_step
  refine wpStill_nil ?_; go_wp2_with fail; refine (compareDots_any _ ⟨x8, x9, x10⟩ ⟨y8, y9, y10⟩).mono ?_; rintro e w' ⟨rfl, q, os', hw⟩; have HW := hid hw; clear hw; go_wp2_with fail; refine (or_row' w' 3 [cmpI x11 y11, cmpD ⟨x8, x9, x10⟩ ⟨y8, y9, y10⟩] _ _ _ _ rfl rfl rfl (by simp)).mono ?_; rintro e w'' ⟨rfl, rfl⟩; go_wp2; go_ret; have e : w' = grow (w2.drew.drewN q) os' := HW.out; rw [H2.out, H1.out] at e; rw [e]; exact ⟨rfl, 1 + q, _, grown4 _ _ _ _ _ _⟩
end Go.Proofs.YtdnebclemngdcaaGreatDoor
