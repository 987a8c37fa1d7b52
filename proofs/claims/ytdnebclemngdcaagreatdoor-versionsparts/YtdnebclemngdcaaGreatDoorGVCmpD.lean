/- compareDots by its contract. -/
import Derived.Test.YtdnebclemngdcaaGreatDoorGVOpM
namespace Go.Proofs.YtdnebclemngdcaaGreatDoor
open Go.RowKit Go.Sort
set_option linter.unusedSectionVars false
variable [Inhabited ComV] [DecidableEq D3] [Inhabited D3] [Inhabited OpV]

theorem grown3 (w : World) (a b c : Obj) : (((w.alloc a).alloc b).alloc c).drew = grow (w.drewN 1) (#[a] ++ #[b] ++ #[c]) := by
  simp only [alloc_eq_grow, grow_grow]; rfl
theorem grown4 (w : World) (a b o : Obj) (q : Nat) (os : Array Obj) : (grow ((((w.alloc a).alloc b).drew).drewN q) os).alloc o = grow (w.drewN (1 + q)) (#[a] ++ #[b] ++ os ++ #[o]) := by
  simp only [alloc_eq_grow, grow_grow]
  rw [← World.drewN_drewN]
  show grow (grow ((w.drewN 1).drewN q) (#[a] ++ #[b])) (os ++ #[o]) = _
  rw [grow_grow, Array.append_assoc, Array.append_assoc, Array.append_assoc]

set_option maxRecDepth 100000 in
set_option maxHeartbeats 1000000 in
theorem compareDots_any (w : World) (x y : D3) : Calls Tryz.prog 91 #[.agg #[.int .i64 x.p, .int .i64 x.t, .int .i64 x.a], .agg #[.int .i64 y.p, .int .i64 y.t, .int .i64 y.a]] w
    fun e w' => e = .returned (.int .i64 (cmpD x y)) ∧ ∃ q os', w' = grow (w.drewN q) os' := by
  obtain ⟨x1, x2, x3⟩ := x
  obtain ⟨y1, y2, y3⟩ := y
  have mixed : Tryz.prog.follows .mixedOrders = true := by kernel_rfl
  show Calls Tryz.prog 91 #[.agg #[.int .i64 x1, .int .i64 x2, .int .i64 x3], .agg #[.int .i64 y1, .int .i64 y2, .int .i64 y3]] w _
  obtain ⟨w1, hw1⟩ : ∃ w1, w1 = w.alloc (.cells #[.int .i64 x1, .int .i64 x2, .int .i64 x3] 87) := ⟨_, rfl⟩
  obtain ⟨w2, hw2⟩ : ∃ w2, w2 = w1.alloc (.cells #[.int .i64 y1, .int .i64 y2, .int .i64 y3] 87) := ⟨_, rfl⟩
  have s1 : w1.heap.size = w.heap.size + 1 := by rw [hw1]; simp
  have c0 : w2.cell? ⟨w.heap.size, 0, none⟩ = some (.int .i64 x1) := by rw [hw2, hw1]; simp
  have c1 : w2.cell? ⟨w.heap.size, 1, none⟩ = some (.int .i64 x2) := by rw [hw2, hw1]; simp
  have c2 : w2.cell? ⟨w.heap.size, 2, none⟩ = some (.int .i64 x3) := by rw [hw2, hw1]; simp
  have d0 : w2.cell? ⟨w.heap.size + 1, 0, none⟩ = some (.int .i64 y1) := by rw [hw2, hw1]; simp
  have d1 : w2.cell? ⟨w.heap.size + 1, 1, none⟩ = some (.int .i64 y2) := by rw [hw2, hw1]; simp
  have d2 : w2.cell? ⟨w.heap.size + 1, 2, none⟩ = some (.int .i64 y3) := by rw [hw2, hw1]; simp
  go_enter Tryz.func91, Tryz.ntmps91
  go_wp2_with fail
  rw [← hw1, ← hw2]
  have H1 := hid hw1
  have H2 := hid hw2
  have H3 := hid s1
  clear hw1 hw2 s1
  refine wp_region_still_tail 15 mixed (by kernel_rfl) ?_
  simp only [List.take_succ_cons, List.take_zero, List.drop_succ_cons, List.drop_zero]
  still_step
  still_step
  still_step
  still_step
  still_call (compare_any _ _ _)
  still_step
  still_step
  still_step
  still_step
  still_call (compare_any _ _ _)
  still_step
  still_step
  still_step
  still_step
  still_call (compare_any _ _ _)
  refine wpStill_nil ?_
  go_wp2_with fail
  refine (or_row w2 3 [cmpI x1 y1, cmpI x2 y2, cmpI x3 y3] _ _ _ _ rfl rfl rfl (by simp)).mono ?_
  rintro e w' ⟨rfl, rfl⟩
  go_wp2
  go_ret
  have e := grown3 w (.cells #[.int .i64 x1, .int .i64 x2, .int .i64 x3] 87) (.cells #[.int .i64 y1, .int .i64 y2, .int .i64 y3] 87) (.cells #[.int .i64 (cmpI x1 y1), .int .i64 (cmpI x2 y2), .int .i64 (cmpI x3 y3)] 3)
  rw [← H1.out, ← H2.out] at e
  exact ⟨rfl, 1, _, e⟩

/-- An op with its dot, in memory: its Dots' place too. -/
structure Dd where
  at_ : Int
  key : ByteArray
  kind : Int
  text : ByteArray
  n : Int
  rem : Bool
  dp : Option Addr
  dl : Nat
  dc : Nat
  dot : D3
  wt : Int
  ds : List D3
variable [Inhabited Dd]
def Dd.enc (x : Dd) : List Value := [.int .i64 x.at_, .string x.key, .int .i64 x.kind, .string x.text, .int .i64 x.n, .bool x.rem, .slice x.dp x.dl x.dc, .int .i64 x.dot.p, .int .i64 x.dot.t, .int .i64 x.dot.a, .int .i64 x.wt]
def cmpW (x y : Dd) : Int := orI [cmpI x.wt y.wt, cmpD x.dot y.dot]

set_option maxRecDepth 100000 in
set_option maxHeartbeats 1000000 in
theorem sortCmp_any (w : World) (x y : Dd) : Calls Tryz.prog 113 #[.agg x.enc.toArray, .agg y.enc.toArray] w
    fun e w' => e = .returned (.int .i64 (cmpW x y)) ∧ ∃ q os', w' = grow (w.drewN q) os' := by
  obtain ⟨x1, x2, x3, x4, x5, x6, xp, xl, xc, ⟨x8, x9, x10⟩, x11, _⟩ := x
  obtain ⟨y1, y2, y3, y4, y5, y6, yp, yl, yc, ⟨y8, y9, y10⟩, y11, _⟩ := y
  show Calls Tryz.prog 113 #[.agg #[.int .i64 x1, .string x2, .int .i64 x3, .string x4, .int .i64 x5, .bool x6, .slice xp xl xc, .int .i64 x8, .int .i64 x9, .int .i64 x10, .int .i64 x11], .agg #[.int .i64 y1, .string y2, .int .i64 y3, .string y4, .int .i64 y5, .bool y6, .slice yp yl yc, .int .i64 y8, .int .i64 y9, .int .i64 y10, .int .i64 y11]] w
    fun e w' => e = .returned (.int .i64 (orI [cmpI x11 y11, cmpD ⟨x8, x9, x10⟩ ⟨y8, y9, y10⟩])) ∧ ∃ q os', w' = grow (w.drewN q) os'
  have mixed : Tryz.prog.follows .mixedOrders = true := by kernel_rfl
  obtain ⟨w1, hw1⟩ : ∃ w1, w1 = w.alloc (.cells #[.int .i64 x1, .string x2, .int .i64 x3, .string x4, .int .i64 x5, .bool x6, .slice xp xl xc, .int .i64 x8, .int .i64 x9, .int .i64 x10, .int .i64 x11] 131) := ⟨_, rfl⟩
  obtain ⟨w2, hw2⟩ : ∃ w2, w2 = w1.alloc (.cells #[.int .i64 y1, .string y2, .int .i64 y3, .string y4, .int .i64 y5, .bool y6, .slice yp yl yc, .int .i64 y8, .int .i64 y9, .int .i64 y10, .int .i64 y11] 131) := ⟨_, rfl⟩
  have c0 : w2.cell? ⟨w.heap.size, 7, none⟩ = some (.int .i64 x8) := by rw [hw2, hw1]; simp
  have c1 : w2.cell? ⟨w.heap.size, 7 + 1, none⟩ = some (.int .i64 x9) := by rw [hw2, hw1]; simp
  have c2 : w2.cell? ⟨w.heap.size, 7 + 2, none⟩ = some (.int .i64 x10) := by rw [hw2, hw1]; simp
  have c3 : w2.cell? ⟨w.heap.size, 10, none⟩ = some (.int .i64 x11) := by rw [hw2, hw1]; simp
  have d0 : w2.cell? ⟨w.heap.size + 1, 7, none⟩ = some (.int .i64 y8) := by rw [hw2, hw1]; simp
  have d1 : w2.cell? ⟨w.heap.size + 1, 7 + 1, none⟩ = some (.int .i64 y9) := by rw [hw2, hw1]; simp
  have d2 : w2.cell? ⟨w.heap.size + 1, 7 + 2, none⟩ = some (.int .i64 y10) := by rw [hw2, hw1]; simp
  have d3 : w2.cell? ⟨w.heap.size + 1, 10, none⟩ = some (.int .i64 y11) := by rw [hw2, hw1]; simp
  simp only [Nat.reduceAdd] at c1 c2 d1 d2
  go_enter Tryz.func113, Tryz.ntmps113
  go_wp2_with fail
  rw [← hw1, ← hw2]
  have H1 := hid hw1
  have H2 := hid hw2
  clear hw1 hw2
  refine wp_region_still_tail 9 mixed (by kernel_rfl) ?_
  simp only [List.take_succ_cons, List.take_zero, List.drop_succ_cons, List.drop_zero]
  still_step
  still_step
  still_step
  still_step
  still_call (compare_any _ _ _)
  still_step
  still_step
  still_step
  still_step
  refine wpStill_nil ?_
  go_wp2_with fail
  refine (compareDots_any _ ⟨x8, x9, x10⟩ ⟨y8, y9, y10⟩).mono ?_
  rintro e w' ⟨rfl, q, os', hw⟩
  have HW := hid hw
  clear hw
  go_wp2_with fail
  refine (or_row' w' 3 [cmpI x11 y11, cmpD ⟨x8, x9, x10⟩ ⟨y8, y9, y10⟩] _ _ _ _ rfl rfl rfl (by simp)).mono ?_
  rintro e w'' ⟨rfl, rfl⟩
  go_wp2
  go_ret
  have e : w' = grow (w2.drew.drewN q) os' := HW.out
  rw [H2.out, H1.out] at e
  rw [e]
  exact ⟨rfl, 1 + q, _, grown4 _ _ _ _ _ _⟩
end Go.Proofs.YtdnebclemngdcaaGreatDoor
