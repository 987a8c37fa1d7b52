/- compareDots by its contract; The closures of opsOn, and slices.DeleteFunc over ops with their dots. -/
import Derived.Test.YtilonnkohcocoaaGreatDoorJVOpM
import Derived.Shelf.SlicesQ.IndexFunc
import Derived.Shelf.GgSortFunc.RowK
import Derived.Lib.SlKept
import Derived.Lib.SliceRun
namespace Go.Proofs.YtilonnkohcocoaaGreatDoor
open Go.RowKit Go.Sort
set_option linter.unusedSectionVars false
variable [DecidableEq D3] [Inhabited D3]

theorem grown3 (w : World) (a b c : Obj) : (((w.alloc a).alloc b).alloc c).drew = grow (w.drewN 1) (#[a] ++ #[b] ++ #[c]) := by
  simp only [alloc_eq_grow, grow_grow]; rfl
theorem grown4 (w : World) (a b o : Obj) (q : Nat) (os : Array Obj) : (grow ((((w.alloc a).alloc b).drew).drewN q) os).alloc o = grow (w.drewN (1 + q)) (#[a] ++ #[b] ++ os ++ #[o]) := by
  simp only [alloc_eq_grow, grow_grow]
  rw [← World.drewN_drewN]
  show grow (grow ((w.drewN 1).drewN q) (#[a] ++ #[b])) (os ++ #[o]) = _
  rw [grow_grow, Array.append_assoc, Array.append_assoc, Array.append_assoc]

set_option maxRecDepth 100000 in
set_option maxHeartbeats 1000000 in
theorem compareDots_any (w : World) (x y : D3) : Calls Tryz.prog 54 #[.agg #[.int .i64 x.p, .int .i64 x.t, .int .i64 x.a], .agg #[.int .i64 y.p, .int .i64 y.t, .int .i64 y.a]] w
    fun e w' => e = .returned (.int .i64 (cmpD x y)) ∧ ∃ q os', w' = grow (w.drewN q) os' := by
  obtain ⟨x1, x2, x3⟩ := x
  obtain ⟨y1, y2, y3⟩ := y
  have mixed : Tryz.prog.follows .mixedOrders = true := by kernel_rfl
  show Calls Tryz.prog 54 #[.agg #[.int .i64 x1, .int .i64 x2, .int .i64 x3], .agg #[.int .i64 y1, .int .i64 y2, .int .i64 y3]] w _
  obtain ⟨w1, hw1⟩ : ∃ w1, w1 = w.alloc (.cells #[.int .i64 x1, .int .i64 x2, .int .i64 x3] 65) := ⟨_, rfl⟩
  obtain ⟨w2, hw2⟩ : ∃ w2, w2 = w1.alloc (.cells #[.int .i64 y1, .int .i64 y2, .int .i64 y3] 65) := ⟨_, rfl⟩
  have s1 : w1.heap.size = w.heap.size + 1 := by rw [hw1]; simp
  have c0 : w2.cell? ⟨w.heap.size, 0, none⟩ = some (.int .i64 x1) := by rw [hw2, hw1]; simp
  have c1 : w2.cell? ⟨w.heap.size, 1, none⟩ = some (.int .i64 x2) := by rw [hw2, hw1]; simp
  have c2 : w2.cell? ⟨w.heap.size, 2, none⟩ = some (.int .i64 x3) := by rw [hw2, hw1]; simp
  have d0 : w2.cell? ⟨w.heap.size + 1, 0, none⟩ = some (.int .i64 y1) := by rw [hw2, hw1]; simp
  have d1 : w2.cell? ⟨w.heap.size + 1, 1, none⟩ = some (.int .i64 y2) := by rw [hw2, hw1]; simp
  have d2 : w2.cell? ⟨w.heap.size + 1, 2, none⟩ = some (.int .i64 y3) := by rw [hw2, hw1]; simp
  go_enter Tryz.func54, Tryz.ntmps54
  go_wp2_with fail
  rw [← hw1, ← hw2]
  have H1 := hid hw1
  have H2 := hid hw2
  have H3 := hid s1
  clear hw1 hw2 s1
  refine wp_region_still_tail 15 mixed (by kernel_rfl) ?_
  simp only [List.take_succ_cons, List.take_zero, List.drop_succ_cons, List.drop_zero]
  still_step
  still_step
  still_step
  still_step
  still_call (compare_any _ _ _)
  still_step
  still_step
  still_step
  still_step
  still_call (compare_any _ _ _)
  still_step
  still_step
  still_step
  still_step
  still_call (compare_any _ _ _)
  refine wpStill_nil ?_
  go_wp2_with fail
  refine (or_row w2 3 [cmpI x1 y1, cmpI x2 y2, cmpI x3 y3] _ _ _ _ rfl rfl rfl (by simp)).mono ?_
  rintro e w' ⟨rfl, rfl⟩
  go_wp2
  go_ret
  have e := grown3 w (.cells #[.int .i64 x1, .int .i64 x2, .int .i64 x3] 65) (.cells #[.int .i64 y1, .int .i64 y2, .int .i64 y3] 65) (.cells #[.int .i64 (cmpI x1 y1), .int .i64 (cmpI x2 y2), .int .i64 (cmpI x3 y3)] 3)
  rw [← H1.out, ← H2.out] at e
  exact ⟨rfl, 1, _, e⟩

/-- An op with its dot, in memory: its Dots' place too. -/
structure Dd where
  at_ : Int
  key : ByteArray
  kind : Int
  text : ByteArray
  n : Int
  rem : Bool
  dp : Option Addr
  dl : Nat
  dc : Nat
  dot : D3
  wt : Int
  ds : List D3
variable [Inhabited Dd]
def Dd.enc (x : Dd) : List Value := [.int .i64 x.at_, .string x.key, .int .i64 x.kind, .string x.text, .int .i64 x.n, .bool x.rem, .slice x.dp x.dl x.dc, .int .i64 x.dot.p, .int .i64 x.dot.t, .int .i64 x.dot.a, .int .i64 x.wt]
def cmpW (x y : Dd) : Int := orI [cmpI x.wt y.wt, cmpD x.dot y.dot]

set_option maxRecDepth 100000 in
set_option maxHeartbeats 1000000 in
theorem sortCmp_any (w : World) (x y : Dd) : Calls Tryz.prog 81 #[.agg x.enc.toArray, .agg y.enc.toArray] w
    fun e w' => e = .returned (.int .i64 (cmpW x y)) ∧ ∃ q os', w' = grow (w.drewN q) os' := by
  obtain ⟨x1, x2, x3, x4, x5, x6, xp, xl, xc, ⟨x8, x9, x10⟩, x11, _⟩ := x
  obtain ⟨y1, y2, y3, y4, y5, y6, yp, yl, yc, ⟨y8, y9, y10⟩, y11, _⟩ := y
  show Calls Tryz.prog 81 #[.agg #[.int .i64 x1, .string x2, .int .i64 x3, .string x4, .int .i64 x5, .bool x6, .slice xp xl xc, .int .i64 x8, .int .i64 x9, .int .i64 x10, .int .i64 x11], .agg #[.int .i64 y1, .string y2, .int .i64 y3, .string y4, .int .i64 y5, .bool y6, .slice yp yl yc, .int .i64 y8, .int .i64 y9, .int .i64 y10, .int .i64 y11]] w
    fun e w' => e = .returned (.int .i64 (orI [cmpI x11 y11, cmpD ⟨x8, x9, x10⟩ ⟨y8, y9, y10⟩])) ∧ ∃ q os', w' = grow (w.drewN q) os'
  have mixed : Tryz.prog.follows .mixedOrders = true := by kernel_rfl
  obtain ⟨w1, hw1⟩ : ∃ w1, w1 = w.alloc (.cells #[.int .i64 x1, .string x2, .int .i64 x3, .string x4, .int .i64 x5, .bool x6, .slice xp xl xc, .int .i64 x8, .int .i64 x9, .int .i64 x10, .int .i64 x11] 94) := ⟨_, rfl⟩
  obtain ⟨w2, hw2⟩ : ∃ w2, w2 = w1.alloc (.cells #[.int .i64 y1, .string y2, .int .i64 y3, .string y4, .int .i64 y5, .bool y6, .slice yp yl yc, .int .i64 y8, .int .i64 y9, .int .i64 y10, .int .i64 y11] 94) := ⟨_, rfl⟩
  have c0 : w2.cell? ⟨w.heap.size, 7, none⟩ = some (.int .i64 x8) := by rw [hw2, hw1]; simp
  have c1 : w2.cell? ⟨w.heap.size, 7 + 1, none⟩ = some (.int .i64 x9) := by rw [hw2, hw1]; simp
  have c2 : w2.cell? ⟨w.heap.size, 7 + 2, none⟩ = some (.int .i64 x10) := by rw [hw2, hw1]; simp
  have c3 : w2.cell? ⟨w.heap.size, 10, none⟩ = some (.int .i64 x11) := by rw [hw2, hw1]; simp
  have d0 : w2.cell? ⟨w.heap.size + 1, 7, none⟩ = some (.int .i64 y8) := by rw [hw2, hw1]; simp
  have d1 : w2.cell? ⟨w.heap.size + 1, 7 + 1, none⟩ = some (.int .i64 y9) := by rw [hw2, hw1]; simp
  have d2 : w2.cell? ⟨w.heap.size + 1, 7 + 2, none⟩ = some (.int .i64 y10) := by rw [hw2, hw1]; simp
  have d3 : w2.cell? ⟨w.heap.size + 1, 10, none⟩ = some (.int .i64 y11) := by rw [hw2, hw1]; simp
  simp only [Nat.reduceAdd] at c1 c2 d1 d2
  go_enter Tryz.func81, Tryz.ntmps81
  go_wp2_with fail
  rw [← hw1, ← hw2]
  have H1 := hid hw1
  have H2 := hid hw2
  clear hw1 hw2
  refine wp_region_still_tail 9 mixed (by kernel_rfl) ?_
  simp only [List.take_succ_cons, List.take_zero, List.drop_succ_cons, List.drop_zero]
  still_step
  still_step
  still_step
  still_step
  still_call (compare_any _ _ _)
  still_step
  still_step
  still_step
  still_step
  refine wpStill_nil ?_
  go_wp2_with fail
  refine (compareDots_any _ ⟨x8, x9, x10⟩ ⟨y8, y9, y10⟩).mono ?_
  rintro e w' ⟨rfl, q, os', hw⟩
  have HW := hid hw
  clear hw
  go_wp2_with fail
  refine (or_row' w' 3 [cmpI x11 y11, cmpD ⟨x8, x9, x10⟩ ⟨y8, y9, y10⟩] _ _ _ _ rfl rfl rfl (by simp)).mono ?_
  rintro e w'' ⟨rfl, rfl⟩
  go_wp2
  go_ret
  have e : w' = grow (w2.drew.drewN q) os' := HW.out
  rw [H2.out, H1.out] at e
  rw [e]
  exact ⟨rfl, 1 + q, _, grown4 _ _ _ _ _ _⟩
end Go.Proofs.YtilonnkohcocoaaGreatDoor
namespace Go.Proofs.YtilonnkohcocoaaGreatDoor
open Go.RowKit Go.Sort
set_option linter.unusedSectionVars false
variable [DecidableEq D3] [Inhabited D3] [Inhabited Dd]

theorem ne_toList {a b : ByteArray} (h : a ≠ b) : ¬ a.toList = b.toList := fun e => h (WideShapes.bytes_inj (by rw [← Lib.toList_data, ← Lib.toList_data]; exact e))
theorem keyNe (W : World) (x : Dd) (B : Nat) (key : ByteArray) (hc : W.cell? ⟨B, 0, none⟩ = some (.string key)) :
    Calls Tryz.prog 79 #[.agg x.enc.toArray, .pointer (some ⟨B, 0, none⟩)] W fun e w' => e = .returned (.bool (!decide (x.key = key))) ∧ w' = W.alloc (.cells x.enc.toArray 94) := by
  obtain ⟨x1, x2, x3, x4, x5, x6, xp, xl, xc, ⟨x8, x9, x10⟩, x11, _⟩ := x
  have hB : B < W.heap.size := lt_of_cell hc
  have hne : B ≠ W.heap.size := by omega
  show Calls Tryz.prog 79 #[.agg #[.int .i64 x1, .string x2, .int .i64 x3, .string x4, .int .i64 x5, .bool x6, .slice xp xl xc, .int .i64 x8, .int .i64 x9, .int .i64 x10, .int .i64 x11], .pointer (some ⟨B, 0, none⟩)] W
    fun e w' => e = .returned (.bool (!decide (x2 = key))) ∧ w' = W.alloc (.cells #[.int .i64 x1, .string x2, .int .i64 x3, .string x4, .int .i64 x5, .bool x6, .slice xp xl xc, .int .i64 x8, .int .i64 x9, .int .i64 x10, .int .i64 x11] 94)
  by_cases h : x2 = key
  · subst h
    go_enter Tryz.func79, Tryz.ntmps79
    go_wp2
    go_ret
    exact ⟨ret_bool (by simp), rfl⟩
  · have hb := ne_toList h
    go_enter Tryz.func79, Tryz.ntmps79
    go_wp2
    go_ret
    exact ⟨ret_bool (by rw [decide_eq_false h]; simp [hb]), rfl⟩
theorem kindNe (W : World) (x : Dd) (B : Nat) (kind : Int) (hc : W.cell? ⟨B, 0, none⟩ = some (.int .i64 kind)) :
    Calls Tryz.prog 84 #[.agg x.enc.toArray, .pointer (some ⟨B, 0, none⟩)] W fun e w' => e = .returned (.bool (!decide (x.kind = kind))) ∧ w' = W.alloc (.cells x.enc.toArray 94) := by
  obtain ⟨x1, x2, x3, x4, x5, x6, xp, xl, xc, ⟨x8, x9, x10⟩, x11, _⟩ := x
  have hB : B < W.heap.size := lt_of_cell hc
  have hne : B ≠ W.heap.size := by omega
  show Calls Tryz.prog 84 #[.agg #[.int .i64 x1, .string x2, .int .i64 x3, .string x4, .int .i64 x5, .bool x6, .slice xp xl xc, .int .i64 x8, .int .i64 x9, .int .i64 x10, .int .i64 x11], .pointer (some ⟨B, 0, none⟩)] W
    fun e w' => e = .returned (.bool (!decide (x3 = kind))) ∧ w' = W.alloc (.cells #[.int .i64 x1, .string x2, .int .i64 x3, .string x4, .int .i64 x5, .bool x6, .slice xp xl xc, .int .i64 x8, .int .i64 x9, .int .i64 x10, .int .i64 x11] 94)
  by_cases h : x3 = kind
  · subst h
    go_enter Tryz.func84, Tryz.ntmps84
    go_wp2
    go_ret
    exact ⟨ret_bool (by simp), rfl⟩
  · have hb : (x3 != kind) = true := by simpa using h
    go_enter Tryz.func84, Tryz.ntmps84
    go_wp2
    go_ret
    exact ⟨ret_bool (by simp [h]), rfl⟩

theorem Dd.enc_length (x : Dd) : x.enc.length = 11 := rfl
theorem Dd.enc_one (x : Dd) : ∀ v ∈ x.enc, v.oneCell' = true := fun v hv => by
  simp only [Dd.enc, List.mem_cons, List.not_mem_nil, or_false] at hv
  rcases hv with rfl | rfl | rfl | rfl | rfl | rfl | rfl | rfl | rfl | rfl | rfl <;> rfl

/-- A row of ops with their dots, in a block from base on; the slice may be cut. -/
def RowD (w : World) (base : Nat) (v : Value) (xs : List Dd) : Prop :=
  (v = .slice none 0 0 ∧ xs = []) ∨ ∃ g cap, v = .slice (some ⟨g, 0, none⟩) xs.length cap ∧ base ≤ g ∧ g < w.heap.size ∧ xs.length ≤ cap ∧ HoldsK Dd.enc 11 w g 0 xs.toArray

theorem holdsK_iff {w : World} {g : Nat} {d : Array Dd} : HoldsK Dd.enc 11 w g 0 d ↔ ∀ j, j < d.size → ∀ i, i < 11 → w.cell? ⟨g, j * 11 + i, none⟩ = some (d[j]!.enc[i]!) ∧ w.frozen? ⟨g, j * 11 + i, none⟩ = false := by
  constructor
  · intro h j hj i hi
    have := h (j * 11 + i) (by rw [size_flatK]; omega)
    rw [get_flatK _ _ _ _ (by omega), show (j * 11 + i) / 11 = j by omega, show (j * 11 + i) % 11 = i by omega, Nat.zero_add] at this
    exact this
  · intro h t ht
    rw [size_flatK] at ht
    rw [get_flatK _ _ _ _ ht, Nat.zero_add]
    have := h (t / 11) (by omega) (t % 11) (by omega)
    rw [show t / 11 * 11 + t % 11 = t by omega] at this
    exact this

theorem holdsK_load {w : World} {g : Nat} {d : Array Dd} (h : HoldsK Dd.enc 11 w g 0 d) {j : Nat} (hj : j < d.size) (P : Program) : Sem.run P (loadCellsFrom ⟨g, j * 11, none⟩ 0 11 #[]) w = .ok d[j]!.enc.toArray w :=
  run_loadCellsFrom_list P _ _ _ 11 rfl (fun i v hi => by
    have hi' : i < 11 := by have := (List.getElem?_eq_some_iff.1 hi).1; rw [Dd.enc_length] at this; exact this
    rw [Addr.add_lit, (holdsK_iff.1 h j hj i hi').1, List.getElem!_eq_getElem?_getD, hi]
    rfl)

theorem holdsK_cells {w : World} {g : Nat} {d : Array Dd} (h : HoldsK Dd.enc 11 w g 0 d) {j : Nat} (hj : j < d.size) {u : Dd} (hu : d[j]! = u) : w.cell? ⟨g, j * 11, none⟩ = some (.int .i64 u.at_) ∧ w.cell? ⟨g, j * 11 + 1, none⟩ = some (.string u.key) ∧ w.cell? ⟨g, j * 11 + 2, none⟩ = some (.int .i64 u.kind) ∧ w.cell? ⟨g, j * 11 + 3, none⟩ = some (.string u.text) ∧ w.cell? ⟨g, j * 11 + 4, none⟩ = some (.int .i64 u.n) ∧ w.cell? ⟨g, j * 11 + 5, none⟩ = some (.bool u.rem) ∧ w.cell? ⟨g, j * 11 + 6, none⟩ = some (.slice u.dp u.dl u.dc) ∧ w.cell? ⟨g, j * 11 + 7, none⟩ = some (.int .i64 u.dot.p) ∧ w.cell? ⟨g, j * 11 + 8, none⟩ = some (.int .i64 u.dot.t) ∧ w.cell? ⟨g, j * 11 + 9, none⟩ = some (.int .i64 u.dot.a) ∧ w.cell? ⟨g, j * 11 + 10, none⟩ = some (.int .i64 u.wt) := by
  rw [holdsK_iff] at h
  have hh := fun i hi => (h j hj i hi).1
  rw [hu] at hh
  exact ⟨hh 0 (by omega), hh 1 (by omega), hh 2 (by omega), hh 3 (by omega), hh 4 (by omega), hh 5 (by omega), hh 6 (by omega), hh 7 (by omega), hh 8 (by omega), hh 9 (by omega), hh 10 (by omega)⟩
theorem holdsK_thaw {w : World} {g : Nat} {d : Array Dd} (h : HoldsK Dd.enc 11 w g 0 d) {j : Nat} (hj : j < d.size) : w.frozen? ⟨g, j * 11, none⟩ = false ∧ w.frozen? ⟨g, j * 11 + 1, none⟩ = false ∧ w.frozen? ⟨g, j * 11 + 2, none⟩ = false ∧ w.frozen? ⟨g, j * 11 + 3, none⟩ = false ∧ w.frozen? ⟨g, j * 11 + 4, none⟩ = false ∧ w.frozen? ⟨g, j * 11 + 5, none⟩ = false ∧ w.frozen? ⟨g, j * 11 + 6, none⟩ = false ∧ w.frozen? ⟨g, j * 11 + 7, none⟩ = false ∧ w.frozen? ⟨g, j * 11 + 8, none⟩ = false ∧ w.frozen? ⟨g, j * 11 + 9, none⟩ = false ∧ w.frozen? ⟨g, j * 11 + 10, none⟩ = false := by
  rw [holdsK_iff] at h
  have hh := fun i hi => (h j hj i hi).2
  exact ⟨hh 0 (by omega), hh 1 (by omega), hh 2 (by omega), hh 3 (by omega), hh 4 (by omega), hh 5 (by omega), hh 6 (by omega), hh 7 (by omega), hh 8 (by omega), hh 9 (by omega), hh 10 (by omega)⟩
theorem holdsK_some {w : World} {g : Nat} {d : Array Dd} (h : HoldsK Dd.enc 11 w g 0 d) {j : Nat} (hj : j < d.size) : ∀ q, q < 11 → (w.cell? ⟨g, j * 11 + q, none⟩).isSome = true := fun q hq => by
  rw [(holdsK_iff.1 h j hj q hq).1]; rfl
theorem holdsK_frz {w : World} {g : Nat} {d : Array Dd} (h : HoldsK Dd.enc 11 w g 0 d) {j : Nat} (hj : j < d.size) : ∀ q, q < 11 → w.frozen? ⟨g, j * 11 + q, none⟩ = false := fun q hq => (holdsK_iff.1 h j hj q hq).2
theorem holdsK_set {w : World} {g : Nat} {d : Array Dd} (h : HoldsK Dd.enc 11 w g 0 d) {i : Nat} (hi : i < d.size) (x : Dd) : HoldsK Dd.enc 11 (w.setCells g (i * 11) x.enc) g 0 (d.setIfInBounds i x) := by
  rw [holdsK_iff] at h ⊢
  intro j hj t ht
  have hj' : j < d.size := by simpa using hj
  rw [World.frozen?_setCells]
  refine ⟨?_, (h j hj' t ht).2⟩
  by_cases e : j = i
  · subst e
    have := World.cell?_setCells_in g x.enc (j * 11) w (fun q hq => by rw [(h j hj' q (by simpa [Dd.enc_length] using hq)).1]; rfl) t (by rw [Dd.enc_length]; exact ht)
    have e2 : (d.setIfInBounds j x)[j]! = x := by simp [hj']
    rw [this, e2, getElem!_pos x.enc t (by rw [Dd.enc_length]; exact ht)]
  · rw [World.cell?_setCells_out g x.enc (i * 11) w _ (fun _ _ => by rw [Dd.enc_length]; simp only; omega), (h j hj' t ht).1]
    have e2 : (d.setIfInBounds i x)[j]! = d[j]! := by simp [hj', Ne.symm e]
    rw [e2]

theorem holdsK_cut {w : World} {g : Nat} {d d' : Array Dd} (h : HoldsK Dd.enc 11 w g 0 d) (hs : d'.size ≤ d.size) (he : ∀ j, j < d'.size → d'[j]! = d[j]!) : HoldsK Dd.enc 11 w g 0 d' := by
  rw [holdsK_iff] at h ⊢
  intro j hj t ht
  rw [he j hj]
  exact h j (by omega) t ht

theorem holdsK_tail {w : World} {g : Nat} {d : Array Dd} (h : HoldsK Dd.enc 11 w g 0 d) (o : Nat) (vs : List Value) (ho : d.size * 11 ≤ o) : HoldsK Dd.enc 11 (w.setCells g o vs) g 0 d := by
  rw [holdsK_iff] at h ⊢
  intro j hj t ht
  rw [World.frozen?_setCells, World.cell?_setCells_out g vs o w _ (fun _ _ => .inl (by simp only; omega))]
  exact h j hj t ht

theorem holdsK_below {w w' : World} {B g : Nat} {d : Array Dd} (h : HoldsK Dd.enc 11 w g 0 d) (hb : Below B w w') (hg : g < B) : HoldsK Dd.enc 11 w' g 0 d := by
  rw [holdsK_iff] at h ⊢
  intro j hj t ht
  have e := hb.block g hg
  have := h j hj t ht
  simp only [World.cell?, World.frozen?, e]
  simpa only [World.cell?, World.frozen?] using this

theorem run_clear_k (w : World) (t e ty : TypeId) (z : Value) (ht : Tryz.prog.underlying t = some (.slice e)) (hv : ∀ w, (zeroValue e).run Tryz.prog w = .ok z w) (b o n c : Nat) (hn : 0 < n) (vs : List Value) (hvs : (Builtin.zeroCells z.cells n).toList = vs) (h1 : ∀ v ∈ vs, v.oneCell' = true)
    (hc : ∀ j, j < vs.length → (w.cell? ⟨b, o + j, none⟩).isSome = true) (hf : ∀ j, j < vs.length → w.frozen? ⟨b, o + j, none⟩ = false) :
    (Builtin.clear_ #[t] ty #[.slice (some ⟨b, o, none⟩) n c]).run Tryz.prog w = .ok (.tuple #[]) (w.setCells b o vs) := by
  have hst := run_storeCells_cells (P := Tryz.prog) b o vs 0 w (by simpa using hc) (by simpa using hf) h1
  simp only [Nat.add_zero] at hst
  obtain ⟨m, rfl⟩ : ∃ m, n = m + 1 := ⟨n - 1, by omega⟩
  simp [Builtin.clear_, run_underlying ht, hv, hvs, hst]

/-- slices.IndexFunc over no op. -/
theorem indexFunc_none (w : World) (p : Option Addr) (cap : Nat) (fv : Value) : Calls Tryz.prog 113 #[.slice p 0 cap, fv] w fun e w' => e = .returned (.int .i64 (-1)) ∧ w' = w := by
  go_enter Tryz.func113, Tryz.ntmps113
  go_wp2
  refine wp_loop_rounds 1 ?_
  rw [rounds_succ]
  go_wp2
  go_ret
  exact ⟨rfl, rfl⟩

theorem below_setCells {B b : Nat} {a : World} (hb : B ≤ b) : ∀ (vs : List Value) (o : Nat) {w : World}, Below B a w → Below B a (w.setCells b o vs)
  | [], _, _, h => h
  | v :: r, o, _, h => below_setCells hb r (o + 1) (h.setCell (p := ⟨b, o, none⟩) hb v)
theorem setCells_size (b : Nat) : ∀ (vs : List Value) (o : Nat) (w : World), (w.setCells b o vs).heap.size = w.heap.size
  | [], _, _ => rfl
  | v :: r, o, w => by
    have h1 := setCells_size b r (o + 1) (w.setCell ⟨b, o, none⟩ v)
    have h2 : (w.setCell ⟨b, o, none⟩ v).heap.size = w.heap.size := by simp
    exact h1.trans h2

/-- A store of a struct into a row, at the operation. -/
theorem wpList_store_k (w : World) {ops : Array Oper} {rest : List Oper} {o : Oper} {a : Act} {Q : Exit → Act → World → Prop} (hg : o.guard = none) (x y : Operand) (ty : TypeId) (hop : o.op = .store ty x y)
    (b off : Nat) (cs : List Value) (hx : a.eval x = .pointer (some ⟨b, off, none⟩)) (hy : a.eval y = .agg cs.toArray) (n : Nat) (hn : cs.length = n) (hs : ∀ w, (sizeOf ty).run Tryz.prog w = .ok n w) (hone : cs.all (fun v => v.oneCell') = true)
    (W : World) (hW : w = W) (hc : ∀ j, j < n → (W.cell? ⟨b, off + j, none⟩).isSome = true) (hf : ∀ j, j < n → W.frozen? ⟨b, off + j, none⟩ = false)
    (hK : wpList Tryz.prog ops Q rest (a.put o.dst undef) (w.setCells b off cs)) : wpList Tryz.prog ops Q (o :: rest) a w := by
  subst hn hW
  have h1 : ∀ v ∈ cs, v.oneCell' = true := List.all_eq_true.1 hone
  have hst := run_storeCells_cells (P := Tryz.prog) b off cs 0 w (by simpa using hc) (by simpa using hf) h1
  simp only [Nat.add_zero] at hst
  refine wpList_plain hg fun K' hK' => ?_
  unfold Oper.wp execOp
  simp only [hop, hx, hy, Instr.storeAt, Instr.sureAddr, Sem.run_bind, Sem.run_pure, Result.andThen_ok, storeVar, hs, Value.cells]
  simp [hst]
  exact hK' _ _ hK
end Go.Proofs.YtilonnkohcocoaaGreatDoor
