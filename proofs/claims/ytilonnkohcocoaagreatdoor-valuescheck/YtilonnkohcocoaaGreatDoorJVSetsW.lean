/- ValuesSets: the walk. -/
import Derived.Test.YtilonnkohcocoaaGreatDoorJVSetsI
namespace Go.Proofs.YtilonnkohcocoaaGreatDoor
open Go.RowKit Go.Sort Go.Maps
set_option maxRecDepth 100000
set_option linter.unusedSectionVars false
variable [Inhabited ComV] [DecidableEq D3] [Inhabited D3] [Inhabited Dd] [Inhabited Dn] [Inhabited OpV]

theorem Tryz.info3 : (Tryz.prog.info? 3).map (fun i => (i.zero, i.size, i.bytes)) = some (some (.int .i64 0), 1, 8) := by kernel_rfl
theorem Tryz.info28 : (Tryz.prog.info? 28).map (fun i => (i.zero, i.size, i.bytes)) = some (some (.agg #[.slice none 0 0, .int .i64 0, .slice none 0 0]), 3, 56) := by kernel_rfl
def zero6 : Obj := .cells #[.int .i64 0, .int .i64 0, .int .i64 0, .int .i64 0, .int .i64 0, .int .i64 0] 3
theorem run_make6 (w : World) : (Instr.makeSlice 25 (.int .i64 6) (.int .i64 6)).run Tryz.prog w = .ok (.slice (some ⟨w.heap.size, 0, none⟩) 6 6) (w.alloc zero6) := by
  obtain ⟨i0, hi, hz0, hz1, hz2⟩ := info_parts Tryz.info3
  have := run_makeSlice (P := Tryz.prog) w 25 3 i0 _ Tryz.underlying25 hi hz0 .i64 .i64 6 6 (by decide) (by decide) (by rw [hz1]; decide) (by rw [hz2]; decide) (by decide)
  rw [this, hz1, show madeCells (Value.int .i64 0).cells (Int.toNat 6 * 1) = #[.int .i64 0, .int .i64 0, .int .i64 0, .int .i64 0, .int .i64 0, .int .i64 0] by kernel_rfl]
  rfl
theorem zero6_cell (w : World) {k : Nat} (hk : k < 6) : (w.alloc zero6).cell? ⟨w.heap.size, k, none⟩ = some (.int .i64 0) ∧ (w.alloc zero6).frozen? ⟨w.heap.size, k, none⟩ = false := by
  have h : (w.alloc zero6).heap[w.heap.size]? = some zero6 := (MapKept.heap_alloc _ _).1
  constructor
  · simp only [World.cell?]
    rw [h]
    rcases (by omega : k = 0 ∨ k = 1 ∨ k = 2 ∨ k = 3 ∨ k = 4 ∨ k = 5) with rfl | rfl | rfl | rfl | rfl | rfl <;> rfl
  · simp only [World.frozen?]
    rw [h]
    simp [zero6]
theorem below_set (w : World) (o : Obj) (k : Nat) (v : Value) : Below w.heap.size w ((w.alloc o).setCell ⟨w.heap.size, k, none⟩ v) := (below_alloc w o).setCell (Nat.le_refl _) v
theorem sets_when {w0 wr : World} {text : ByteArray} {k s : Nat} {lv dv : Value} {rows : List (List Value)} (h : SetsInv w0 text k s lv dv rows wr) (hk : k < 6) :
    SetsInv w0 text k s lv dv rows ((wr.alloc zero6).setCell ⟨wr.heap.size, k, none⟩ (.int .i64 1)) ∧ ((wr.alloc zero6).setCell ⟨wr.heap.size, k, none⟩ (.int .i64 1)).heap.size = wr.heap.size + 1 ∧ ((wr.alloc zero6).setCell ⟨wr.heap.size, k, none⟩ (.int .i64 1)).heap[wr.heap.size]? = some (.cells ((whenI k).map (Value.int .i64)).toArray 3 (0, 0)) := by
  refine ⟨h.moved (below_set wr _ k _), by simp [World.setCell], ?_⟩
  have h0 : (wr.alloc zero6).heap[wr.heap.size]? = some (.cells #[.int .i64 0, .int .i64 0, .int .i64 0, .int .i64 0, .int .i64 0, .int .i64 0] 3 (0, 0)) := (MapKept.heap_alloc _ _).1
  rw [heap_set h0]
  rcases (by omega : k = 0 ∨ k = 1 ∨ k = 2 ∨ k = 3 ∨ k = 4 ∨ k = 5) with rfl | rfl | rfl | rfl | rfl | rfl <;> rfl
theorem one3 (a b : Addr) (k : Int) : ∀ v ∈ [Value.slice (some a) 6 6, .int .i64 k, .slice (some b) 1 1], v.oneCell' = true := fun v hv => by
  simp only [List.mem_cons, List.not_mem_nil, or_false] at hv
  rcases hv with rfl | rfl | rfl <;> rfl
theorem sets_commit {w0 wB w2 : World} {text : ByteArray} {k s z : Nat} {lv lv' dv : Value} {rows : List (List Value)} (h : SetsInv w0 text k s lv dv rows wB) (hz : wB.heap[z]? = some (.cells ((whenI k).map (Value.int .i64)).toArray 3 (0, 0)))
    (hg : ((wB.alloc (.cells #[.int .i64 0, .string ⟨#[115]⟩, .int .i64 3, .string text, .int .i64 0, .bool false, .slice none 0 0] 24)).alloc (.cells #[.slice (some ⟨z, 0, none⟩) 6 6, .int .i64 k, .slice (some ⟨wB.heap.size, 0, none⟩) 1 1] 28)).grownBy w2 lv.ownBlock)
    (hr : w2.ownsRow (w0.heap.size + 1) 28 3 lv' (k + 1) (rows.flatten ++ [.slice (some ⟨z, 0, none⟩) 6 6, .int .i64 k, .slice (some ⟨wB.heap.size, 0, none⟩) 1 1])) :
    SetsInv w0 text (k + 1) s lv' dv (rows ++ [[.slice (some ⟨z, 0, none⟩) 6 6, .int .i64 k, .slice (some ⟨wB.heap.size, 0, none⟩) 1 1]]) w2 := by
  have hzl := lt_of_heap hz
  refine (h.moved (below2 wB _ _)).commit hg hr ⟨z, wB.heap.size, addOp text, rfl, rfl, rfl, whenI_len k, ?_, ?_⟩
  · rw [(MapKept.heap_alloc _ _).2 _ (by simp; omega), (MapKept.heap_alloc _ _).2 _ hzl]
    exact hz
  · rw [(MapKept.heap_alloc _ _).2 _ (by simp)]
    exact (MapKept.heap_alloc _ _).1
theorem SetsInv.cell {w0 w : World} {text : ByteArray} {k s : Nat} {lv dv : Value} {rows : List (List Value)} (h : SetsInv w0 text k s lv dv rows w) : w.cell? ⟨w0.heap.size, 6, none⟩ = some dv ∧ w.frozen? ⟨w0.heap.size, 6, none⟩ = false := by
  constructor
  · simp only [World.cell?, h.box]
    rfl
  · simp only [World.frozen?, h.box]
    simp
theorem SetsInv.cell2 {w0 w w1 : World} {text : ByteArray} {k s : Nat} {lv dv : Value} {rows : List (List Value)} {o : Obj} (h : SetsInv w0 text k s lv dv rows w) (hg : (w.alloc o).grownBy w1 dv.ownBlock) : w1.cell? ⟨w0.heap.size, 6, none⟩ = some dv ∧ w1.frozen? ⟨w0.heap.size, 6, none⟩ = false := by
  have h' := h.moved (below_alloc w o)
  have e : w1.heap[w0.heap.size]? = some (.cells (opCells (dropOp text 0) dv).toArray 24 (0, 0)) := by
    rw [hg.block _ (by have := h'.size; omega) (fun e => by have := (h'.dots.lt _ e.symm).1; omega)]
    exact h'.box
  constructor
  · simp only [World.cell?, e]
    rfl
  · simp only [World.frozen?, e]
    simp
def onesL (j : Nat) : List Int := List.replicate j 1 ++ List.replicate (6 - j) 0
/-- Where the second loop stands. -/
structure Ones (wr : World) (j : Nat) (w : World) : Prop where
  below : Below wr.heap.size wr w
  size : w.heap.size = wr.heap.size + 1
  arr : w.heap[wr.heap.size]? = some (.cells ((onesL j).map (Value.int .i64)).toArray 3 (0, 0))
theorem Ones.start (wr : World) : Ones wr 0 (wr.alloc zero6) := ⟨below_alloc _ _, by simp, (MapKept.heap_alloc _ _).1⟩
theorem Ones.step {wr w : World} {j : Nat} (h : Ones wr j w) (hj : j < 6) : Ones wr (j + 1) (w.setCell ⟨wr.heap.size, j, none⟩ (.int .i64 1)) := by
  refine ⟨h.below.setCell (Nat.le_refl _) _, by simp [World.setCell, h.size], ?_⟩
  rw [heap_set h.arr]
  rcases (by omega : j = 0 ∨ j = 1 ∨ j = 2 ∨ j = 3 ∨ j = 4 ∨ j = 5) with rfl | rfl | rfl | rfl | rfl | rfl <;> rfl
theorem Ones.cell {wr w : World} {j : Nat} (h : Ones wr j w) {i : Nat} (hj : j ≤ 6) (hi : i < 6) : ∃ x, w.cell? ⟨wr.heap.size, i, none⟩ = some (.int .i64 x) ∧ w.frozen? ⟨wr.heap.size, i, none⟩ = false := by
  have hl : i < (onesL j).length := by simp [onesL]; omega
  refine ⟨(onesL j)[i], ?_, ?_⟩
  · simp only [World.cell?]
    rw [h.arr]
    simp [hl]
  · simp only [World.frozen?]
    rw [h.arr]
    simp
theorem Ones.last {wr w : World} {j : Nat} (h : Ones wr j w) (hj : j ≤ 6) : Below wr.heap.size wr (w.setCell ⟨wr.heap.size, 0, none⟩ (.int .i64 2)) ∧ (w.setCell ⟨wr.heap.size, 0, none⟩ (.int .i64 2)).heap[wr.heap.size]? = some (.cells ((whenD j).map (Value.int .i64)).toArray 3 (0, 0)) := by
  refine ⟨h.below.setCell (Nat.le_refl _) _, ?_⟩
  rw [heap_set h.arr]
  rcases (by omega : j = 0 ∨ j = 1 ∨ j = 2 ∨ j = 3 ∨ j = 4 ∨ j = 5 ∨ j = 6) with rfl | rfl | rfl | rfl | rfl | rfl | rfl <;> rfl
theorem SetsInv.cells {w0 w : World} {text : ByteArray} {k s : Nat} {lv dv : Value} {rows : List (List Value)} (h : SetsInv w0 text k s lv dv rows w) : w.cell? ⟨w0.heap.size, 0, none⟩ = some (.int .i64 0) ∧ w.cell? ⟨w0.heap.size, 1, none⟩ = some (.string ⟨#[115]⟩) ∧ w.cell? ⟨w0.heap.size, 2, none⟩ = some (.int .i64 3) ∧ w.cell? ⟨w0.heap.size, 3, none⟩ = some (.string text) ∧ w.cell? ⟨w0.heap.size, 4, none⟩ = some (.int .i64 0) ∧ w.cell? ⟨w0.heap.size, 5, none⟩ = some (.bool true) ∧ w.cell? ⟨w0.heap.size, 6, none⟩ = some dv := by
  refine ⟨?_, ?_, ?_, ?_, ?_, ?_, ?_⟩ <;> (simp only [World.cell?, h.box]; rfl)
theorem sets_all {w0 wC w2 : World} {text : ByteArray} {k s z : Nat} {lv lv' dv : Value} {rows : List (List Value)} (h : SetsInv w0 text k s lv dv rows wC) (hs : s ≤ 6) (hz : wC.heap[z]? = some (.cells ((whenD s).map (Value.int .i64)).toArray 3 (0, 0)))
    (hg : ((wC.alloc (.cells #[.int .i64 0, .string ⟨#[115]⟩, .int .i64 3, .string text, .int .i64 0, .bool true, dv] 24)).alloc (.cells #[.slice (some ⟨z, 0, none⟩) 6 6, .int .i64 0, .slice (some ⟨wC.heap.size, 0, none⟩) 1 1] 28)).grownBy w2 lv.ownBlock)
    (hr : w2.ownsRow (w0.heap.size + 1) 28 3 lv' (k + 1) (rows.flatten ++ [.slice (some ⟨z, 0, none⟩) 6 6, .int .i64 0, .slice (some ⟨wC.heap.size, 0, none⟩) 1 1])) :
    ComsAt w2 lv' (setsL text k s) ∧ Below w0.heap.size w0 w2 := by
  have hzl := lt_of_heap hz
  refine (h.moved (below2 wC _ _)).all hg hr hs ?_ ?_
  · rw [(MapKept.heap_alloc _ _).2 _ (by simp; omega), (MapKept.heap_alloc _ _).2 _ hzl]
    exact hz
  · rw [(MapKept.heap_alloc _ _).2 _ (by simp)]
    exact (MapKept.heap_alloc _ _).1
theorem own_shape {w : World} {base e size : Nat} {v : Value} {n : Nat} {xs : List Value} (h : w.ownsRow base e size v n xs) : ∃ a c, v = .slice a n c := by
  rcases h.2 with ⟨rfl, rfl⟩ | ⟨g, cap, cur, rfl, _⟩
  · exact ⟨_, _, rfl⟩
  · exact ⟨_, _, rfl⟩
set_option maxHeartbeats 4000000 in
theorem sets_walk (A : Nat → Addr) (w : World) (hE : E4 A w) (h4 : 4 ≤ w.heap.size) (text : ByteArray) (adds seen : Int) :
    Calls Tryz.prog 7 #[.string text, .int .i64 adds, .int .i64 seen] w fun e w' => e = .returned (.bool true) ∧ Below w.heap.size w w' := by
  have K8 := worth_true A w hE h4
  have hms := run_make6
  obtain ⟨i28, hi28, hy0, hy1, hy2⟩ := info_parts Tryz.info28
  obtain ⟨i65, hi65, hx0, hx1, hx2⟩ := info_parts Tryz.info65
  have HE := hid hE
  clear hE
  go_enter Tryz.func7, Tryz.ntmps7
  by_cases h1 : adds < 1
  · go_wp2_with (go_at_call 9; refine K8.mono ?_; rintro e w' ⟨rfl, hb⟩)
    go_ret
    exact ⟨rfl, hb⟩
  by_cases h2 : 6 < adds
  · go_wp2_with (go_at_call 9; refine K8.mono ?_; rintro e w' ⟨rfl, hb⟩)
    go_ret
    exact ⟨rfl, hb⟩
  by_cases h3 : seen < 0
  · go_wp2_with (go_at_call 9; refine K8.mono ?_; rintro e w' ⟨rfl, hb⟩)
    go_ret
    exact ⟨rfl, hb⟩
  by_cases h5 : adds < seen
  · go_wp2_with (go_at_call 9; refine K8.mono ?_; rintro e w' ⟨rfl, hb⟩)
    go_ret
    exact ⟨rfl, hb⟩
  by_cases h6 : (60 : Int) < text.size
  · go_wp2_with (go_at_call 9; refine K8.mono ?_; rintro e w' ⟨rfl, hb⟩)
    go_ret
    exact ⟨rfl, hb⟩
  obtain ⟨n, rfl⟩ : ∃ n : Nat, adds = n := ⟨adds.toNat, by omega⟩
  obtain ⟨m, rfl⟩ : ∃ m : Nat, seen = m := ⟨seen.toNat, by omega⟩
  have HN : Hid (1 ≤ n ∧ n ≤ 6 ∧ m ≤ n ∧ text.size ≤ 60) := hid (by omega)
  have d1 : decide ((n : Int) < 1) = false := decide_eq_false h1
  have d2 : decide (6 < (n : Int)) = false := decide_eq_false h2
  have d3 : decide ((m : Int) < 0) = false := decide_eq_false h3
  have d4 : decide (n < m) = false := decide_eq_false (by omega)
  have d5 : decide ((60 : Int) < (text.size : Int)) = false := decide_eq_false h6
  clear h1 h2 h3 h5 h6
  go_wp2_with (go_at_call 9; refine K8.mono ?_; rintro e w0 ⟨rfl, hb⟩)
  have HB := hid hb
  clear hb K8 d1 d2 d3 d4 d5
  obtain ⟨h1, h2, h3, h5⟩ := HN.out
  go_loopw [8, 10] (fun v i wr => ∃ (k : Nat) (dv : Value) (rows : List (List Value)), k ≤ n ∧ i = .int .i64 k ∧ Hid (SetsInv w0 text k (min k m) v dv rows wr)) (fun _ i _ => n - (intOf i).toNat)
  case atStart => exact ⟨0, .slice none 0 0, [], Nat.zero_le _, rfl, by rw [Nat.zero_min]; exact SetsInv.start w0 text⟩
  case round =>
    obtain ⟨k, dv, rows, hk, rfl, HI⟩ := hrel
    by_cases hlt : k < n
    · have hlt' : (k : Int) < (n : Int) := by omega
      have hk6 : k < 6 := by omega
      obtain ⟨zc, zf⟩ := zero6_cell wr hk6
      go_upto_region 11 with (fail)
      obtain ⟨wB, hwB⟩ : ∃ wB, wB = (wr.alloc zero6).setCell ⟨wr.heap.size, k, none⟩ (.int .i64 1) := ⟨_, rfl⟩
      rw [← hwB]
      obtain ⟨IB, SB, CB⟩ : SetsInv w0 text k (min k m) u8 dv rows wB ∧ wB.heap.size = wr.heap.size + 1 ∧ wB.heap[wr.heap.size]? = some (.cells ((whenI k).map (Value.int .i64)).toArray 3 (0, 0)) := by rw [hwB]; exact sets_when HI.out hk6
      have HSB := hid SB
      have HCB := hid CB
      have hrow := IB.row
      clear hwB zc zf SB CB HI
      obtain ⟨z, hz⟩ : ∃ z, z = wr.heap.size := ⟨_, rfl⟩
      rw [← hz] at HCB ⊢
      have HZ := hid hz
      clear hz
      go_upto_region 12 with (at_builtin; refine wpList_append_own _ rfl _ _ 43 rfl (w0.heap.size + 1) 28 i28 _ 3 56 Tryz.underlying43 hi28 hy0 hy1 hy2 rfl (by decide) _ _ _ rfl ((hrow.alloc _).alloc _) ⟨wB.heap.size + 1, 0, none⟩ 1 1 [.slice (some ⟨z, 0, none⟩) 6 6, .int .i64 k, .slice (some ⟨wB.heap.size, 0, none⟩) 1 1] rfl rfl (cells11_new _ _ _ _ (by simp)) ?ho1 ?ho2 ?ho3 ?ho4 ?_; (case ho1 => exact one3 _ _ _); (case ho2 => unfold maxLen; omega); (case ho3 => omega); (case ho4 => have := IB.size; simp; omega); intro v' w2 hown' hgrow2 hnil2)
      have I2 := sets_commit IB HCB.out hgrow2 hown'
      obtain ⟨rows2, hrows2⟩ : ∃ r, r = rows ++ [[.slice (some ⟨z, 0, none⟩) 6 6, .int .i64 k, .slice (some ⟨wB.heap.size, 0, none⟩) 1 1]] := ⟨_, rfl⟩
      rw [← hrows2] at I2
      clear hrows2 hown' hgrow2 hnil2 IB hrow HCB HSB HZ
      by_cases hkm : k < m
      · rw [Nat.min_eq_left (by omega : k ≤ m)] at I2
        obtain ⟨c6, f6⟩ := I2.cell
        have hdots := I2.dots
        have hsz2 := I2.size
        have H2 := hid I2
        clear I2
        go_wp2_with (at_builtin; refine wpList_append_own _ rfl _ _ 22 rfl (w0.heap.size + 1) 65 i65 _ 3 24 Tryz.underlying22 hi65 hx0 hx1 hx2 rfl (by decide) _ _ _ rfl (hdots.alloc _) ⟨w2.heap.size, 0, none⟩ 1 1 [.int .i64 k, .int .i64 1, .int .i64 0] rfl rfl (cells11_new _ _ _ _ rfl) ?ho1 ?ho2 ?ho3 ?ho4 ?_; (case ho1 => exact D3.one (dotI k)); (case ho2 => unfold maxLen; omega); (case ho3 => omega); (case ho4 => simp; omega); intro v3 w3 hown3 hgrow3 hnil3; obtain ⟨g6, e6⟩ := H2.out.cell2 hgrow3; obtain ⟨a3, c3, rfl⟩ := own_shape hown3)
        go_roundw
        case rel => exact ⟨k + 1, _, rows2, by omega, by go_num, by rw [Nat.min_eq_left (by omega : k + 1 ≤ m)]; exact (H2.out.moved (below_alloc _ _)).seen hgrow3 hown3⟩
        case measure => simp [intOf]; omega
      · rw [Nat.min_eq_right (by omega : m ≤ k)] at I2
        have H2 := hid I2
        clear I2
        go_wp2
        go_roundw
        case rel => exact ⟨k + 1, dv, rows2, by omega, by go_num, by rw [Nat.min_eq_right (by omega : m ≤ k + 1)]; exact H2.out⟩
        case measure => simp [intOf]; omega
    · obtain rfl : k = n := by omega
      rw [Nat.min_eq_right (by omega : m ≤ k)] at HI
      go_upto_region 16 with (fail)
      obtain ⟨wo, hwo⟩ : ∃ wo : World, wo = wr := ⟨wr, rfl⟩
      subst hwo
      go_loopw [13] (fun i wj => ∃ j : Nat, j ≤ m ∧ i = .int .i64 j ∧ Hid (Ones wo j wj)) (fun i _ => m - (intOf i).toNat)
      case atStart => exact ⟨0, Nat.zero_le _, rfl, Ones.start wo⟩
      case round =>
        obtain ⟨j, hj, rfl, HO⟩ := hrel
        by_cases hjm : j < m
        · have hj6 : j < 6 := by omega
          obtain ⟨x, xc, xf⟩ := HO.out.cell (by omega) hj6
          go_wp2
          go_roundw
          case rel => exact ⟨j + 1, by omega, by go_num, HO.out.step hj6⟩
          case measure => simp [intOf]; omega
        · obtain rfl : j = m := by omega
          obtain ⟨x, xc, xf⟩ := HO.out.cell (i := 0) (by omega) (by decide)
          go_upto_region 20 with (fail)
          obtain ⟨bC, aC⟩ := HO.out.last (by omega)
          obtain ⟨wC, hwC⟩ : ∃ wC, wC = wr.setCell ⟨wo.heap.size, 0, none⟩ (.int .i64 2) := ⟨_, rfl⟩
          rw [← hwC] at bC aC ⊢
          have IC := HI.out.moved bC
          obtain ⟨z, hz⟩ : ∃ z, z = wo.heap.size := ⟨_, rfl⟩
          rw [← hz] at aC ⊢
          have HAC := hid aC
          obtain ⟨c0, c1, c2, c3, c4, c5, c6⟩ := IC.cells
          have hrow := IC.row
          have hszC := IC.size
          obtain ⟨da, dc, hdv⟩ := own_shape IC.dots
          subst hdv
          have HIC := hid IC
          clear hwC hz xc xf bC aC IC HI HO
          go_upto_region 21 with (at_builtin; refine wpList_append_own _ rfl _ _ 43 rfl (w0.heap.size + 1) 28 i28 _ 3 56 Tryz.underlying43 hi28 hy0 hy1 hy2 rfl (by decide) _ _ _ rfl ((hrow.alloc _).alloc _) ⟨wC.heap.size + 1, 0, none⟩ 1 1 [.slice (some ⟨z, 0, none⟩) 6 6, .int .i64 0, .slice (some ⟨wC.heap.size, 0, none⟩) 1 1] rfl rfl (cells11_new _ _ _ _ (by simp)) ?ho1 ?ho2 ?ho3 ?ho4 ?_; (case ho1 => exact one3 _ _ _); (case ho2 => unfold maxLen; omega); (case ho3 => omega); (case ho4 => simp; omega); intro v' w2 hown' hgrow2 hnil2)
          obtain ⟨hC, bw2⟩ := sets_all HIC.out (by omega) HAC.out hgrow2 hown'
          have bA := HB.out.trans (bw2.mono HB.out.size)
          have hE2 := HE.out.below bA h4
          have h42 : 4 ≤ w2.heap.size := Nat.le_trans h4 bA.size
          have K18 := of_ok A w2 hE2 h42 ⟨#[115]⟩ (by rfl) v' (setsL text k j) hC (by rw [sets_len]; omega) (sets_small text (by omega) (by omega)) (sets_ok text (by omega) (by omega) (by omega))
          obtain ⟨va, vc, hv'⟩ := own_shape hown'
          subst hv'
          have HC := hid hC
          have HBA := hid bA
          have HE2 := hid hE2
          clear c0 c1 c2 c3 c4 c5 c6 hrow hszC HIC HAC hown' hgrow2 hnil2 hC bw2 bA hE2
          go_wp2_with fail
          refine K18.mono ?_
          rintro e w4 ⟨v4, ds, rfl, hds, hv4, hb4⟩
          rw [sets_ops text (by omega) (by omega) hds, sets_val text (by omega) (by omega), setA_rep] at hv4
          have b4 := HBA.out.trans (hb4.mono HBA.out.size)
          have K20 := fun o => dots_ok A (w4.alloc o) ((HE.out.below b4 h4).below (below_alloc w4 o) (Nat.le_trans h4 b4.size)) (by have := b4.size; simp; omega) ⟨#[115]⟩ text (by rfl) (.slice va (k + 1) vc) (setsL text k j) ((HC.out.mono hb4 (Nat.le_refl _)).mono (below_alloc w4 o) (Nat.le_refl _)) (by rw [sets_len]; omega) (sets_small text (by omega) (by omega)) (sets_ok text (by omega) (by omega) (by omega))
          have HB4 := hid b4
          clear K18 hds hb4 b4 HC HE2
          have hsub : ((k - j : Nat) : Int) = (k : Int) - (j : Int) := by omega
          have HSUB := hid hsub
          clear hsub
          by_cases hjk : j = k
          · subst hjk
            rw [if_pos (Nat.sub_self _)] at hv4
            obtain ⟨sv, rfl, ad, cap, rfl, hstr⟩ := hv4
            clear hstr
            go_wp2_with fail
            refine (K20 _).mono ?_
            rintro e w6 ⟨v6, ds, out, rfl, hds, hd, hda, hb6⟩
            rw [sets_ops text (by omega) (by omega) hds] at hd
            have hol := sets_dots text (by omega) (by omega) hd
            obtain ⟨dp, dq, rfl⟩ := hda.len
            rw [hol, Nat.sub_self]
            have k0 : w6.cell? ⟨w4.heap.size, 0, none⟩ = some (.int .i64 3) := by rw [hb6.cell (by simp)]; exact (World.cell?_alloc_at _ _ _ _ rfl).trans rfl
            have k3 : w6.cell? ⟨w4.heap.size, 3, none⟩ = some (.slice ad 0 cap) := by rw [hb6.cell (by simp)]; exact (World.cell?_alloc_at _ _ _ _ rfl).trans rfl
            have B6 := hid ((HB4.out.alloc HB4.out.size _).trans (hb6.mono (by have := HB4.out.size; simp; omega)))
            clear K20 hds hd hda hb6 hol
            go_wp2
            go_ret
            exact ⟨rfl, B6.out⟩
          · rw [if_neg (by omega)] at hv4
            obtain ⟨sv, rfl, ad, cap, rfl, hstr⟩ := hv4
            obtain ⟨b, rfl, hst2⟩ := hstr.resolve_left (by simp)
            have ct := hst2 0 (by simp)
            rw [show encStr [text.data.toList][0]! = .string text from encStr_data text] at ct
            clear hstr hst2
            simp only [List.length_singleton]
            go_wp2_with fail
            refine (K20 _).mono ?_
            rintro e w6 ⟨v6, ds, out, rfl, hds, hd, hda, hb6⟩
            rw [sets_ops text (by omega) (by omega) hds] at hd
            have hol := sets_dots text (by omega) (by omega) hd
            obtain ⟨dp, dq, rfl⟩ := hda.len
            have hn : (out.length : Int) = (k : Int) - (j : Int) := by rw [hol]; exact HSUB.out
            have k0 : w6.cell? ⟨w4.heap.size, 0, none⟩ = some (.int .i64 3) := by rw [hb6.cell (by simp)]; exact (World.cell?_alloc_at _ _ _ _ rfl).trans rfl
            have k3 : w6.cell? ⟨w4.heap.size, 3, none⟩ = some (.slice (some ⟨b, 0, none⟩) 1 cap) := by rw [hb6.cell (by simp)]; exact (World.cell?_alloc_at _ _ _ _ rfl).trans rfl
            have ct6 : w6.cell? ⟨b, 0, none⟩ = some (.string text) := by rw [hb6.cell (by have := lt_of_cell ct; simp at this ⊢; omega)]; exact cell_alloc ct _
            have K29 := sameTexts_one (w6.alloc (.cells #[.string text] 9)) b cap w6.heap.size 1 text (cell_alloc ct6 _) ((World.cell?_alloc_at _ _ _ _ rfl).trans rfl)
            have B6 := hid ((HB4.out.alloc HB4.out.size _).trans (hb6.mono (by have := HB4.out.size; simp; omega)))
            clear K20 hds hd hda hb6 hol ct ct6
            go_wp2_with fail
            refine K29.mono ?_
            rintro e w7 ⟨rfl, q, rfl⟩
            clear K29
            go_wp2
            go_ret
            exact ⟨rfl, below_draws (B6.out.alloc B6.out.size _) q⟩
end Go.Proofs.YtilonnkohcocoaaGreatDoor
