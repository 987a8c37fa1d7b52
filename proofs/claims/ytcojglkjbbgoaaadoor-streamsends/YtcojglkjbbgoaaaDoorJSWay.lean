/- Ways, senders and receivers made; a beat copied. -/
import Derived.Test.YtcojglkjbbgoaaaDoorJSBase
import Derived.Lib.SliceRun
import Derived.Deep.Cut
namespace Go.Proofs.YtcojglkjbbgoaaaDoor
open Go.RowKit
set_option maxRecDepth 100000

theorem isPlace_yes (p : Int) (w : World) (h0 : 0 ≤ p) (h6 : p < 6) : Calls Tryd.prog 48 #[.int .i64 p] w fun e w' => e = .returned (.bool true) ∧ w' = w := by
  go_enter Tryd.func48, Tryd.ntmps48
  go_wp2
  go_ret
  exact ⟨rfl, rfl⟩
theorem isTime_yes (t : Int) (w : World) (h0 : 0 ≤ t) (h6 : t ≤ 1099511627776) : Calls Tryd.prog 33 #[.int .i64 t] w fun e w' => e = .returned (.bool true) ∧ w' = w := by
  go_enter Tryd.func33, Tryd.ntmps33
  go_wp2
  go_ret
  exact ⟨rfl, rfl⟩
/-- Numbers of a stream. -/
structure WayOk (f t s : Int) : Prop where
  f0 : 0 ≤ f
  f6 : f < 6
  t0 : 0 ≤ t
  t6 : t < 6
  s0 : 0 ≤ s
  s6 : s < 6
  ne : f ≠ t
set_option maxHeartbeats 1000000 in
theorem newWay_ok (f t s : Int) (w : World) (h : WayOk f t s) : Calls Tryd.prog 32 #[.int .i64 f, .int .i64 t, .int .i64 s] w fun e w' => e = .returned (.tuple #[.agg #[.int .i64 f, .int .i64 t, .int .i64 s], .nilIface]) ∧ Below w.heap.size w w' := by
  obtain ⟨f0, f6, t0, t6, s0, s6, ne⟩ := h
  have hb : (f == t) = false := beq_eq_false_iff_ne.2 ne
  have s0' : ¬ s < 0 := by omega
  have s6' : ¬ 6 ≤ s := by omega
  clear ne
  go_enter Tryd.func32, Tryd.ntmps32
  go_wp2_with (go_at_call 48; refine (isPlace_yes _ _ (by assumption) (by assumption)).mono ?_; rintro e w' ⟨rfl, rfl⟩)
  refine bodyPost_ret (ret_cell_tmp (k := 3) Tryd.results32 Tryd.isAgg82 Tryd.sizeOf82 _ _ w.heap.size [.int .i64 f, .int .i64 t, .int .i64 s] _ rfl rfl rfl (cells_heap (t := 82) _ (heap_new _ _))) rfl ⟨rfl, below_alloc _ _⟩
/-- A sender's box. -/
def SndBox (w : World) (g : Nat) (f t s seq time : Int) (v : Value) : Prop := w.heap[g]? = some (.cells #[.int .i64 f, .int .i64 t, .int .i64 s, .int .i64 seq, .int .i64 time, v] 86 (0, 0))
set_option maxHeartbeats 1000000 in
theorem newSender_ok (f t s : Int) (w : World) (h : WayOk f t s) : Calls Tryd.prog 8 #[.int .i64 f, .int .i64 t, .int .i64 s] w fun e w' => ∃ g, w.heap.size ≤ g ∧ e = .returned (.tuple #[.pointer (some ⟨g, 0, none⟩), .nilIface]) ∧ SndBox w' g f t s 0 0 (.slice none 0 0) ∧ Below w.heap.size w w' := by
  have K := hid (newWay_ok f t s w h)
  clear h
  go_enter Tryd.func8, Tryd.ntmps8
  go_wp2_with fail
  refine K.out.mono ?_
  rintro e w1 ⟨rfl, hb1⟩
  have B1 := hid hb1
  clear hb1
  go_wp2
  go_ret2
  refine ⟨w1.heap.size + 1, ?_, rfl, heap_new2 _ _ _, ?_⟩
  · have := B1.out.size; omega
  · exact ((B1.out.alloc B1.out.size _).alloc (by have := B1.out.size; simp; omega) _)
theorem clone_nil48 (w : World) : Calls Tryd.prog 59 #[.slice none 0 0] w fun e w' => e = .returned (.slice none 0 0) ∧ w' = w := by
  have q : ∀ (w : World) (a : Option Addr) (n c n' c' : Nat), (binOp .eql 22 (.slice a n c) (.slice none n' c')).run Tryd.prog w = .ok (.bool a.isNone) w := fun w a n c n' c' => Lib.run_eql_slice_nil w _ _ a n c n' c' Tryd.underlying22
  go_enter Tryd.func59, Tryd.ntmps59
  go_wp2
  go_ret
  exact ⟨rfl, rfl⟩
theorem clone_nil49 (w : World) : Calls Tryd.prog 60 #[.slice none 0 0] w fun e w' => e = .returned (.slice none 0 0) ∧ w' = w := by
  have q : ∀ (w : World) (a : Option Addr) (n c n' c' : Nat), (binOp .eql 33 (.slice a n c) (.slice none n' c')).run Tryd.prog w = .ok (.bool a.isNone) w := fun w a n c n' c' => Lib.run_eql_slice_nil w _ _ a n c n' c' Tryd.underlying33
  go_enter Tryd.func60, Tryd.ntmps60
  go_wp2
  go_ret
  exact ⟨rfl, rfl⟩
/-- A beat. -/
def beat9 (f t s seq time : Int) : List Value := [.int .i64 f, .int .i64 t, .int .i64 s, .int .i64 seq, .int .i64 time, .bool true, .slice none 0 0, .int .i64 0, .slice none 0 0]
set_option maxHeartbeats 1000000 in
theorem copyCommit_nil (w : World) : Calls Tryd.prog 49 #[.agg #[.slice none 0 0, .int .i64 0, .slice none 0 0]] w fun e w' => e = .returned (.agg #[.slice none 0 0, .int .i64 0, .slice none 0 0]) ∧ Below w.heap.size w w' := by
  go_enter Tryd.func49, Tryd.ntmps49
  go_wp2_with (first | (go_at_call 59; refine (clone_nil48 _).mono ?_; rintro e w' ⟨rfl, rfl⟩) | (go_at_call 60; refine (clone_nil49 _).mono ?_; rintro e w' ⟨rfl, rfl⟩))
  refine wp_loop_rounds 1 ?_
  rw [rounds_succ]
  go_wp2
  refine bodyPost_ret (ret_cell (k := 3) Tryd.results49 Tryd.isAgg35 Tryd.sizeOf35 _ _ (w.heap.size + 1) [.slice none 0 0, .int .i64 0, .slice none 0 0] rfl rfl (cells_heap (t := 35) _ (heap_new2 _ _ _))) rfl ⟨rfl, (below_alloc _ _).alloc (by simp) _⟩
set_option maxHeartbeats 1000000 in
theorem copy_beat (f t s seq time : Int) (w : World) : Calls Tryd.prog 37 #[.agg (beat9 f t s seq time).toArray] w fun e w' => e = .returned (.agg (beat9 f t s seq time).toArray) ∧ Below w.heap.size w w' := by
  obtain ⟨w1, hw1⟩ : ∃ w1, w1 = (w.alloc (.cells (beat9 f t s seq time).toArray 37)).alloc (.cells #[.int .i64 0, .int .i64 0, .int .i64 0, .int .i64 0, .int .i64 0, .bool false, .slice none 0 0, .int .i64 0, .slice none 0 0] 37) := ⟨_, rfl⟩
  have s1 : w1.heap.size = w.heap.size + 2 := by rw [hw1]; simp
  have G1 : w1.heap[w.heap.size]? = some (.cells #[.int .i64 f, .int .i64 t, .int .i64 s, .int .i64 seq, .int .i64 time, .bool true, .slice none 0 0, .int .i64 0, .slice none 0 0] 37 (0, 0)) := by rw [hw1]; exact heap_old (heap_new _ _) _
  have F1 : w1.heap[w.heap.size + 1]? = some (.cells #[.int .i64 0, .int .i64 0, .int .i64 0, .int .i64 0, .int .i64 0, .bool false, .slice none 0 0, .int .i64 0, .slice none 0 0] 37 (0, 0)) := by rw [hw1]; exact heap_new2 _ _ _
  have bw1 : Below w.heap.size w w1 := by rw [hw1]; exact (below_alloc _ _).alloc (by simp) _
  have HG1 := hid G1
  have HF1 := hid F1
  have BW1 := hid bw1
  have S1 := hid s1
  have p6 : w1.cell? ⟨w.heap.size, 6, none⟩ = some (.slice none 0 0) := (cell_of G1).trans rfl
  have p7 : w1.cell? ⟨w.heap.size, 7, none⟩ = some (.int .i64 0) := (cell_of G1).trans rfl
  have p8 : w1.cell? ⟨w.heap.size, 8, none⟩ = some (.slice none 0 0) := (cell_of G1).trans rfl
  unfold beat9 at hw1 ⊢
  clear G1 F1 bw1 s1
  go_enter Tryd.func37, Tryd.ntmps37
  go_wp2_with fail
  rw [← hw1]
  clear hw1
  refine (copyCommit_nil w1).mono ?_
  rintro e w2 ⟨rfl, hb2⟩
  have G2 : w2.heap[w.heap.size]? = _ := (hb2.block _ (by have := S1.out; omega)).trans HG1.out
  have F2 : w2.heap[w.heap.size + 1]? = _ := (hb2.block _ (by have := S1.out; omega)).trans HF1.out
  have q6 : w2.cell? ⟨w.heap.size, 6, none⟩ = some (.slice none 0 0) := (cell_of G2).trans rfl
  have q7 : w2.cell? ⟨w.heap.size, 7, none⟩ = some (.int .i64 0) := (cell_of G2).trans rfl
  have q8 : w2.cell? ⟨w.heap.size, 8, none⟩ = some (.slice none 0 0) := (cell_of G2).trans rfl
  have z6 : w2.frozen? ⟨w.heap.size, 6, none⟩ = false := free_of G2
  have z7 : w2.frozen? ⟨w.heap.size, 7, none⟩ = false := free_of G2
  have z8 : w2.frozen? ⟨w.heap.size, 8, none⟩ = false := free_of G2
  obtain ⟨w3, hw3⟩ : ∃ w3, w3 = ((w2.setCell ⟨w.heap.size, 6, none⟩ (.slice none 0 0)).setCell ⟨w.heap.size, 7, none⟩ (.int .i64 0)).setCell ⟨w.heap.size, 8, none⟩ (.slice none 0 0) := ⟨_, rfl⟩
  have G3 : w3.heap[w.heap.size]? = some (.cells #[.int .i64 f, .int .i64 t, .int .i64 s, .int .i64 seq, .int .i64 time, .bool true, .slice none 0 0, .int .i64 0, .slice none 0 0] 37 (0, 0)) := by rw [hw3]; exact (heap_set (heap_set (heap_set G2 _) _) _).trans rfl
  have low : ∀ q, q ≠ w.heap.size → w3.heap[q]? = w2.heap[q]? := fun q hq => by rw [hw3, Below.heap_setCell _ _ _ _ hq, Below.heap_setCell _ _ _ _ hq, Below.heap_setCell _ _ _ _ hq]
  have bw3 : Below w.heap.size w w3 := by rw [hw3]; exact (((BW1.out.trans (hb2.mono (by have := S1.out; omega))).setCell (Nat.le_refl _) _).setCell (Nat.le_refl _) _).setCell (Nat.le_refl _) _
  have F3 := hid ((low (w.heap.size + 1) (by omega)).trans F2)
  have HG3 := hid G3
  have BW3 := hid bw3
  clear G2 F2 G3 hb2 bw3 p6 p7 p8 low
  go_upto_region 2 with (fail)
  rw [← hw3]
  clear hw3 q6 q7 q8 z6 z7 z8
  have r0 : w3.cell? ⟨w.heap.size, 0, none⟩ = some (.int .i64 f) := (cell_of HG3.out).trans rfl
  have r1 : w3.cell? ⟨w.heap.size, 1, none⟩ = some (.int .i64 t) := (cell_of HG3.out).trans rfl
  have r2 : w3.cell? ⟨w.heap.size, 2, none⟩ = some (.int .i64 s) := (cell_of HG3.out).trans rfl
  have r3 : w3.cell? ⟨w.heap.size, 3, none⟩ = some (.int .i64 seq) := (cell_of HG3.out).trans rfl
  have r4 : w3.cell? ⟨w.heap.size, 4, none⟩ = some (.int .i64 time) := (cell_of HG3.out).trans rfl
  have r5 : w3.cell? ⟨w.heap.size, 5, none⟩ = some (.bool true) := (cell_of HG3.out).trans rfl
  have r6 : w3.cell? ⟨w.heap.size, 6, none⟩ = some (.slice none 0 0) := (cell_of HG3.out).trans rfl
  have r7 : w3.cell? ⟨w.heap.size, 7, none⟩ = some (.int .i64 0) := (cell_of HG3.out).trans rfl
  have r8 : w3.cell? ⟨w.heap.size, 8, none⟩ = some (.slice none 0 0) := (cell_of HG3.out).trans rfl
  obtain ⟨wz, STORE, HZ⟩ := store_row F3.out [.int .i64 f, .int .i64 t, .int .i64 s, .int .i64 seq, .int .i64 time, .bool true, .slice none 0 0, .int .i64 0, .slice none 0 0] rfl rfl 37 9 rfl Tryd.sizeOf37
  go_wp2_with (refine STORE _ _ _ _ _ (.tmp 2) (.tmp 7) rfl rfl rfl rfl ?_)
  refine bodyPost_ret (ret_cell (k := 9) Tryd.results37 Tryd.isAgg37 Tryd.sizeOf37 _ _ (w.heap.size + 1) [.int .i64 f, .int .i64 t, .int .i64 s, .int .i64 seq, .int .i64 time, .bool true, .slice none 0 0, .int .i64 0, .slice none 0 0] rfl rfl HZ.out.1) rfl ⟨rfl, by rw [HZ.out.2]; exact below_setCells (by omega) _ _ BW3.out⟩
end Go.Proofs.YtcojglkjbbgoaaaDoor
