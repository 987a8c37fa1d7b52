/- Ways, senders and receivers made; a beat copied. -/
import Derived.Test.YtfbbbigmgffjcaaDoorJSBase
import Derived.Lib.SliceRun
namespace Go.Proofs.YtfbbbigmgffjcaaDoor
open Go.RowKit
set_option maxRecDepth 100000

theorem isPlace_yes (p : Int) (w : World) (h0 : 0 ≤ p) (h6 : p < 6) : Calls Tryd.prog 47 #[.int .i64 p] w fun e w' => e = .returned (.bool true) ∧ w' = w := by
  go_enter Tryd.func47, Tryd.ntmps47
  go_wp2
  go_ret
  exact ⟨rfl, rfl⟩
theorem isTime_yes (t : Int) (w : World) (h0 : 0 ≤ t) (h6 : t ≤ 1099511627776) : Calls Tryd.prog 33 #[.int .i64 t] w fun e w' => e = .returned (.bool true) ∧ w' = w := by
  go_enter Tryd.func33, Tryd.ntmps33
  go_wp2
  go_ret
  exact ⟨rfl, rfl⟩
/-- Numbers of a stream. -/
structure WayOk (f t s : Int) : Prop where
  f0 : 0 ≤ f
  f6 : f < 6
  t0 : 0 ≤ t
  t6 : t < 6
  s0 : 0 ≤ s
  s6 : s < 6
  ne : f ≠ t
set_option maxHeartbeats 1000000 in
theorem newWay_ok (f t s : Int) (w : World) (h : WayOk f t s) : Calls Tryd.prog 32 #[.int .i64 f, .int .i64 t, .int .i64 s] w fun e w' => e = .returned (.tuple #[.agg #[.int .i64 f, .int .i64 t, .int .i64 s], .nilIface]) ∧ Below w.heap.size w w' := by
  obtain ⟨f0, f6, t0, t6, s0, s6, ne⟩ := h
  have hb : (f == t) = false := beq_eq_false_iff_ne.2 ne
  have s0' : ¬ s < 0 := by omega
  have s6' : ¬ 6 ≤ s := by omega
  clear ne
  go_enter Tryd.func32, Tryd.ntmps32
  go_wp2_with (go_at_call 47; refine (isPlace_yes _ _ (by assumption) (by assumption)).mono ?_; rintro e w' ⟨rfl, rfl⟩)
  refine bodyPost_ret (ret_cell_tmp (k := 3) Tryd.results32 Tryd.isAgg82 Tryd.sizeOf82 _ _ w.heap.size [.int .i64 f, .int .i64 t, .int .i64 s] _ rfl rfl rfl (cells_heap (t := 82) _ (heap_new _ _))) rfl ⟨rfl, below_alloc _ _⟩
/-- A sender's box. -/
def SndBox (w : World) (g : Nat) (f t s seq time : Int) (v : Value) : Prop := w.heap[g]? = some (.cells #[.int .i64 f, .int .i64 t, .int .i64 s, .int .i64 seq, .int .i64 time, v] 86 (0, 0))
set_option maxHeartbeats 1000000 in
theorem newSender_ok (f t s : Int) (w : World) (h : WayOk f t s) : Calls Tryd.prog 8 #[.int .i64 f, .int .i64 t, .int .i64 s] w fun e w' => ∃ g, w.heap.size ≤ g ∧ e = .returned (.tuple #[.pointer (some ⟨g, 0, none⟩), .nilIface]) ∧ SndBox w' g f t s 0 0 (.slice none 0 0) ∧ Below w.heap.size w w' := by
  have K := hid (newWay_ok f t s w h)
  clear h
  go_enter Tryd.func8, Tryd.ntmps8
  go_wp2_with fail
  refine K.out.mono ?_
  rintro e w1 ⟨rfl, hb1⟩
  have B1 := hid hb1
  clear hb1
  go_wp2
  go_ret2
  refine ⟨w1.heap.size + 1, ?_, rfl, heap_new2 _ _ _, ?_⟩
  · have := B1.out.size; omega
  · exact ((B1.out.alloc B1.out.size _).alloc (by have := B1.out.size; simp; omega) _)
theorem clone_nil48 (w : World) : Calls Tryd.prog 48 #[.slice none 0 0] w fun e w' => e = .returned (.slice none 0 0) ∧ w' = w := by
  have q : ∀ (w : World) (a : Option Addr) (n c n' c' : Nat), (binOp .eql 22 (.slice a n c) (.slice none n' c')).run Tryd.prog w = .ok (.bool a.isNone) w := fun w a n c n' c' => Lib.run_eql_slice_nil w _ _ a n c n' c' Tryd.underlying22
  go_enter Tryd.func48, Tryd.ntmps48
  go_wp2
  go_ret
  exact ⟨rfl, rfl⟩
theorem clone_nil49 (w : World) : Calls Tryd.prog 49 #[.slice none 0 0] w fun e w' => e = .returned (.slice none 0 0) ∧ w' = w := by
  have q : ∀ (w : World) (a : Option Addr) (n c n' c' : Nat), (binOp .eql 33 (.slice a n c) (.slice none n' c')).run Tryd.prog w = .ok (.bool a.isNone) w := fun w a n c n' c' => Lib.run_eql_slice_nil w _ _ a n c n' c' Tryd.underlying33
  go_enter Tryd.func49, Tryd.ntmps49
  go_wp2
  go_ret
  exact ⟨rfl, rfl⟩
/-- A beat. -/
def beat9 (f t s seq time : Int) : List Value := [.int .i64 f, .int .i64 t, .int .i64 s, .int .i64 seq, .int .i64 time, .bool true, .slice none 0 0, .int .i64 0, .slice none 0 0]
set_option maxHeartbeats 1000000 in
theorem copy_beat (f t s seq time : Int) (w : World) : Calls Tryd.prog 37 #[.agg (beat9 f t s seq time).toArray] w fun e w' => e = .returned (.agg (beat9 f t s seq time).toArray) ∧ Below w.heap.size w w' := by
  unfold beat9
  go_enter Tryd.func37, Tryd.ntmps37
  go_wp2_with (first | (go_at_call 48; refine (clone_nil48 _).mono ?_; rintro e w' ⟨rfl, rfl⟩) | (go_at_call 49; refine (clone_nil49 _).mono ?_; rintro e w' ⟨rfl, rfl⟩))
  refine wp_loop_rounds 1 ?_
  rw [rounds_succ]
  go_wp2
  refine bodyPost_ret (ret_cell (k := 9) Tryd.results37 Tryd.isAgg37 Tryd.sizeOf37 _ _ (w.heap.size + 1) [.int .i64 f, .int .i64 t, .int .i64 s, .int .i64 seq, .int .i64 time, .bool true, .slice none 0 0, .int .i64 0, .slice none 0 0] rfl rfl (cells_heap (t := 37) _ (heap_new2 _ _ _))) rfl ⟨rfl, (below_alloc _ _).alloc (by simp) _⟩
end Go.Proofs.YtfbbbigmgffjcaaDoor
