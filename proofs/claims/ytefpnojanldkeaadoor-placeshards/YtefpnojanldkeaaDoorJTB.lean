/- partsOf a commit of one op, for one shard; The sender's Beat, any message kept. -/
import Derived.Test.YtefpnojanldkeaaDoorJPF
import Derived.Test.YtefpnojanldkeaaDoorJWPutN
import Derived.Deep.RegionLaw
import Derived.Test.YtefpnojanldkeaaDoorJTN
import Derived.Test.YtefpnojanldkeaaDoorJPC
import Derived.Test.YtefpnojanldkeaaDoorJHC
import Derived.Test.YtefpnojanldkeaaDoorJVCmp
import Derived.Test.YtefpnojanldkeaaDoorJSBeat
namespace Go.Proofs.YtefpnojanldkeaaDoor
open Go.RowKit Go.Maps
set_option maxRecDepth 100000
set_option linter.unusedSectionVars false
variable [Inhabited ComV] [DecidableEq D3] [Inhabited D3] [Inhabited Dn] [Inhabited OpV]

theorem mk104 (W : World) : (Instr.makeSlice 104 (.int .i64 1) (.int .i64 1)).run Tryd.prog W = .ok (.slice (some ⟨W.heap.size, 0, none⟩) 1 1) (W.alloc (.cells #[.slice none 0 0, .int .i64 0, .slice none 0 0] 37)) := by kernel_rfl
theorem shardK (w : World) : Calls Tryd.prog 15 #[.string ⟨#[107]⟩, .int .i64 1] w fun e w' => e = .returned (.int .i64 0) ∧ w' = w := by
  refine (shardOf_any w [107] (by decide) 1 (by decide) (by decide)).mono ?_
  rintro e w' ⟨rfl, rfl⟩
  exact ⟨by rw [Int.emod_one], rfl⟩
set_option maxHeartbeats 4000000 in
theorem partsOf_one (w : World) (a3 : Option Addr) (c3 b4 c4 c5 : Nat) (a5 : Option Addr) (cs4 : Array Value) (h4 : w.heap[b4]? = some (.cells cs4 43 (0, 0))) (hc : ∀ (j : Nat) (u : Value), ([.int .i64 0, .string ⟨#[107]⟩, .int .i64 2, .string ⟨#[]⟩, .int .i64 5, .bool false, .slice a5 0 c5] : List Value)[j]? = some u → cs4[j]? = some u) :
    Calls Tryd.prog 41 #[.agg #[.slice a3 2 c3, .int .i64 0, .slice (some ⟨b4, 0, none⟩) 1 c4], .int .i64 1] w fun e w' => ∃ a6 c6, e = .returned (.slice (some ⟨w.heap.size + 1, 0, none⟩) 1 1) ∧ w'.heap[w.heap.size + 1]? = some (.cells #[.slice a3 2 c3, .int .i64 0, .slice a6 1 c6] 37 (0, 0)) ∧ w'.ownsRow w.heap.size 43 7 (.slice a6 1 c6) 1 [.int .i64 0, .string ⟨#[107]⟩, .int .i64 2, .string ⟨#[]⟩, .int .i64 5, .bool false, .slice a5 0 c5] ∧ Below w.heap.size w w' := by
  have hmk := mk104
  obtain ⟨w2, hw2⟩ : ∃ w2, w2 = (w.alloc (.cells #[.slice a3 2 c3, .int .i64 0, .slice (some ⟨b4, 0, none⟩) 1 c4] 37)).alloc (.cells #[.slice none 0 0, .int .i64 0, .slice none 0 0] 37) := ⟨_, rfl⟩
  have G2 : w2.heap[w.heap.size]? = some (.cells #[.slice a3 2 c3, .int .i64 0, .slice (some ⟨b4, 0, none⟩) 1 c4] 37 (0, 0)) := by rw [hw2]; exact heap_old (heap_new _ _) _
  have P2 : w2.heap[w.heap.size + 1]? = some (.cells #[.slice none 0 0, .int .i64 0, .slice none 0 0] 37 (0, 0)) := by rw [hw2]; exact heap_new2 _ _ _
  have b2 : Below w.heap.size w w2 := by rw [hw2]; exact below2 _ _ _
  have s2 : w2.heap.size = w.heap.size + 2 := by rw [hw2]; simp
  have x0 : w2.cell? ⟨w.heap.size, 0, none⟩ = some (.slice a3 2 c3) := (cell_of G2).trans rfl
  have x1 : w2.cell? ⟨w.heap.size, 1, none⟩ = some (.int .i64 0) := (cell_of G2).trans rfl
  have y0 : w2.cell? ⟨w.heap.size + 1, 0, none⟩ = some (.slice none 0 0) := (cell_of P2).trans rfl
  have y1 : w2.cell? ⟨w.heap.size + 1, 1, none⟩ = some (.int .i64 0) := (cell_of P2).trans rfl
  have z : ∀ j, w2.frozen? ⟨w.heap.size + 1, j, none⟩ = false := fun j => free_of P2
  have HG2 := hid G2
  have HP2 := hid P2
  have B2 := hid b2
  have S2 := hid s2
  have H4 := hid h4
  have HC := hid hc
  clear G2 P2 b2 s2 h4 hc
  go_enter Tryd.func41, Tryd.ntmps41
  go_upto_region 2 with (fail)
  rw [← hw2]
  clear hw2
  go_wp2
  refine wp_loop_rounds 2 ?_
  rw [rounds_succ]
  go_upto_region 5 with (fail)
  go_region_held (fun u => u.cell? ⟨w.heap.size, 0, none⟩ = some (.slice a3 2 c3) ∧ u.cell? ⟨w.heap.size, 1, none⟩ = some (.int .i64 0)) (go_keep) (fail)
  obtain ⟨w3, hw3⟩ : ∃ w3, w3 = ((w2.setCell ⟨w.heap.size + 1, 0, none⟩ (.slice a3 2 c3)).setCell ⟨w.heap.size + 1, 1, none⟩ (.int .i64 0)).drew := ⟨_, rfl⟩
  have P3 : w3.heap[w.heap.size + 1]? = some (.cells #[.slice a3 2 c3, .int .i64 0, .slice none 0 0] 37 (0, 0)) := by rw [hw3]; exact (heap_set (heap_set HP2.out _) _).trans rfl
  have o3 : ∀ q, q ≠ w.heap.size + 1 → w3.heap[q]? = w2.heap[q]? := fun q hq => by rw [hw3]; exact (Below.heap_setCell _ _ _ _ hq).trans (Below.heap_setCell _ _ _ _ hq)
  have G3 : w3.heap[w.heap.size]? = _ := (o3 _ (by omega)).trans HG2.out
  have B3 : Below w.heap.size w w3 := by rw [hw3]; exact ((B2.out.setCell (by show w.heap.size ≤ w.heap.size + 1; omega) _).setCell (by show w.heap.size ≤ w.heap.size + 1; omega) _).drew
  have s3 : w3.heap.size = w.heap.size + 2 := by rw [hw3]; show (((w2.setCell _ _).setCell _ _)).heap.size = _; simp [S2.out]
  have h43 : w3.heap[b4]? = _ := (B3.block _ (lt_of_heap H4.out)).trans H4.out
  have f2 : w3.cell? ⟨w.heap.size, 2, none⟩ = some (.slice (some ⟨b4, 0, none⟩) 1 c4) := (cell_of G3).trans rfl
  have e0 : w3.cell? ⟨b4, 0, none⟩ = some (.int .i64 0) := (cell_of h43).trans (HC.out 0 _ rfl)
  have e1 : w3.cell? ⟨b4, 1, none⟩ = some (.string ⟨#[107]⟩) := (cell_of h43).trans (HC.out 1 _ rfl)
  have e2 : w3.cell? ⟨b4, 2, none⟩ = some (.int .i64 2) := (cell_of h43).trans (HC.out 2 _ rfl)
  have e3 : w3.cell? ⟨b4, 3, none⟩ = some (.string ⟨#[]⟩) := (cell_of h43).trans (HC.out 3 _ rfl)
  have e4 : w3.cell? ⟨b4, 4, none⟩ = some (.int .i64 5) := (cell_of h43).trans (HC.out 4 _ rfl)
  have e5 : w3.cell? ⟨b4, 5, none⟩ = some (.bool false) := (cell_of h43).trans (HC.out 5 _ rfl)
  have e6 : w3.cell? ⟨b4, 6, none⟩ = some (.slice a5 0 c5) := (cell_of h43).trans (HC.out 6 _ rfl)
  obtain ⟨w4, hw4⟩ : ∃ w4, w4 = w3.alloc (.cells #[.int .i64 0, .string ⟨#[107]⟩, .int .i64 2, .string ⟨#[]⟩, .int .i64 5, .bool false, .slice a5 0 c5] 43) := ⟨_, rfl⟩
  obtain ⟨X, hX⟩ : ∃ X, X = w3.heap.size := ⟨_, rfl⟩
  have A4 : w4.heap[X]? = some (.cells #[.int .i64 0, .string ⟨#[107]⟩, .int .i64 2, .string ⟨#[]⟩, .int .i64 5, .bool false, .slice a5 0 c5] 43 (0, 0)) := by rw [hw4, hX]; exact heap_new _ _
  have b4' : Below w3.heap.size w3 w4 := by rw [hw4]; exact below_alloc _ _
  have P4 : w4.heap[w.heap.size + 1]? = _ := (b4'.block _ (by omega)).trans P3
  have B4 : Hid (Below w.heap.size w w4) := (show Below _ _ _ from B3.trans (b4'.mono B3.size))
  have s4 : Hid (w4.heap.size = w.heap.size + 3) := (show _ = _ from by rw [hw4]; simp [s3])
  have p2 : w4.cell? ⟨w.heap.size + 1, 2, none⟩ = some (.slice none 0 0) := (cell_of P4).trans rfl
  have u0 : w4.cell? ⟨X, 0, none⟩ = some (.int .i64 0) := (cell_of A4).trans rfl
  have u1 : w4.cell? ⟨X, 1, none⟩ = some (.string ⟨#[107]⟩) := (cell_of A4).trans rfl
  have u2 : w4.cell? ⟨X, 2, none⟩ = some (.int .i64 2) := (cell_of A4).trans rfl
  have u3 : w4.cell? ⟨X, 3, none⟩ = some (.string ⟨#[]⟩) := (cell_of A4).trans rfl
  have u4 : w4.cell? ⟨X, 4, none⟩ = some (.int .i64 5) := (cell_of A4).trans rfl
  have u5 : w4.cell? ⟨X, 5, none⟩ = some (.bool false) := (cell_of A4).trans rfl
  have u6 : w4.cell? ⟨X, 6, none⟩ = some (.slice a5 0 c5) := (cell_of A4).trans rfl
  have p2a := fun o => cell_alloc p2 o
  have HP4 := hid P4
  obtain ⟨i0, hi, hz0, hz1, hz2⟩ := info_parts Tryd.info43
  rw [← hw3]
  clear hw3 x0 x1 y0 y1 z P3 o3 G3 B3 s3 h43 A4 b4' P4 HG2 HP2 B2 S2 hmk
  go_wp2
  rw [rounds_succ]
  go_wp2
  refine wp_loop_rounds 2 ?_
  rw [rounds_succ]
  go_upto_region 10 with (fail)
  rw [← hw4, ← hX]
  clear hw4 hX e0 e1 e2 e3 e4 e5 e6 f2
  go_upto_region 11 with (go_at_call 15; refine (shardK _).mono ?_; rintro e w' ⟨rfl, hw'⟩; rw [hw']; clear hw')
  go_region_law ((refine step_append_at rfl _ _ 35 rfl w.heap.size 43 i0 _ 7 88 Tryd.underlying35 hi hz0 hz1 hz2 rfl (by decide) (.slice none 0 0) 0 [] rfl (World.ownsRow_nil _ _ _ _) _ 1 1 [.int .i64 0, .string ⟨#[107]⟩, .int .i64 2, .string ⟨#[]⟩, .int .i64 5, .bool false, .slice a5 0 c5] rfl rfl (cells3_new _ _ _) (by simp [Value.oneCell']) (by unfold maxLen; decide) (by decide) ?hb ?_; (case hb => have := s4.out; simp; omega); intro v9 w9 hrow9 hgr9 hat9; obtain ⟨a6, c6, hv9⟩ := row_shape hrow9; subst hv9; have P9 : w9.heap[w.heap.size + 1]? = some (.cells #[.slice a3 2 c3, .int .i64 0, .slice none 0 0] 37 (0, 0)) := (hgr9.block _ (by have := s4.out; simp; omega) (by simp [Value.ownBlock])).trans ((Below.heap_alloc _ _ _ (by show _ < w4.heap.size; have := s4.out; omega)).trans HP4.out); have z9 : w9.frozen? ⟨w.heap.size + 1, 2, none⟩ = false := free_of P9; have R9 := hid hrow9; have BG : Hid (Below w.heap.size w w9) := (show Below _ _ _ from Below.grown (by first | exact B4.out.alloc (by have := s4.out; omega) _ | exact (B4.out.alloc (by have := s4.out; omega) _).drew | exact B4.out.drew.alloc (by show _ ≤ w4.heap.size; have := s4.out; omega) _) hgr9 (by have := s4.out; simp; omega) (fun k hk => by simp [Value.ownBlock] at hk)); have HP9 := hid P9; have n2 : w9.cell? ⟨w.heap.size + 1, 2, none⟩ = some (.slice none 0 0) := hgr9.cell (cell_alloc p2 _) (by simp [Value.ownBlock]); have t0 := hgr9.cell (cell_alloc u0 _) (by simp [Value.ownBlock]); have t1 := hgr9.cell (cell_alloc u1 _) (by simp [Value.ownBlock]); have t2 := hgr9.cell (cell_alloc u2 _) (by simp [Value.ownBlock]); have t3 := hgr9.cell (cell_alloc u3 _) (by simp [Value.ownBlock]); have t4 := hgr9.cell (cell_alloc u4 _) (by simp [Value.ownBlock]); have t5 := hgr9.cell (cell_alloc u5 _) (by simp [Value.ownBlock]); have t6 := hgr9.cell (cell_alloc u6 _) (by simp [Value.ownBlock]); clear hrow9 hgr9 hat9 P9))
  all_goals
    obtain ⟨wz, hwz⟩ : ∃ wz, wz = w9.setCell ⟨w.heap.size + 1, 2, none⟩ (.slice a6 1 c6) := ⟨_, rfl⟩
    have PZ : Hid (wz.heap[w.heap.size + 1]? = some (.cells #[.slice a3 2 c3, .int .i64 0, .slice a6 1 c6] 37 (0, 0))) := (show _ = _ from by rw [hwz]; exact (heap_set HP9.out _).trans rfl)
    have RZ : Hid (wz.ownsRow w.heap.size 43 7 (.slice a6 1 c6) 1 [.int .i64 0, .string ⟨#[107]⟩, .int .i64 2, .string ⟨#[]⟩, .int .i64 5, .bool false, .slice a5 0 c5]) := (show World.ownsRow _ _ _ _ _ _ _ from by
      rw [hwz]
      exact own_keep R9.out fun q hq => Below.heap_setCell _ _ _ _ fun e => by
        obtain ⟨cs, hcs⟩ := own_type R9.out hq
        exact cell_ne hcs HP9.out (by decide) e)
    have BZ : Hid (Below w.heap.size w wz) := (show Below _ _ _ from by rw [hwz]; exact BG.out.setCell (by show w.heap.size ≤ w.heap.size + 1; omega) _)
    clear n2 t0 t1 t2 t3 t4 t5 t6 z9 p2 p2a u0 u1 u2 u3 u4 u5 u6
    rw [← hwz]
    clear hwz
    go_wp2
    rw [rounds_succ]
    go_wp2
    go_ret
    exact ⟨a6, c6, rfl, PZ.out, RZ.out, BZ.out⟩
end Go.Proofs.YtefpnojanldkeaaDoor
namespace Go.Proofs.YtefpnojanldkeaaDoor
open Go.RowKit
set_option maxRecDepth 100000
set_option linter.unusedSectionVars false
variable [Inhabited ComV] [DecidableEq D3] [Inhabited D3] [Inhabited Dn] [Inhabited OpV]

/-- What Beat and Commit leave: one copy is kept, another one answered. -/
def BtRet (w : World) (g : Nat) (f t s seq time : Int) (v : Value) (l : List Raw) (m : MsgV) (e : Ending) (w' : World) : Prop := ∃ (v' : Value) (r2 r3 : Raw), e = .returned (.tuple #[.agg r3.cells.toArray, .nilIface]) ∧ SndR w' g f t s seq time v' (l ++ [r2]) ∧ RawOwn w.heap.size w' r2 m ∧ RawOwn w.heap.size w' r3 m ∧ OnlyS g v w w' ∧ (v'.ownBlock = v.ownBlock ∨ ∃ b, v'.ownBlock = some b ∧ w.heap.size ≤ b) ∧ Keeps w w'
end Go.Proofs.YtefpnojanldkeaaDoor
