/- Hear: what is turned away, what is known. -/
import Derived.Test.YtefpnojanldkeaaGreatDoorJHS
import Derived.Test.YtefpnojanldkeaaGreatDoorJVRefN
import Derived.Test.YtefpnojanldkeaaGreatDoorJWState
import Derived.Test.YtefpnojanldkeaaGreatDoorJTD
import Derived.Test.YtefpnojanldkeaaGreatDoorJSDel
import Derived.Test.YtefpnojanldkeaaGreatDoorJVOwnM
import Derived.Test.YtefpnojanldkeaaGreatDoorJVOp
import Derived.Test.YtefpnojanldkeaaGreatDoorJVVec
import Derived.Test.YtefpnojanldkeaaGreatDoorJVMap
import Derived.Test.YtefpnojanldkeaaGreatDoorJVOnceM
import Derived.Test.YtefpnojanldkeaaGreatDoorJVRow
import Derived.Test.YtefpnojanldkeaaGreatDoorJVStandM
import Derived.Test.YtefpnojanldkeaaGreatDoorJCA
import Derived.Test.YtefpnojanldkeaaGreatDoorJECode
import Derived.Test.YtefpnojanldkeaaGreatDoorJHF
import Derived.Test.YtefpnojanldkeaaGreatDoorJHR
import Derived.Test.YtefpnojanldkeaaGreatDoorJSCome
import Derived.Test.YtefpnojanldkeaaGreatDoorJWPutN
namespace Go.Proofs.YtefpnojanldkeaaGreatDoor
open Go.RowKit Go.Maps
set_option maxRecDepth 100000
set_option linter.unusedSectionVars false
variable [Inhabited ComV] [DecidableEq D3] [Inhabited D3] [Inhabited Dd] [Inhabited Dn] [Inhabited OpV]

set_option maxHeartbeats 2000000 in
theorem hear_shape (w : World) (g mb n : Nat) (f t s seq time : Int) (M : Int → Option Raw) (r : Raw) (h : RcvM w g mb n f t s seq time M) (ev : Value) (hev : w.cell? ⟨1, 0, none⟩ = some ev) (hbe : bearsB f t s r = false) : Calls Tryz.prog 35 #[.pointer (some ⟨g, 0, none⟩), .agg r.cells.toArray] w fun e w' => e = .returned (.tuple #[.slice none 0 0, ev]) ∧ Below w.heap.size w w' := by
  have BE := hid (fun u => bears_raw u f t s r)
  have c0 : ∀ u, Below w.heap.size w u → u.cell? ⟨g, 0, none⟩ = some (.int .i64 f) := fun u hu => (cell_of ((hu.block _ (lt_of_heap h.box)).trans h.box)).trans rfl
  have c1' : ∀ u, Below w.heap.size w u → u.cell? ⟨g, 1, none⟩ = some (.int .i64 t) := fun u hu => (cell_of ((hu.block _ (lt_of_heap h.box)).trans h.box)).trans rfl
  have c2' : ∀ u, Below w.heap.size w u → u.cell? ⟨g, 2, none⟩ = some (.int .i64 s) := fun u hu => (cell_of ((hu.block _ (lt_of_heap h.box)).trans h.box)).trans rfl
  have C3 : Hid (∀ u, Below w.heap.size w u → u.cell? ⟨g, 3, none⟩ = some (.int .i64 seq)) := (show ∀ u, Below w.heap.size w u → _ from fun u hu => (cell_of ((hu.block _ (lt_of_heap h.box)).trans h.box)).trans rfl)
  have HR := hid h
  have C0 := hid c0
  have C1 := hid c1'
  have C2 := hid c2'
  obtain ⟨x1, x2, x3, x4, x5, x6, a1, n1, c1, p, a2, n2, c2⟩ := r
  unfold Raw.cells at BE ⊢
  simp only at BE ⊢
  obtain ⟨wa, hwa⟩ : ∃ wa, wa = w.alloc (.cells #[.int .i64 x1, .int .i64 x2, .int .i64 x3, .int .i64 x4, .int .i64 x5, .bool x6, .slice a1 n1 c1, .int .i64 p, .slice a2 n2 c2] 44) := ⟨_, rfl⟩
  have hba : Below w.heap.size w wa := by rw [hwa]; exact below_alloc _ _
  clear h c0 c1' c2'
  rw [hbe] at BE
  clear hbe
  go_enter Tryz.func35, Tryz.ntmps35
  go_wp2_with fail
  rw [← hwa]
  have hX : wa.heap[w.heap.size]? = some (.cells #[.int .i64 x1, .int .i64 x2, .int .i64 x3, .int .i64 x4, .int .i64 x5, .bool x6, .slice a1 n1 c1, .int .i64 p, .slice a2 n2 c2] 44 (0, 0)) := by rw [hwa]; exact heap_new _ _
  have HELD : Hid (∀ u, Below wa.heap.size wa u → u.cell? ⟨g, 0, none⟩ = some (.int .i64 f) ∧ u.cell? ⟨g, 1, none⟩ = some (.int .i64 t) ∧ u.cell? ⟨g, 2, none⟩ = some (.int .i64 s) ∧ u.cell? ⟨w.heap.size, 0, none⟩ = some (.int .i64 x1) ∧ u.cell? ⟨w.heap.size, 1, none⟩ = some (.int .i64 x2) ∧ u.cell? ⟨w.heap.size, 2, none⟩ = some (.int .i64 x3) ∧ u.cell? ⟨w.heap.size, 3, none⟩ = some (.int .i64 x4) ∧ u.cell? ⟨w.heap.size, 4, none⟩ = some (.int .i64 x5) ∧ u.cell? ⟨w.heap.size, 5, none⟩ = some (.bool x6) ∧ u.cell? ⟨w.heap.size, 6, none⟩ = some (.slice a1 n1 c1) ∧ u.cell? ⟨w.heap.size, 7, none⟩ = some (.int .i64 p) ∧ u.cell? ⟨w.heap.size, 8, none⟩ = some (.slice a2 n2 c2)) := fun u hu => by
    have hq := (hu.block _ (lt_of_heap hX)).trans hX
    have hz : Below w.heap.size w u := hba.trans (hu.mono hba.size)
    exact ⟨C0.out u hz, C1.out u hz, C2.out u hz, (cell_of hq).trans rfl, (cell_of hq).trans rfl, (cell_of hq).trans rfl, (cell_of hq).trans rfl, (cell_of hq).trans rfl, (cell_of hq).trans rfl, (cell_of hq).trans rfl, (cell_of hq).trans rfl, (cell_of hq).trans rfl⟩
  have hdr : Below wa.heap.size wa wa.drew := (Below.refl _ _).drew
  have BA := hid hba
  have XA := hid hX
  clear hwa hX hba
  go_region_held (fun u => u.cell? ⟨g, 0, none⟩ = some (.int .i64 f) ∧ u.cell? ⟨g, 1, none⟩ = some (.int .i64 t) ∧ u.cell? ⟨g, 2, none⟩ = some (.int .i64 s) ∧ u.cell? ⟨w.heap.size, 0, none⟩ = some (.int .i64 x1) ∧ u.cell? ⟨w.heap.size, 1, none⟩ = some (.int .i64 x2) ∧ u.cell? ⟨w.heap.size, 2, none⟩ = some (.int .i64 x3) ∧ u.cell? ⟨w.heap.size, 3, none⟩ = some (.int .i64 x4) ∧ u.cell? ⟨w.heap.size, 4, none⟩ = some (.int .i64 x5) ∧ u.cell? ⟨w.heap.size, 5, none⟩ = some (.bool x6) ∧ u.cell? ⟨w.heap.size, 6, none⟩ = some (.slice a1 n1 c1) ∧ u.cell? ⟨w.heap.size, 7, none⟩ = some (.int .i64 p) ∧ u.cell? ⟨w.heap.size, 8, none⟩ = some (.slice a2 n2 c2)) ((refine HELD.out _ ?_; with_reducible assumption)) (first | (go_at_call 64; refine (BE.out _).mono ?_; rintro e w' ⟨rfl, hbw⟩; replace hbw : Below wa.heap.size wa w' := below_undrew hbw))
  obtain ⟨_, _, _, _, _, _, d3, d4, _, _, _, _⟩ := HELD.out _ hbw
  have B1 := hid hbw
  clear hbw hdr
  have B4 := hid (BA.out.trans (B1.out.mono BA.out.size))
  have ge : w'.cell? ⟨1, 0, none⟩ = some ev := by rw [B4.out.cell (p := ⟨1, 0, none⟩) (lt_of_cell hev)]; exact hev
  have EV := hid hev
  clear hev
  go_wp2_with fail
  go_region
  go_wp2_with fail
  go_ret2
  exact ⟨rfl, B4.out.drew⟩
set_option maxHeartbeats 2000000 in
theorem hear_seq (w : World) (g mb n : Nat) (f t s seq time : Int) (M : Int → Option Raw) (r : Raw) (h : RcvM w g mb n f t s seq time M) (ev : Value) (hev : w.cell? ⟨0, 0, none⟩ = some ev) (hbe : bearsB f t s r = true) (hx : r.x4 < 1) : Calls Tryz.prog 35 #[.pointer (some ⟨g, 0, none⟩), .agg r.cells.toArray] w fun e w' => e = .returned (.tuple #[.slice none 0 0, ev]) ∧ Below w.heap.size w w' := by
  have BE := hid (fun u => bears_raw u f t s r)
  have c0 : ∀ u, Below w.heap.size w u → u.cell? ⟨g, 0, none⟩ = some (.int .i64 f) := fun u hu => (cell_of ((hu.block _ (lt_of_heap h.box)).trans h.box)).trans rfl
  have c1' : ∀ u, Below w.heap.size w u → u.cell? ⟨g, 1, none⟩ = some (.int .i64 t) := fun u hu => (cell_of ((hu.block _ (lt_of_heap h.box)).trans h.box)).trans rfl
  have c2' : ∀ u, Below w.heap.size w u → u.cell? ⟨g, 2, none⟩ = some (.int .i64 s) := fun u hu => (cell_of ((hu.block _ (lt_of_heap h.box)).trans h.box)).trans rfl
  have C3 : Hid (∀ u, Below w.heap.size w u → u.cell? ⟨g, 3, none⟩ = some (.int .i64 seq)) := (show ∀ u, Below w.heap.size w u → _ from fun u hu => (cell_of ((hu.block _ (lt_of_heap h.box)).trans h.box)).trans rfl)
  have HR := hid h
  have C0 := hid c0
  have C1 := hid c1'
  have C2 := hid c2'
  obtain ⟨x1, x2, x3, x4, x5, x6, a1, n1, c1, p, a2, n2, c2⟩ := r
  unfold Raw.cells at BE ⊢
  simp only at BE hx ⊢
  obtain ⟨wa, hwa⟩ : ∃ wa, wa = w.alloc (.cells #[.int .i64 x1, .int .i64 x2, .int .i64 x3, .int .i64 x4, .int .i64 x5, .bool x6, .slice a1 n1 c1, .int .i64 p, .slice a2 n2 c2] 44) := ⟨_, rfl⟩
  have hba : Below w.heap.size w wa := by rw [hwa]; exact below_alloc _ _
  clear h c0 c1' c2'
  rw [hbe] at BE
  clear hbe
  go_enter Tryz.func35, Tryz.ntmps35
  go_wp2_with fail
  rw [← hwa]
  have hX : wa.heap[w.heap.size]? = some (.cells #[.int .i64 x1, .int .i64 x2, .int .i64 x3, .int .i64 x4, .int .i64 x5, .bool x6, .slice a1 n1 c1, .int .i64 p, .slice a2 n2 c2] 44 (0, 0)) := by rw [hwa]; exact heap_new _ _
  have HELD : Hid (∀ u, Below wa.heap.size wa u → u.cell? ⟨g, 0, none⟩ = some (.int .i64 f) ∧ u.cell? ⟨g, 1, none⟩ = some (.int .i64 t) ∧ u.cell? ⟨g, 2, none⟩ = some (.int .i64 s) ∧ u.cell? ⟨w.heap.size, 0, none⟩ = some (.int .i64 x1) ∧ u.cell? ⟨w.heap.size, 1, none⟩ = some (.int .i64 x2) ∧ u.cell? ⟨w.heap.size, 2, none⟩ = some (.int .i64 x3) ∧ u.cell? ⟨w.heap.size, 3, none⟩ = some (.int .i64 x4) ∧ u.cell? ⟨w.heap.size, 4, none⟩ = some (.int .i64 x5) ∧ u.cell? ⟨w.heap.size, 5, none⟩ = some (.bool x6) ∧ u.cell? ⟨w.heap.size, 6, none⟩ = some (.slice a1 n1 c1) ∧ u.cell? ⟨w.heap.size, 7, none⟩ = some (.int .i64 p) ∧ u.cell? ⟨w.heap.size, 8, none⟩ = some (.slice a2 n2 c2)) := fun u hu => by
    have hq := (hu.block _ (lt_of_heap hX)).trans hX
    have hz : Below w.heap.size w u := hba.trans (hu.mono hba.size)
    exact ⟨C0.out u hz, C1.out u hz, C2.out u hz, (cell_of hq).trans rfl, (cell_of hq).trans rfl, (cell_of hq).trans rfl, (cell_of hq).trans rfl, (cell_of hq).trans rfl, (cell_of hq).trans rfl, (cell_of hq).trans rfl, (cell_of hq).trans rfl, (cell_of hq).trans rfl⟩
  have hdr : Below wa.heap.size wa wa.drew := (Below.refl _ _).drew
  have BA := hid hba
  have XA := hid hX
  clear hwa hX hba
  go_region_held (fun u => u.cell? ⟨g, 0, none⟩ = some (.int .i64 f) ∧ u.cell? ⟨g, 1, none⟩ = some (.int .i64 t) ∧ u.cell? ⟨g, 2, none⟩ = some (.int .i64 s) ∧ u.cell? ⟨w.heap.size, 0, none⟩ = some (.int .i64 x1) ∧ u.cell? ⟨w.heap.size, 1, none⟩ = some (.int .i64 x2) ∧ u.cell? ⟨w.heap.size, 2, none⟩ = some (.int .i64 x3) ∧ u.cell? ⟨w.heap.size, 3, none⟩ = some (.int .i64 x4) ∧ u.cell? ⟨w.heap.size, 4, none⟩ = some (.int .i64 x5) ∧ u.cell? ⟨w.heap.size, 5, none⟩ = some (.bool x6) ∧ u.cell? ⟨w.heap.size, 6, none⟩ = some (.slice a1 n1 c1) ∧ u.cell? ⟨w.heap.size, 7, none⟩ = some (.int .i64 p) ∧ u.cell? ⟨w.heap.size, 8, none⟩ = some (.slice a2 n2 c2)) ((refine HELD.out _ ?_; with_reducible assumption)) (first | (go_at_call 64; refine (BE.out _).mono ?_; rintro e w' ⟨rfl, hbw⟩; replace hbw : Below wa.heap.size wa w' := below_undrew hbw))
  obtain ⟨_, _, _, _, _, _, d3, d4, _, _, _, _⟩ := HELD.out _ hbw
  have B1 := hid hbw
  clear hbw hdr
  have B4 := hid (BA.out.trans (B1.out.mono BA.out.size))
  have ge : w'.cell? ⟨0, 0, none⟩ = some ev := by rw [B4.out.cell (p := ⟨0, 0, none⟩) (lt_of_cell hev)]; exact hev
  have EV := hid hev
  clear hev
  go_wp2_with fail
  go_region
  go_wp2_with fail
  go_ret2
  exact ⟨rfl, B4.out.drew⟩
set_option maxHeartbeats 2000000 in
theorem hear_time (w : World) (g mb n : Nat) (f t s seq time : Int) (M : Int → Option Raw) (r : Raw) (h : RcvM w g mb n f t s seq time M) (ev : Value) (hev : w.cell? ⟨0, 0, none⟩ = some ev) (hbe : bearsB f t s r = true) (hx : 1 ≤ r.x4) (ht : timeB r.x5 = false) : Calls Tryz.prog 35 #[.pointer (some ⟨g, 0, none⟩), .agg r.cells.toArray] w fun e w' => e = .returned (.tuple #[.slice none 0 0, ev]) ∧ Below w.heap.size w w' := by
  have BE := hid (fun u => bears_raw u f t s r)
  have c0 : ∀ u, Below w.heap.size w u → u.cell? ⟨g, 0, none⟩ = some (.int .i64 f) := fun u hu => (cell_of ((hu.block _ (lt_of_heap h.box)).trans h.box)).trans rfl
  have c1' : ∀ u, Below w.heap.size w u → u.cell? ⟨g, 1, none⟩ = some (.int .i64 t) := fun u hu => (cell_of ((hu.block _ (lt_of_heap h.box)).trans h.box)).trans rfl
  have c2' : ∀ u, Below w.heap.size w u → u.cell? ⟨g, 2, none⟩ = some (.int .i64 s) := fun u hu => (cell_of ((hu.block _ (lt_of_heap h.box)).trans h.box)).trans rfl
  have C3 : Hid (∀ u, Below w.heap.size w u → u.cell? ⟨g, 3, none⟩ = some (.int .i64 seq)) := (show ∀ u, Below w.heap.size w u → _ from fun u hu => (cell_of ((hu.block _ (lt_of_heap h.box)).trans h.box)).trans rfl)
  have HR := hid h
  have C0 := hid c0
  have C1 := hid c1'
  have C2 := hid c2'
  obtain ⟨x1, x2, x3, x4, x5, x6, a1, n1, c1, p, a2, n2, c2⟩ := r
  unfold Raw.cells at BE ⊢
  simp only at BE hx ht ⊢
  obtain ⟨wa, hwa⟩ : ∃ wa, wa = w.alloc (.cells #[.int .i64 x1, .int .i64 x2, .int .i64 x3, .int .i64 x4, .int .i64 x5, .bool x6, .slice a1 n1 c1, .int .i64 p, .slice a2 n2 c2] 44) := ⟨_, rfl⟩
  have hba : Below w.heap.size w wa := by rw [hwa]; exact below_alloc _ _
  clear h c0 c1' c2'
  rw [hbe] at BE
  clear hbe
  go_enter Tryz.func35, Tryz.ntmps35
  go_wp2_with fail
  rw [← hwa]
  have hX : wa.heap[w.heap.size]? = some (.cells #[.int .i64 x1, .int .i64 x2, .int .i64 x3, .int .i64 x4, .int .i64 x5, .bool x6, .slice a1 n1 c1, .int .i64 p, .slice a2 n2 c2] 44 (0, 0)) := by rw [hwa]; exact heap_new _ _
  have HELD : Hid (∀ u, Below wa.heap.size wa u → u.cell? ⟨g, 0, none⟩ = some (.int .i64 f) ∧ u.cell? ⟨g, 1, none⟩ = some (.int .i64 t) ∧ u.cell? ⟨g, 2, none⟩ = some (.int .i64 s) ∧ u.cell? ⟨w.heap.size, 0, none⟩ = some (.int .i64 x1) ∧ u.cell? ⟨w.heap.size, 1, none⟩ = some (.int .i64 x2) ∧ u.cell? ⟨w.heap.size, 2, none⟩ = some (.int .i64 x3) ∧ u.cell? ⟨w.heap.size, 3, none⟩ = some (.int .i64 x4) ∧ u.cell? ⟨w.heap.size, 4, none⟩ = some (.int .i64 x5) ∧ u.cell? ⟨w.heap.size, 5, none⟩ = some (.bool x6) ∧ u.cell? ⟨w.heap.size, 6, none⟩ = some (.slice a1 n1 c1) ∧ u.cell? ⟨w.heap.size, 7, none⟩ = some (.int .i64 p) ∧ u.cell? ⟨w.heap.size, 8, none⟩ = some (.slice a2 n2 c2)) := fun u hu => by
    have hq := (hu.block _ (lt_of_heap hX)).trans hX
    have hz : Below w.heap.size w u := hba.trans (hu.mono hba.size)
    exact ⟨C0.out u hz, C1.out u hz, C2.out u hz, (cell_of hq).trans rfl, (cell_of hq).trans rfl, (cell_of hq).trans rfl, (cell_of hq).trans rfl, (cell_of hq).trans rfl, (cell_of hq).trans rfl, (cell_of hq).trans rfl, (cell_of hq).trans rfl, (cell_of hq).trans rfl⟩
  have hdr : Below wa.heap.size wa wa.drew := (Below.refl _ _).drew
  have BA := hid hba
  have XA := hid hX
  clear hwa hX hba
  go_region_held (fun u => u.cell? ⟨g, 0, none⟩ = some (.int .i64 f) ∧ u.cell? ⟨g, 1, none⟩ = some (.int .i64 t) ∧ u.cell? ⟨g, 2, none⟩ = some (.int .i64 s) ∧ u.cell? ⟨w.heap.size, 0, none⟩ = some (.int .i64 x1) ∧ u.cell? ⟨w.heap.size, 1, none⟩ = some (.int .i64 x2) ∧ u.cell? ⟨w.heap.size, 2, none⟩ = some (.int .i64 x3) ∧ u.cell? ⟨w.heap.size, 3, none⟩ = some (.int .i64 x4) ∧ u.cell? ⟨w.heap.size, 4, none⟩ = some (.int .i64 x5) ∧ u.cell? ⟨w.heap.size, 5, none⟩ = some (.bool x6) ∧ u.cell? ⟨w.heap.size, 6, none⟩ = some (.slice a1 n1 c1) ∧ u.cell? ⟨w.heap.size, 7, none⟩ = some (.int .i64 p) ∧ u.cell? ⟨w.heap.size, 8, none⟩ = some (.slice a2 n2 c2)) ((refine HELD.out _ ?_; with_reducible assumption)) (first | (go_at_call 64; refine (BE.out _).mono ?_; rintro e w' ⟨rfl, hbw⟩; replace hbw : Below wa.heap.size wa w' := below_undrew hbw))
  obtain ⟨_, _, _, _, _, _, d3, d4, _, _, _, _⟩ := HELD.out _ hbw
  have B1 := hid hbw
  clear hbw hdr
  have IT := hid (fun u => isTime_any x5 u)
  rw [ht] at IT
  have h1k : ¬ x4 < 1 := by omega
  clear ht hx
  have B4 := hid (BA.out.trans (B1.out.mono BA.out.size))
  have ge : w'.cell? ⟨0, 0, none⟩ = some ev := by rw [B4.out.cell (p := ⟨0, 0, none⟩) (lt_of_cell hev)]; exact hev
  have EV := hid hev
  clear hev
  go_wp2_with (first | (go_at_call 60; refine (IT.out _).mono ?_; rintro e w2 ⟨rfl, rfl⟩))
  go_region
  go_wp2_with fail
  go_ret2
  exact ⟨rfl, B4.out.drew⟩
set_option maxHeartbeats 2000000 in
theorem hear_old (w : World) (g mb n : Nat) (f t s seq time : Int) (M : Int → Option Raw) (r : Raw) (h : RcvM w g mb n f t s seq time M) (hbe : bearsB f t s r = true) (hx : 1 ≤ r.x4) (ht : timeB r.x5 = true) (h64 : n64 r.x4) (hkn : ((M r.x4).isSome || decide (r.x4 ≤ seq)) = true) : Calls Tryz.prog 35 #[.pointer (some ⟨g, 0, none⟩), .agg r.cells.toArray] w fun e w' => e = .returned (.tuple #[.slice none 0 0, .nilIface]) ∧ Below w.heap.size w w' := by
  have BE := hid (fun u => bears_raw u f t s r)
  have c0 : ∀ u, Below w.heap.size w u → u.cell? ⟨g, 0, none⟩ = some (.int .i64 f) := fun u hu => (cell_of ((hu.block _ (lt_of_heap h.box)).trans h.box)).trans rfl
  have c1' : ∀ u, Below w.heap.size w u → u.cell? ⟨g, 1, none⟩ = some (.int .i64 t) := fun u hu => (cell_of ((hu.block _ (lt_of_heap h.box)).trans h.box)).trans rfl
  have c2' : ∀ u, Below w.heap.size w u → u.cell? ⟨g, 2, none⟩ = some (.int .i64 s) := fun u hu => (cell_of ((hu.block _ (lt_of_heap h.box)).trans h.box)).trans rfl
  have C3 : Hid (∀ u, Below w.heap.size w u → u.cell? ⟨g, 3, none⟩ = some (.int .i64 seq)) := (show ∀ u, Below w.heap.size w u → _ from fun u hu => (cell_of ((hu.block _ (lt_of_heap h.box)).trans h.box)).trans rfl)
  have KN := hid (fun u (hu : Below w.heap.size w u) => knows_raw u g mb n f t s seq time r.x4 M (h.below hu) h64)
  rw [hkn] at KN
  have HR := hid h
  have C0 := hid c0
  have C1 := hid c1'
  have C2 := hid c2'
  obtain ⟨x1, x2, x3, x4, x5, x6, a1, n1, c1, p, a2, n2, c2⟩ := r
  unfold Raw.cells at BE ⊢
  simp only at BE KN hx ht ⊢
  obtain ⟨wa, hwa⟩ : ∃ wa, wa = w.alloc (.cells #[.int .i64 x1, .int .i64 x2, .int .i64 x3, .int .i64 x4, .int .i64 x5, .bool x6, .slice a1 n1 c1, .int .i64 p, .slice a2 n2 c2] 44) := ⟨_, rfl⟩
  have hba : Below w.heap.size w wa := by rw [hwa]; exact below_alloc _ _
  clear h c0 c1' c2'
  rw [hbe] at BE
  clear hbe
  go_enter Tryz.func35, Tryz.ntmps35
  go_wp2_with fail
  rw [← hwa]
  have hX : wa.heap[w.heap.size]? = some (.cells #[.int .i64 x1, .int .i64 x2, .int .i64 x3, .int .i64 x4, .int .i64 x5, .bool x6, .slice a1 n1 c1, .int .i64 p, .slice a2 n2 c2] 44 (0, 0)) := by rw [hwa]; exact heap_new _ _
  have HELD : Hid (∀ u, Below wa.heap.size wa u → u.cell? ⟨g, 0, none⟩ = some (.int .i64 f) ∧ u.cell? ⟨g, 1, none⟩ = some (.int .i64 t) ∧ u.cell? ⟨g, 2, none⟩ = some (.int .i64 s) ∧ u.cell? ⟨w.heap.size, 0, none⟩ = some (.int .i64 x1) ∧ u.cell? ⟨w.heap.size, 1, none⟩ = some (.int .i64 x2) ∧ u.cell? ⟨w.heap.size, 2, none⟩ = some (.int .i64 x3) ∧ u.cell? ⟨w.heap.size, 3, none⟩ = some (.int .i64 x4) ∧ u.cell? ⟨w.heap.size, 4, none⟩ = some (.int .i64 x5) ∧ u.cell? ⟨w.heap.size, 5, none⟩ = some (.bool x6) ∧ u.cell? ⟨w.heap.size, 6, none⟩ = some (.slice a1 n1 c1) ∧ u.cell? ⟨w.heap.size, 7, none⟩ = some (.int .i64 p) ∧ u.cell? ⟨w.heap.size, 8, none⟩ = some (.slice a2 n2 c2)) := fun u hu => by
    have hq := (hu.block _ (lt_of_heap hX)).trans hX
    have hz : Below w.heap.size w u := hba.trans (hu.mono hba.size)
    exact ⟨C0.out u hz, C1.out u hz, C2.out u hz, (cell_of hq).trans rfl, (cell_of hq).trans rfl, (cell_of hq).trans rfl, (cell_of hq).trans rfl, (cell_of hq).trans rfl, (cell_of hq).trans rfl, (cell_of hq).trans rfl, (cell_of hq).trans rfl, (cell_of hq).trans rfl⟩
  have hdr : Below wa.heap.size wa wa.drew := (Below.refl _ _).drew
  have BA := hid hba
  have XA := hid hX
  clear hwa hX hba
  go_region_held (fun u => u.cell? ⟨g, 0, none⟩ = some (.int .i64 f) ∧ u.cell? ⟨g, 1, none⟩ = some (.int .i64 t) ∧ u.cell? ⟨g, 2, none⟩ = some (.int .i64 s) ∧ u.cell? ⟨w.heap.size, 0, none⟩ = some (.int .i64 x1) ∧ u.cell? ⟨w.heap.size, 1, none⟩ = some (.int .i64 x2) ∧ u.cell? ⟨w.heap.size, 2, none⟩ = some (.int .i64 x3) ∧ u.cell? ⟨w.heap.size, 3, none⟩ = some (.int .i64 x4) ∧ u.cell? ⟨w.heap.size, 4, none⟩ = some (.int .i64 x5) ∧ u.cell? ⟨w.heap.size, 5, none⟩ = some (.bool x6) ∧ u.cell? ⟨w.heap.size, 6, none⟩ = some (.slice a1 n1 c1) ∧ u.cell? ⟨w.heap.size, 7, none⟩ = some (.int .i64 p) ∧ u.cell? ⟨w.heap.size, 8, none⟩ = some (.slice a2 n2 c2)) ((refine HELD.out _ ?_; with_reducible assumption)) (first | (go_at_call 64; refine (BE.out _).mono ?_; rintro e w' ⟨rfl, hbw⟩; replace hbw : Below wa.heap.size wa w' := below_undrew hbw))
  obtain ⟨_, _, _, _, _, _, d3, d4, _, _, _, _⟩ := HELD.out _ hbw
  have B1 := hid hbw
  clear hbw hdr
  clear hkn h64
  have IT := hid (fun u => isTime_any x5 u)
  rw [ht] at IT
  have h1k : ¬ x4 < 1 := by omega
  clear ht
  go_wp2_with (first | (go_at_call 60; refine (IT.out _).mono ?_; rintro e w2 ⟨rfl, rfl⟩))
  have hb2 := BA.out.trans (B1.out.mono BA.out.size)
  refine (KN.out _ hb2).mono ?_
  rintro e w3 ⟨rfl, hb3⟩
  have B3 := hid (hb2.trans (hb3.mono hb2.size))
  clear hb2 hb3
  go_wp2
  go_ret2
  exact ⟨rfl, B3.out⟩
end Go.Proofs.YtefpnojanldkeaaGreatDoor
