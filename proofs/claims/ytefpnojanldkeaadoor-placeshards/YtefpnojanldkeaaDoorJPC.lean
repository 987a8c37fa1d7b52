/- The receiver with any messages: its box and its map; NewReceiver, Seq, Time, bears, knows; newLines of one shard. -/
import Derived.Test.YtefpnojanldkeaaDoorJHC
import Derived.Test.YtefpnojanldkeaaDoorJVCmp
import Derived.Test.YtefpnojanldkeaaDoorJTN
import Derived.Test.YtefpnojanldkeaaDoorJSBeat
import Derived.Test.YtefpnojanldkeaaDoorJVOwnM
import Derived.Test.YtefpnojanldkeaaDoorJWNew
import Derived.Test.YtefpnojanldkeaaDoorJVRefN
import Derived.Test.YtefpnojanldkeaaDoorJWPart2
import Derived.Test.YtefpnojanldkeaaDoorJVOfRE
import Derived.Test.YtefpnojanldkeaaDoorJWPutN
import Derived.Test.YtefpnojanldkeaaDoorJVOp2
import Derived.Test.YtefpnojanldkeaaDoorJVCom
import Derived.Deep.Cut
namespace Go.Proofs.YtefpnojanldkeaaDoor
open Go.RowKit Go.Maps
set_option maxRecDepth 100000
set_option linter.unusedSectionVars false
variable [Inhabited ComV] [DecidableEq D3] [Inhabited D3] [Inhabited Dn] [Inhabited OpV]

/-- A value of the map, as it is. -/
def elemV : Value → Option (DataW Value × List MemPlace) := fun v => some (.held v, [])
/-- A Go int. -/
def n64 (k : Int) : Prop := -9223372036854775808 ≤ k ∧ k ≤ 9223372036854775807
/-- What is kept, by number. -/
def MapV (D : DataW Value) (M : Int → Option Raw) : Prop := ∀ k, n64 k → Maps.has D (.int .i64 k) = (M k).isSome ∧ ∀ z, D.atKey (.int .i64 k) z = ((M k).map fun r => .held (.agg r.cells.toArray)).getD z
theorem MapV.start : MapV (.map []) fun _ => none := fun _ _ => ⟨rfl, fun _ => rfl⟩
/-- A receiver: its box g, its map mb, what is kept. -/
structure RcvM (w : World) (g mb n : Nat) (f t s seq time : Int) (M : Int → Option Raw) : Prop where
  box : w.heap[g]? = some (.cells #[.int .i64 f, .int .i64 t, .int .i64 s, .int .i64 seq, .int .i64 time, .map (some mb)] 134 (0, 0))
  map : ∃ D : DataW Value, w.ownsMap Tryd.prog 3 elemV mb n D ∧ MapV D M
theorem RcvM.mlt {w : World} {g mb n : Nat} {f t s seq time : Int} {M : Int → Option Raw} (h : RcvM w g mb n f t s seq time M) : mb < w.heap.size := by obtain ⟨D, hm, _⟩ := h.map; exact hm.lt
theorem RcvM.moved {w u : World} {g mb n : Nat} {f t s seq time : Int} {M : Int → Option Raw} (h : RcvM w g mb n f t s seq time M) (hg : u.heap[g]? = w.heap[g]?) (hm : u.heap[mb]? = w.heap[mb]?) : RcvM u g mb n f t s seq time M := by
  obtain ⟨D, ⟨es, clock, hb, r⟩, hM⟩ := h.map
  exact ⟨hg.trans h.box, D, ⟨es, clock, hm.trans hb, r⟩, hM⟩
theorem RcvM.below {w u : World} {g mb n : Nat} {f t s seq time : Int} {M : Int → Option Raw} (h : RcvM w g mb n f t s seq time M) (hb : Below w.heap.size w u) : RcvM u g mb n f t s seq time M := h.moved (hb.block _ (lt_of_heap h.box)) (hb.block _ h.mlt)
set_option maxHeartbeats 1000000 in
theorem newReceiver_raw (f t s : Int) (w : World) (h : WayOk f t s) : Calls Tryd.prog 30 #[.int .i64 f, .int .i64 t, .int .i64 s] w fun e w' => ∃ g mb, w.heap.size ≤ g ∧ w.heap.size ≤ mb ∧ g ≠ mb ∧ e = .returned (.tuple #[.pointer (some ⟨g, 0, none⟩), .nilIface]) ∧ RcvM w' g mb 0 f t s 0 0 (fun _ => none) ∧ Below w.heap.size w w' := by
  have K := hid (newWay_ok f t s w h)
  clear h
  have hmm := @run_makeMap Tryd.prog
  go_enter Tryd.func30, Tryd.ntmps30
  go_wp2_with fail
  refine K.out.mono ?_
  rintro e w1 ⟨rfl, hb1⟩
  have B1 := hid hb1
  clear hb1
  go_wp2
  go_ret2
  have hs := B1.out.size
  refine ⟨w1.heap.size + 1 + 1, w1.heap.size + 1, by omega, by omega, by omega, rfl, ⟨?_, .map [], ?_, MapV.start⟩, ?_⟩
  · have := heap_new ((w1.alloc (.cells #[.int .i64 f, .int .i64 t, .int .i64 s] 127)).alloc (.map #[] 0)) (.cells #[.int .i64 f, .int .i64 t, .int .i64 s, .int .i64 0, .int .i64 0, .map (some (w1.heap.size + 1))] 134)
    rwa [World.size_alloc, World.size_alloc] at this
  · have := (World.ownsMap_made (w1.alloc (.cells #[.int .i64 f, .int .i64 t, .int .i64 s] 127)) Tryd.prog 3 elemV).alloc (.cells #[.int .i64 f, .int .i64 t, .int .i64 s, .int .i64 0, .int .i64 0, .map (some (w1.heap.size + 1))] 134)
    rwa [World.size_alloc] at this
  · exact ((B1.out.alloc B1.out.size _).alloc (by simp; omega) _).alloc (by simp; omega) _
theorem rtime_raw (w : World) (g mb n : Nat) (f t s seq time : Int) (M : Int → Option Raw) (h : RcvM w g mb n f t s seq time M) : Calls Tryd.prog 64 #[.pointer (some ⟨g, 0, none⟩)] w fun e w' => e = .returned (.int .i64 time) ∧ w' = w := by
  have c3 : w.cell? ⟨g, 4, none⟩ = some (.int .i64 time) := (cell_of h.box).trans rfl
  clear h
  go_enter Tryd.func64, Tryd.ntmps64
  go_wp2
  go_ret
  exact ⟨rfl, rfl⟩
end Go.Proofs.YtefpnojanldkeaaDoor
namespace Go.Proofs.YtefpnojanldkeaaDoor
open Go.RowKit Go.Maps
set_option maxRecDepth 100000
set_option linter.unusedSectionVars false
variable [Inhabited ComV] [DecidableEq D3] [Inhabited D3] [Inhabited Dn] [Inhabited OpV]

theorem mk61 (W : World) : (Instr.makeSlice 61 (.int .i64 1) (.int .i64 1)).run Tryd.prog W = .ok (.slice (some ⟨W.heap.size, 0, none⟩) 1 1) (W.alloc (.cells #[.pointer none, .pointer none] 87)) := by kernel_rfl
set_option maxHeartbeats 2000000 in
theorem newLines_one (w : World) (f t : Int) (h : WayOk f t 0) (h' : WayOk t f 0) : Calls Tryd.prog 19 #[.int .i64 f, .int .i64 t, .int .i64 1] w fun e w' => ∃ b g gr gm, e = .returned (.tuple #[.slice (some ⟨b, 0, none⟩) 1 1, .nilIface]) ∧ w.heap.size ≤ b ∧ w.heap.size ≤ g ∧ w.heap.size ≤ gr ∧ w.heap.size ≤ gm ∧
    w'.heap[b]? = some (.cells #[.pointer (some ⟨g, 0, none⟩), .pointer (some ⟨gr, 0, none⟩)] 87 (0, 0)) ∧ SndBox w' g f t 0 0 0 (.slice none 0 0) ∧ RcvM w' gr gm 0 t f 0 0 0 (fun _ => none) ∧ Below w.heap.size w w' := by
  have hmk := mk61
  obtain ⟨w1, hw1⟩ : ∃ w1, w1 = w.alloc (.cells #[.pointer none, .pointer none] 87) := ⟨_, rfl⟩
  have G1 : w1.heap[w.heap.size]? = some (.cells #[.pointer none, .pointer none] 87 (0, 0)) := by rw [hw1]; exact heap_new _ _
  have s1 : w1.heap.size = w.heap.size + 1 := by rw [hw1]; simp
  have b1 : Below w.heap.size w w1 := by rw [hw1]; exact below_alloc _ _
  have HG1 := hid G1
  have S1 := hid s1
  have B1 := hid b1
  have H := hid h
  have H' := hid h'
  clear G1 s1 b1 h h'
  go_enter Tryd.func19, Tryd.ntmps19
  go_upto_region 2 with (fail)
  rw [← hw1]
  clear hw1
  go_wp2
  refine wp_loop_rounds 2 ?_
  rw [rounds_succ]
  go_wp2_with fail
  refine (newSender_ok f t 0 w1 H.out).mono ?_
  rintro e w2 ⟨g, hg, rfl, hS, hb2⟩
  have G2 : Hid (w2.heap[w.heap.size]? = some (.cells #[.pointer none, .pointer none] 87 (0, 0))) := (show _ = _ from (hb2.block _ (by have := S1.out; omega)).trans HG1.out)
  have S2 := hid hS
  have B2 := hid hb2
  have HGg := hid hg
  clear hS hb2 hg
  go_wp2_with fail
  refine (newReceiver_raw t f 0 w2 H'.out).mono ?_
  rintro e w3 ⟨gr, gm, hgr, hgm, hne, rfl, hR, hb3⟩
  have G3 : w3.heap[w.heap.size]? = some (.cells #[.pointer none, .pointer none] 87 (0, 0)) := (hb3.block _ (by have := S1.out; have := B2.out.size; omega)).trans G2.out
  have q0 : w3.cell? ⟨w.heap.size, 0, none⟩ = some (.pointer none) := (cell_of G3).trans rfl
  have q1 : w3.cell? ⟨w.heap.size, 1, none⟩ = some (.pointer none) := (cell_of G3).trans rfl
  have z0 : w3.frozen? ⟨w.heap.size, 0, none⟩ = false := free_of G3
  have z1 : w3.frozen? ⟨w.heap.size, 1, none⟩ = false := free_of G3
  obtain ⟨w4, hw4⟩ : ∃ w4, w4 = (w3.setCell ⟨w.heap.size, 0, none⟩ (.pointer (some ⟨g, 0, none⟩))).setCell ⟨w.heap.size, 1, none⟩ (.pointer (some ⟨gr, 0, none⟩)) := ⟨_, rfl⟩
  have ho : ∀ q, q ≠ w.heap.size → w4.heap[q]? = w3.heap[q]? := fun q hq => by rw [hw4, Below.heap_setCell _ _ _ _ hq, Below.heap_setCell _ _ _ _ hq]
  have e1 := S1.out
  have e2 := B2.out.size
  have G4 : Hid (w4.heap[w.heap.size]? = some (.cells #[.pointer (some ⟨g, 0, none⟩), .pointer (some ⟨gr, 0, none⟩)] 87 (0, 0))) := (show _ = _ from by rw [hw4]; exact (heap_set (heap_set G3 _) _).trans rfl)
  have S4 : Hid (SndBox w4 g f t 0 0 0 (.slice none 0 0)) := (show SndBox _ _ _ _ _ _ _ _ from (ho g (by have := HGg.out; omega)).trans ((hb3.block g (lt_of_heap S2.out)).trans S2.out))
  have R4 : Hid (RcvM w4 gr gm 0 t f 0 0 0 (fun _ => none)) := (show RcvM _ _ _ _ _ _ _ _ _ _ from hR.moved (ho gr (by omega)) (ho gm (by omega)))
  have B4 : Hid (Below w.heap.size w w4) := (show Below _ _ _ from by rw [hw4]; exact ((B1.out.trans ((B2.out.trans (hb3.mono B2.out.size)).mono (by omega))).setCell (Nat.le_refl _) _).setCell (Nat.le_refl _) _)
  have HP : Hid (w.heap.size ≤ g ∧ w.heap.size ≤ gr ∧ w.heap.size ≤ gm) := (show _ ∧ _ from by have := HGg.out; omega)
  clear G3 hR hb3 hgr hgm hne ho e1 e2
  go_wp2_with fail
  rw [← hw4]
  clear hw4
  rw [rounds_succ]
  go_wp2
  go_ret2
  exact ⟨w.heap.size, g, gr, gm, rfl, Nat.le_refl _, HP.out.1, HP.out.2.1, HP.out.2.2, G4.out, S4.out, R4.out, B4.out⟩
end Go.Proofs.YtefpnojanldkeaaDoor
