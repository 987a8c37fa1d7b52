/- Ways that are none: NewSender and NewReceiver; Both senders side by side; One act of both senders: Commit and Beat; One act of both senders: Acked; what they keep is the same; Acts: what a slice of them reads as. -/
import Derived.Test.YtcojglkjbbgoaaaDoorJTV
import Derived.Test.YtcojglkjbbgoaaaDoorJHQ
namespace Go.Proofs.YtcojglkjbbgoaaaDoor
open Go.RowKit
set_option maxRecDepth 100000

def placeB (p : Int) : Bool := decide (0 ≤ p) && decide (p < 6)
theorem isPlace_any (p : Int) (w : World) : Calls Tryd.prog 48 #[.int .i64 p] w fun e w' => e = .returned (.bool (placeB p)) ∧ w' = w := by
  unfold placeB
  by_cases h0 : 0 ≤ p
  · by_cases h6 : p < 6
    · go_enter Tryd.func48, Tryd.ntmps48
      go_wp2
      go_ret
      exact ⟨by simp [h0, h6], rfl⟩
    · go_enter Tryd.func48, Tryd.ntmps48
      go_wp2
      go_ret
      exact ⟨by simp; omega, rfl⟩
  · go_enter Tryd.func48, Tryd.ntmps48
    go_wp2
    go_ret
    exact ⟨by simp; omega, rfl⟩
/-- fill of three. -/
theorem fill3 {w : World} {g : Nat} {t : TypeId} {z0 z1 z2 : Value} (h : w.heap[g]? = some (.cells #[z0, z1, z2] t (0, 0))) (v0 v1 v2 : Value) : (((w.setCell ⟨g, 0, none⟩ v0).setCell ⟨g, 1, none⟩ v1).setCell ⟨g, 2, none⟩ v2).heap[g]? = some (.cells #[v0, v1, v2] t (0, 0)) := by
  rw [heap_set (heap_set (heap_set h v0) v1) v2]
  rfl
set_option maxHeartbeats 2000000 in
theorem newWay_b1 (f t s : Int) (w : World) (ev : Value) (hev : w.cell? ⟨0, 0, none⟩ = some ev) (hf : placeB f = false) : Calls Tryd.prog 32 #[.int .i64 f, .int .i64 t, .int .i64 s] w fun e w' => e = .returned (.tuple #[.agg #[.int .i64 0, .int .i64 0, .int .i64 0], ev]) ∧ Below w.heap.size w w' := by
  have KF := hid (fun W => isPlace_any f W)
  rw [hf] at KF
  clear hf
  obtain ⟨w0, hw0⟩ : ∃ w0, w0 = w.alloc (.cells #[.int .i64 0, .int .i64 0, .int .i64 0] 82) := ⟨_, rfl⟩
  have hb0 : Below w.heap.size w w0 := by rw [hw0]; exact below_alloc _ _
  have G0 : w0.heap[w.heap.size]? = some (.cells #[.int .i64 0, .int .i64 0, .int .i64 0] 82 (0, 0)) := by rw [hw0]; exact heap_new _ _
  have g0 : w0.cell? ⟨0, 0, none⟩ = some ev := by rw [hb0.cell (p := ⟨0, 0, none⟩) (lt_of_cell hev)]; exact hev
  have gS : (w0.setCell ⟨w.heap.size, 0, none⟩ (.int .i64 0)).cell? ⟨0, 0, none⟩ = some ev := by
    rw [World.cell?_of_block (w := w0) (a := ⟨0, 0, none⟩) (Below.heap_setCell _ _ _ _ (by have := lt_of_cell hev; simp only at this ⊢; omega))]; exact g0
  have HG := hid G0
  have B0 := hid hb0
  have hgl : 0 < w.heap.size := lt_of_cell hev
  clear hb0 hev G0
  have r0 := fun j => (show ∀ j, w0.frozen? ⟨w.heap.size, j, none⟩ = false from fun j => free_of HG.out) j
  have k0 : w0.cell? ⟨w.heap.size, 0, none⟩ = some (.int .i64 0) := (cell_of HG.out).trans rfl
  have k1 : w0.cell? ⟨w.heap.size, 1, none⟩ = some (.int .i64 0) := (cell_of HG.out).trans rfl
  have k2 : w0.cell? ⟨w.heap.size, 2, none⟩ = some (.int .i64 0) := (cell_of HG.out).trans rfl
  go_enter Tryd.func32, Tryd.ntmps32
  go_wp2_with fail
  rw [← hw0]
  clear hw0
  refine (KF.out _).mono ?_
  rintro e w1 ⟨rfl, hww⟩
  rw [hww]
  clear hww
  go_wp2_with fail
  go_region
  obtain ⟨wz, hwz⟩ : ∃ wz, wz = (((w0.setCell ⟨w.heap.size, 0, none⟩ (.int .i64 0)).setCell ⟨w.heap.size, 1, none⟩ (.int .i64 0)).setCell ⟨w.heap.size, 2, none⟩ (.int .i64 0)).drew := ⟨_, rfl⟩
  rw [← hwz]
  have HZ : Hid (wz.heap[w.heap.size]? = some (.cells #[.int .i64 0, .int .i64 0, .int .i64 0] 82 (0, 0))) := by
    show wz.heap[w.heap.size]? = _
    rw [hwz, drew_heap]
    exact fill3 HG.out _ _ _
  have BZ : Hid (Below w.heap.size w wz) := by
    show Below _ _ _
    rw [hwz]
    exact Below.drew (((B0.out.setCell (Nat.le_refl _) _).setCell (Nat.le_refl _) _).setCell (Nat.le_refl _) _)
  clear hwz k0 k1 k2 r0 g0 gS
  go_wp2_with fail
  refine bodyPost_ret (ret_cell_tmp (k := 3) Tryd.results32 Tryd.isAgg82 Tryd.sizeOf82 _ _ w.heap.size [.int .i64 0, .int .i64 0, .int .i64 0] _ rfl rfl rfl (cells_heap (t := 82) _ HZ.out)) rfl ⟨rfl, BZ.out⟩
set_option maxHeartbeats 2000000 in
theorem newWay_b2 (f t s : Int) (w : World) (ev : Value) (hev : w.cell? ⟨0, 0, none⟩ = some ev) (hf : placeB f = true) (ht : placeB t = false) : Calls Tryd.prog 32 #[.int .i64 f, .int .i64 t, .int .i64 s] w fun e w' => e = .returned (.tuple #[.agg #[.int .i64 0, .int .i64 0, .int .i64 0], ev]) ∧ Below w.heap.size w w' := by
  have KF := hid (fun W => isPlace_any f W)
  have KT := hid (fun W => isPlace_any t W)
  rw [hf] at KF
  rw [ht] at KT
  clear hf ht
  obtain ⟨w0, hw0⟩ : ∃ w0, w0 = w.alloc (.cells #[.int .i64 0, .int .i64 0, .int .i64 0] 82) := ⟨_, rfl⟩
  have hb0 : Below w.heap.size w w0 := by rw [hw0]; exact below_alloc _ _
  have G0 : w0.heap[w.heap.size]? = some (.cells #[.int .i64 0, .int .i64 0, .int .i64 0] 82 (0, 0)) := by rw [hw0]; exact heap_new _ _
  have g0 : w0.cell? ⟨0, 0, none⟩ = some ev := by rw [hb0.cell (p := ⟨0, 0, none⟩) (lt_of_cell hev)]; exact hev
  have gS : (w0.setCell ⟨w.heap.size, 0, none⟩ (.int .i64 0)).cell? ⟨0, 0, none⟩ = some ev := by
    rw [World.cell?_of_block (w := w0) (a := ⟨0, 0, none⟩) (Below.heap_setCell _ _ _ _ (by have := lt_of_cell hev; simp only at this ⊢; omega))]; exact g0
  have HG := hid G0
  have B0 := hid hb0
  have hgl : 0 < w.heap.size := lt_of_cell hev
  clear hb0 hev G0
  have r0 := fun j => (show ∀ j, w0.frozen? ⟨w.heap.size, j, none⟩ = false from fun j => free_of HG.out) j
  have k0 : w0.cell? ⟨w.heap.size, 0, none⟩ = some (.int .i64 0) := (cell_of HG.out).trans rfl
  have k1 : w0.cell? ⟨w.heap.size, 1, none⟩ = some (.int .i64 0) := (cell_of HG.out).trans rfl
  have k2 : w0.cell? ⟨w.heap.size, 2, none⟩ = some (.int .i64 0) := (cell_of HG.out).trans rfl
  go_enter Tryd.func32, Tryd.ntmps32
  go_wp2_with fail
  rw [← hw0]
  clear hw0
  refine (KF.out _).mono ?_
  rintro e w1 ⟨rfl, hww⟩
  rw [hww]
  clear hww
  go_wp2_with fail
  refine (KT.out _).mono ?_
  rintro e w1 ⟨rfl, hww⟩
  rw [hww]
  clear hww
  go_wp2_with fail
  go_region
  obtain ⟨wz, hwz⟩ : ∃ wz, wz = (((w0.setCell ⟨w.heap.size, 0, none⟩ (.int .i64 0)).setCell ⟨w.heap.size, 1, none⟩ (.int .i64 0)).setCell ⟨w.heap.size, 2, none⟩ (.int .i64 0)).drew := ⟨_, rfl⟩
  rw [← hwz]
  have HZ : Hid (wz.heap[w.heap.size]? = some (.cells #[.int .i64 0, .int .i64 0, .int .i64 0] 82 (0, 0))) := by
    show wz.heap[w.heap.size]? = _
    rw [hwz, drew_heap]
    exact fill3 HG.out _ _ _
  have BZ : Hid (Below w.heap.size w wz) := by
    show Below _ _ _
    rw [hwz]
    exact Below.drew (((B0.out.setCell (Nat.le_refl _) _).setCell (Nat.le_refl _) _).setCell (Nat.le_refl _) _)
  clear hwz k0 k1 k2 r0 g0 gS
  go_wp2_with fail
  refine bodyPost_ret (ret_cell_tmp (k := 3) Tryd.results32 Tryd.isAgg82 Tryd.sizeOf82 _ _ w.heap.size [.int .i64 0, .int .i64 0, .int .i64 0] _ rfl rfl rfl (cells_heap (t := 82) _ HZ.out)) rfl ⟨rfl, BZ.out⟩
set_option maxHeartbeats 2000000 in
theorem newWay_b3 (f t s : Int) (w : World) (ev : Value) (hev : w.cell? ⟨0, 0, none⟩ = some ev) (hf : placeB f = true) (ht : placeB t = true) (hs : s < 0) : Calls Tryd.prog 32 #[.int .i64 f, .int .i64 t, .int .i64 s] w fun e w' => e = .returned (.tuple #[.agg #[.int .i64 0, .int .i64 0, .int .i64 0], ev]) ∧ Below w.heap.size w w' := by
  have KF := hid (fun W => isPlace_any f W)
  have KT := hid (fun W => isPlace_any t W)
  rw [hf] at KF
  rw [ht] at KT
  clear hf ht
  obtain ⟨w0, hw0⟩ : ∃ w0, w0 = w.alloc (.cells #[.int .i64 0, .int .i64 0, .int .i64 0] 82) := ⟨_, rfl⟩
  have hb0 : Below w.heap.size w w0 := by rw [hw0]; exact below_alloc _ _
  have G0 : w0.heap[w.heap.size]? = some (.cells #[.int .i64 0, .int .i64 0, .int .i64 0] 82 (0, 0)) := by rw [hw0]; exact heap_new _ _
  have g0 : w0.cell? ⟨0, 0, none⟩ = some ev := by rw [hb0.cell (p := ⟨0, 0, none⟩) (lt_of_cell hev)]; exact hev
  have gS : (w0.setCell ⟨w.heap.size, 0, none⟩ (.int .i64 0)).cell? ⟨0, 0, none⟩ = some ev := by
    rw [World.cell?_of_block (w := w0) (a := ⟨0, 0, none⟩) (Below.heap_setCell _ _ _ _ (by have := lt_of_cell hev; simp only at this ⊢; omega))]; exact g0
  have HG := hid G0
  have B0 := hid hb0
  have hgl : 0 < w.heap.size := lt_of_cell hev
  clear hb0 hev G0
  have r0 := fun j => (show ∀ j, w0.frozen? ⟨w.heap.size, j, none⟩ = false from fun j => free_of HG.out) j
  have k0 : w0.cell? ⟨w.heap.size, 0, none⟩ = some (.int .i64 0) := (cell_of HG.out).trans rfl
  have k1 : w0.cell? ⟨w.heap.size, 1, none⟩ = some (.int .i64 0) := (cell_of HG.out).trans rfl
  have k2 : w0.cell? ⟨w.heap.size, 2, none⟩ = some (.int .i64 0) := (cell_of HG.out).trans rfl
  go_enter Tryd.func32, Tryd.ntmps32
  go_wp2_with fail
  rw [← hw0]
  clear hw0
  refine (KF.out _).mono ?_
  rintro e w1 ⟨rfl, hww⟩
  rw [hww]
  clear hww
  go_wp2_with fail
  refine (KT.out _).mono ?_
  rintro e w1 ⟨rfl, hww⟩
  rw [hww]
  clear hww
  go_wp2_with fail
  go_region
  obtain ⟨wz, hwz⟩ : ∃ wz, wz = (((w0.setCell ⟨w.heap.size, 0, none⟩ (.int .i64 0)).setCell ⟨w.heap.size, 1, none⟩ (.int .i64 0)).setCell ⟨w.heap.size, 2, none⟩ (.int .i64 0)).drew := ⟨_, rfl⟩
  rw [← hwz]
  have HZ : Hid (wz.heap[w.heap.size]? = some (.cells #[.int .i64 0, .int .i64 0, .int .i64 0] 82 (0, 0))) := by
    show wz.heap[w.heap.size]? = _
    rw [hwz, drew_heap]
    exact fill3 HG.out _ _ _
  have BZ : Hid (Below w.heap.size w wz) := by
    show Below _ _ _
    rw [hwz]
    exact Below.drew (((B0.out.setCell (Nat.le_refl _) _).setCell (Nat.le_refl _) _).setCell (Nat.le_refl _) _)
  clear hwz k0 k1 k2 r0 g0 gS
  go_wp2_with fail
  refine bodyPost_ret (ret_cell_tmp (k := 3) Tryd.results32 Tryd.isAgg82 Tryd.sizeOf82 _ _ w.heap.size [.int .i64 0, .int .i64 0, .int .i64 0] _ rfl rfl rfl (cells_heap (t := 82) _ HZ.out)) rfl ⟨rfl, BZ.out⟩
set_option maxHeartbeats 2000000 in
theorem newWay_b4 (f t s : Int) (w : World) (ev : Value) (hev : w.cell? ⟨0, 0, none⟩ = some ev) (hf : placeB f = true) (ht : placeB t = true) (hs : 0 ≤ s) (hs6 : 6 ≤ s) : Calls Tryd.prog 32 #[.int .i64 f, .int .i64 t, .int .i64 s] w fun e w' => e = .returned (.tuple #[.agg #[.int .i64 0, .int .i64 0, .int .i64 0], ev]) ∧ Below w.heap.size w w' := by
  have KF := hid (fun W => isPlace_any f W)
  have KT := hid (fun W => isPlace_any t W)
  rw [hf] at KF
  rw [ht] at KT
  clear hf ht
  obtain ⟨w0, hw0⟩ : ∃ w0, w0 = w.alloc (.cells #[.int .i64 0, .int .i64 0, .int .i64 0] 82) := ⟨_, rfl⟩
  have hb0 : Below w.heap.size w w0 := by rw [hw0]; exact below_alloc _ _
  have G0 : w0.heap[w.heap.size]? = some (.cells #[.int .i64 0, .int .i64 0, .int .i64 0] 82 (0, 0)) := by rw [hw0]; exact heap_new _ _
  have g0 : w0.cell? ⟨0, 0, none⟩ = some ev := by rw [hb0.cell (p := ⟨0, 0, none⟩) (lt_of_cell hev)]; exact hev
  have gS : (w0.setCell ⟨w.heap.size, 0, none⟩ (.int .i64 0)).cell? ⟨0, 0, none⟩ = some ev := by
    rw [World.cell?_of_block (w := w0) (a := ⟨0, 0, none⟩) (Below.heap_setCell _ _ _ _ (by have := lt_of_cell hev; simp only at this ⊢; omega))]; exact g0
  have HG := hid G0
  have B0 := hid hb0
  have hgl : 0 < w.heap.size := lt_of_cell hev
  clear hb0 hev G0
  have r0 := fun j => (show ∀ j, w0.frozen? ⟨w.heap.size, j, none⟩ = false from fun j => free_of HG.out) j
  have k0 : w0.cell? ⟨w.heap.size, 0, none⟩ = some (.int .i64 0) := (cell_of HG.out).trans rfl
  have k1 : w0.cell? ⟨w.heap.size, 1, none⟩ = some (.int .i64 0) := (cell_of HG.out).trans rfl
  have k2 : w0.cell? ⟨w.heap.size, 2, none⟩ = some (.int .i64 0) := (cell_of HG.out).trans rfl
  go_enter Tryd.func32, Tryd.ntmps32
  go_wp2_with fail
  rw [← hw0]
  clear hw0
  refine (KF.out _).mono ?_
  rintro e w1 ⟨rfl, hww⟩
  rw [hww]
  clear hww
  go_wp2_with fail
  refine (KT.out _).mono ?_
  rintro e w1 ⟨rfl, hww⟩
  rw [hww]
  clear hww
  go_wp2_with fail
  go_region
  obtain ⟨wz, hwz⟩ : ∃ wz, wz = (((w0.setCell ⟨w.heap.size, 0, none⟩ (.int .i64 0)).setCell ⟨w.heap.size, 1, none⟩ (.int .i64 0)).setCell ⟨w.heap.size, 2, none⟩ (.int .i64 0)).drew := ⟨_, rfl⟩
  rw [← hwz]
  have HZ : Hid (wz.heap[w.heap.size]? = some (.cells #[.int .i64 0, .int .i64 0, .int .i64 0] 82 (0, 0))) := by
    show wz.heap[w.heap.size]? = _
    rw [hwz, drew_heap]
    exact fill3 HG.out _ _ _
  have BZ : Hid (Below w.heap.size w wz) := by
    show Below _ _ _
    rw [hwz]
    exact Below.drew (((B0.out.setCell (Nat.le_refl _) _).setCell (Nat.le_refl _) _).setCell (Nat.le_refl _) _)
  clear hwz k0 k1 k2 r0 g0 gS
  go_wp2_with fail
  refine bodyPost_ret (ret_cell_tmp (k := 3) Tryd.results32 Tryd.isAgg82 Tryd.sizeOf82 _ _ w.heap.size [.int .i64 0, .int .i64 0, .int .i64 0] _ rfl rfl rfl (cells_heap (t := 82) _ HZ.out)) rfl ⟨rfl, BZ.out⟩
set_option maxHeartbeats 2000000 in
theorem newWay_b5 (f t s : Int) (w : World) (ev : Value) (hev : w.cell? ⟨1, 0, none⟩ = some ev) (hf : placeB f = true) (ht : placeB t = true) (hs : 0 ≤ s) (hs6 : s < 6) (he : f = t) : Calls Tryd.prog 32 #[.int .i64 f, .int .i64 t, .int .i64 s] w fun e w' => e = .returned (.tuple #[.agg #[.int .i64 0, .int .i64 0, .int .i64 0], ev]) ∧ Below w.heap.size w w' := by
  have hq : (f == t) = true := by simp [he]
  have s0 : ¬ s < 0 := by omega
  have s6 : ¬ 6 ≤ s := by omega
  have KF := hid (fun W => isPlace_any f W)
  have KT := hid (fun W => isPlace_any t W)
  clear he
  rw [hf] at KF
  rw [ht] at KT
  clear hf ht
  obtain ⟨w0, hw0⟩ : ∃ w0, w0 = w.alloc (.cells #[.int .i64 0, .int .i64 0, .int .i64 0] 82) := ⟨_, rfl⟩
  have hb0 : Below w.heap.size w w0 := by rw [hw0]; exact below_alloc _ _
  have G0 : w0.heap[w.heap.size]? = some (.cells #[.int .i64 0, .int .i64 0, .int .i64 0] 82 (0, 0)) := by rw [hw0]; exact heap_new _ _
  have g0 : w0.cell? ⟨1, 0, none⟩ = some ev := by rw [hb0.cell (p := ⟨1, 0, none⟩) (lt_of_cell hev)]; exact hev
  have gS : (w0.setCell ⟨w.heap.size, 0, none⟩ (.int .i64 0)).cell? ⟨1, 0, none⟩ = some ev := by
    rw [World.cell?_of_block (w := w0) (a := ⟨1, 0, none⟩) (Below.heap_setCell _ _ _ _ (by have := lt_of_cell hev; simp only at this ⊢; omega))]; exact g0
  have HG := hid G0
  have B0 := hid hb0
  have hgl : 1 < w.heap.size := lt_of_cell hev
  clear hb0 hev G0
  have r0 := fun j => (show ∀ j, w0.frozen? ⟨w.heap.size, j, none⟩ = false from fun j => free_of HG.out) j
  have k0 : w0.cell? ⟨w.heap.size, 0, none⟩ = some (.int .i64 0) := (cell_of HG.out).trans rfl
  have k1 : w0.cell? ⟨w.heap.size, 1, none⟩ = some (.int .i64 0) := (cell_of HG.out).trans rfl
  have k2 : w0.cell? ⟨w.heap.size, 2, none⟩ = some (.int .i64 0) := (cell_of HG.out).trans rfl
  go_enter Tryd.func32, Tryd.ntmps32
  go_wp2_with fail
  rw [← hw0]
  clear hw0
  refine (KF.out _).mono ?_
  rintro e w1 ⟨rfl, hww⟩
  rw [hww]
  clear hww
  go_wp2_with fail
  refine (KT.out _).mono ?_
  rintro e w1 ⟨rfl, hww⟩
  rw [hww]
  clear hww
  go_wp2_with fail
  go_region
  obtain ⟨wz, hwz⟩ : ∃ wz, wz = (((w0.setCell ⟨w.heap.size, 0, none⟩ (.int .i64 0)).setCell ⟨w.heap.size, 1, none⟩ (.int .i64 0)).setCell ⟨w.heap.size, 2, none⟩ (.int .i64 0)).drew := ⟨_, rfl⟩
  rw [← hwz]
  have HZ : Hid (wz.heap[w.heap.size]? = some (.cells #[.int .i64 0, .int .i64 0, .int .i64 0] 82 (0, 0))) := by
    show wz.heap[w.heap.size]? = _
    rw [hwz, drew_heap]
    exact fill3 HG.out _ _ _
  have BZ : Hid (Below w.heap.size w wz) := by
    show Below _ _ _
    rw [hwz]
    exact Below.drew (((B0.out.setCell (Nat.le_refl _) _).setCell (Nat.le_refl _) _).setCell (Nat.le_refl _) _)
  clear hwz k0 k1 k2 r0 g0 gS
  go_wp2_with fail
  refine bodyPost_ret (ret_cell_tmp (k := 3) Tryd.results32 Tryd.isAgg82 Tryd.sizeOf82 _ _ w.heap.size [.int .i64 0, .int .i64 0, .int .i64 0] _ rfl rfl rfl (cells_heap (t := 82) _ HZ.out)) rfl ⟨rfl, BZ.out⟩
/-- The value of an error's number that a way may have. -/
def wayV (w : World) (e : Int) (ev : Value) : Prop := (e = 2 ∧ w.cell? ⟨0, 0, none⟩ = some ev) ∨ (e = 3 ∧ w.cell? ⟨1, 0, none⟩ = some ev)
theorem newWay_bad (f t s : Int) (w : World) (ev : Value) (h : wayV w (wayE f t s) ev) : Calls Tryd.prog 32 #[.int .i64 f, .int .i64 t, .int .i64 s] w fun e w' => e = .returned (.tuple #[.agg #[.int .i64 0, .int .i64 0, .int .i64 0], ev]) ∧ Below w.heap.size w w' := by
  unfold wayV wayE at h
  by_cases hf : placeB f = true
  · by_cases ht : placeB t = true
    · unfold placeB at hf ht
      simp only [Bool.and_eq_true, decide_eq_true_eq] at hf ht
      have hf' : placeB f = true := by unfold placeB; simp [hf]
      have ht' : placeB t = true := by unfold placeB; simp [ht]
      by_cases hs : s < 0
      · rw [if_pos (by omega)] at h
        rcases h with ⟨_, h⟩ | ⟨h, _⟩
        · exact newWay_b3 f t s w ev h hf' ht' hs
        · cases h
      · by_cases hs6 : 6 ≤ s
        · rw [if_pos (by omega)] at h
          rcases h with ⟨_, h⟩ | ⟨h, _⟩
          · exact newWay_b4 f t s w ev h hf' ht' (by omega) hs6
          · cases h
        · rw [if_neg (by omega)] at h
          by_cases he : f = t
          · rw [if_pos he] at h
            rcases h with ⟨h, _⟩ | ⟨_, h⟩
            · cases h
            · exact newWay_b5 f t s w ev h hf' ht' (by omega) (by omega) he
          · rw [if_neg he] at h
            rcases h with ⟨h, _⟩ | ⟨h, _⟩ <;> cases h
    · have ht' : placeB t = false := by simpa using ht
      unfold placeB at ht
      simp only [Bool.and_eq_true, decide_eq_true_eq] at ht
      rw [if_pos (by omega)] at h
      rcases h with ⟨_, h⟩ | ⟨h, _⟩
      · exact newWay_b2 f t s w ev h hf ht'
      · cases h
  · have hf' : placeB f = false := by simpa using hf
    unfold placeB at hf
    simp only [Bool.and_eq_true, decide_eq_true_eq] at hf
    rw [if_pos (by omega)] at h
    rcases h with ⟨_, h⟩ | ⟨h, _⟩
    · exact newWay_b1 f t s w ev h hf'
    · cases h
set_option maxHeartbeats 1000000 in
theorem newSender_bad (f t s : Int) (w : World) (et : TypeId) (ep : Value) (h : wayV w (wayE f t s) (.iface et ep)) : Calls Tryd.prog 8 #[.int .i64 f, .int .i64 t, .int .i64 s] w fun e w' => e = .returned (.tuple #[.pointer none, .iface et ep]) ∧ Below w.heap.size w w' := by
  have K := hid (newWay_bad f t s w _ h)
  clear h
  go_enter Tryd.func8, Tryd.ntmps8
  go_wp2_with fail
  refine K.out.mono ?_
  rintro e w1 ⟨rfl, hb1⟩
  have B1 := hid hb1
  clear hb1
  go_wp2
  go_ret2
  exact ⟨rfl, B1.out.alloc B1.out.size _⟩
set_option maxHeartbeats 1000000 in
theorem newReceiver_bad (f t s : Int) (w : World) (et : TypeId) (ep : Value) (h : wayV w (wayE f t s) (.iface et ep)) : Calls Tryd.prog 9 #[.int .i64 f, .int .i64 t, .int .i64 s] w fun e w' => e = .returned (.tuple #[.pointer none, .iface et ep]) ∧ Below w.heap.size w w' := by
  have K := hid (newWay_bad f t s w _ h)
  clear h
  go_enter Tryd.func9, Tryd.ntmps9
  go_wp2_with fail
  refine K.out.mono ?_
  rintro e w1 ⟨rfl, hb1⟩
  have B1 := hid hb1
  clear hb1
  go_wp2
  go_ret2
  exact ⟨rfl, B1.out.alloc B1.out.size _⟩
end Go.Proofs.YtcojglkjbbgoaaaDoor
namespace Go.Proofs.YtcojglkjbbgoaaaDoor
open Go.RowKit
set_option maxRecDepth 100000

/-- Two blocks of two types are two. -/
theorem ne_type {w : World} {a b : Nat} {cs ds : Array Value} {t u : TypeId} (h : w.heap[a]? = some (.cells cs t (0, 0))) (k : w.heap[b]? = some (.cells ds u (0, 0))) (hn : t ≠ u) : a ≠ b := fun e => by
  subst e
  rw [h] at k
  injection k with k
  injection k with _ k
  exact hn k
/-- What only a sender's box and its row may turn keeps the rest. -/
theorem only_keeps {g : Nat} {v : Value} {w w' : World} {cs : Array Value} {T e size n : Nat} {xs : List Value} {base : Nat} (ho : OnlyS g v w w') (hb : w.heap[g]? = some (.cells cs T (0, 0))) (hr : w.ownsRow base e size v n xs) (hT : T ≠ 3 ∧ T ≠ 99 ∧ T ≠ 125) (hE : e ≠ 3 ∧ e ≠ 99 ∧ e ≠ 125) : Keeps w w' := Keeps.of fun t b ds ht hc => by
  have h1 : t ≠ T := fun q => by rcases ht with h | h | h <;> subst h <;> simp [← q] at hT
  have h2 : t ≠ e := fun q => by rcases ht with h | h | h <;> subst h <;> simp [← q] at hE
  refine ho.block b (lt_of_heap hc) (ne_type hc hb h1) fun ev => ?_
  obtain ⟨ds', hc'⟩ := own_type hr ev
  exact ne_type hc hc' h2 rfl
/-- The program's sender and the reference's, each at its own numbers. -/
structure Duo (w : World) (f t s : Int) (g g2 : Nat) (seq time : Int) (v : Value) (l : List Raw) (ms : List MsgV) (seq2 time2 : Int) (v2 : Value) (L : List Raw) (ms2 : List MsgV) (wr : World) : Prop where
  below : Below w.heap.size w wr
  snd : SndR wr g f t s seq time v l
  ref : RefS wr g2 f t s seq2 time2 v2 L
  g0 : w.heap.size ≤ g
  g20 : w.heap.size ≤ g2
  own : F2 (RawOwn 0 wr) l ms
  at_ : F2 (RawAt w) L ms2
theorem Duo.moved {w : World} {f t s : Int} {g g2 : Nat} {seq time : Int} {v : Value} {l : List Raw} {ms : List MsgV} {seq2 time2 : Int} {v2 : Value} {L : List Raw} {ms2 : List MsgV} {wr w' : World} (h : Duo w f t s g g2 seq time v l ms seq2 time2 v2 L ms2 wr) (hb : Below wr.heap.size wr w') : Duo w f t s g g2 seq time v l ms seq2 time2 v2 L ms2 w' :=
  ⟨h.below.trans (hb.mono h.below.size), h.snd.moved hb, h.ref.moved hb, h.g0, h.g20, f2_mono (fun _ _ k => k.kept (Keeps.bel hb)) h.own, h.at_⟩
/-- The program's sender goes on. -/
theorem Duo.prog {w : World} {f t s : Int} {g g2 : Nat} {seq time : Int} {v : Value} {l : List Raw} {ms : List MsgV} {seq2 time2 : Int} {v2 : Value} {L : List Raw} {ms2 : List MsgV} {wr w' : World} {seq' time' : Int} {v' : Value} {l' : List Raw} {ms' : List MsgV} (h : Duo w f t s g g2 seq time v l ms seq2 time2 v2 L ms2 wr) (hs : SndR w' g f t s seq' time' v' l') (hm : F2 (RawOwn 0 w') l' ms') (ho : OnlyS g v wr w') : Duo w f t s g g2 seq' time' v' l' ms' seq2 time2 v2 L ms2 w' := by
  have hg := h.g0
  have h2 : g2 ≠ g := ne_type h.ref.box h.snd.box (by decide)
  have h3 : v.ownBlock ≠ some g2 := fun e => by
    obtain ⟨cs, hc⟩ := own_type h.snd.row e
    exact ne_type hc h.ref.box (by decide) rfl
  refine ⟨⟨ho.os.trans h.below.os, ho.tape.trans h.below.tape, ho.output.trans h.below.output, Nat.le_trans h.below.size ho.size, fun k hk => ?_⟩, hs, ⟨?_, ?_⟩, hg, h.g20, hm, h.at_⟩
  · rw [ho.block k (by have := h.below.size; omega) (by omega) (fun e => by have := (h.snd.row.lt k e).1; omega)]
    exact h.below.block k hk
  · rw [ho.block g2 (lt_of_heap h.ref.box) h2 h3]
    exact h.ref.box
  · refine owns_own h.ref.row fun b hb => ?_
    obtain ⟨cs, hc⟩ := own_type h.ref.row hb
    refine ho.block b (lt_of_heap hc) (ne_type hc h.snd.box (by decide)) fun e => ?_
    obtain ⟨ds, hd⟩ := own_type h.snd.row e
    exact ne_type hc hd (by decide) rfl
/-- The reference's sender goes on. -/
theorem Duo.refd {w : World} {f t s : Int} {g g2 : Nat} {seq time : Int} {v : Value} {l : List Raw} {ms : List MsgV} {seq2 time2 : Int} {v2 : Value} {L : List Raw} {ms2 : List MsgV} {wr w' : World} {seq' time' : Int} {v' : Value} {L' : List Raw} {ms' : List MsgV} (h : Duo w f t s g g2 seq time v l ms seq2 time2 v2 L ms2 wr) (hs : RefS w' g2 f t s seq' time' v' L') (hm : F2 (RawAt w) L' ms') (ho : OnlyS g2 v2 wr w') : Duo w f t s g g2 seq time v l ms seq' time' v' L' ms' w' := by
  have hg := h.g20
  have h2 : g ≠ g2 := ne_type h.snd.box h.ref.box (by decide)
  have h3 : v2.ownBlock ≠ some g := fun e => by
    obtain ⟨cs, hc⟩ := own_type h.ref.row e
    exact ne_type hc h.snd.box (by decide) rfl
  have hk := only_keeps ho h.ref.box h.ref.row (by decide) (by decide)
  refine ⟨⟨ho.os.trans h.below.os, ho.tape.trans h.below.tape, ho.output.trans h.below.output, Nat.le_trans h.below.size ho.size, fun k hk => ?_⟩, ⟨?_, ?_⟩, hs, h.g0, hg, f2_mono (fun _ _ q => q.kept hk) h.own, hm⟩
  · rw [ho.block k (by have := h.below.size; omega) (by omega) (fun e => by have := (h.ref.row.lt k e).1; omega)]
    exact h.below.block k hk
  · rw [ho.block g (lt_of_heap h.snd.box) h2 h3]
    exact h.snd.box
  · refine owns_own h.snd.row fun b hb => ?_
    obtain ⟨cs, hc⟩ := own_type h.snd.row hb
    refine ho.block b (lt_of_heap hc) (ne_type hc h.ref.box (by decide)) fun e => ?_
    obtain ⟨ds, hd⟩ := own_type h.ref.row e
    exact ne_type hc hd (by decide) rfl
/-- The numbers of what is kept run up to seq. -/
def Runs (seq : Int) (ms : List MsgV) : Prop := ∀ (j : Nat) (m : MsgV), ms[j]? = some m → m.seq = seq - ms.length + j + 1
theorem Runs.nil (seq : Int) : Runs seq [] := fun j m h => by simp at h
theorem Runs.snoc {seq : Int} {ms : List MsgV} {m : MsgV} (h : Runs seq ms) (hm : m.seq = seq + 1) : Runs (seq + 1) (ms ++ [m]) := fun j q hj => by
  rw [List.length_append, List.length_singleton]
  by_cases hlt : j < ms.length
  · rw [List.getElem?_append_left hlt] at hj
    have := h j q hj
    omega
  · obtain rfl : j = ms.length := by
      have := (List.getElem?_eq_some_iff.1 hj).1
      simp at this
      omega
    rw [List.getElem?_append_right (Nat.le_refl _)] at hj
    simp at hj
    subst hj
    omega
theorem Runs.drop {seq : Int} {ms : List MsgV} (h : Runs seq ms) (k : Nat) (hk : k ≤ ms.length) : Runs seq (ms.drop k) := fun j q hj => by
  rw [List.getElem?_drop] at hj
  have := h (k + j) q hj
  rw [List.length_drop]
  omega
/-- What lies above a number is what is left behind as many. -/
theorem leftL_drop {seq : Int} : ∀ {L : List Raw} {ms : List MsgV}, (∀ (j : Nat) (r : Raw), L[j]? = some r → r.x4 = seq - ms.length + j + 1) → L.length = ms.length → ∀ (k : Nat), k ≤ L.length → leftL L (seq - ms.length + k) = L.drop k := by
  intro L
  induction L with
  | nil => intro ms _ _ k _; simp [leftL]
  | cons r L ih =>
    intro ms h hl k hk
    have h0 := h 0 r rfl
    cases ms with
    | nil => simp at hl
    | cons m ms =>
      have ih' : ∀ k, k ≤ L.length → leftL L (seq - ms.length + k) = L.drop k := ih (ms := ms) (fun j q hj => by
        have := h (j + 1) q (by simpa using hj)
        simp at this
        omega) (by simpa using hl)
      cases k with
      | zero =>
        have e0 := ih' 0 (Nat.zero_le _)
        have hx : seq - ((m :: ms).length : Int) + ((0 : Nat) : Int) < r.x4 := by rw [h0]; simp; omega
        unfold leftL at e0 ⊢
        rw [List.filter_cons_of_pos (by simpa using hx)]
        rw [List.drop_zero]
        congr 1
        refine List.filter_eq_self.2 fun q hq => ?_
        obtain ⟨j, hj⟩ := List.getElem?_of_mem hq
        have := h (j + 1) q (by simpa using hj)
        simp at this ⊢
        omega
      | succ k =>
        have e1 := ih' k (by simpa using hk)
        have hx : ¬ seq - ((m :: ms).length : Int) + ((k + 1 : Nat) : Int) < r.x4 := by rw [h0]; simp; omega
        unfold leftL at e1 ⊢
        rw [List.filter_cons_of_neg (by simpa using hx), List.drop_succ_cons, ← e1]
        congr 2
        funext q
        congr 2
        simp
        omega
end Go.Proofs.YtcojglkjbbgoaaaDoor
namespace Go.Proofs.YtcojglkjbbgoaaaDoor
open Go.RowKit
set_option maxRecDepth 100000

theorem OnlyS.bel {g : Nat} {v : Value} {w w' : World} (h : Below w.heap.size w w') : OnlyS g v w w' := ⟨h.os, h.tape, h.output, h.size, fun k hk _ _ => h.block k hk⟩
def zeroM : MsgV := ⟨0, 0, 0, 0, 0, false, ⟨[], 0, []⟩⟩
def zeroR : Raw := ⟨0, 0, 0, 0, 0, false, none, 0, 0, 0, none, 0, 0⟩
theorem zero_own (w : World) : RawOwn 0 w zeroR zeroM := ⟨⟨rfl, rfl, rfl, rfl, rfl, rfl, rfl⟩, comOwn_nil _ _ _⟩
theorem errAt_below {A : Nat → Addr} {w w' : World} {v : Value} {er : Nat × Option Nat} (h : V.ErrAt A w v er) (hb : Below w.heap.size w w') : V.ErrAt A w' v er := by
  obtain ⟨n, o⟩ := er
  cases o with
  | none => exact h
  | some i =>
    obtain ⟨pb, hv, c0, c1⟩ := h
    exact ⟨pb, hv, by rw [hb.cell (p := ⟨pb, 0, none⟩) (lt_of_cell c0)]; exact c0, by rw [hb.cell (p := ⟨pb, 1, none⟩) (lt_of_cell c1)]; exact c1⟩
/-- What an act comes to: an error, a message, the sender's numbers, what it keeps. -/
structure Ou where
  er : Nat × Option Nat
  m : MsgV
  seq : Int
  time : Int
  ms : List MsgV
def ouC (f t s seq time : Int) (ms : List MsgV) (c : ComV) : Ou :=
  if (comE c).1 ≠ 0 then ⟨comE c, zeroM, seq, time, ms⟩ else if c.place ≠ f then ⟨(3, none), zeroM, seq, time, ms⟩ else if c.when_.getD c.place.toNat 0 ≤ time then ⟨(9, none), zeroM, seq, time, ms⟩
  else ⟨(0, none), ⟨f, t, s, seq + 1, c.when_.getD c.place.toNat 0, false, c⟩, seq + 1, c.when_.getD c.place.toNat 0, ms ++ [⟨f, t, s, seq + 1, c.when_.getD c.place.toNat 0, false, c⟩]⟩
def ouB (f t s seq time : Int) (ms : List MsgV) (nt : Int) : Ou :=
  if timeB nt = false then ⟨(2, none), zeroM, seq, time, ms⟩ else if nt < time then ⟨(9, none), zeroM, seq, time, ms⟩ else ⟨(0, none), beatM f t s (seq + 1) nt, seq + 1, nt, ms ++ [beatM f t s (seq + 1) nt]⟩
/-- What the program's act leaves. -/
def PrO (A : Nat → Addr) (w : World) (f t s : Int) (g g2 : Nat) (o : Ou) (seq2 time2 : Int) (v2 : Value) (L : List Raw) (ms2 : List MsgV) (v : Value) (wr : World) (e : Ending) (w' : World) : Prop :=
  ∃ (r : Raw) (ev v' : Value) (l' : List Raw), e = .returned (.tuple #[.agg r.cells.toArray, ev]) ∧ V.ErrAt A w' ev o.er ∧ RawOwn 0 w' r o.m ∧ Duo w f t s g g2 o.seq o.time v' l' o.ms seq2 time2 v2 L ms2 w' ∧ OnlyS g v wr w'
theorem prog_commit (A : Nat → Addr) (B : Nat) (w : World) (hS : Sents A B w) (f t s : Int) (g g2 : Nat) (seq time : Int) (v : Value) (l : List Raw) (ms : List MsgV) (seq2 time2 : Int) (v2 : Value) (L : List Raw) (ms2 : List MsgV) (wr : World) (hD : Duo w f t s g g2 seq time v l ms seq2 time2 v2 L ms2 wr) (hl : l.length ≤ 1000) (h0 : 0 ≤ seq) (h1 : seq ≤ 1000) (c : ComV) (a1 a2 : Option Addr) (n1 c1 n2 c2 : Nat) (ho : ComOwn 0 wr (.slice a1 n1 c1) (.slice a2 n2 c2) c) (hL : Light c) :
    Calls Tryd.prog 18 #[.pointer (some ⟨g, 0, none⟩), .agg #[.slice a1 n1 c1, .int .i64 c.place, .slice a2 n2 c2]] wr (PrO A w f t s g g2 (ouC f t s seq time ms c) seq2 time2 v2 L ms2 v wr) := by
  have hSr : Sents A B wr := hS.below (hD.below.mono hS.size)
  unfold ouC
  by_cases he : (comE c).1 ≠ 0
  · rw [if_pos he]
    refine (commit_bad A B wr hSr g c a1 a2 n1 c1 n2 c2 ho hL he).mono ?_
    rintro e w' ⟨ev, rfl, herr, hb⟩
    exact ⟨zeroR, ev, v, l, rfl, herr, zero_own _, hD.moved hb, OnlyS.bel hb⟩
  · rw [if_neg he]
    have he' : (comE c).1 = 0 := by omega
    by_cases hp : c.place ≠ f
    · rw [if_pos hp]
      refine (commit_shape A B wr hSr g f t s seq time v l hD.snd c a1 a2 n1 c1 n2 c2 ho hL _ (hSr.cell 2 (by omega)) he' hp).mono ?_
      rintro e w' ⟨rfl, hb⟩
      exact ⟨zeroR, _, v, l, rfl, rfl, zero_own _, hD.moved hb, OnlyS.bel hb⟩
    · rw [if_neg hp]
      have hp' : c.place = f := Decidable.not_not.1 hp
      by_cases hx : c.when_.getD c.place.toNat 0 ≤ time
      · rw [if_pos hx]
        refine (commit_old A B wr hSr g f t s seq time v l hD.snd c a1 a2 n1 c1 n2 c2 ho hL _ (hSr.cell 8 (by omega)) he' hp' _ rfl hx).mono ?_
        rintro e w' ⟨rfl, hb⟩
        exact ⟨zeroR, _, v, l, rfl, rfl, zero_own _, hD.moved hb, OnlyS.bel hb⟩
      · rw [if_neg hx]
        refine (commit_ok A B wr hSr g f t s seq time v l hD.snd c a1 a2 n1 c1 n2 c2 ho hL hl h0 h1 he' hp' _ rfl (by omega)).mono ?_
        rintro e w' ⟨v', r2, r3, rfl, hs, hr2, hr3, hon, _, hk⟩
        exact ⟨r3, _, v', _, rfl, rfl, hr3.base (Nat.zero_le _), hD.prog hs (f2_snoc (f2_mono (fun _ _ q => q.kept hk) hD.own) (hr2.base (Nat.zero_le _))) hon, hon⟩
theorem prog_beat (A : Nat → Addr) (B : Nat) (w : World) (hS : Sents A B w) (f t s : Int) (g g2 : Nat) (seq time : Int) (v : Value) (l : List Raw) (ms : List MsgV) (seq2 time2 : Int) (v2 : Value) (L : List Raw) (ms2 : List MsgV) (wr : World) (hD : Duo w f t s g g2 seq time v l ms seq2 time2 v2 L ms2 wr) (hl : l.length ≤ 1000) (h0 : 0 ≤ seq) (h1 : seq ≤ 1000) (nt : Int) :
    Calls Tryd.prog 10 #[.pointer (some ⟨g, 0, none⟩), .int .i64 nt] wr (PrO A w f t s g g2 (ouB f t s seq time ms nt) seq2 time2 v2 L ms2 v wr) := by
  have hSr : Sents A B wr := hS.below (hD.below.mono hS.size)
  unfold ouB
  by_cases ht : timeB nt = false
  · rw [if_pos ht]
    refine (beat_bound wr g nt _ (hSr.cell 1 (by omega)) ht).mono ?_
    rintro e w' ⟨rfl, hb⟩
    exact ⟨zeroR, _, v, l, rfl, rfl, zero_own _, hD.moved hb, OnlyS.bel hb⟩
  · rw [if_neg ht]
    have ht' : 0 ≤ nt ∧ nt ≤ 1099511627776 := by
      unfold timeB at ht
      simp at ht
      omega
    by_cases hx : nt < time
    · rw [if_pos hx]
      refine (beat_old wr g f t s seq time nt v l hD.snd _ (hSr.cell 8 (by omega)) ht'.1 ht'.2 hx).mono ?_
      rintro e w' ⟨rfl, hb⟩
      exact ⟨zeroR, _, v, l, rfl, rfl, zero_own _, hD.moved hb, OnlyS.bel hb⟩
    · rw [if_neg hx]
      refine (beat_raw wr g f t s seq time nt v l hD.snd hl h0 h1 ht'.1 ht'.2 (by omega)).mono ?_
      rintro e w' ⟨v', r2, r3, rfl, hs, hr2, hr3, hon, _, hk⟩
      exact ⟨r3, _, v', _, rfl, rfl, hr3.base (Nat.zero_le _), hD.prog hs (f2_snoc (f2_mono (fun _ _ q => q.kept hk) hD.own) (hr2.base (Nat.zero_le _))) hon, hon⟩
/-- What the reference's act leaves. -/
def RfO (A : Nat → Addr) (w : World) (f t s : Int) (g g2 : Nat) (o : Ou) (seq time : Int) (v : Value) (l : List Raw) (ms : List MsgV) (v2 : Value) (wr : World) (fv : Value) (e : Ending) (w' : World) : Prop :=
  ∃ (q : Raw) (v' : Value) (L' : List Raw), e = .returned (.tuple #[.agg q.cells.toArray, fv]) ∧ RawAt w q o.m ∧ Duo w f t s g g2 seq time v l ms o.seq o.time v' L' o.ms w' ∧ (∀ ev, V.ErrAt A wr ev o.er → V.ErrAt A w' ev o.er) ∧ Keeps wr w' ∧ OnlyS g2 v2 wr w'
theorem ref_commit (A : Nat → Addr) (w : World) (f t s : Int) (g g2 : Nat) (seq time : Int) (v : Value) (l : List Raw) (ms : List MsgV) (seq2 time2 : Int) (v2 : Value) (L : List Raw) (ms2 : List MsgV) (wr : World) (hD : Duo w f t s g g2 seq time v l ms seq2 time2 v2 L ms2 wr) (hl : L.length ≤ 1000) (h0 : 0 ≤ seq2) (h1 : seq2 ≤ 1000) (c : ComV) (a1 a2 : Option Addr) (n1 c1 n2 c2 : Nat) (hw : IntsAt w (.slice a1 n1 c1) c.when_) (ho : OpsAt w (.slice a2 n2 c2) c.ops) (hL : Light c) :
    Calls Tryd.prog 20 #[.pointer (some ⟨g2, 0, none⟩), .agg #[.slice a1 n1 c1, .int .i64 c.place, .slice a2 n2 c2]] wr (RfO A w f t s g g2 (ouC f t s seq2 time2 ms2 c) seq time v l ms v2 wr (.agg #[.int .i64 ((ouC f t s seq2 time2 ms2 c).er.1 : Nat), .int .i64 (V.faultAt (ouC f t s seq2 time2 ms2 c).er.2)])) := by
  have hwr := hw.mono hD.below (Nat.le_refl _)
  have hor := ho.mono hD.below (Nat.le_refl _)
  unfold ouC
  by_cases he : (comE c).1 ≠ 0
  · rw [if_pos he]
    refine (rcommit_bad wr g2 f t s seq2 time2 v2 L hD.ref c a1 a2 n1 c1 n2 c2 hwr hor hL he).mono ?_
    rintro e w' ⟨rfl, hb⟩
    exact ⟨zeroR, v2, L, rfl, (zero_own _).at_, hD.moved hb, fun ev h => errAt_below h hb, Keeps.bel hb, OnlyS.bel hb⟩
  · rw [if_neg he]
    have he' : (comE c).1 = 0 := by omega
    by_cases hp : c.place ≠ f
    · rw [if_pos hp]
      refine (rcommit_shape wr g2 f t s seq2 time2 v2 L hD.ref c a1 a2 n1 c1 n2 c2 hwr hor hL he' hp).mono ?_
      rintro e w' ⟨rfl, hb⟩
      exact ⟨zeroR, v2, L, rfl, (zero_own _).at_, hD.moved hb, fun ev h => errAt_below h hb, Keeps.bel hb, OnlyS.bel hb⟩
    · rw [if_neg hp]
      have hp' : c.place = f := Decidable.not_not.1 hp
      by_cases hx : c.when_.getD c.place.toNat 0 ≤ time2
      · rw [if_pos hx]
        refine (rcommit_old wr g2 f t s seq2 time2 v2 L hD.ref c a1 a2 n1 c1 n2 c2 hwr hor hL he' hp' _ rfl hx).mono ?_
        rintro e w' ⟨rfl, hb⟩
        exact ⟨zeroR, v2, L, rfl, (zero_own _).at_, hD.moved hb, fun ev h => errAt_below h hb, Keeps.bel hb, OnlyS.bel hb⟩
      · rw [if_neg hx]
        have hbg : ∀ b o, a1 = some ⟨b, o, none⟩ → b < wr.heap.size ∧ b ≠ g2 ∧ v2.ownBlock ≠ some b := fun b o hab => by
          have hz := (comE_zero he').2
          have hlen : 0 < c.when_.length := by omega
          obtain ⟨ad, cc, hv, _, hcells⟩ := hw
          injection hv with hv1 hv2 hv3
          rcases hcells with hc | ⟨b', o', hc, hcl⟩
          · rw [hc] at hlen
            simp at hlen
          · have hb' : b = b' := by
              have h5 := hab.symm.trans (hv1.trans hc)
              injection h5 with h5
              injection h5
            have e := hcl 0 hlen
            have hlt : b < w.heap.size := by rw [hb']; exact lt_of_cell e
            have h2 := hD.g20
            have h3 := hD.below.size
            exact ⟨by omega, by omega, fun ev => by have := (hD.ref.row.lt b ev).1; omega⟩
        refine (rcommit_ok wr g2 f t s seq2 time2 v2 L hD.ref c a1 a2 n1 c1 n2 c2 hwr hor hL hl h0 h1 hbg he' hp' _ rfl (by omega)).mono ?_
        rintro e w' ⟨rfl, v', hs, hon, _⟩
        have hq : RawAt w ⟨f, t, s, seq2 + 1, c.when_.getD c.place.toNat 0, false, a1, n1, c1, c.place, a2, n2, c2⟩ ⟨f, t, s, seq2 + 1, c.when_.getD c.place.toNat 0, false, c⟩ := ⟨⟨rfl, rfl, rfl, rfl, rfl, rfl, rfl⟩, hw, ho⟩
        exact ⟨_, v', _, rfl, hq, hD.refd hs (f2_snoc hD.at_ hq) hon, fun ev h => h, only_keeps hon hD.ref.box hD.ref.row (by decide) (by decide), hon⟩
theorem ref_beat (A : Nat → Addr) (w : World) (f t s : Int) (g g2 : Nat) (seq time : Int) (v : Value) (l : List Raw) (ms : List MsgV) (seq2 time2 : Int) (v2 : Value) (L : List Raw) (ms2 : List MsgV) (wr : World) (hD : Duo w f t s g g2 seq time v l ms seq2 time2 v2 L ms2 wr) (hl : L.length ≤ 1000) (h0 : 0 ≤ seq2) (h1 : seq2 ≤ 1000) (nt : Int) :
    Calls Tryd.prog 24 #[.pointer (some ⟨g2, 0, none⟩), .int .i64 nt] wr (RfO A w f t s g g2 (ouB f t s seq2 time2 ms2 nt) seq time v l ms v2 wr (.int .i64 ((ouB f t s seq2 time2 ms2 nt).er.1 : Nat))) := by
  unfold ouB
  by_cases ht : timeB nt = false
  · rw [if_pos ht]
    refine (rbeat_bad wr g2 f t s seq2 time2 nt 2 v2 L hD.ref (.inl ⟨ht, rfl⟩)).mono ?_
    rintro e w' ⟨rfl, hb⟩
    exact ⟨zeroR, v2, L, rfl, (zero_own _).at_, hD.moved hb, fun ev h => errAt_below h hb, Keeps.bel hb, OnlyS.bel hb⟩
  · rw [if_neg ht]
    have ht' : 0 ≤ nt ∧ nt ≤ 1099511627776 := by
      unfold timeB at ht
      simp at ht
      omega
    by_cases hx : nt < time2
    · rw [if_pos hx]
      refine (rbeat_bad wr g2 f t s seq2 time2 nt 9 v2 L hD.ref (.inr ⟨by simpa using ht, hx, rfl⟩)).mono ?_
      rintro e w' ⟨rfl, hb⟩
      exact ⟨zeroR, v2, L, rfl, (zero_own _).at_, hD.moved hb, fun ev h => errAt_below h hb, Keeps.bel hb, OnlyS.bel hb⟩
    · rw [if_neg hx]
      refine (rbeat_ok wr g2 f t s seq2 time2 nt v2 L hD.ref hl h0 h1 ht'.1 ht'.2 (by omega)).mono ?_
      rintro e w' ⟨rfl, v', hs, hon, _⟩
      have hq : RawAt w ⟨f, t, s, seq2 + 1, nt, true, none, 0, 0, 0, none, 0, 0⟩ (beatM f t s (seq2 + 1) nt) := RawOwn.at_ ⟨⟨rfl, rfl, rfl, rfl, rfl, rfl, rfl⟩, comOwn_nil 0 _ _⟩
      exact ⟨_, v', _, rfl, hq, hD.refd hs (f2_snoc hD.at_ hq) hon, fun ev h => h, only_keeps hon hD.ref.box hD.ref.row (by decide) (by decide), hon⟩
end Go.Proofs.YtcojglkjbbgoaaaDoor
namespace Go.Proofs.YtcojglkjbbgoaaaDoor
open Go.RowKit
set_option maxRecDepth 100000

/-- What is kept behind an ack. -/
def ackM (seq : Int) (ms : List MsgV) (k : Int) : List MsgV := if k < 0 ∨ seq < k then ms else ms.drop (k - (seq - ms.length)).toNat
def ackE (seq k : Int) : Nat := if k < 0 ∨ seq < k then 2 else 0
theorem prog_acked (A : Nat → Addr) (B : Nat) (w : World) (hS : Sents A B w) (f t s : Int) (g g2 : Nat) (seq time : Int) (v : Value) (l : List Raw) (ms : List MsgV) (seq2 time2 : Int) (v2 : Value) (L : List Raw) (ms2 : List MsgV) (wr : World) (hD : Duo w f t s g g2 seq time v l ms seq2 time2 v2 L ms2 wr) (hl : l.length ≤ 1000) (h0 : 0 ≤ seq) (h1 : seq ≤ 1000) (hq : (ms.length : Int) ≤ seq) (k : Int) :
    Calls Tryd.prog 12 #[.pointer (some ⟨g, 0, none⟩), .int .i64 k] wr fun e w' => ∃ v' l', e = .returned (V.errV A (ackE seq k)) ∧ Duo w f t s g g2 seq time v' l' (ackM seq ms k) seq2 time2 v2 L ms2 w' ∧ OnlyS g v wr w' := by
  have hSr : Sents A B wr := hS.below (hD.below.mono hS.size)
  have hlm := f2_len hD.own
  unfold ackM ackE
  by_cases hk : k < 0 ∨ seq < k
  · rw [if_pos hk, if_pos hk]
    refine (ackedBad_raw wr g f t s seq time k v l hD.snd _ (hSr.cell 1 (by omega)) hk).mono ?_
    rintro e w' ⟨rfl, rfl⟩
    exact ⟨v, l, rfl, hD, OnlyS.bel (Below.refl _ _)⟩
  · rw [if_neg hk, if_neg hk]
    by_cases ho : k ≤ seq - l.length
    · have e0 : (k - (seq - ms.length)).toNat = 0 := by omega
      rw [e0, List.drop_zero]
      refine (ackedOld_raw wr g f t s seq time k v l hD.snd hl h0 h1 (by omega) ho).mono ?_
      rintro e w' ⟨rfl, hs, hon⟩
      exact ⟨v, l, rfl, hD.prog hs (f2_mono (fun _ _ q => q.kept (only_keeps hon hD.snd.box hD.snd.row (by decide) (by decide))) hD.own) hon, hon⟩
    · obtain ⟨j, hj⟩ : ∃ j : Nat, j = (k - (seq - ms.length)).toNat := ⟨_, rfl⟩
      rw [← hj]
      have hkj : k = seq - l.length + j := by omega
      rw [hkj]
      refine (ackedNew_raw wr g j f t s seq time v l hD.snd hl h0 h1 (by omega) (by omega) (by omega)).mono ?_
      rintro e w' ⟨v', rfl, hs, hon, _⟩
      exact ⟨v', _, rfl, hD.prog hs (f2_split (f2_mono (fun _ _ q => q.kept (only_keeps hon hD.snd.box hD.snd.row (by decide) (by decide))) hD.own) j (by omega)).2 hon, hon⟩
theorem ref_acked (w : World) (f t s : Int) (g g2 : Nat) (seq time : Int) (v : Value) (l : List Raw) (ms : List MsgV) (seq2 time2 : Int) (v2 : Value) (L : List Raw) (ms2 : List MsgV) (wr : World) (hD : Duo w f t s g g2 seq time v l ms seq2 time2 v2 L ms2 wr) (hl : L.length ≤ 1000) (hr : Runs seq2 ms2) (k : Int) :
    Calls Tryd.prog 25 #[.pointer (some ⟨g2, 0, none⟩), .int .i64 k] wr fun e w' => ∃ v' L', e = .returned (.int .i64 (ackE seq2 k)) ∧ Duo w f t s g g2 seq time v l ms seq2 time2 v' L' (ackM seq2 ms2 k) w' ∧ OnlyS g2 v2 wr w' := by
  have hlm := f2_len hD.at_
  unfold ackM ackE
  by_cases hk : k < 0 ∨ seq2 < k
  · rw [if_pos hk, if_pos hk]
    refine (racked_bad wr g2 f t s seq2 time2 k v2 L hD.ref hk).mono ?_
    rintro e w' ⟨rfl, rfl⟩
    exact ⟨v2, L, rfl, hD, OnlyS.bel (Below.refl _ _)⟩
  · rw [if_neg hk, if_neg hk]
    have hx : ∀ (j : Nat) (r : Raw), L[j]? = some r → r.x4 = seq2 - ms2.length + j + 1 := fun j r hj => by
      obtain ⟨m, hm⟩ : ∃ m, ms2[j]? = some m := ⟨_, List.getElem?_eq_getElem (by rw [← hlm]; exact (List.getElem?_eq_some_iff.1 hj).1)⟩
      obtain ⟨r', h1, h2⟩ := f2_get hD.at_ j m hm
      rw [hj] at h1
      obtain rfl := Option.some.inj h1
      rw [h2.nums.x4]
      exact hr j m hm
    refine (racked_ok wr g2 f t s seq2 time2 k v2 L hD.ref hl (by omega) (by omega)).mono ?_
    rintro e w' ⟨rfl, v', hs, hon, _⟩
    refine ⟨v', leftL L k, rfl, hD.refd hs ?_ hon, hon⟩
    by_cases ho : seq2 - ms2.length ≤ k
    · obtain ⟨j, hj⟩ : ∃ j : Nat, j = (k - (seq2 - ms2.length)).toNat := ⟨_, rfl⟩
      have hkj : k = seq2 - ms2.length + j := by omega
      rw [← hj, hkj, leftL_drop hx hlm j (by omega)]
      exact (f2_split hD.at_ j (by omega)).2
    · have e0 : (k - (seq2 - ms2.length)).toNat = 0 := by omega
      rw [e0, List.drop_zero]
      have : leftL L k = L := List.filter_eq_self.2 fun q hq => by
        obtain ⟨j, hj⟩ := List.getElem?_of_mem hq
        have := hx j q hj
        simp
        omega
      rw [this]
      exact hD.at_
/-- Both senders, the same. -/
structure Sst (w : World) (f t s : Int) (g g2 i : Nat) (seq time : Int) (v : Value) (l : List Raw) (ms : List MsgV) (v2 : Value) (L : List Raw) (wr : World) : Prop where
  duo : Duo w f t s g g2 seq time v l ms seq time v2 L ms wr
  light : ∀ m ∈ ms, Light m.c
  runs : Runs seq ms
  len : (ms.length : Int) ≤ seq
  few : seq ≤ i
theorem light_zero : Light zeroM.c := light_nil 0
/-- What holds behind an act. -/
structure OuOk (i : Nat) (o : Ou) : Prop where
  lm : Light o.m.c
  light : ∀ m ∈ o.ms, Light m.c
  runs : Runs o.seq o.ms
  len : (o.ms.length : Int) ≤ o.seq
  few : o.seq ≤ (i + 1 : Nat)
  e12 : o.er.1 ≤ 12
  ez : o.er.1 = 0 → o.er = (0, none)
theorem Sst.same {w : World} {f t s : Int} {g g2 i : Nat} {seq time : Int} {v : Value} {l : List Raw} {ms : List MsgV} {v2 : Value} {L : List Raw} {wr : World} (h : Sst w f t s g g2 i seq time v l ms v2 L wr) (er : Nat × Option Nat) (h1 : er.1 ≤ 12) (h2 : er.1 = 0 → er = (0, none)) : OuOk i ⟨er, zeroM, seq, time, ms⟩ :=
  ⟨light_zero, h.light, h.runs, h.len, by have := h.few; simp only; omega, h1, h2⟩
theorem Sst.one {w : World} {f t s : Int} {g g2 i : Nat} {seq time : Int} {v : Value} {l : List Raw} {ms : List MsgV} {v2 : Value} {L : List Raw} {wr : World} (h : Sst w f t s g g2 i seq time v l ms v2 L wr) (m : MsgV) (x : Int) (hm : m.seq = seq + 1) (hl : Light m.c) : OuOk i ⟨(0, none), m, seq + 1, x, ms ++ [m]⟩ := by
  refine ⟨hl, fun q hq => ?_, h.runs.snoc hm, ?_, ?_, by simp, fun _ => rfl⟩
  · rcases List.mem_append.1 hq with hq | hq
    · exact h.light q hq
    · rw [List.mem_singleton.1 hq]; exact hl
  · have := h.len
    simp only [List.length_append, List.length_singleton]
    omega
  · have := h.few
    simp only
    omega
theorem Sst.ouC {w : World} {f t s : Int} {g g2 i : Nat} {seq time : Int} {v : Value} {l : List Raw} {ms : List MsgV} {v2 : Value} {L : List Raw} {wr : World} (h : Sst w f t s g g2 i seq time v l ms v2 L wr) (c : ComV) (hL : Light c) : OuOk i (ouC f t s seq time ms c) := by
  unfold Proofs.YtcojglkjbbgoaaaDoor.ouC
  split
  · exact h.same _ (comE_le c) fun e => absurd e ‹_›
  · split
    · exact h.same _ (by simp) (by simp)
    · split
      · exact h.same _ (by simp) (by simp)
      · exact h.one _ _ rfl hL
theorem Sst.ouB {w : World} {f t s : Int} {g g2 i : Nat} {seq time : Int} {v : Value} {l : List Raw} {ms : List MsgV} {v2 : Value} {L : List Raw} {wr : World} (h : Sst w f t s g g2 i seq time v l ms v2 L wr) (nt : Int) : OuOk i (ouB f t s seq time ms nt) := by
  unfold Proofs.YtcojglkjbbgoaaaDoor.ouB
  split
  · exact h.same _ (by simp) (by simp)
  · split
    · exact h.same _ (by simp) (by simp)
    · exact h.one _ _ rfl (light_nil 0)
theorem Sst.moved {w : World} {f t s : Int} {g g2 i : Nat} {seq time : Int} {v : Value} {l : List Raw} {ms : List MsgV} {v2 : Value} {L : List Raw} {wr w' : World} (h : Sst w f t s g g2 i seq time v l ms v2 L wr) (hb : Below wr.heap.size wr w') : Sst w f t s g g2 i seq time v l ms v2 L w' := ⟨h.duo.moved hb, h.light, h.runs, h.len, h.few⟩
theorem Sst.ou {w : World} {f t s : Int} {g g2 i : Nat} {o : Ou} {v : Value} {l : List Raw} {v2 : Value} {L : List Raw} {wr : World} (h : Duo w f t s g g2 o.seq o.time v l o.ms o.seq o.time v2 L o.ms wr) (ho : OuOk i o) : Sst w f t s g g2 (i + 1) o.seq o.time v l o.ms v2 L wr := ⟨h, ho.light, ho.runs, ho.len, ho.few⟩
theorem Sst.acked {w : World} {f t s : Int} {g g2 i : Nat} {seq time : Int} {v : Value} {l : List Raw} {ms : List MsgV} {v2 : Value} {L : List Raw} {wr w' : World} {v' : Value} {l' : List Raw} {v2' : Value} {L' : List Raw} {k : Int} (h : Sst w f t s g g2 i seq time v l ms v2 L wr) (hd : Duo w f t s g g2 seq time v' l' (ackM seq ms k) seq time v2' L' (ackM seq ms k) w') : Sst w f t s g g2 (i + 1) seq time v' l' (ackM seq ms k) v2' L' w' := by
  have h1 := h.len
  have h2 := h.few
  refine ⟨hd, ?_, ?_, ?_, by omega⟩
  · unfold ackM
    split
    · exact h.light
    · exact fun m hm => h.light m (List.mem_of_mem_drop hm)
  · unfold ackM
    split
    · exact h.runs
    · exact h.runs.drop _ (by omega)
  · unfold ackM
    split
    · exact h1
    · rw [List.length_drop]; omega
end Go.Proofs.YtcojglkjbbgoaaaDoor
namespace Go.Proofs.YtcojglkjbbgoaaaDoor
open Go.RowKit
set_option maxRecDepth 100000

/-- An act of who sends. -/
structure ActV where
  kind : ByteArray
  c : ComV
  n : Int
/-- An act's five cells. -/
structure ActAt (w : World) (b o : Nat) (x : ActV) (a1 : Option Addr) (n1 c1 : Nat) (a2 : Option Addr) (n2 c2 : Nat) : Prop where
  e0 : w.cell? ⟨b, o, none⟩ = some (.string x.kind)
  e1 : w.cell? ⟨b, o + 1, none⟩ = some (.slice a1 n1 c1)
  e2 : w.cell? ⟨b, o + 2, none⟩ = some (.int .i64 x.c.place)
  e3 : w.cell? ⟨b, o + 3, none⟩ = some (.slice a2 n2 c2)
  e4 : w.cell? ⟨b, o + 4, none⟩ = some (.int .i64 x.n)
  ints : IntsAt w (.slice a1 n1 c1) x.c.when_
  ops : OpsAt w (.slice a2 n2 c2) x.c.ops
theorem ActAt.mono {w w' : World} {b o : Nat} {x : ActV} {a1 a2 : Option Addr} {n1 c1 n2 c2 : Nat} (h : ActAt w b o x a1 n1 c1 a2 n2 c2) (hb : Below w.heap.size w w') : ActAt w' b o x a1 n1 c1 a2 n2 c2 := by
  have k : ∀ q u, w.cell? ⟨b, q, none⟩ = some u → w'.cell? ⟨b, q, none⟩ = some u := fun q u e => by rw [hb.cell (p := ⟨b, q, none⟩) (lt_of_cell e)]; exact e
  exact ⟨k _ _ h.e0, k _ _ h.e1, k _ _ h.e2, k _ _ h.e3, k _ _ h.e4, h.ints.mono hb (Nat.le_refl _), h.ops.mono hb (Nat.le_refl _)⟩
/-- A slice reads as acts. -/
def ActsAt (w : World) (v : Value) (xs : List ActV) : Prop := ∃ (a : Option Addr) (c : Nat), v = .slice a xs.length c ∧ (xs = [] ∨ ∃ b o, a = some ⟨b, o, none⟩ ∧ ∀ (i : Nat) (x : ActV), xs[i]? = some x → ∃ a1 n1 c1 a2 n2 c2, ActAt w b (o + i * 5) x a1 n1 c1 a2 n2 c2)
end Go.Proofs.YtcojglkjbbgoaaaDoor
