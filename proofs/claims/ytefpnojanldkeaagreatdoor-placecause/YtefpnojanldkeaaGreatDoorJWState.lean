/- For package versions: partOf by its contract; Where a store of versions stands in memory; how an op more turns it. -/
import Derived.Test.YtefpnojanldkeaaGreatDoorJWPart
import Derived.Test.YtefpnojanldkeaaGreatDoorJVOnceM
import Derived.Test.YtefpnojanldkeaaGreatDoorJVStandM
import Derived.Test.YtefpnojanldkeaaGreatDoorJVRefN
import Derived.Test.YtefpnojanldkeaaGreatDoorJVOwnM
import Derived.Test.YtefpnojanldkeaaGreatDoorJVOp
import Derived.Test.YtefpnojanldkeaaGreatDoorJVVec
import Derived.Test.YtefpnojanldkeaaGreatDoorJVMap
import Derived.Test.YtefpnojanldkeaaGreatDoorJVRow
namespace Go.Proofs.YtefpnojanldkeaaGreatDoor
open Go.RowKit Go.Sort Go.Maps
set_option maxRecDepth 100000
set_option linter.unusedSectionVars false
variable [Inhabited ComV] [DecidableEq D3] [Inhabited D3] [Inhabited Dd] [Inhabited Dn] [Inhabited OpV]

theorem heap_alloc3 (w : World) (a b c : Obj) : (((w.alloc a).alloc b).alloc c).heap[w.heap.size]? = (w.alloc a).heap[w.heap.size]? ∧ (((w.alloc a).alloc b).alloc c).heap[w.heap.size + 1]? = ((w.alloc a).alloc b).heap[w.heap.size + 1]? := by
  constructor
  · rw [(MapKept.heap_alloc _ _).2 _ (by simp; omega), (MapKept.heap_alloc _ _).2 _ (by simp)]
  · rw [(MapKept.heap_alloc _ _).2 _ (by simp)]
theorem keepT_set {w : World} {b : Nat} {cs : Array Value} {t t' : TypeId} (h : w.heap[b]? = some (.cells cs t (0, 0))) (ht : t ≠ t') (j : Nat) (v : Value) : KeepT t' w (w.setCell ⟨b, j, none⟩ v) := fun i cs' hi => Below.heap_setCell _ _ _ _ fun e => by
  have e' : i = b := e
  rw [e', h] at hi
  injection hi with hi
  injection hi with _ hi
  exact ht hi
theorem keepT_alloc (t : TypeId) (w : World) (o : Obj) : KeepT t w (w.alloc o) := fun i _ hi => (MapKept.heap_alloc w o).2 i (lt_of_heap hi)
theorem keepT_below {t : TypeId} {w w' : World} {B : Nat} (h : Below B w w') (hB : w.heap.size ≤ B) : KeepT t w w' := fun b _ hb => h.block b (Nat.lt_of_lt_of_le (lt_of_heap hb) hB)
theorem KeepT.trans {t : TypeId} {a b c : World} (h1 : KeepT t a b) (h2 : KeepT t b c) : KeepT t a c := fun k cs hb => (h2 k cs ((h1 k cs hb).trans hb)).trans (h1 k cs hb)
theorem ints_al {w : World} {v : Value} {zs : List Int} (h : IntsAt w v zs) (o : Obj) : IntsAt (w.alloc o) v zs := h.mono (below_alloc w o) (Nat.le_refl _)
theorem part_fin {wf : World} {a4 : Option Addr} {c4 b : Nat} {zs : List Int} {pl : Int} {o : OpV} {dv : Value} (hI : IntsT wf (.slice a4 zs.length c4) zs) (hO : wf.heap[b]? = some (.cells (opCells o dv).toArray 34 (0, 0))) (hD : RowT 90 3 wf dv (o.dots.map D3.cells)) : ComT wf [.slice a4 zs.length c4, .int .i64 pl, .slice (some ⟨b, 0, none⟩) 1 1] ⟨zs, pl, [o]⟩ :=
  ⟨_, _, rfl, hI, [opCells o dv], rowT_lit (rows := [opCells o dv]) hO (by simp) (fun r hr => by rw [List.mem_singleton.1 hr]; rfl) (Nat.le_refl _), ⟨⟨dv, rfl, hD⟩, trivial⟩⟩
/-- A box of three cells is filled. -/
theorem fill3 {w : World} {g : Nat} {a b c : Value} {t : TypeId} (h : w.heap[g]? = some (.cells #[a, b, c] t (0, 0))) (v0 v1 v2 : Value) :
    (((w.setCell ⟨g, 0, none⟩ v0).setCell ⟨g, 1, none⟩ v1).setCell ⟨g, 2, none⟩ v2).heap[g]? = some (.cells #[v0, v1, v2] t (0, 0)) ∧ (∀ i, i ≠ g → (((w.setCell ⟨g, 0, none⟩ v0).setCell ⟨g, 1, none⟩ v1).setCell ⟨g, 2, none⟩ v2).heap[i]? = w.heap[i]?) ∧ ∀ B x, Below B x w → B ≤ g → Below B x (((w.setCell ⟨g, 0, none⟩ v0).setCell ⟨g, 1, none⟩ v1).setCell ⟨g, 2, none⟩ v2) := by
  refine ⟨?_, fun i hi => ?_, fun B x hb hB => ((hb.setCell hB _).setCell hB _).setCell hB _⟩
  · rw [heap_set (heap_set (heap_set h _) _) _]
    rfl
  · rw [Below.heap_setCell _ _ _ _ hi, Below.heap_setCell _ _ _ _ hi, Below.heap_setCell _ _ _ _ hi]
theorem keepT_but {w w' : World} {g : Nat} {cs : Array Value} {t t' : TypeId} (h : w.heap[g]? = some (.cells cs t (0, 0))) (ht : t ≠ t') (hk : ∀ i, i ≠ g → w'.heap[i]? = w.heap[i]?) : KeepT t' w w' := fun i cs' hi => hk i fun e => by
  rw [e, h] at hi
  injection hi with hi
  injection hi with _ hi
  exact ht hi
/-- What partOf hands back. -/
def PartRet (c : ComV) (o : OpV) (w : World) (e : Ending) (w' : World) : Prop := ∃ a1 c1 a2, e = .returned (.agg #[.slice a1 c.when_.length c1, .int .i64 c.place, .slice a2 1 1]) ∧ ComT w' [.slice a1 c.when_.length c1, .int .i64 c.place, .slice a2 1 1] ⟨c.when_, c.place, [o]⟩ ∧ Below w.heap.size w w'
set_option maxHeartbeats 4000000 in
theorem partOf_any (w : World) (c : ComV) (o : OpV) (wv : Value) (oa : Option Addr) (ol oc : Nat) (dv : Value) (hw : IntsAt w wv c.when_) (hd : DotsAt w dv o.dots) (hl : c.when_.length ≤ 1000000) (hdl : o.dots.length ≤ 1000000) :
    Calls Tryz.prog 56 #[.agg #[wv, .int .i64 c.place, .slice oa ol oc], .agg (opCells o dv).toArray] w fun e w' => PartRet c o w e w' := by
  obtain ⟨a1, c1, rfl⟩ := hw.slice
  obtain ⟨a2, c2, rfl⟩ := hd.len
  unfold PartRet
  obtain ⟨zs, pl, _⟩ := c
  obtain ⟨x1, x2, x3, x4, x5, x6, ds⟩ := o
  simp only at hd hdl hw hl ⊢
  show Calls Tryz.prog 56 #[.agg #[.slice a1 zs.length c1, .int .i64 pl, .slice oa ol oc], .agg #[.int .i64 x1, .string x2, .int .i64 x3, .string x4, .int .i64 x5, .bool x6, .slice a2 ds.length c2]] w _
  obtain ⟨n, hn⟩ : ∃ n, n = zs.length := ⟨_, rfl⟩
  obtain ⟨m, hm⟩ : ∃ m, m = ds.length := ⟨_, rfl⟩
  rw [← hn] at hw hl ⊢
  rw [← hm] at hd hdl ⊢
  obtain ⟨w1, hw1⟩ : ∃ w1, w1 = ((w.alloc (.cells #[.slice a1 n c1, .int .i64 pl, .slice oa ol oc] 36)).alloc (.cells #[.int .i64 x1, .string x2, .int .i64 x3, .string x4, .int .i64 x5, .bool x6, .slice a2 m c2] 34)).alloc (.cells #[.slice none 0 0, .int .i64 0, .slice none 0 0] 36) := ⟨_, rfl⟩
  have b1 : Below w.heap.size w w1 := by rw [hw1]; exact below3 w _ _ _
  have hA := heap_alloc3 w (.cells #[.slice a1 n c1, .int .i64 pl, .slice oa ol oc] 36) (.cells #[.int .i64 x1, .string x2, .int .i64 x3, .string x4, .int .i64 x5, .bool x6, .slice a2 m c2] 34) (.cells #[.slice none 0 0, .int .i64 0, .slice none 0 0] 36)
  rw [← hw1] at hA
  have bx0 : w1.heap[w.heap.size]? = some (.cells #[.slice a1 n c1, .int .i64 pl, .slice oa ol oc] 36 (0, 0)) := by rw [hA.1]; exact (MapKept.heap_alloc _ _).1
  have bx1 : w1.heap[w.heap.size + 1]? = some (.cells #[.int .i64 x1, .string x2, .int .i64 x3, .string x4, .int .i64 x5, .bool x6, .slice a2 m c2] 34 (0, 0)) := by
    rw [hA.2]
    have := (MapKept.heap_alloc (w.alloc (.cells #[.slice a1 n c1, .int .i64 pl, .slice oa ol oc] 36)) (.cells #[.int .i64 x1, .string x2, .int .i64 x3, .string x4, .int .i64 x5, .bool x6, .slice a2 m c2] 34)).1
    simpa using this
  have bx2 : w1.heap[w.heap.size + 1 + 1]? = some (.cells #[.slice none 0 0, .int .i64 0, .slice none 0 0] 36 (0, 0)) := by
    rw [hw1]
    have := (MapKept.heap_alloc ((w.alloc (.cells #[.slice a1 n c1, .int .i64 pl, .slice oa ol oc] 36)).alloc (.cells #[.int .i64 x1, .string x2, .int .i64 x3, .string x4, .int .i64 x5, .bool x6, .slice a2 m c2] 34)) (.cells #[.slice none 0 0, .int .i64 0, .slice none 0 0] 36)).1
    simpa using this
  have K91 := clone_dots w1 (.slice a2 m c2) ds (hd.mono b1 (Nat.le_refl _)) (by omega)
  have HW := hid hw
  have B1 := hid b1
  have HN := hid hn
  have HM := hid hm
  go_enter Tryz.func56, Tryz.ntmps56
  obtain ⟨k, hk⟩ : ∃ k, k = w.heap.size + 1 := ⟨_, rfl⟩
  obtain ⟨g, hg⟩ : ∃ g, g = k + 1 := ⟨_, rfl⟩
  rw [← hk] at bx1
  rw [← hk, ← hg] at bx2
  have X0 := hid bx0
  have X1 := hid bx1
  have X2 := hid bx2
  have l1 : w1.cell? ⟨k, 6, none⟩ = some (.slice a2 m c2) := by simp only [World.cell?, bx1]; rfl
  clear hn hm hw hd b1 hA bx0 bx1 bx2
  go_wp2_with fail
  rw [← hw1]
  refine K91.mono ?_
  rintro e w2 ⟨a3, c3, rfl, hT3, hb2⟩
  rw [← HM.out] at hT3 ⊢
  rw [← hk]
  rw [← hg]
  have hk1 : k < w1.heap.size := lt_of_heap X1.out
  have hg1 : g < w1.heap.size := lt_of_heap X2.out
  have h01 : w.heap.size < w1.heap.size := lt_of_heap X0.out
  have y0 : w2.heap[w.heap.size]? = _ := (hb2.block _ h01).trans X0.out
  have y1 : w2.heap[k]? = _ := (hb2.block _ hk1).trans X1.out
  have y2 : w2.heap[g]? = _ := (hb2.block _ hg1).trans X2.out
  have m6 : w2.cell? ⟨k, 6, none⟩ = some (.slice a2 m c2) := by simp only [World.cell?, y1]; rfl
  have m6f : w2.frozen? ⟨k, 6, none⟩ = false := by simp only [World.frozen?, y1]; simp
  have n1 : k ≠ w.heap.size := by omega
  have n2 : k ≠ g := by omega
  have n4 : g ≠ k := by omega
  have n3 : g ≠ w.heap.size := by omega
  have hgw : w.heap.size ≤ g := by omega
  have hkw : w.heap.size ≤ k := by omega
  have B2 := hid (B1.out.trans (hb2.mono B1.out.size))
  have HT3 := hid hT3
  have Y0 := hid y0
  have Y1 := hid y1
  have Y2 := hid y2
  clear hk hg K91 hT3 hb2 y0 y1 y2 hw1 l1 hk1 hg1 h01
  go_upto_region 2 with (fail)
  obtain ⟨w3, hw3⟩ : ∃ w3, w3 = w2.setCell ⟨k, 6, none⟩ (.slice a3 m c3) := ⟨_, rfl⟩
  rw [← hw3]
  have z0 : w3.heap[w.heap.size]? = some (.cells #[.slice a1 n c1, .int .i64 pl, .slice oa ol oc] 36 (0, 0)) := by rw [hw3, Below.heap_setCell _ _ _ _ (Ne.symm n1)]; exact Y0.out
  have z1 : w3.heap[k]? = some (.cells #[.int .i64 x1, .string x2, .int .i64 x3, .string x4, .int .i64 x5, .bool x6, .slice a3 m c3] 34 (0, 0)) := by rw [hw3, heap_set Y1.out]; rfl
  have z2 : w3.heap[g]? = some (.cells #[.slice none 0 0, .int .i64 0, .slice none 0 0] 36 (0, 0)) := by rw [hw3, Below.heap_setCell _ _ _ _ (Ne.symm n2)]; exact Y2.out
  have B3 : Hid (Below w.heap.size w w3) := by rw [hw3]; exact B2.out.setCell hkw _
  have HD3 : Hid (RowT 90 3 w3 (.slice a3 m c3) (ds.map D3.cells)) := by rw [hw3]; exact HT3.out.kept (keepT_set Y1.out (by decide) _ _)
  have s0 : w3.cell? ⟨w.heap.size, 0, none⟩ = some (.slice a1 n c1) := by simp only [World.cell?, z0]; rfl
  have s1 : w3.cell? ⟨w.heap.size, 1, none⟩ = some (.int .i64 pl) := by simp only [World.cell?, z0]; rfl
  have q0 : w3.cell? ⟨k, 0, none⟩ = some (.int .i64 x1) := by simp only [World.cell?, z1]; rfl
  have q1 : w3.cell? ⟨k, 1, none⟩ = some (.string x2) := by simp only [World.cell?, z1]; rfl
  have q2 : w3.cell? ⟨k, 2, none⟩ = some (.int .i64 x3) := by simp only [World.cell?, z1]; rfl
  have q3 : w3.cell? ⟨k, 3, none⟩ = some (.string x4) := by simp only [World.cell?, z1]; rfl
  have q4 : w3.cell? ⟨k, 4, none⟩ = some (.int .i64 x5) := by simp only [World.cell?, z1]; rfl
  have q5 : w3.cell? ⟨k, 5, none⟩ = some (.bool x6) := by simp only [World.cell?, z1]; rfl
  have q6 : w3.cell? ⟨k, 6, none⟩ = some (.slice a3 m c3) := by simp only [World.cell?, z1]; rfl
  have HI3 : IntsAt w3 (.slice a1 n c1) zs := HW.out.mono B3.out (Nat.le_refl _)
  have K64 := fun W (h : IntsAt W (.slice a1 n c1) zs) => clone_ints W _ zs h (by have := HN.out; omega)
  rw [← HN.out] at K64
  have Z2 := hid z2
  clear hw3 z0 z1 z2 m6 m6f Y0 Y1 Y2 HT3 n2 n1
  go_region_held (fun w' => w'.cell? ⟨w.heap.size, 0, none⟩ = some (.slice a1 n c1) ∧ w'.cell? ⟨w.heap.size, 1, none⟩ = some (.int .i64 pl) ∧ w'.cell? ⟨k, 0, none⟩ = some (.int .i64 x1) ∧ w'.cell? ⟨k, 1, none⟩ = some (.string x2) ∧ w'.cell? ⟨k, 2, none⟩ = some (.int .i64 x3) ∧ w'.cell? ⟨k, 3, none⟩ = some (.string x4) ∧ w'.cell? ⟨k, 4, none⟩ = some (.int .i64 x5) ∧ w'.cell? ⟨k, 5, none⟩ = some (.bool x6) ∧ w'.cell? ⟨k, 6, none⟩ = some (.slice a3 m c3)) (go_keep) (first | (go_at_call 49; refine (K64 _ ?hI).mono ?_; (case hI => first | exact HI3 | exact ints_al HI3 _); rintro e w4 ⟨a4, c4, rfl, hT4, hb4⟩; have up4 : ∀ {a : Addr} {v : Value}, w3.cell? a = some v → w4.cell? a = some v := (fun {a v} h => by first | (rw [hb4.cell (lt_of_cell h)]; exact h) | (rw [hb4.cell (lt_of_cell (cell_alloc h _))]; exact cell_alloc h _)); have s0' := up4 s0; have s1' := up4 s1; have q0' := up4 q0; have q1' := up4 q1; have q2' := up4 q2; have q3' := up4 q3; have q4' := up4 q4; have q5' := up4 q5; have q6' := up4 q6; clear up4; have v2 : w4.heap[g]? = some (.cells #[.slice none 0 0, .int .i64 0, .slice none 0 0] 36 (0, 0)) := (by first | exact (hb4.block _ (lt_of_heap Z2.out)).trans Z2.out | exact (hb4.block _ (Nat.lt_of_lt_of_le (lt_of_heap Z2.out) (by simp))).trans (((MapKept.heap_alloc _ _).2 _ (lt_of_heap Z2.out)).trans Z2.out)); have t0 : w4.cell? ⟨g, 0, none⟩ = some (.slice none 0 0) := (by simp only [World.cell?, v2]; rfl); have t1 : w4.cell? ⟨g, 1, none⟩ = some (.int .i64 0) := (by simp only [World.cell?, v2]; rfl); have t2 : w4.cell? ⟨g, 2, none⟩ = some (.slice none 0 0) := (by simp only [World.cell?, v2]; rfl); have r0 : w4.frozen? ⟨g, 0, none⟩ = false := (by simp only [World.frozen?, v2]; simp); have r1 : w4.frozen? ⟨g, 1, none⟩ = false := (by simp only [World.frozen?, v2]; simp); have r2 : w4.frozen? ⟨g, 2, none⟩ = false := (by simp only [World.frozen?, v2]; simp); have v3 : ∀ o, (w4.alloc o).heap[g]? = some (.cells #[.slice none 0 0, .int .i64 0, .slice none 0 0] 36 (0, 0)) := (fun o => ((MapKept.heap_alloc w4 o).2 _ (lt_of_heap v2)).trans v2); have t0a := (fun o => cell_alloc t0 o); have t1a := (fun o => cell_alloc t1 o); have t2a := (fun o => cell_alloc t2 o); have r0a : ∀ o, (w4.alloc o).frozen? ⟨g, 0, none⟩ = false := (fun o => by simp only [World.frozen?, v3 o]; simp); have r1a : ∀ o, (w4.alloc o).frozen? ⟨g, 1, none⟩ = false := (fun o => by simp only [World.frozen?, v3 o]; simp); have r2a : ∀ o, (w4.alloc o).frozen? ⟨g, 2, none⟩ = false := (fun o => by simp only [World.frozen?, v3 o]; simp); have HB4 := hid hb4; have HT4 := hid hT4; have HV2 := hid v2; clear hb4 hT4 v2 v3))
  · obtain ⟨w5, hw5⟩ : ∃ w5, w5 = w4.alloc (.cells #[.int .i64 x1, .string x2, .int .i64 x3, .string x4, .int .i64 x5, .bool x6, .slice a3 m c3] 34) := ⟨_, rfl⟩
    have hv5 : w5.heap[g]? = some (.cells #[.slice none 0 0, .int .i64 0, .slice none 0 0] 36 (0, 0)) := by rw [hw5]; exact ((MapKept.heap_alloc _ _).2 _ (lt_of_heap HV2.out)).trans HV2.out
    have hne : w4.heap.size ≠ g := Nat.ne_of_gt (lt_of_heap HV2.out)
    have hb34 : Below w3.heap.size w3 w4 := (below_draws (Below.refl w3.heap.size w3) 1).trans HB4.out
    rw [← hw5]
    obtain ⟨F1, F2, F3⟩ := fill3 hv5 (.slice a4 n c4) (.int .i64 pl) (.slice (some ⟨w4.heap.size, 0, none⟩) 1 1)
    obtain ⟨wf, hwf⟩ : ∃ wf, wf = ((w5.setCell ⟨g, 0, none⟩ (.slice a4 n c4)).setCell ⟨g, 1, none⟩ (.int .i64 pl)).setCell ⟨g, 2, none⟩ (.slice (some ⟨w4.heap.size, 0, none⟩) 1 1) := ⟨_, rfl⟩
    rw [← hwf] at F1 F2 F3 ⊢
    have hcom : ComT wf [.slice a4 n c4, .int .i64 pl, .slice (some ⟨w4.heap.size, 0, none⟩) 1 1] ⟨zs, pl, [⟨x1, x2, x3, x4, x5, x6, ds⟩]⟩ := by
      have hI : IntsT wf (.slice a4 n c4) zs := HT4.out.kept ((by rw [hw5]; exact keepT_alloc _ _ _ : KeepT 3 w4 w5).trans (keepT_but hv5 (by decide) F2))
      have hD : RowT 90 3 wf (.slice a3 m c3) (ds.map D3.cells) := (HD3.out.kept (keepT_below hb34 (Nat.le_refl _))).kept ((by rw [hw5]; exact keepT_alloc _ _ _ : KeepT 90 w4 w5).trans (keepT_but hv5 (by decide) F2))
      have hO : wf.heap[w4.heap.size]? = some (.cells (opCells ⟨x1, x2, x3, x4, x5, x6, ds⟩ (.slice a3 m c3)).toArray 34 (0, 0)) := by rw [F2 _ hne, hw5]; exact (MapKept.heap_alloc _ _).1
      rw [HN.out] at hI ⊢
      exact part_fin (dv := .slice a3 m c3) hI hO hD
    have hbf : Below w.heap.size w wf := F3 _ _ (by rw [hw5]; exact (B3.out.trans (hb34.mono B3.out.size)).alloc (Nat.le_trans B3.out.size hb34.size) _) hgw
    have HF1 := hid F1
    have HCOM := hid hcom
    have HBF := hid hbf
    clear F1 F2 F3 hwf hcom hbf hv5
    go_wp2
    refine bodyPost_ret (ret_cell (k := 3) Tryz.results56 Tryz.isAgg36 Tryz.sizeOf36 _ _ g [.slice a4 n c4, .int .i64 pl, .slice (some ⟨w4.heap.size, 0, none⟩) 1 1] rfl rfl (fun j hj => ?_)) rfl ⟨a4, c4, _, rfl, HCOM.out, HBF.out⟩
    rcases (by simp at hj; omega : j = 0 ∨ j = 1 ∨ j = 2) with rfl | rfl | rfl <;> (simp only [World.cell?, HF1.out]; rfl)
  · have hv5 := HV2.out
    obtain ⟨w5, hw5⟩ : ∃ w5, w5 = w3.alloc (.cells #[.int .i64 x1, .string x2, .int .i64 x3, .string x4, .int .i64 x5, .bool x6, .slice a3 m c3] 34) := ⟨_, rfl⟩
    have hb5 : Below w5.heap.size w5 w4 := by rw [hw5]; exact (below_draws (Below.refl _ _) 1).trans HB4.out
    have ho5 : w5.heap[w3.heap.size]? = some (.cells #[.int .i64 x1, .string x2, .int .i64 x3, .string x4, .int .i64 x5, .bool x6, .slice a3 m c3] 34 (0, 0)) := by rw [hw5]; exact (MapKept.heap_alloc _ _).1
    have hne : w3.heap.size ≠ g := Nat.ne_of_gt (lt_of_heap Z2.out)
    obtain ⟨F1, F2, F3⟩ := fill3 hv5 (.slice a4 n c4) (.int .i64 pl) (.slice (some ⟨w3.heap.size, 0, none⟩) 1 1)
    obtain ⟨wf, hwf⟩ : ∃ wf, wf = ((w4.setCell ⟨g, 0, none⟩ (.slice a4 n c4)).setCell ⟨g, 1, none⟩ (.int .i64 pl)).setCell ⟨g, 2, none⟩ (.slice (some ⟨w3.heap.size, 0, none⟩) 1 1) := ⟨_, rfl⟩
    rw [← hwf] at F1 F2 F3 ⊢
    have hcom : ComT wf [.slice a4 n c4, .int .i64 pl, .slice (some ⟨w3.heap.size, 0, none⟩) 1 1] ⟨zs, pl, [⟨x1, x2, x3, x4, x5, x6, ds⟩]⟩ := by
      have hI : IntsT wf (.slice a4 n c4) zs := HT4.out.kept (keepT_but hv5 (by decide) F2)
      have hD : RowT 90 3 wf (.slice a3 m c3) (ds.map D3.cells) := ((HD3.out.kept (by rw [hw5]; exact keepT_alloc _ _ _ : KeepT 90 w3 w5)).kept (keepT_below hb5 (Nat.le_refl _))).kept (keepT_but hv5 (by decide) F2)
      have hO : wf.heap[w3.heap.size]? = some (.cells (opCells ⟨x1, x2, x3, x4, x5, x6, ds⟩ (.slice a3 m c3)).toArray 34 (0, 0)) := by rw [F2 _ hne, hb5.block _ (lt_of_heap ho5)]; exact ho5
      rw [HN.out] at hI ⊢
      exact part_fin (dv := .slice a3 m c3) hI hO hD
    have hbf : Below w.heap.size w wf := F3 _ _ ((by rw [hw5]; exact B3.out.alloc B3.out.size _ : Below w.heap.size w w5).trans (hb5.mono (by rw [hw5]; exact Nat.le_trans B3.out.size (by simp)))) hgw
    have HF1 := hid F1
    have HCOM := hid hcom
    have HBF := hid hbf
    clear F1 F2 F3 hwf hcom hbf hv5
    go_wp2
    refine bodyPost_ret (ret_cell (k := 3) Tryz.results56 Tryz.isAgg36 Tryz.sizeOf36 _ _ g [.slice a4 n c4, .int .i64 pl, .slice (some ⟨w3.heap.size, 0, none⟩) 1 1] rfl rfl (fun j hj => ?_)) rfl ⟨a4, c4, _, rfl, HCOM.out, HBF.out⟩
    rcases (by simp at hj; omega : j = 0 ∨ j = 1 ∨ j = 2) with rfl | rfl | rfl <;> (simp only [World.cell?, HF1.out]; rfl)
end Go.Proofs.YtefpnojanldkeaaGreatDoor
namespace Go.Proofs.YtefpnojanldkeaaGreatDoor
open Go.RowKit Go.Sort Go.Maps
set_option maxRecDepth 100000
set_option linter.unusedSectionVars false
variable [Inhabited ComV] [DecidableEq D3] [Inhabited D3] [Inhabited Dd] [Inhabited Dn] [Inhabited OpV]

/-- A slice from a block's beginning on, as an element of a map. -/
def sliceElem : Value → Option (DataW Unit × List MemPlace)
  | .slice (some ⟨g, 0, none⟩) n c => some (.agg [.lit (.int .i64 g), .lit (.int .i64 n), .lit (.int .i64 c)], [])
  | .slice none 0 0 => some (.nil, [])
  | _ => none
def rowDat (v : Value) : DataW Unit := match sliceElem v with
  | some z => z.1
  | none => .nil
theorem sliceElem_inv {v : Value} {z : DataW Unit × List MemPlace} (h : sliceElem v = some z) : (v = .slice none 0 0 ∧ z = (.nil, [])) ∨ ∃ (g n c : Nat), v = .slice (some ⟨g, 0, none⟩) n c ∧ z = (.agg [.lit (.int .i64 g), .lit (.int .i64 n), .lit (.int .i64 c)], []) := by
  unfold sliceElem at h
  split at h
  · exact .inr ⟨_, _, _, rfl, (Option.some.inj h).symm⟩
  · exact .inl ⟨rfl, (Option.some.inj h).symm⟩
  · cases h
theorem sliceElem_inj {v v' : Value} {z z' : DataW Unit × List MemPlace} (h : sliceElem v = some z) (h' : sliceElem v' = some z') (e : z.1 = z'.1) : v = v' := by
  rcases sliceElem_inv h with ⟨rfl, rfl⟩ | ⟨g, n, c, rfl, rfl⟩
  · rcases sliceElem_inv h' with ⟨rfl, rfl⟩ | ⟨g', n', c', rfl, rfl⟩
    · rfl
    · cases e
  · rcases sliceElem_inv h' with ⟨rfl, rfl⟩ | ⟨g', n', c', rfl, rfl⟩
    · cases e
    · simp only [DataW.agg.injEq, List.cons.injEq, DataW.lit.injEq, Lit.int.injEq, true_and, and_true] at e
      obtain ⟨e1, e2, e3⟩ := e
      have e1' : g = g' := by omega
      have e2' : n = n' := by omega
      have e3' : c = c' := by omega
      subst e1' e2' e3'
      rfl
theorem sliceElem_row {w : World} {base e size n : Nat} {v : Value} {xs : List Value} (h : w.ownsRow base e size v n xs) : sliceElem v = some (rowDat v, []) := by
  rcases h.2 with ⟨rfl, _⟩ | ⟨g, cap, cur, rfl, _⟩ <;> rfl
/-- What a store holds: its base, the parts that came (each of one op), all dots that ever came. -/
structure St where
  base : List Int
  parts : List ComV
  dots : List D3
def keyOfC (c : ComV) : ByteArray := c.ops[0]!.key
def rowOf (s : St) (k : ByteArray) : List ComV := s.parts.filter fun c => decide (keyOfC c = k)
abbrev klS (k : ByteArray) : Lit := .string k.data.toList
theorem klS_inj {a b : ByteArray} (h : klS a = klS b) : a = b := by
  injection h with h
  exact WideShapes.bytes_inj h
theorem klS_key (k : ByteArray) : WideAt.IsKeyLit (klS k) := trivial
theorem keyed9 : Keyed Tryz.prog 9 := string_keyed Tryz.underlying9
structure VerAt (w : World) (p mb db : Nat) (f : ByteArray → Value) (s : St) (n : Nat) : Prop where
  box : ∃ bv, w.heap[p]? = some (.cells #[bv, .map (some mb), .map (some db)] 109 (0, 0)) ∧ IntsT w bv s.base
  dots : ∃ D : DataW Unit, w.ownsMap Tryz.prog 90 unitElem db n D ∧ ∀ d, wf3 d → Maps.has D (klD d) = decide (d ∈ s.dots)
  map : ∃ D : DataW Unit, w.ownsMap Tryz.prog 9 sliceElem mb n D ∧ ∀ k, Maps.has D (klS k) = decide (rowOf s k ≠ []) ∧ D.atKey (klS k) .nil = rowDat (f k)
  rows : ∀ k, ∃ rows, w.ownsRow 0 36 3 (f k) (rowOf s k).length rows.flatten ∧ F2 (ComT w) rows (rowOf s k)
  apart : ∀ k k', k ≠ k' → ∀ b, (f k).ownBlock = some b → (f k').ownBlock ≠ some b
  ne : mb ≠ db
theorem map_obj {w : World} {k b n : Nat} {R : Value → Option (DataW Unit × List MemPlace)} {D : DataW Unit} (h : w.ownsMap Tryz.prog k R b n D) : ∃ es clock, w.heap[b]? = some (.map es clock) := by
  obtain ⟨es, clock, hb, _⟩ := h
  exact ⟨es, clock, hb⟩
theorem cells_ne_map {w : World} {k b n g : Nat} {R : Value → Option (DataW Unit × List MemPlace)} {D : DataW Unit} {cs : Array Value} {t : TypeId} (h : w.ownsMap Tryz.prog k R b n D) (hg : w.heap[g]? = some (.cells cs t (0, 0))) : g ≠ b := fun e => by
  obtain ⟨es, clock, hb⟩ := map_obj h
  rw [e, hb] at hg
  cases hg
theorem keep3_map {w w' : World} {k b n : Nat} {R : Value → Option (DataW Unit × List MemPlace)} {D : DataW Unit} (h : w.ownsMap Tryz.prog k R b n D) (hg : w.grownBy w' (some b)) : Keep3 w w' := by
  have : ∀ t, KeepT t w w' := fun t i cs hi => hg.block i (lt_of_heap hi) fun e => cells_ne_map h hi (Option.some.inj e)
  exact ⟨this 3, this 34, this 90⟩
theorem intsT_keep {w w' : World} {v : Value} {zs : List Int} (h : IntsT w v zs) (hk : Keep3 w w') : IntsT w' v zs := RowT.kept h hk.ints
theorem f2_keep {w w' : World} {rows : List (List Value)} {l : List ComV} (h : F2 (ComT w) rows l) (hk : Keep3 w w') : F2 (ComT w') rows l := f2_mono (fun _ _ x => x.kept hk) h
/-- The store stands while nothing that is there turns. -/
theorem VerAt.moved {w w' : World} {p mb db n : Nat} {f : ByteArray → Value} {s : St} (h : VerAt w p mb db f s n) (hb : Below w.heap.size w w') : VerAt w' p mb db f s n := by
  have hk : Keep3 w w' := Keep3.of_below hb (Nat.le_refl _)
  have hg : ∀ b, w.grownBy w' b := fun b => ⟨hb.os, hb.tape, hb.output, hb.size, fun i hi _ => hb.block i hi⟩
  refine ⟨?_, ?_, ?_, fun k => ?_, h.apart, h.ne⟩
  · obtain ⟨bv, h1, h2⟩ := h.box
    exact ⟨bv, by rw [hb.block _ (lt_of_heap h1)]; exact h1, intsT_keep h2 hk⟩
  · obtain ⟨D, h1, h2⟩ := h.dots
    exact ⟨D, h1.kept (hg none) (by simp), h2⟩
  · obtain ⟨D, h1, h2⟩ := h.map
    exact ⟨D, h1.kept (hg none) (by simp), h2⟩
  · obtain ⟨rows, h1, h2⟩ := h.rows k
    exact ⟨rows, owns_below h1 fun b _ hc => hb.block b (lt_of_heap hc), f2_keep h2 hk⟩
/-- A dot more. -/
theorem VerAt.addDot {w w' : World} {p mb db n : Nat} {f : ByteArray → Value} {s : St} (h : VerAt w p mb db f s n) {D : DataW Unit} (h1 : w.ownsMap Tryz.prog 90 unitElem db n D) (h2 : ∀ d, wf3 d → Maps.has D (klD d) = decide (d ∈ s.dots)) {d : D3} (hd : wf3 d)
    (hg : w.grownBy w' (some db)) (hm : w'.ownsMap Tryz.prog 90 unitElem db (n + 1) (D.put (klD d) (.agg []))) : VerAt w' p mb db f ⟨s.base, s.parts, s.dots ++ [d]⟩ (n + 1) := by
  have hk : Keep3 w w' := keep3_map h1 hg
  refine ⟨?_, ⟨_, hm, fun e he => ?_⟩, ?_, fun k => ?_, h.apart, h.ne⟩
  · obtain ⟨bv, e1, e2⟩ := h.box
    exact ⟨bv, by rw [hg.block _ (lt_of_heap e1) (fun e => cells_ne_map h1 e1 (Option.some.inj e))]; exact e1, intsT_keep e2 hk⟩
  · by_cases e1 : d = e
    · subst e1
      rw [has_put_same h1.isMap (klD_key _)]
      simp
    · rw [has_put_other (fun x => e1 (klD_inj he hd x).symm), h2 e he]
      simp only [decide_eq_decide, List.mem_append, List.mem_singleton]
      exact ⟨.inl, fun x => x.resolve_right fun y => e1 y.symm⟩
  · obtain ⟨D', e1, e2⟩ := h.map
    exact ⟨D', (e1.kept hg (fun e => h.ne (Option.some.inj e))).mono (Nat.le_succ _), e2⟩
  · obtain ⟨rows, e1, e2⟩ := h.rows k
    refine ⟨rows, owns_below e1 fun b _ hc => hg.block b (lt_of_heap hc) fun e => cells_ne_map h1 hc (Option.some.inj e), f2_keep e2 hk⟩
def updF (f : ByteArray → Value) (k : ByteArray) (v : Value) : ByteArray → Value := fun k' => if k' = k then v else f k'
theorem rowOf_add (s : St) (c : ComV) (k : ByteArray) : rowOf ⟨s.base, s.parts ++ [c], s.dots⟩ k = if keyOfC c = k then rowOf s k ++ [c] else rowOf s k := by
  unfold rowOf
  rw [List.filter_append]
  split
  · rename_i h; simp [h]
  · rename_i h; simp [h]
/-- A part more. -/
theorem VerAt.addPart {w w5 w6 : World} {p mb db n : Nat} {f : ByteArray → Value} {s : St} (h : VerAt w p mb db f s n) {D : DataW Unit} (hD : w.ownsMap Tryz.prog 9 sliceElem mb n D) (hs : ∀ k, Maps.has D (klS k) = decide (rowOf s k ≠ []) ∧ D.atKey (klS k) .nil = rowDat (f k))
    {c : ComV} {rows : List (List Value)} {r : List Value} {v' : Value} (hrow : w.ownsRow 0 36 3 (f (keyOfC c)) (rowOf s (keyOfC c)).length rows.flatten) (hF : F2 (ComT w) rows (rowOf s (keyOfC c))) (hc : ComT w r c)
    (hg5 : w.grownBy w5 (f (keyOfC c)).ownBlock) (hr5 : w5.ownsRow 0 36 3 v' ((rowOf s (keyOfC c)).length + 1) (rows.flatten ++ r)) (hloc : v'.ownBlock = (f (keyOfC c)).ownBlock ∨ v'.ownBlock = some w.heap.size)
    (hg6 : w5.grownBy w6 (some mb)) (hm6 : w6.ownsMap Tryz.prog 9 sliceElem mb (n + 1) (D.put (klS (keyOfC c)) (rowDat v'))) : VerAt w6 p mb db (updF f (keyOfC c) v') ⟨s.base, s.parts ++ [c], s.dots⟩ (n + 1) := by
  have hk5 : Keep3 w w5 := Keep3.grown hrow hg5
  have other : ∀ (b : Nat) (o : Obj), w.heap[b]? = some o → (∀ cs, o ≠ .cells cs 36 (0, 0)) → w5.heap[b]? = w.heap[b]? := fun b o hb ho => hg5.block b (by
    rcases Nat.lt_or_ge b w.heap.size with h' | h'
    · exact h'
    · rw [Array.getElem?_eq_none h'] at hb; cases hb) fun e => by
      obtain ⟨cs, hcs⟩ := own_type hrow e.symm
      rw [hb] at hcs
      exact ho cs (Option.some.inj hcs)
  have hD5 : w5.ownsMap Tryz.prog 9 sliceElem mb n D := by
    refine hD.kept hg5 fun e => ?_
    obtain ⟨cs, hcs⟩ := own_type hrow e.symm
    exact cells_ne_map hD hcs rfl
  have hk6 : Keep3 w5 w6 := keep3_map hD5 hg6
  have hk : Keep3 w w6 := hk5.trans hk6
  have cells6 : ∀ (b : Nat) (cs : Array Value) (t : TypeId), w5.heap[b]? = some (.cells cs t (0, 0)) → w6.heap[b]? = w5.heap[b]? := fun b cs t hb => hg6.block b (lt_of_heap hb) fun e => cells_ne_map hD5 hb (Option.some.inj e)
  refine ⟨?_, ?_, ⟨_, hm6, fun k => ?_⟩, fun k => ?_, fun k k' hkk b hb => ?_, h.ne⟩
  · obtain ⟨bv, e1, e2⟩ := h.box
    have e5 := other p _ e1 (fun cs e => by injection e with _ e; cases e)
    exact ⟨bv, by rw [cells6 p _ _ (e5.trans e1), e5]; exact e1, intsT_keep e2 hk⟩
  · obtain ⟨D', e1, e2⟩ := h.dots
    refine ⟨D', ((e1.kept hg5 fun e => ?_).kept hg6 fun e => h.ne (Option.some.inj e).symm).mono (Nat.le_succ _), e2⟩
    obtain ⟨cs, hcs⟩ := own_type hrow e.symm
    exact cells_ne_map e1 hcs rfl
  · rw [rowOf_add]
    by_cases e : keyOfC c = k
    · subst e
      rw [has_put_same hD.isMap (klS_key _), atKey_put_same hD.isMap (klS_key _), if_pos rfl]
      unfold updF
      rw [if_pos rfl]
      exact ⟨by simp, rfl⟩
    · rw [has_put_other (fun x => e (klS_inj x).symm), atKey_put_other (fun x => e (klS_inj x).symm), if_neg e]
      unfold updF
      rw [if_neg (fun x => e x.symm)]
      exact hs k
  · rw [rowOf_add]
    unfold updF
    by_cases e : keyOfC c = k
    · subst e
      rw [if_pos rfl, if_pos rfl]
      refine ⟨rows ++ [r], ?_, f2_append (f2_keep hF hk) (hc.kept hk)⟩
      have : w6.ownsRow 0 36 3 v' ((rowOf s (keyOfC c)).length + 1) (rows.flatten ++ r) := owns_below hr5 fun b cs hb => cells6 b cs _ hb
      simpa using this
    · rw [if_neg e, if_neg (fun x => e x.symm)]
      obtain ⟨rs, e1, e2⟩ := h.rows k
      refine ⟨rs, ?_, f2_keep e2 hk⟩
      have h5 : w5.ownsRow 0 36 3 (f k) (rowOf s k).length rs.flatten := e1.kept hg5 (by
        cases hb : (f k).ownBlock with
        | none => exact .inl rfl
        | some b => exact .inr fun x => h.apart k (keyOfC c) (fun y => e y.symm) b hb x.symm)
      exact owns_below h5 fun b cs hb => cells6 b cs _ hb
  · unfold updF at hb ⊢
    by_cases e : k = keyOfC c
    · rw [if_pos e] at hb
      rw [if_neg (fun x => hkk (e.trans x.symm))]
      intro hb'
      rcases hloc with hl | hl
      · rw [hl] at hb
        exact h.apart (keyOfC c) k' (fun x => hkk (e.trans x)) b hb hb'
      · rw [hl] at hb
        obtain ⟨rs, e1, _⟩ := h.rows k'
        have := (e1.lt b hb').2
        have hb2 := Option.some.inj hb
        omega
    · rw [if_neg e] at hb
      by_cases e' : k' = keyOfC c
      · rw [if_pos e']
        intro hb'
        rcases hloc with hl | hl
        · rw [hl] at hb'
          exact h.apart k (keyOfC c) e b hb hb'
        · rw [hl] at hb'
          obtain ⟨rs, e1, _⟩ := h.rows k
          have := (e1.lt b hb).2
          have hb2 := Option.some.inj hb'
          omega
      · rw [if_neg e']
        exact h.apart k k' hkk b hb
end Go.Proofs.YtefpnojanldkeaaGreatDoor
