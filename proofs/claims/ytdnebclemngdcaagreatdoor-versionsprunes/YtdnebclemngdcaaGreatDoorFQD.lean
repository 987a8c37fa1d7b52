/- partOf by its contract: all of it lies in blocks of its own; Parts as they lie in rows, each op in a block of its own: where settle's lists stand; vector.Ahead, and compareParts, by their contracts; lastRegister by its contract; sumCounters by its contract; Targets as the keys of a map; isAdd, targetOf by their contracts. -/
import Derived.Test.YtdnebclemngdcaaGreatDoorFWPart2
import Derived.Test.YtdnebclemngdcaaGreatDoorFWPart
import Derived.Test.YtdnebclemngdcaaGreatDoorFVCmpD
import Derived.Test.YtdnebclemngdcaaGreatDoorFWVec
import Derived.Test.YtdnebclemngdcaaGreatDoorFVMap
import Derived.Laws.AppendOwnNone
import Derived.Test.YtdnebclemngdcaaGreatDoorFVSetsI
import Derived.Deep.RegionHeld
namespace Go.Proofs.YtdnebclemngdcaaGreatDoor
open Go.RowKit Go.Sort Go.Maps
set_option maxRecDepth 100000
set_option linter.unusedSectionVars false
variable [Inhabited ComV] [DecidableEq D3] [Inhabited D3] [Inhabited Dd] [Inhabited Dn] [Inhabited OpV]

theorem ownsMono {w : World} {B B' e size n : Nat} {v : Value} {xs : List Value} (hB : B' ≤ B) (h : w.ownsRow B e size v n xs) : w.ownsRow B' e size v n xs := by
  refine ⟨h.1, ?_⟩
  rcases h.2 with h0 | ⟨g, cap, cur, hv, h1, h2⟩
  · exact .inl h0
  · exact .inr ⟨g, cap, cur, hv, Nat.le_trans hB h1, h2⟩
set_option maxHeartbeats 2000000 in
theorem clone_dotsO (w : World) (v : Value) (ds : List D3) (h : DotsAt w v ds) (hl : ds.length ≤ 1000000) :
    Calls Tryz.prog 65 #[v] w fun e w' => ∃ a c, e = .returned (.slice a ds.length c) ∧ w'.ownsRow w.heap.size 87 3 (.slice a ds.length c) ds.length (ds.flatMap D3.cells) ∧ Below w.heap.size w w' := by
  have q22 : ∀ (w : World) (a : Option Addr) (n c n' c' : Nat), (binOp .eql 65 (.slice a n c) (.slice none n' c')).run Tryz.prog w = .ok (.bool a.isNone) w := fun w a n c n' c' => Lib.run_eql_slice_nil w _ _ a n c n' c' Tryz.underlying65
  obtain ⟨i0, hi, hz0, hz1, hz2⟩ := info_parts Tryz.info87
  have hsrc := src_dots h
  obtain ⟨ad, c, hv, h0, _, hh⟩ := h
  rw [List.length_map] at hv
  subst hv
  obtain ⟨n, hn⟩ : ∃ n, n = ds.length := ⟨_, rfl⟩
  rw [← hn] at hsrc hl ⊢
  have HN := hid hn
  have HS := hid hsrc
  have HH := hid hh
  clear hn hsrc hh
  cases ad with
  | none =>
    obtain rfl := h0 rfl
    have hz : ds = [] := by
      rcases HH.out with h | ⟨b, o, he, _⟩
      · simpa using h
      · cases he
    subst hz
    obtain rfl : n = 0 := HN.out
    go_enter Tryz.func65, Tryz.ntmps65
    go_wp2
    go_ret
    exact ⟨none, 0, rfl, World.ownsRow_nil _ _ _ _, Below.refl _ _⟩
  | some ad =>
    go_enter Tryz.func65, Tryz.ntmps65
    go_wp2_with (at_builtin; refine wpList_append_own_src rfl _ _ 65 rfl w.heap.size 87 i0 _ 3 24 Tryz.underlying65 hi hz0 hz1 hz2 rfl (by decide) _ _ _ rfl (World.ownsRow_made w #[] 0 (Nat.le_refl _) (Nat.zero_le _) rfl) _ n (ds.flatMap D3.cells) rfl ?hs1 (dots_one _) ?hm2 ?hm3 ?hm4 ?_; (case hs1 => exact HS.out.moved (fun a u h => cell_alloc h _)); (case hm2 => unfold maxLen; omega); (case hm3 => omega); (case hm4 => simp); intro v3 w3 hown3 hgrow3)
    rw [Nat.zero_add, List.nil_append] at hown3
    obtain ⟨a3, c3, rfl⟩ := row_shape hown3
    have HT := hid hown3
    have HB : Hid (Below w.heap.size w w3) := ((Below.refl _ w).alloc (Nat.le_refl _) _).grown hgrow3 (by simp) (fun k hk => ((World.ownsRow_made (e := 87) (size := 3) (base := w.heap.size) w #[] 0 (Nat.le_refl _) (Nat.zero_le _) rfl).lt k hk).1)
    clear hown3 hgrow3
    go_wp2
    go_ret
    exact ⟨a3, c3, rfl, HT.out, HB.out⟩
/-- What partOf hands back. -/
def PartOwn (c : ComV) (o : OpV) (w : World) (e : Ending) (w' : World) : Prop := ∃ a1 c1 gg dv, e = .returned (.agg #[.slice a1 c.when_.length c1, .int .i64 c.place, .slice (some ⟨gg, 0, none⟩) 1 1]) ∧ (IntsT w' (.slice a1 c.when_.length c1) c.when_ ∧ w'.heap[gg]? = some (.cells (opCells o dv).toArray 76 (0, 0)) ∧ w.heap.size ≤ gg ∧ w'.ownsRow w.heap.size 87 3 dv o.dots.length (o.dots.flatMap D3.cells)) ∧ Below w.heap.size w w'
set_option maxHeartbeats 4000000 in
theorem partOf_own (w : World) (c : ComV) (o : OpV) (wv : Value) (oa : Option Addr) (ol oc : Nat) (dv : Value) (hw : IntsAt w wv c.when_) (hd : DotsAt w dv o.dots) (hl : c.when_.length ≤ 1000000) (hdl : o.dots.length ≤ 1000000) :
    Calls Tryz.prog 40 #[.agg #[wv, .int .i64 c.place, .slice oa ol oc], .agg (opCells o dv).toArray] w fun e w' => PartOwn c o w e w' := by
  obtain ⟨a1, c1, rfl⟩ := hw.slice
  obtain ⟨a2, c2, rfl⟩ := hd.len
  unfold PartOwn
  obtain ⟨zs, pl, _⟩ := c
  obtain ⟨x1, x2, x3, x4, x5, x6, ds⟩ := o
  simp only at hd hdl hw hl ⊢
  show Calls Tryz.prog 40 #[.agg #[.slice a1 zs.length c1, .int .i64 pl, .slice oa ol oc], .agg #[.int .i64 x1, .string x2, .int .i64 x3, .string x4, .int .i64 x5, .bool x6, .slice a2 ds.length c2]] w _
  obtain ⟨n, hn⟩ : ∃ n, n = zs.length := ⟨_, rfl⟩
  obtain ⟨m, hm⟩ : ∃ m, m = ds.length := ⟨_, rfl⟩
  rw [← hn] at hw hl ⊢
  rw [← hm] at hd hdl ⊢
  obtain ⟨w1, hw1⟩ : ∃ w1, w1 = ((w.alloc (.cells #[.slice a1 n c1, .int .i64 pl, .slice oa ol oc] 34)).alloc (.cells #[.int .i64 x1, .string x2, .int .i64 x3, .string x4, .int .i64 x5, .bool x6, .slice a2 m c2] 76)).alloc (.cells #[.slice none 0 0, .int .i64 0, .slice none 0 0] 34) := ⟨_, rfl⟩
  have b1 : Below w.heap.size w w1 := by rw [hw1]; exact below3 w _ _ _
  have hA := heap_alloc3 w (.cells #[.slice a1 n c1, .int .i64 pl, .slice oa ol oc] 34) (.cells #[.int .i64 x1, .string x2, .int .i64 x3, .string x4, .int .i64 x5, .bool x6, .slice a2 m c2] 76) (.cells #[.slice none 0 0, .int .i64 0, .slice none 0 0] 34)
  rw [← hw1] at hA
  have bx0 : w1.heap[w.heap.size]? = some (.cells #[.slice a1 n c1, .int .i64 pl, .slice oa ol oc] 34 (0, 0)) := by rw [hA.1]; exact (MapKept.heap_alloc _ _).1
  have bx1 : w1.heap[w.heap.size + 1]? = some (.cells #[.int .i64 x1, .string x2, .int .i64 x3, .string x4, .int .i64 x5, .bool x6, .slice a2 m c2] 76 (0, 0)) := by
    rw [hA.2]
    have := (MapKept.heap_alloc (w.alloc (.cells #[.slice a1 n c1, .int .i64 pl, .slice oa ol oc] 34)) (.cells #[.int .i64 x1, .string x2, .int .i64 x3, .string x4, .int .i64 x5, .bool x6, .slice a2 m c2] 76)).1
    simpa using this
  have bx2 : w1.heap[w.heap.size + 1 + 1]? = some (.cells #[.slice none 0 0, .int .i64 0, .slice none 0 0] 34 (0, 0)) := by
    rw [hw1]
    have := (MapKept.heap_alloc ((w.alloc (.cells #[.slice a1 n c1, .int .i64 pl, .slice oa ol oc] 34)).alloc (.cells #[.int .i64 x1, .string x2, .int .i64 x3, .string x4, .int .i64 x5, .bool x6, .slice a2 m c2] 76)) (.cells #[.slice none 0 0, .int .i64 0, .slice none 0 0] 34)).1
    simpa using this
  have K91 := clone_dotsO w1 (.slice a2 m c2) ds (hd.mono b1 (Nat.le_refl _)) (by omega)
  have HW := hid hw
  have B1 := hid b1
  have HN := hid hn
  have HM := hid hm
  go_enter Tryz.func40, Tryz.ntmps40
  obtain ⟨k, hk⟩ : ∃ k, k = w.heap.size + 1 := ⟨_, rfl⟩
  obtain ⟨g, hg⟩ : ∃ g, g = k + 1 := ⟨_, rfl⟩
  rw [← hk] at bx1
  rw [← hk, ← hg] at bx2
  have X0 := hid bx0
  have X1 := hid bx1
  have X2 := hid bx2
  have l1 : w1.cell? ⟨k, 6, none⟩ = some (.slice a2 m c2) := by simp only [World.cell?, bx1]; rfl
  clear hn hm hw hd b1 hA bx0 bx1 bx2
  go_wp2_with fail
  rw [← hw1]
  refine K91.mono ?_
  rintro e w2 ⟨a3, c3, rfl, hT3, hb2⟩
  rw [← HM.out] at hT3 ⊢
  rw [← hk]
  rw [← hg]
  have hk1 : k < w1.heap.size := lt_of_heap X1.out
  have hg1 : g < w1.heap.size := lt_of_heap X2.out
  have h01 : w.heap.size < w1.heap.size := lt_of_heap X0.out
  have y0 : w2.heap[w.heap.size]? = _ := (hb2.block _ h01).trans X0.out
  have y1 : w2.heap[k]? = _ := (hb2.block _ hk1).trans X1.out
  have y2 : w2.heap[g]? = _ := (hb2.block _ hg1).trans X2.out
  have m6 : w2.cell? ⟨k, 6, none⟩ = some (.slice a2 m c2) := by simp only [World.cell?, y1]; rfl
  have m6f : w2.frozen? ⟨k, 6, none⟩ = false := by simp only [World.frozen?, y1]; simp
  have n1 : k ≠ w.heap.size := by omega
  have n2 : k ≠ g := by omega
  have n4 : g ≠ k := by omega
  have n3 : g ≠ w.heap.size := by omega
  have hgw : w.heap.size ≤ g := by omega
  have hkw : w.heap.size ≤ k := by omega
  have B2 := hid (B1.out.trans (hb2.mono B1.out.size))
  have HT3 := hid hT3
  have Y0 := hid y0
  have Y1 := hid y1
  have Y2 := hid y2
  clear hk hg K91 hT3 hb2 y0 y1 y2 hw1 l1 hk1 hg1 h01
  go_upto_region 2 with (fail)
  obtain ⟨w3, hw3⟩ : ∃ w3, w3 = w2.setCell ⟨k, 6, none⟩ (.slice a3 m c3) := ⟨_, rfl⟩
  rw [← hw3]
  have z0 : w3.heap[w.heap.size]? = some (.cells #[.slice a1 n c1, .int .i64 pl, .slice oa ol oc] 34 (0, 0)) := by rw [hw3, Below.heap_setCell _ _ _ _ (Ne.symm n1)]; exact Y0.out
  have z1 : w3.heap[k]? = some (.cells #[.int .i64 x1, .string x2, .int .i64 x3, .string x4, .int .i64 x5, .bool x6, .slice a3 m c3] 76 (0, 0)) := by rw [hw3, heap_set Y1.out]; rfl
  have z2 : w3.heap[g]? = some (.cells #[.slice none 0 0, .int .i64 0, .slice none 0 0] 34 (0, 0)) := by rw [hw3, Below.heap_setCell _ _ _ _ (Ne.symm n2)]; exact Y2.out
  have B3 : Hid (Below w.heap.size w w3) := by rw [hw3]; exact B2.out.setCell hkw _
  have hw1s : w.heap.size ≤ w1.heap.size := B1.out.size
  have HD3 : Hid (w3.ownsRow w.heap.size 87 3 (.slice a3 m c3) m (ds.flatMap D3.cells)) := by rw [hw3]; exact ownsMono hw1s (owns_below HT3.out (keepT_set Y1.out (by decide) _ _))
  have s0 : w3.cell? ⟨w.heap.size, 0, none⟩ = some (.slice a1 n c1) := by simp only [World.cell?, z0]; rfl
  have s1 : w3.cell? ⟨w.heap.size, 1, none⟩ = some (.int .i64 pl) := by simp only [World.cell?, z0]; rfl
  have q0 : w3.cell? ⟨k, 0, none⟩ = some (.int .i64 x1) := by simp only [World.cell?, z1]; rfl
  have q1 : w3.cell? ⟨k, 1, none⟩ = some (.string x2) := by simp only [World.cell?, z1]; rfl
  have q2 : w3.cell? ⟨k, 2, none⟩ = some (.int .i64 x3) := by simp only [World.cell?, z1]; rfl
  have q3 : w3.cell? ⟨k, 3, none⟩ = some (.string x4) := by simp only [World.cell?, z1]; rfl
  have q4 : w3.cell? ⟨k, 4, none⟩ = some (.int .i64 x5) := by simp only [World.cell?, z1]; rfl
  have q5 : w3.cell? ⟨k, 5, none⟩ = some (.bool x6) := by simp only [World.cell?, z1]; rfl
  have q6 : w3.cell? ⟨k, 6, none⟩ = some (.slice a3 m c3) := by simp only [World.cell?, z1]; rfl
  have HI3 : IntsAt w3 (.slice a1 n c1) zs := HW.out.mono B3.out (Nat.le_refl _)
  have K64 := fun W (h : IntsAt W (.slice a1 n c1) zs) => clone_ints W _ zs h (by have := HN.out; omega)
  rw [← HN.out] at K64
  have Z2 := hid z2
  clear hw3 z0 z1 z2 m6 m6f Y0 Y1 Y2 HT3 n2 n1
  go_region_held (fun w' => w'.cell? ⟨w.heap.size, 0, none⟩ = some (.slice a1 n c1) ∧ w'.cell? ⟨w.heap.size, 1, none⟩ = some (.int .i64 pl) ∧ w'.cell? ⟨k, 0, none⟩ = some (.int .i64 x1) ∧ w'.cell? ⟨k, 1, none⟩ = some (.string x2) ∧ w'.cell? ⟨k, 2, none⟩ = some (.int .i64 x3) ∧ w'.cell? ⟨k, 3, none⟩ = some (.string x4) ∧ w'.cell? ⟨k, 4, none⟩ = some (.int .i64 x5) ∧ w'.cell? ⟨k, 5, none⟩ = some (.bool x6) ∧ w'.cell? ⟨k, 6, none⟩ = some (.slice a3 m c3)) (go_keep) (first | (go_at_call 42; refine (K64 _ ?hI).mono ?_; (case hI => first | exact HI3 | exact ints_al HI3 _); rintro e w4 ⟨a4, c4, rfl, hT4, hb4⟩; have up4 : ∀ {a : Addr} {v : Value}, w3.cell? a = some v → w4.cell? a = some v := (fun {a v} h => by first | (rw [hb4.cell (lt_of_cell h)]; exact h) | (rw [hb4.cell (lt_of_cell (cell_alloc h _))]; exact cell_alloc h _)); have s0' := up4 s0; have s1' := up4 s1; have q0' := up4 q0; have q1' := up4 q1; have q2' := up4 q2; have q3' := up4 q3; have q4' := up4 q4; have q5' := up4 q5; have q6' := up4 q6; clear up4; have v2 : w4.heap[g]? = some (.cells #[.slice none 0 0, .int .i64 0, .slice none 0 0] 34 (0, 0)) := (by first | exact (hb4.block _ (lt_of_heap Z2.out)).trans Z2.out | exact (hb4.block _ (Nat.lt_of_lt_of_le (lt_of_heap Z2.out) (by simp))).trans (((MapKept.heap_alloc _ _).2 _ (lt_of_heap Z2.out)).trans Z2.out)); have t0 : w4.cell? ⟨g, 0, none⟩ = some (.slice none 0 0) := (by simp only [World.cell?, v2]; rfl); have t1 : w4.cell? ⟨g, 1, none⟩ = some (.int .i64 0) := (by simp only [World.cell?, v2]; rfl); have t2 : w4.cell? ⟨g, 2, none⟩ = some (.slice none 0 0) := (by simp only [World.cell?, v2]; rfl); have r0 : w4.frozen? ⟨g, 0, none⟩ = false := (by simp only [World.frozen?, v2]; simp); have r1 : w4.frozen? ⟨g, 1, none⟩ = false := (by simp only [World.frozen?, v2]; simp); have r2 : w4.frozen? ⟨g, 2, none⟩ = false := (by simp only [World.frozen?, v2]; simp); have v3 : ∀ o, (w4.alloc o).heap[g]? = some (.cells #[.slice none 0 0, .int .i64 0, .slice none 0 0] 34 (0, 0)) := (fun o => ((MapKept.heap_alloc w4 o).2 _ (lt_of_heap v2)).trans v2); have t0a := (fun o => cell_alloc t0 o); have t1a := (fun o => cell_alloc t1 o); have t2a := (fun o => cell_alloc t2 o); have r0a : ∀ o, (w4.alloc o).frozen? ⟨g, 0, none⟩ = false := (fun o => by simp only [World.frozen?, v3 o]; simp); have r1a : ∀ o, (w4.alloc o).frozen? ⟨g, 1, none⟩ = false := (fun o => by simp only [World.frozen?, v3 o]; simp); have r2a : ∀ o, (w4.alloc o).frozen? ⟨g, 2, none⟩ = false := (fun o => by simp only [World.frozen?, v3 o]; simp); have HB4 := hid hb4; have HT4 := hid hT4; have HV2 := hid v2; clear hb4 hT4 v2 v3))
  · obtain ⟨w5, hw5⟩ : ∃ w5, w5 = w4.alloc (.cells #[.int .i64 x1, .string x2, .int .i64 x3, .string x4, .int .i64 x5, .bool x6, .slice a3 m c3] 76) := ⟨_, rfl⟩
    have hv5 : w5.heap[g]? = some (.cells #[.slice none 0 0, .int .i64 0, .slice none 0 0] 34 (0, 0)) := by rw [hw5]; exact ((MapKept.heap_alloc _ _).2 _ (lt_of_heap HV2.out)).trans HV2.out
    have hne : w4.heap.size ≠ g := Nat.ne_of_gt (lt_of_heap HV2.out)
    have hb34 : Below w3.heap.size w3 w4 := (below_draws (Below.refl w3.heap.size w3) 1).trans HB4.out
    rw [← hw5]
    obtain ⟨F1, F2, F3⟩ := fill3 hv5 (.slice a4 n c4) (.int .i64 pl) (.slice (some ⟨w4.heap.size, 0, none⟩) 1 1)
    obtain ⟨wf, hwf⟩ : ∃ wf, wf = ((w5.setCell ⟨g, 0, none⟩ (.slice a4 n c4)).setCell ⟨g, 1, none⟩ (.int .i64 pl)).setCell ⟨g, 2, none⟩ (.slice (some ⟨w4.heap.size, 0, none⟩) 1 1) := ⟨_, rfl⟩
    rw [← hwf] at F1 F2 F3 ⊢
    have hcom : IntsT wf (.slice a4 n c4) zs ∧ wf.heap[w4.heap.size]? = some (.cells (opCells ⟨x1, x2, x3, x4, x5, x6, ds⟩ (.slice a3 m c3)).toArray 76 (0, 0)) ∧ w.heap.size ≤ w4.heap.size ∧ wf.ownsRow w.heap.size 87 3 (.slice a3 m c3) m (ds.flatMap D3.cells) := by
      have hI : IntsT wf (.slice a4 n c4) zs := HT4.out.kept ((by rw [hw5]; exact keepT_alloc _ _ _ : KeepT 3 w4 w5).trans (keepT_but hv5 (by decide) F2))
      have hD := owns_below (owns_below HD3.out (keepT_below hb34 (Nat.le_refl _))) ((by rw [hw5]; exact keepT_alloc _ _ _ : KeepT 87 w4 w5).trans (keepT_but hv5 (by decide) F2))
      have hO : wf.heap[w4.heap.size]? = some (.cells (opCells ⟨x1, x2, x3, x4, x5, x6, ds⟩ (.slice a3 m c3)).toArray 76 (0, 0)) := by rw [F2 _ hne, hw5]; exact (MapKept.heap_alloc _ _).1
      exact ⟨hI, hO, Nat.le_trans B3.out.size hb34.size, hD⟩
    have hbf : Below w.heap.size w wf := F3 _ _ (by rw [hw5]; exact (B3.out.trans (hb34.mono B3.out.size)).alloc (Nat.le_trans B3.out.size hb34.size) _) hgw
    have HF1 := hid F1
    have HCOM := hid hcom
    have HBF := hid hbf
    clear F1 F2 F3 hwf hcom hbf hv5
    go_wp2
    refine bodyPost_ret (ret_cell (k := 3) Tryz.results40 Tryz.isAgg34 Tryz.sizeOf34 _ _ g [.slice a4 n c4, .int .i64 pl, .slice (some ⟨w4.heap.size, 0, none⟩) 1 1] rfl rfl (fun j hj => ?_)) rfl ⟨a4, c4, _, .slice a3 m c3, rfl, HCOM.out, HBF.out⟩
    rcases (by simp at hj; omega : j = 0 ∨ j = 1 ∨ j = 2) with rfl | rfl | rfl <;> (simp only [World.cell?, HF1.out]; rfl)
  · have hv5 := HV2.out
    obtain ⟨w5, hw5⟩ : ∃ w5, w5 = w3.alloc (.cells #[.int .i64 x1, .string x2, .int .i64 x3, .string x4, .int .i64 x5, .bool x6, .slice a3 m c3] 76) := ⟨_, rfl⟩
    have hb5 : Below w5.heap.size w5 w4 := by rw [hw5]; exact (below_draws (Below.refl _ _) 1).trans HB4.out
    have ho5 : w5.heap[w3.heap.size]? = some (.cells #[.int .i64 x1, .string x2, .int .i64 x3, .string x4, .int .i64 x5, .bool x6, .slice a3 m c3] 76 (0, 0)) := by rw [hw5]; exact (MapKept.heap_alloc _ _).1
    have hne : w3.heap.size ≠ g := Nat.ne_of_gt (lt_of_heap Z2.out)
    obtain ⟨F1, F2, F3⟩ := fill3 hv5 (.slice a4 n c4) (.int .i64 pl) (.slice (some ⟨w3.heap.size, 0, none⟩) 1 1)
    obtain ⟨wf, hwf⟩ : ∃ wf, wf = ((w4.setCell ⟨g, 0, none⟩ (.slice a4 n c4)).setCell ⟨g, 1, none⟩ (.int .i64 pl)).setCell ⟨g, 2, none⟩ (.slice (some ⟨w3.heap.size, 0, none⟩) 1 1) := ⟨_, rfl⟩
    rw [← hwf] at F1 F2 F3 ⊢
    have hcom : IntsT wf (.slice a4 n c4) zs ∧ wf.heap[w3.heap.size]? = some (.cells (opCells ⟨x1, x2, x3, x4, x5, x6, ds⟩ (.slice a3 m c3)).toArray 76 (0, 0)) ∧ w.heap.size ≤ w3.heap.size ∧ wf.ownsRow w.heap.size 87 3 (.slice a3 m c3) m (ds.flatMap D3.cells) := by
      have hI : IntsT wf (.slice a4 n c4) zs := HT4.out.kept (keepT_but hv5 (by decide) F2)
      have hD := owns_below (owns_below (owns_below HD3.out (by rw [hw5]; exact keepT_alloc _ _ _ : KeepT 87 w3 w5)) (keepT_below hb5 (Nat.le_refl _))) (keepT_but hv5 (by decide) F2)
      have hO : wf.heap[w3.heap.size]? = some (.cells (opCells ⟨x1, x2, x3, x4, x5, x6, ds⟩ (.slice a3 m c3)).toArray 76 (0, 0)) := by rw [F2 _ hne, hb5.block _ (lt_of_heap ho5)]; exact ho5
      exact ⟨hI, hO, B3.out.size, hD⟩
    have hbf : Below w.heap.size w wf := F3 _ _ ((by rw [hw5]; exact B3.out.alloc B3.out.size _ : Below w.heap.size w w5).trans (hb5.mono (by rw [hw5]; exact Nat.le_trans B3.out.size (by simp)))) hgw
    have HF1 := hid F1
    have HCOM := hid hcom
    have HBF := hid hbf
    clear F1 F2 F3 hwf hcom hbf hv5
    go_wp2
    refine bodyPost_ret (ret_cell (k := 3) Tryz.results40 Tryz.isAgg34 Tryz.sizeOf34 _ _ g [.slice a4 n c4, .int .i64 pl, .slice (some ⟨w3.heap.size, 0, none⟩) 1 1] rfl rfl (fun j hj => ?_)) rfl ⟨a4, c4, _, .slice a3 m c3, rfl, HCOM.out, HBF.out⟩
    rcases (by simp at hj; omega : j = 0 ∨ j = 1 ∨ j = 2) with rfl | rfl | rfl <;> (simp only [World.cell?, HF1.out]; rfl)
end Go.Proofs.YtdnebclemngdcaaGreatDoor
namespace Go.Proofs.YtdnebclemngdcaaGreatDoor
open Go.RowKit Go.Maps
set_option maxRecDepth 100000
set_option linter.unusedSectionVars false
variable [Inhabited ComV] [DecidableEq D3] [Inhabited D3] [Inhabited Dd] [Inhabited Dn] [Inhabited OpV]

/-- A part in a row: its vector's slice, its place, the block of its op. -/
structure Rp where
  wa : Option Addr
  wc : Nat
  wn : List Int
  pl : Int
  g : Nat
def Rp.cells (r : Rp) : List Value := [.slice r.wa r.wn.length r.wc, .int .i64 r.pl, .slice (some ⟨r.g, 0, none⟩) 1 1]
theorem Rp.cells_length (r : Rp) : r.cells.length = 3 := rfl
theorem Rp.one (r : Rp) : ∀ v ∈ r.cells, v.oneCell' = true := fun v hv => by
  simp only [Rp.cells, List.mem_cons, List.not_mem_nil, or_false] at hv
  rcases hv with rfl | rfl | rfl <;> rfl
/-- The cells of an op. -/
def opC (o : OpV) (dv : Value) : List Value := [.int .i64 o.at_, .string o.key, .int .i64 o.kind, .string o.text, .int .i64 o.n, .bool o.rem, dv]
/-- The part that a raw one is, where block g holds the op E g. -/
def absR (E : Nat → OpV) (r : Rp) : ComV := ⟨r.wn, r.pl, [E r.g]⟩
/-- A row of parts, in a block from base on. -/
def RowR (w : World) (base : Nat) (v : Value) (rs : List Rp) : Prop := w.ownsRow base 34 3 v rs.length (rs.flatMap Rp.cells)
/-- Each op lies in its block. -/
def OpsM (w : World) (rs : List Rp) (E : Nat → OpV) (D : Nat → Value) : Prop := ∀ r ∈ rs, w.heap[r.g]? = some (.cells (opC (E r.g) (D r.g)).toArray 76 (0, 0))
theorem lt_of_heapQ {w : World} {b : Nat} {o : Obj} (h : w.heap[b]? = some o) : b < w.heap.size := (Array.getElem?_eq_some_iff.1 h).1
theorem OpsM.below {w w' : World} {rs : List Rp} {E : Nat → OpV} {D : Nat → Value} (h : OpsM w rs E D) (hb : Below w.heap.size w w') : OpsM w' rs E D := fun r hr => by
  rw [hb.block _ (lt_of_heapQ (h r hr))]; exact h r hr
theorem OpsM.sub {w : World} {rs rs' : List Rp} {E : Nat → OpV} {D : Nat → Value} (h : OpsM w rs E D) (hs : ∀ r ∈ rs', r ∈ rs) : OpsM w rs' E D := fun r hr => h r (hs r hr)
theorem flatR_length (rs : List Rp) : (rs.flatMap Rp.cells).length = rs.length * 3 := by
  induction rs with
  | nil => rfl
  | cons x r ih => rw [List.flatMap_cons, List.length_append, ih, List.length_cons]; show 3 + _ = _; omega
theorem flatR_get : ∀ (rs : List Rp) (k i : Nat) (r : Rp), rs[k]? = some r → i < 3 → (rs.flatMap Rp.cells)[k * 3 + i]? = r.cells[i]?
  | [], _, _, _, h, _ => by simp at h
  | x :: rs, 0, i, r, h, hi => by
    obtain rfl : x = r := by simpa using h
    rw [List.flatMap_cons, List.getElem?_append_left (by rw [Rp.cells_length]; omega)]
    simp
  | x :: rs, k + 1, i, r, h, hi => by
    rw [List.flatMap_cons, List.getElem?_append_right (by rw [Rp.cells_length]; omega), Rp.cells_length, show (k + 1) * 3 + i - 3 = k * 3 + i by omega]
    exact flatR_get rs k i r (by simpa using h) hi
theorem RowR.shape {w : World} {base : Nat} {v : Value} {rs : List Rp} (h : RowR w base v rs) : ∃ a c, v = .slice a rs.length c := by
  rcases h.2 with ⟨rfl, h0⟩ | ⟨g, cap, cur, rfl, _⟩
  · exact ⟨none, 0, by rw [h0]⟩
  · exact ⟨_, _, rfl⟩
/-- The cells of a part in its row. -/
theorem RowR.at {w : World} {base : Nat} {v : Value} {rs : List Rp} (h : RowR w base v rs) {k : Nat} {r : Rp} (hr : rs[k]? = some r) :
    ∃ b cap, v = .slice (some ⟨b, 0, none⟩) rs.length cap ∧ w.cell? ⟨b, k * 3, none⟩ = some (.slice r.wa r.wn.length r.wc) ∧ w.cell? ⟨b, k * 3 + 1, none⟩ = some (.int .i64 r.pl) ∧ w.cell? ⟨b, k * 3 + 2, none⟩ = some (.slice (some ⟨r.g, 0, none⟩) 1 1) := by
  have hk : k < rs.length := (List.getElem?_eq_some_iff.1 hr).1
  rcases h.2 with ⟨_, h0⟩ | ⟨b, cap, cur, hv, _, hh, hc, _, hs, ht⟩
  · omega
  · have cell : ∀ i, i < 3 → w.cell? ⟨b, k * 3 + i, none⟩ = r.cells[i]? := fun i hi => by
      rw [← flatR_get rs k i r hr hi, ← ht, List.getElem?_take, if_pos (by omega), Array.getElem?_toList]
      simp only [World.cell?, hh]
      rfl
    exact ⟨b, cap, hv, cell 0 (by omega), cell 1 (by omega), cell 2 (by omega)⟩
theorem RowR.nil (w : World) (base : Nat) : RowR w base (.slice none 0 0) [] := World.ownsRow_nil _ _ _ _
theorem owns_belowQ {w w' : World} {base e size n : Nat} {v : Value} {xs : List Value} (h : w.ownsRow base e size v n xs) (hb : Below w.heap.size w w') : w'.ownsRow base e size v n xs := by
  refine ⟨h.1, ?_⟩
  rcases h.2 with h0 | ⟨g, cap, cur, h1, h2, h3, h4⟩
  · exact .inl h0
  · exact .inr ⟨g, cap, cur, h1, h2, by rw [hb.block _ (lt_of_heapQ h3)]; exact h3, h4⟩
theorem RowR.below {w w' : World} {base : Nat} {v : Value} {rs : List Rp} (h : RowR w base v rs) (hb : Below w.heap.size w w') : RowR w' base v rs := owns_belowQ h hb
theorem RowR.snoc {w' : World} {base : Nat} {v : Value} {rs : List Rp} {r : Rp} (h : w'.ownsRow base 34 3 v (rs.length + 1) (rs.flatMap Rp.cells ++ r.cells)) : RowR w' base v (rs ++ [r]) := by
  unfold RowR
  rw [List.length_append, List.flatMap_append]
  simpa using h
/-- What is built in a call: a row of its own, the rest as it was. -/
structure RowInv (w : World) (v : Value) (rs : List Rp) (wr : World) : Prop where
  row : RowR wr w.heap.size v rs
  below : Below w.heap.size w wr
theorem RowInv.start (w : World) : RowInv w (.slice none 0 0) [] w := ⟨RowR.nil _ _, Below.refl _ _⟩
theorem RowInv.moved {w wr w' : World} {v : Value} {rs : List Rp} (h : RowInv w v rs wr) (hb : Below wr.heap.size wr w') : RowInv w v rs w' := ⟨h.row.below hb, h.below.trans (hb.mono h.below.size)⟩
theorem RowInv.step {w wr w' : World} {v v' : Value} {rs : List Rp} {r : Rp} (h : RowInv w v rs wr) (hg : wr.grownBy w' v.ownBlock) (hr : w'.ownsRow w.heap.size 34 3 v' (rs.length + 1) (rs.flatMap Rp.cells ++ r.cells)) : RowInv w v' (rs ++ [r]) w' where
  row := RowR.snoc hr
  below := h.below.trans ⟨hg.os, hg.tape, hg.output, hg.size, fun i hi => hg.block i (Nat.lt_of_lt_of_le hi h.below.size) fun e => by have := (h.row.lt i e.symm).1; omega⟩

/-- Which are kept, by their number and by what they are. -/
def keepL {α : Type} (p : Nat → α → Bool) : Nat → List α → List α
  | _, [] => []
  | i, a :: r => if p i a then a :: keepL p (i + 1) r else keepL p (i + 1) r
theorem keepL_cons {α : Type} (p : Nat → α → Bool) (i : Nat) (a : α) (r : List α) : keepL p i (a :: r) = if p i a then a :: keepL p (i + 1) r else keepL p (i + 1) r := rfl
theorem keepL_append {α : Type} (p : Nat → α → Bool) : ∀ (i : Nat) (a b : List α), keepL p i (a ++ b) = keepL p i a ++ keepL p (i + a.length) b
  | i, [], b => rfl
  | i, x :: a, b => by
    rw [List.cons_append, keepL_cons, keepL_cons, keepL_append p (i + 1) a b, List.length_cons, show i + 1 + a.length = i + (a.length + 1) by omega]
    split <;> rfl
theorem keepL_snoc {α : Type} (p : Nat → α → Bool) {l : List α} {k : Nat} {a : α} (h : l[k]? = some a) : keepL p 0 (l.take (k + 1)) = keepL p 0 (l.take k) ++ (if p k a then [a] else []) := by
  obtain ⟨hk, e⟩ := List.getElem?_eq_some_iff.1 h
  rw [List.take_succ_eq_append_getElem hk, keepL_append, List.length_take, e, show 0 + min k l.length = k by omega]
  rfl
theorem keepL_map {α β : Type} (p : Nat → β → Bool) (f : α → β) : ∀ (i : Nat) (l : List α), keepL p i (l.map f) = (keepL (fun i a => p i (f a)) i l).map f
  | _, [] => rfl
  | i, a :: r => by
    rw [List.map_cons, keepL_cons, keepL_cons, keepL_map p f (i + 1) r]
    split <;> rfl
theorem keepL_sub {α : Type} (p : Nat → α → Bool) : ∀ (i : Nat) (l : List α), (keepL p i l).Sublist l
  | _, [] => List.Sublist.refl _
  | i, a :: r => by
    rw [keepL_cons]
    split
    · exact (keepL_sub p (i + 1) r).cons_cons a
    · exact (keepL_sub p (i + 1) r).cons a
theorem Tryz.info34q : (Tryz.prog.info? 34).map (fun i => (i.zero, i.size, i.bytes)) = some (some (.agg #[.slice none 0 0, .int .i64 0, .slice none 0 0]), 3, 56) := by kernel_rfl
theorem cells_newQ (w : World) (t : TypeId) (cs : List Value) (b : Nat) (hb : b = w.heap.size) : ∀ j u, cs[j]? = some u → (w.alloc (.cells cs.toArray t)).cell? ((⟨b, 0, none⟩ : Addr).add j) = some u := fun j u hj => by
  subst hb
  rw [Addr.add_lit, Nat.zero_add, World.cell?_alloc_at _ _ _ _ rfl]
  simpa using hj
theorem some_of_lt {α : Type} {l : List α} {k : Nat} (h : k < l.length) : ∃ a, l[k]? = some a := ⟨l[k], List.getElem?_eq_getElem h⟩
end Go.Proofs.YtdnebclemngdcaaGreatDoor
namespace Go.Proofs.YtdnebclemngdcaaGreatDoor
open Go.RowKit Go.Maps Go.Sort
set_option maxRecDepth 100000
set_option linter.unusedSectionVars false
variable [Inhabited ComV] [DecidableEq D3] [Inhabited D3] [Inhabited Dd] [Inhabited Dn] [Inhabited OpV]

theorem IntsAt.some {w : World} {v : Value} {zs : List Int} (h : IntsAt w v zs) (h0 : 1 ≤ zs.length) : ∃ b o c, v = .slice (some ⟨b, o, none⟩) zs.length c ∧ ∀ t, t < zs.length → w.cell? ⟨b, o + t, none⟩ = some (.int .i64 (zs.getD t 0)) := by
  obtain ⟨ad, c, rfl, _, h⟩ := h
  rcases h with rfl | ⟨b, o, rfl, h⟩
  · simp at h0
  · exact ⟨b, o, c, rfl, h⟩
theorem hasPlace_yes (w : World) (ad : Option Addr) (n c : Nat) (p : Int) (h1 : 0 ≤ p) (h2 : p < n) :
    Calls Tryz.prog 137 #[.slice ad n c, .int .i64 p] w fun e w' => e = .returned (.bool true) ∧ w' = w := by
  have hb : decide (0 ≤ p) = true := decide_eq_true h1
  have hb2 : decide (p < (n : Int)) = true := decide_eq_true h2
  go_enter Tryz.func137, Tryz.ntmps137
  go_wp2
  go_ret
  exact ⟨rfl, rfl⟩
def aheadB (zs ys : List Int) (p q : Int) : Bool := decide (sum zs < sum ys) || (decide (sum zs = sum ys) && decide (p < q)) || (decide (sum zs = sum ys) && decide (p = q) && decide (zs.getD p.toNat 0 < ys.getD p.toNat 0))

set_option maxHeartbeats 4000000 in
theorem Ahead_ok (A : Nat → Addr) (w : World) (hE : E4 A w) (v u : Value) (p q : Int) (zs ys : List Int) (h1 : IntsAt w v zs) (h2 : IntsAt w u ys) (h0 : two zs ys = 0) (hp : 0 ≤ p ∧ p < zs.length ∧ 0 ≤ q ∧ q < zs.length) :
    Calls Tryz.prog 101 #[v, .int .i64 p, u, .int .i64 q] w fun e w' => e = .returned (.tuple #[.bool (aheadB zs ys p q), .nilIface]) ∧ ∃ k, w' = w.drewN k := by
  obtain ⟨hz, hy, hn⟩ := two_zero.1 h0
  have hz' := chk_zero.1 hz
  have K1 := hid (checkPair_ok A w hE v u zs ys h1 h2 h0)
  have K4 := hid (weigh_any w v zs h1 hz)
  have K5 := hid (weigh_any w u ys h2 hy)
  obtain ⟨b1, o1, c1, rfl, g1⟩ := h1.some hz'.1
  obtain ⟨b2, o2, c2, rfl, g2⟩ := h2.some (by omega)
  have K2 := hid (hasPlace_yes w (some ⟨b1, o1, none⟩) zs.length c1 p hp.1 hp.2.1)
  have K3 := hid (hasPlace_yes w (some ⟨b2, o2, none⟩) ys.length c2 q hp.2.2.1 (by omega))
  obtain ⟨pn, rfl⟩ := Int.eq_ofNat_of_zero_le hp.1
  have e1 := g1 pn (by omega)
  have e2 := g2 pn (by omega)
  have hi1 : (pn : Int) < (zs.length : Int) := by omega
  have hi2 : (pn : Int) < (ys.length : Int) := by omega
  have hpn : pn < zs.length := by omega
  have hpn2 : pn < ys.length := by omega
  obtain ⟨r, hr⟩ : ∃ r, r = aheadB zs ys pn q := ⟨_, rfl⟩
  rw [← hr]
  unfold aheadB at hr
  rw [Int.toNat_natCast] at hr
  obtain ⟨x, hx⟩ : ∃ x, x = zs.getD pn 0 := ⟨_, rfl⟩
  obtain ⟨y, hyy⟩ : ∃ y, y = ys.getD pn 0 := ⟨_, rfl⟩
  obtain ⟨n1, hn1⟩ : ∃ k, k = zs.length := ⟨_, rfl⟩
  obtain ⟨n2, hn2⟩ : ∃ k, k = ys.length := ⟨_, rfl⟩
  rw [← hx] at e1 hr
  rw [← hyy] at e2 hr
  rw [← hn1] at hi1 hpn K1 K2 K4 ⊢
  rw [← hn2] at hi2 hpn2 K1 K3 K5 ⊢
  generalize sum zs = s1 at hr K4
  generalize sum ys = s2 at hr K5
  clear h0 hz hy hn hz' h1 h2 g1 g2 hx hyy hn1 hn2 hp
  by_cases hs : s1 = s2
  · have hsb : (s1 != s2) = false := by rw [hs]; simp
    by_cases hq : (pn : Int) = q
    · have hqb : ((pn : Int) != q) = false := by rw [hq]; simp
      have HR : Hid (r = decide (x < y)) := by show r = _; rw [hr, hs, hq]; simp
      clear hr hs hq
      go_enter Tryz.func101, Tryz.ntmps101
      go_wp2_with fail
      refine K1.out.mono ?_
      rintro e w' ⟨rfl, rfl⟩
      go_wp2_with fail
      refine K2.out.mono ?_
      rintro e w' ⟨rfl, rfl⟩
      go_wp2_with fail
      refine K3.out.mono ?_
      rintro e w' ⟨rfl, rfl⟩
      go_wp2_with fail
      refine K4.out.mono ?_
      rintro e w' ⟨rfl, rfl⟩
      go_wp2_with fail
      refine K5.out.mono ?_
      rintro e w' ⟨rfl, rfl⟩
      go_wp2
      go_quiet (fail)
      go_wp2
      go_ret2
      exact ⟨by rw [HR.out]; rfl, _, rfl⟩
    · have hqb : ((pn : Int) != q) = true := by rw [bne_iff_ne]; exact hq
      have HR : Hid (r = decide ((pn : Int) < q)) := by show r = _; rw [hr, hs]; simp [hq]
      clear hr hs hq
      go_enter Tryz.func101, Tryz.ntmps101
      go_wp2_with fail
      refine K1.out.mono ?_
      rintro e w' ⟨rfl, rfl⟩
      go_wp2_with fail
      refine K2.out.mono ?_
      rintro e w' ⟨rfl, rfl⟩
      go_wp2_with fail
      refine K3.out.mono ?_
      rintro e w' ⟨rfl, rfl⟩
      go_wp2_with fail
      refine K4.out.mono ?_
      rintro e w' ⟨rfl, rfl⟩
      go_wp2_with fail
      refine K5.out.mono ?_
      rintro e w' ⟨rfl, rfl⟩
      go_wp2
      go_ret2
      exact ⟨by rw [HR.out]; rfl, 0, rfl⟩
  · have hsb : (s1 != s2) = true := by rw [bne_iff_ne]; exact hs
    have HR : Hid (r = decide (s1 < s2)) := by show r = _; rw [hr]; simp [hs]
    clear hr hs
    go_enter Tryz.func101, Tryz.ntmps101
    go_wp2_with fail
    refine K1.out.mono ?_
    rintro e w' ⟨rfl, rfl⟩
    go_wp2_with fail
    refine K2.out.mono ?_
    rintro e w' ⟨rfl, rfl⟩
    go_wp2_with fail
    refine K3.out.mono ?_
    rintro e w' ⟨rfl, rfl⟩
    go_wp2_with fail
    refine K4.out.mono ?_
    rintro e w' ⟨rfl, rfl⟩
    go_wp2_with fail
    refine K5.out.mono ?_
    rintro e w' ⟨rfl, rfl⟩
    go_wp2
    go_ret2
    exact ⟨by rw [HR.out]; rfl, 0, rfl⟩

/-- Which part counts first. -/
def cmpR (E : Nat → OpV) (x y : Rp) : Int := if aheadB x.wn y.wn x.pl y.pl = true then -1 else if aheadB y.wn x.wn y.pl x.pl = true then 1 else cmpI (E x.g).at_ (E y.g).at_
theorem grown2 (w : World) (a b : Obj) (q : Nat) : ((w.alloc a).alloc b).drewN q = grow (w.drewN q) (#[a] ++ #[b]) := by
  simp only [alloc_eq_grow, grow_grow]; rfl
structure CmpFit (w : World) (E : Nat → OpV) (nb : Nat) (r : Rp) : Prop where
  ints : IntsAt w (.slice r.wa r.wn.length r.wc) r.wn
  chk : chk r.wn = 0
  len : r.wn.length = nb
  lo : 0 ≤ r.pl
  hi : r.pl < r.wn.length
  at_ : w.cell? ⟨r.g, 0, none⟩ = some (.int .i64 (E r.g).at_)
set_option maxHeartbeats 4000000 in
theorem compareParts_ok (A : Nat → Addr) (w : World) (hE : E4 A w) (h12 : 12 ≤ w.heap.size) (E : Nat → OpV) (nb : Nat) (x y : Rp) (hx : CmpFit w E nb x) (hy : CmpFit w E nb y) :
    Calls Tryz.prog 70 #[.agg x.cells.toArray, .agg y.cells.toArray] w fun e w' => e = .returned (.int .i64 (cmpR E x y)) ∧ ∃ q os', w' = grow (w.drewN q) os' := by
  obtain ⟨xwa, xwc, xwn, xpl, xg⟩ := x
  obtain ⟨ywa, ywc, ywn, ypl, yg⟩ := y
  obtain ⟨w1, hw1⟩ : ∃ w1, w1 = w.alloc (.cells #[.slice xwa xwn.length xwc, .int .i64 xpl, .slice (some ⟨xg, 0, none⟩) 1 1] 34) := ⟨_, rfl⟩
  obtain ⟨w2, hw2⟩ : ∃ w2, w2 = w1.alloc (.cells #[.slice ywa ywn.length ywc, .int .i64 ypl, .slice (some ⟨yg, 0, none⟩) 1 1] 34) := ⟨_, rfl⟩
  have s1 : w1.heap.size = w.heap.size + 1 := by rw [hw1]; simp
  have hB : Below w.heap.size w w2 := by rw [hw2, hw1]; exact below2 w _ _
  have x1 : w2.heap[w.heap.size]? = some (.cells #[.slice xwa xwn.length xwc, .int .i64 xpl, .slice (some ⟨xg, 0, none⟩) 1 1] 34 (0, 0)) := by rw [hw2, (MapKept.heap_alloc _ _).2 _ (by omega), hw1]; exact (MapKept.heap_alloc _ _).1
  have x2 : w2.heap[w.heap.size + 1]? = some (.cells #[.slice ywa ywn.length ywc, .int .i64 ypl, .slice (some ⟨yg, 0, none⟩) 1 1] 34 (0, 0)) := by rw [hw2, ← s1]; exact (MapKept.heap_alloc _ _).1
  have hI1 := hx.ints.mono hB (Nat.le_refl _)
  have hI2 := hy.ints.mono hB (Nat.le_refl _)
  have hl : xwn.length = ywn.length := hx.len.trans hy.len.symm
  have hlx := hx.lo
  have hhx := hx.hi
  have hly := hy.lo
  have hhy := hy.hi
  simp only at hI1 hI2 hlx hhx hly hhy
  have hE2 := hE.below hB h12
  have K1 : ∀ q, Calls Tryz.prog 101 #[.slice xwa xwn.length xwc, .int .i64 xpl, .slice ywa ywn.length ywc, .int .i64 ypl] (w2.drewN q) fun e w' => e = .returned (.tuple #[.bool (aheadB xwn ywn xpl ypl), .nilIface]) ∧ ∃ k, w' = (w2.drewN q).drewN k := fun q => Ahead_ok A (w2.drewN q) (hE2.below (below_draws (Below.refl _ _) q) (by have := hB.size; omega)) _ _ xpl ypl xwn ywn (hI1.mono (below_draws (Below.refl _ _) q) (Nat.le_refl _)) (hI2.mono (below_draws (Below.refl _ _) q) (Nat.le_refl _)) (two_zero.2 ⟨hx.chk, hy.chk, hl⟩) ⟨hlx, hhx, hly, by omega⟩
  have K2 : ∀ q, Calls Tryz.prog 101 #[.slice ywa ywn.length ywc, .int .i64 ypl, .slice xwa xwn.length xwc, .int .i64 xpl] (w2.drewN q) fun e w' => e = .returned (.tuple #[.bool (aheadB ywn xwn ypl xpl), .nilIface]) ∧ ∃ k, w' = (w2.drewN q).drewN k := fun q => Ahead_ok A (w2.drewN q) (hE2.below (below_draws (Below.refl _ _) q) (by have := hB.size; omega)) _ _ ypl xpl ywn xwn (hI2.mono (below_draws (Below.refl _ _) q) (Nat.le_refl _)) (hI1.mono (below_draws (Below.refl _ _) q) (Nat.le_refl _)) (two_zero.2 ⟨hy.chk, hx.chk, hl.symm⟩) ⟨hly, hhy, hlx, by omega⟩
  have K102 := compare_any
  have c0 : w2.cell? ⟨w.heap.size, 0, none⟩ = some (.slice xwa xwn.length xwc) := by simp only [World.cell?, x1]; rfl
  have c1 : w2.cell? ⟨w.heap.size, 1, none⟩ = some (.int .i64 xpl) := by simp only [World.cell?, x1]; rfl
  have c2 : w2.cell? ⟨w.heap.size, 2, none⟩ = some (.slice (some ⟨xg, 0, none⟩) 1 1) := by simp only [World.cell?, x1]; rfl
  have d0 : w2.cell? ⟨w.heap.size + 1, 0, none⟩ = some (.slice ywa ywn.length ywc) := by simp only [World.cell?, x2]; rfl
  have d1 : w2.cell? ⟨w.heap.size + 1, 1, none⟩ = some (.int .i64 ypl) := by simp only [World.cell?, x2]; rfl
  have d2 : w2.cell? ⟨w.heap.size + 1, 2, none⟩ = some (.slice (some ⟨yg, 0, none⟩) 1 1) := by simp only [World.cell?, x2]; rfl
  have f1 : w2.cell? ⟨xg, 0, none⟩ = some (.int .i64 (E xg).at_) := by rw [hB.cell (lt_of_cell hx.at_)]; exact hx.at_
  have f2 : w2.cell? ⟨yg, 0, none⟩ = some (.int .i64 (E yg).at_) := by rw [hB.cell (lt_of_cell hy.at_)]; exact hy.at_
  show Calls Tryz.prog 70 #[.agg #[.slice xwa xwn.length xwc, .int .i64 xpl, .slice (some ⟨xg, 0, none⟩) 1 1], .agg #[.slice ywa ywn.length ywc, .int .i64 ypl, .slice (some ⟨yg, 0, none⟩) 1 1]] w _
  obtain ⟨r, hr⟩ : ∃ r, r = cmpR E ⟨xwa, xwc, xwn, xpl, xg⟩ ⟨ywa, ywc, ywn, ypl, yg⟩ := ⟨_, rfl⟩
  rw [← hr]
  unfold cmpR at hr
  simp only at hr
  obtain ⟨B1, hB1⟩ : ∃ B1, B1 = aheadB xwn ywn xpl ypl := ⟨_, rfl⟩
  obtain ⟨B2, hB2⟩ : ∃ B2, B2 = aheadB ywn xwn ypl xpl := ⟨_, rfl⟩
  rw [← hB1] at K1 hr
  rw [← hB2] at K2 hr
  have HR := hid hr
  have fin : ∀ q, ∃ q' os', w2.drewN q = grow (w.drewN q') os' := fun q => ⟨q, _, by rw [hw2, hw1]; exact grown2 _ _ _ _⟩
  have FIN := hid fin
  have HK1 := hid K1
  have HK2 := hid K2
  obtain ⟨n1, hn1⟩ : ∃ n1, n1 = xwn.length := ⟨_, rfl⟩
  obtain ⟨n2, hn2⟩ : ∃ n2, n2 = ywn.length := ⟨_, rfl⟩
  rw [← hn1] at hw1 c0 HK1 HK2 ⊢
  rw [← hn2] at hw2 d0 HK1 HK2 ⊢
  obtain ⟨za, hza⟩ : ∃ za, za = (E xg).at_ := ⟨_, rfl⟩
  obtain ⟨zb, hzb⟩ : ∃ zb, zb = (E yg).at_ := ⟨_, rfl⟩
  rw [← hza] at f1 HR
  rw [← hzb] at f2 HR
  obtain ⟨bx, hbx⟩ : ∃ bx, bx = w.heap.size := ⟨_, rfl⟩
  obtain ⟨bY, hby⟩ : ∃ bY, bY = w.heap.size + 1 := ⟨_, rfl⟩
  rw [← hbx] at c0 c1 c2
  rw [← hby] at d0 d1 d2
  clear hx hy hI1 hI2 hl hlx hhx hly hhy hE2 hE K1 K2 hr hB1 hB2 fin hn1 hn2 hza hzb x1 x2 s1 hB
  go_enter Tryz.func70, Tryz.ntmps70
  go_upto_region 1 with (fail)
  rw [← hw1, ← hw2, ← hby, ← hbx]
  clear hw1 hw2 hbx hby
  go_wp2_with fail
  refine (HK1.out 0).mono ?_
  rintro e wa ⟨rfl, ka, hwa⟩
  cases B1 with
  | true =>
    have F := FIN.out (0 + ka)
    rw [← World.drewN_drewN, ← hwa] at F
    have HF := hid F
    clear F hwa
    go_wp2
    go_ret
    exact ⟨ret_int (by rw [HR.out, if_pos trivial]), HF.out⟩
  | false =>
    have hwa' : wa = w2.drewN (0 + ka) := by rw [hwa, World.drewN_drewN]
    have HK2' := hid (HK2.out (0 + ka))
    have FIN2 : Hid (∀ q, ∃ q' os', (wa.drewN q) = grow (w.drewN q') os') := fun q => by
      rw [hwa', World.drewN_drewN]; exact FIN.out _
    rw [← hwa'] at HK2'
    have e0 : wa.cell? ⟨bx, 0, none⟩ = some (.slice xwa n1 xwc) := by rw [hwa']; exact c0
    have e1 : wa.cell? ⟨bx, 1, none⟩ = some (.int .i64 xpl) := by rw [hwa']; exact c1
    have e2 : wa.cell? ⟨bx, 2, none⟩ = some (.slice (some ⟨xg, 0, none⟩) 1 1) := by rw [hwa']; exact c2
    have g0 : wa.cell? ⟨bY, 0, none⟩ = some (.slice ywa n2 ywc) := by rw [hwa']; exact d0
    have g1 : wa.cell? ⟨bY, 1, none⟩ = some (.int .i64 ypl) := by rw [hwa']; exact d1
    have g2 : wa.cell? ⟨bY, 2, none⟩ = some (.slice (some ⟨yg, 0, none⟩) 1 1) := by rw [hwa']; exact d2
    have l1 : wa.cell? ⟨xg, 0, none⟩ = some (.int .i64 za) := by rw [hwa']; exact f1
    have l2 : wa.cell? ⟨yg, 0, none⟩ = some (.int .i64 zb) := by rw [hwa']; exact f2
    clear hwa hwa' c0 c1 c2 d0 d1 d2 f1 f2 HK1 HK2 FIN
    go_wp2_with fail
    refine HK2'.out.mono ?_
    rintro e wb ⟨rfl, kb, hwb⟩
    have F := FIN2.out kb
    rw [← hwb] at F
    have HF := hid F
    cases B2 with
    | true =>
      clear F hwb
      go_wp2
      go_ret
      exact ⟨ret_int (by rw [HR.out, if_neg (by decide), if_pos trivial]), HF.out⟩
    | false =>
      have m2 : wb.cell? ⟨bx, 2, none⟩ = some (.slice (some ⟨xg, 0, none⟩) 1 1) := by rw [hwb]; exact e2
      have p2 : wb.cell? ⟨bY, 2, none⟩ = some (.slice (some ⟨yg, 0, none⟩) 1 1) := by rw [hwb]; exact g2
      have t1 : wb.cell? ⟨xg, 0, none⟩ = some (.int .i64 za) := by rw [hwb]; exact l1
      have t2 : wb.cell? ⟨yg, 0, none⟩ = some (.int .i64 zb) := by rw [hwb]; exact l2
      have F3 : Hid (∃ q os', wb.drew = grow (w.drewN q) os') := by
        have := FIN2.out (kb + 1)
        rw [← World.drewN_drewN, ← hwb] at this
        exact this
      clear F hwb e0 e1 e2 g0 g1 g2 l1 l2
      go_wp2_with fail
      go_region_held (fun w' => w'.cell? ⟨bx, 2, none⟩ = some (.slice (some ⟨xg, 0, none⟩) 1 1) ∧ w'.cell? ⟨bY, 2, none⟩ = some (.slice (some ⟨yg, 0, none⟩) 1 1) ∧ w'.cell? ⟨xg, 0, none⟩ = some (.int .i64 za) ∧ w'.cell? ⟨yg, 0, none⟩ = some (.int .i64 zb)) (go_keep) (first | (go_at_call 102; refine (K102 _ _ _).mono ?_; rintro e w' ⟨rfl, rfl⟩))
      go_wp2
      go_ret
      exact ⟨ret_int (by rw [HR.out, if_neg (by decide), if_neg (by decide)]), F3.out⟩
end Go.Proofs.YtdnebclemngdcaaGreatDoor
namespace Go.Proofs.YtdnebclemngdcaaGreatDoor
open Go.RowKit Go.Maps
set_option maxRecDepth 100000
set_option linter.unusedSectionVars false
variable [Inhabited ComV] [DecidableEq D3] [Inhabited D3] [Inhabited Dd] [Inhabited Dn] [Inhabited OpV]

/-- The number of the last register among the first so many ops. -/
def lastAt (E : Nat → OpV) (rs : List Rp) : Nat → Int
  | 0 => -1
  | k + 1 => match rs[k]? with
    | some r => if (E r.g).kind = 1 then (k : Int) else lastAt E rs k
    | none => lastAt E rs k
theorem lastAt_succ (E : Nat → OpV) (rs : List Rp) (k : Nat) (r : Rp) (h : rs[k]? = some r) : lastAt E rs (k + 1) = if (E r.g).kind = 1 then (k : Int) else lastAt E rs k := by
  show (match rs[k]? with | some r => if (E r.g).kind = 1 then (k : Int) else lastAt E rs k | none => lastAt E rs k) = _
  rw [h]
def regB (E : Nat → OpV) (rs : List Rp) (i : Nat) (r : Rp) : Bool := decide (i = 0) || (decide ((i : Int) = lastAt E rs rs.length) || !decide ((E r.g).kind = 1))
def RowRet (rs : List Rp) (w : World) (e : Ending) (w' : World) : Prop := ∃ v, e = .returned v ∧ RowR w' w.heap.size v rs ∧ Below w.heap.size w w'
set_option maxHeartbeats 4000000 in
theorem lastRegister_ok (w : World) (base : Nat) (v : Value) (rs : List Rp) (E : Nat → OpV) (D : Nat → Value) (hv : RowR w base v rs) (hO : OpsM w rs E D) (hl : rs.length ≤ 1000) :
    Calls Tryz.prog 73 #[v] w fun e w' => RowRet (keepL (regB E rs) 0 rs) w e w' := by
  obtain ⟨i28, hi28, hy0, hy1, hy2⟩ := info_parts Tryz.info34q
  obtain ⟨L, hL⟩ : ∃ L, L = rs.length := ⟨_, rfl⟩
  obtain ⟨va, vc, hve⟩ := hv.shape
  rw [← hL] at hve
  have HV := hid hv
  have HO := hid hO
  have HL := hid hL
  have HVE := hid hve
  rw [hve]
  rw [← hL] at hl
  clear hv hO hL hve
  go_enter Tryz.func73, Tryz.ntmps73
  go_wp2_with fail
  go_loopw [3, 11] (fun last i wr => ∃ (k : Nat), k ≤ L ∧ i = .int .i64 k ∧ last = .int .i64 (lastAt E rs k) ∧ Hid (Below w.heap.size w wr)) (fun _ i _ => L - (intOf i).toNat)
  case atStart => exact ⟨0, Nat.zero_le _, rfl, rfl, Below.refl _ _⟩
  case round =>
    obtain ⟨k, hk, rfl, rfl, HB⟩ := hrel
    by_cases hlt : k < L
    · obtain ⟨r, hr⟩ := some_of_lt (l := rs) (k := k) (by rw [← HL.out]; exact hlt)
      obtain ⟨b, cap, e1, q0, q1, q2⟩ := HV.out.at hr
      rw [HVE.out] at e1
      injection e1 with e1 e2 e3
      clear e2
      subst e1 e3
      have ho := HO.out r (List.mem_of_getElem? hr)
      have up : ∀ {a : Addr} {v : Value}, w.cell? a = some v → wr.cell? a = some v := fun {a v} h => by rw [HB.out.cell (lt_of_cell h)]; exact h
      have r0 := up q0
      have r1 := up q1
      have r2 := up q2
      have r3 := up (show w.cell? ⟨r.g, 2, none⟩ = some (.int .i64 (E r.g).kind) by simp only [World.cell?, ho]; rfl)
      have hs := lastAt_succ E rs k r hr
      have hne : r.g ≠ wr.heap.size := by have : r.g < wr.heap.size := lt_of_cell r3; omega
      have hglt : r.g < wr.heap.size := lt_of_cell r3
      have hi1 : (k : Int) < (L : Int) := by omega
      obtain ⟨ki, hki⟩ : ∃ ki, ki = (E r.g).kind := ⟨_, rfl⟩
      rw [← hki] at r3 hs
      obtain ⟨g, hg⟩ : ∃ g, g = r.g := ⟨_, rfl⟩
      rw [← hg] at r2 r3 hne hglt
      obtain ⟨n1, hn1⟩ : ∃ n1, n1 = r.wn.length := ⟨_, rfl⟩
      rw [← hn1] at r0
      have HS := hid hs
      clear q0 q1 q2 up ho hr hki hg hn1 hs
      by_cases h1 : ki = 1
      · have hb1 : (ki == 1) = true := by simp [h1]
        have HK := hid h1
        clear h1
        go_wp2_with fail
        refine ⟨⟨k + 1, by omega, by go_num, ?_, ?_⟩, by simp [intOf]; omega⟩
        · rw [HS.out, if_pos HK.out]
        · exact HB.out.alloc HB.out.size _
      · have hb1 : (ki == 1) = false := by simp [h1]
        have HK := hid h1
        clear h1
        go_wp2_with fail
        refine ⟨⟨k + 1, by omega, by go_num, ?_, ?_⟩, by simp [intOf]; omega⟩
        · rw [HS.out, if_neg HK.out]
        · exact HB.out.alloc HB.out.size _
    · obtain rfl : k = L := by omega
      have hi2 : ¬ (k : Int) < (k : Int) := by omega
      have HW := hid HB.out
      clear HB hlt
      obtain ⟨lx, hlx⟩ : ∃ lx, lx = lastAt E rs k := ⟨_, rfl⟩
      rw [← hlx]
      have HX := hid hlx
      obtain ⟨w1, hw1⟩ : ∃ w1, w1 = wr := ⟨_, rfl⟩
      subst hw1
      clear hlx
      go_wp2_with fail
      go_loopw [6, 26] (fun kv i wr => ∃ (j : Nat), j ≤ k ∧ i = .int .i64 j ∧ Hid (RowInv w kv (keepL (regB E rs) 0 (rs.take j)) wr)) (fun _ i _ => k - (intOf i).toNat)
      case atStart => exact ⟨0, Nat.zero_le _, rfl, ⟨RowR.nil _ _, HW.out⟩⟩
      case round =>
        obtain ⟨j, hj, rfl, HI⟩ := hrel
        by_cases hlt : j < k
        · obtain ⟨r, hr⟩ := some_of_lt (l := rs) (k := j) (by rw [← HL.out]; exact hlt)
          obtain ⟨b, cap, e1, q0, q1, q2⟩ := HV.out.at hr
          rw [HVE.out] at e1
          injection e1 with e1 e2 e3
          clear e2
          subst e1 e3
          have ho := HO.out r (List.mem_of_getElem? hr)
          have up : ∀ {a : Addr} {v : Value}, w.cell? a = some v → wr.cell? a = some v := fun {a v} h => by rw [HI.out.below.cell (lt_of_cell h)]; exact h
          have r0 := up q0
          have r1 := up q1
          have r2 := up q2
          have r3 := up (show w.cell? ⟨r.g, 2, none⟩ = some (.int .i64 (E r.g).kind) by simp only [World.cell?, ho]; rfl)
          have hs := keepL_snoc (regB E rs) hr
          have hne : r.g ≠ wr.heap.size := by have : r.g < wr.heap.size := lt_of_cell r3; omega
          have hglt : r.g < wr.heap.size := lt_of_cell r3
          have hi1 : (j : Int) < (k : Int) := by omega
          obtain ⟨bb, hbb⟩ : ∃ bb, bb = regB E rs j r := ⟨_, rfl⟩
          rw [← hbb] at hs
          unfold regB at hbb
          rw [← HL.out, ← HX.out] at hbb
          obtain ⟨ki, hki⟩ : ∃ ki, ki = (E r.g).kind := ⟨_, rfl⟩
          rw [← hki] at r3 hbb
          have hrow := HI.out.row
          obtain ⟨m, hm⟩ : ∃ m, m = (keepL (regB E rs) 0 (rs.take j)).length := ⟨_, rfl⟩
          have hmk : m ≤ j := by rw [hm]; exact Nat.le_trans (keepL_sub _ _ _).length_le (by rw [List.length_take]; omega)
          unfold RowR at hrow
          rw [← hm] at hrow
          obtain ⟨va2, vc2, hve2⟩ := HI.out.row.shape
          rw [← hm] at hve2
          subst hve2
          have hbs := HI.out.below.size
          have HS := hid hs
          have HM := hid hm
          have HI2 := hid (HI.out.moved (below_alloc wr (.cells #[.slice r.wa r.wn.length r.wc, .int .i64 r.pl, .slice (some ⟨r.g, 0, none⟩) 1 1] 34)))
          have hrow2 := hid (hrow.alloc (.cells #[.slice r.wa r.wn.length r.wc, .int .i64 r.pl, .slice (some ⟨r.g, 0, none⟩) 1 1] 34))
          have b1 : ((j : Int) == 0) = decide (j = 0) := by rw [Bool.eq_iff_iff]; simp
          have b2 : ((j : Int) == lx) = decide ((j : Int) = lx) := by rw [Bool.eq_iff_iff]; simp
          have b3 : (ki != 1) = !decide (ki = 1) := by rw [Bool.eq_iff_iff]; simp
          obtain ⟨B1, hB1⟩ : ∃ B1, B1 = decide (j = 0) := ⟨_, rfl⟩
          obtain ⟨B2, hB2⟩ : ∃ B2, B2 = decide ((j : Int) = lx) := ⟨_, rfl⟩
          obtain ⟨B3, hB3⟩ : ∃ B3, B3 = !decide (ki = 1) := ⟨_, rfl⟩
          rw [← hB1] at b1 hbb
          rw [← hB2] at b2 hbb
          rw [← hB3] at b3 hbb
          have HBB := hid hbb
          obtain ⟨wa, wc, wn, pl, g⟩ := r
          simp only at r0 r1 r2 r3 hne hglt HI2 hrow2
          obtain ⟨n1, hn1⟩ : ∃ n1, n1 = wn.length := ⟨_, rfl⟩
          rw [← hn1] at r0 HI2 hrow2
          have HN1 := hid hn1
          clear q0 q1 q2 up ho hr hki hs hm HI hrow hB1 hB2 hB3 hbb hn1
          have fin0 : bb = false → ∀ W : World, RowInv w (.slice va2 m vc2) (keepL (regB E rs) 0 (rs.take j)) W → RowInv w (.slice va2 m vc2) (keepL (regB E rs) 0 (rs.take (j + 1))) W := fun h W hW => by
            rw [HS.out, h]; simpa using hW
          have FIN0 := hid fin0
          have fin1 : bb = true → ∀ (W W' : World) (v' : Value), RowInv w (.slice va2 m vc2) (keepL (regB E rs) 0 (rs.take j)) W → W.grownBy W' (Value.slice va2 m vc2).ownBlock → W'.ownsRow w.heap.size 34 3 v' (m + 1) ((keepL (regB E rs) 0 (rs.take j)).flatMap Rp.cells ++ [.slice wa n1 wc, .int .i64 pl, .slice (some ⟨g, 0, none⟩) 1 1]) → RowInv w v' (keepL (regB E rs) 0 (rs.take (j + 1))) W' := fun h W W' v' hW hg ho => by
            rw [HS.out, h, if_pos rfl]
            refine hW.step hg ?_
            rw [← HM.out]
            have : Rp.cells ⟨wa, wc, wn, pl, g⟩ = [.slice wa n1 wc, .int .i64 pl, .slice (some ⟨g, 0, none⟩) 1 1] := by rw [HN1.out]; rfl
            rw [this]
            exact ho
          have FIN1 := hid fin1
          have HONE : Hid (∀ v ∈ [Value.slice wa n1 wc, .int .i64 pl, .slice (some ⟨g, 0, none⟩) 1 1], v.oneCell' = true) := by
            rw [HN1.out]
            exact Rp.one ⟨wa, wc, wn, pl, g⟩
          clear fin0 fin1
          cases B1 with
          | true =>
            go_wp2_with (at_builtin; refine wpList_append_own _ rfl _ _ 22 rfl w.heap.size 34 i28 _ 3 56 Tryz.underlying22 hi28 hy0 hy1 hy2 rfl (by decide) _ _ _ rfl (hrow2.out.alloc _) ⟨wr.heap.size + 1, 0, none⟩ 1 1 [.slice wa n1 wc, .int .i64 pl, .slice (some ⟨g, 0, none⟩) 1 1] rfl rfl (cells_newQ _ _ _ _ (by simp)) ?ho1 ?ho2 ?ho3 ?ho4 ?_; (case ho1 => exact HONE.out); (case ho2 => unfold maxLen; omega); (case ho3 => omega); (case ho4 => simp; omega); intro v9 w9 hown9 hgr9 _; have G9 := hid hgr9; have O9 := hid hown9; clear hown9 hgr9)
            refine ⟨⟨j + 1, by omega, by go_num, ?_⟩, by simp [intOf]; omega⟩
            exact FIN1.out HBB.out _ _ _ (HI2.out.moved (below_alloc _ _)) G9.out O9.out
          | false =>
            cases B2 with
            | true =>
              go_wp2_with (at_builtin; refine wpList_append_own _ rfl _ _ 22 rfl w.heap.size 34 i28 _ 3 56 Tryz.underlying22 hi28 hy0 hy1 hy2 rfl (by decide) _ _ _ rfl (hrow2.out.alloc _) ⟨wr.heap.size + 1, 0, none⟩ 1 1 [.slice wa n1 wc, .int .i64 pl, .slice (some ⟨g, 0, none⟩) 1 1] rfl rfl (cells_newQ _ _ _ _ (by simp)) ?ho1 ?ho2 ?ho3 ?ho4 ?_; (case ho1 => exact HONE.out); (case ho2 => unfold maxLen; omega); (case ho3 => omega); (case ho4 => simp; omega); intro v9 w9 hown9 hgr9 _; have G9 := hid hgr9; have O9 := hid hown9; clear hown9 hgr9)
              refine ⟨⟨j + 1, by omega, by go_num, ?_⟩, by simp [intOf]; omega⟩
              exact FIN1.out HBB.out _ _ _ (HI2.out.moved (below_alloc _ _)) G9.out O9.out
            | false =>
              cases B3 with
              | true =>
                go_wp2_with (at_builtin; refine wpList_append_own _ rfl _ _ 22 rfl w.heap.size 34 i28 _ 3 56 Tryz.underlying22 hi28 hy0 hy1 hy2 rfl (by decide) _ _ _ rfl (hrow2.out.alloc _) ⟨wr.heap.size + 1, 0, none⟩ 1 1 [.slice wa n1 wc, .int .i64 pl, .slice (some ⟨g, 0, none⟩) 1 1] rfl rfl (cells_newQ _ _ _ _ (by simp)) ?ho1 ?ho2 ?ho3 ?ho4 ?_; (case ho1 => exact HONE.out); (case ho2 => unfold maxLen; omega); (case ho3 => omega); (case ho4 => simp; omega); intro v9 w9 hown9 hgr9 _; have G9 := hid hgr9; have O9 := hid hown9; clear hown9 hgr9)
                refine ⟨⟨j + 1, by omega, by go_num, ?_⟩, by simp [intOf]; omega⟩
                exact FIN1.out HBB.out _ _ _ (HI2.out.moved (below_alloc _ _)) G9.out O9.out
              | false =>
                go_wp2_with fail
                refine ⟨⟨j + 1, by omega, by go_num, ?_⟩, by simp [intOf]; omega⟩
                exact FIN0.out HBB.out _ HI2.out
        · obtain rfl : j = k := by omega
          have hi3 : ¬ (j : Int) < (j : Int) := by omega
          have hI := HI.out
          rw [List.take_of_length_le (by rw [← HL.out]; exact Nat.le_refl _)] at hI
          have H := hid hI
          clear hI HI
          go_wp2
          go_ret
          exact ⟨_, rfl, H.out.row, H.out.below⟩
end Go.Proofs.YtdnebclemngdcaaGreatDoor
namespace Go.Proofs.YtdnebclemngdcaaGreatDoor
open Go.RowKit Go.Maps
set_option maxRecDepth 100000
set_option linter.unusedSectionVars false
variable [Inhabited ComV] [DecidableEq D3] [Inhabited D3] [Inhabited Dd] [Inhabited Dn] [Inhabited OpV]

def sumB (n : Int) : Bool := decide (-1099511627776 ≤ n) && decide (n ≤ 1099511627776)
theorem isSum_ok (w : World) (n : Int) : Calls Tryz.prog 105 #[.int .i64 n] w fun e w' => e = .returned (.bool (sumB n)) ∧ w' = w := by
  by_cases h1 : -1099511627776 ≤ n
  · by_cases h2 : n ≤ 1099511627776
    · go_enter Tryz.func105, Tryz.ntmps105
      go_wp2
      go_ret
      exact ⟨ret_bool (by simp [sumB, h1, h2]), rfl⟩
    · go_enter Tryz.func105, Tryz.ntmps105
      go_wp2
      go_ret
      exact ⟨ret_bool (by simp [sumB, h2]), rfl⟩
  · go_enter Tryz.func105, Tryz.ntmps105
    go_wp2
    go_ret
    exact ⟨ret_bool (by unfold sumB; rw [decide_eq_false (show ¬ -1099511627776 ≤ n by omega)]; rfl), rfl⟩

/-- All blocks but these are as they were. -/
structure Off (G : List Nat) (w w' : World) : Prop where
  os : w'.os = w.os
  tape : w'.tape = w.tape
  output : w'.output = w.output
  size : w.heap.size ≤ w'.heap.size
  block : ∀ i, i < w.heap.size → i ∉ G → w'.heap[i]? = w.heap[i]?
theorem Off.refl (G : List Nat) (w : World) : Off G w w := ⟨rfl, rfl, rfl, Nat.le_refl _, fun _ _ _ => rfl⟩
theorem Off.trans {G : List Nat} {a b c : World} (h : Off G a b) (h' : Off G b c) : Off G a c := ⟨h'.os.trans h.os, h'.tape.trans h.tape, h'.output.trans h.output, Nat.le_trans h.size h'.size, fun i hi hg => (h'.block i (Nat.lt_of_lt_of_le hi h.size) hg).trans (h.block i hi hg)⟩
theorem Off.of_below {G : List Nat} {w w' : World} (h : Below w.heap.size w w') : Off G w w' := ⟨h.os, h.tape, h.output, h.size, fun i hi _ => h.block i hi⟩
theorem Off.mono {G G' : List Nat} {w w' : World} (h : Off G w w') (hs : ∀ i ∈ G, i ∈ G') : Off G' w w' := ⟨h.os, h.tape, h.output, h.size, fun i hi hg => h.block i hi fun hx => hg (hs i hx)⟩
theorem Off.cell {G : List Nat} {w w' : World} (h : Off G w w') {a : Addr} {v : Value} (hc : w.cell? a = some v) (hg : a.block ∉ G) : w'.cell? a = some v := (World.cell?_of_block (h.block _ (lt_of_cell hc) hg)).trans hc
theorem Off.set {G : List Nat} {w : World} {b : Nat} (hb : b ∈ G) (j : Nat) (v : Value) : Off G w (w.setCell ⟨b, j, none⟩ v) := ⟨rfl, rfl, rfl, by simp [World.setCell], fun i _ hg => Below.heap_setCell _ _ _ _ fun e => hg (by have e' : i = b := e; rw [e']; exact hb)⟩
/-- The sum so far: what is kept, the block of the sum's op, what the blocks hold. -/
structure SumQ where
  kept : List Rp
  sum : Option Nat
  E : Nat → OpV
def updE (E : Nat → OpV) (g : Nat) (o : OpV) : Nat → OpV := fun i => if i = g then o else E i
theorem updE_same (E : Nat → OpV) (g : Nat) (o : OpV) : updE E g o g = o := if_pos rfl
theorem updE_other (E : Nat → OpV) {g i : Nat} (o : OpV) (h : i ≠ g) : updE E g o i = E i := if_neg h
def stepQ (st : SumQ) (r : Rp) : SumQ :=
  if (st.E r.g).kind = 2 then
    match st.sum with
    | none => ⟨st.kept ++ [r], some r.g, st.E⟩
    | some s => if sumB ((st.E s).n + (st.E r.g).n) = true then ⟨st.kept, some s, updE st.E s { st.E s with n := (st.E s).n + (st.E r.g).n }⟩ else ⟨st.kept ++ [r], some r.g, st.E⟩
  else ⟨st.kept ++ [r], st.sum, st.E⟩
theorem stepQ_other {st : SumQ} {r : Rp} (h : ¬ (st.E r.g).kind = 2) : stepQ st r = ⟨st.kept ++ [r], st.sum, st.E⟩ := by
  unfold stepQ
  rw [if_neg h]
theorem stepQ_first {st : SumQ} {r : Rp} (h : (st.E r.g).kind = 2) (hs : st.sum = none) : stepQ st r = ⟨st.kept ++ [r], some r.g, st.E⟩ := by
  unfold stepQ
  rw [if_pos h, hs]
theorem stepQ_sum {st : SumQ} {r : Rp} {s : Nat} (h : (st.E r.g).kind = 2) (hs : st.sum = some s) (hb : sumB ((st.E s).n + (st.E r.g).n) = true) : stepQ st r = ⟨st.kept, some s, updE st.E s { st.E s with n := (st.E s).n + (st.E r.g).n }⟩ := by
  unfold stepQ
  rw [if_pos h, hs]
  exact if_pos hb
theorem stepQ_full {st : SumQ} {r : Rp} {s : Nat} (h : (st.E r.g).kind = 2) (hs : st.sum = some s) (hb : ¬ sumB ((st.E s).n + (st.E r.g).n) = true) : stepQ st r = ⟨st.kept ++ [r], some r.g, st.E⟩ := by
  unfold stepQ
  rw [if_pos h, hs]
  exact if_neg hb
def sumQ (E : Nat → OpV) (rs : List Rp) : SumQ := rs.foldl stepQ ⟨[], none, E⟩
theorem sumQ_snoc (E : Nat → OpV) {rs : List Rp} {k : Nat} {r : Rp} (h : rs[k]? = some r) : sumQ E (rs.take (k + 1)) = stepQ (sumQ E (rs.take k)) r := by
  obtain ⟨hk, e⟩ := List.getElem?_eq_some_iff.1 h
  unfold sumQ
  rw [List.take_succ_eq_append_getElem hk, List.foldl_append, e]
  rfl
theorem stepQ_kept (st : SumQ) (r : Rp) : (stepQ st r).kept.length ≤ st.kept.length + 1 := by
  unfold stepQ
  split
  · split
    · simp
    · split
      · simp
      · simp
  · simp
theorem sumQ_few (E : Nat → OpV) (rs : List Rp) : ∀ k, (sumQ E (rs.take k)).kept.length ≤ k
  | 0 => by simp [sumQ]
  | k + 1 => by
    cases h : rs[k]? with
    | none =>
      have : rs.take (k + 1) = rs.take k := by
        rw [List.getElem?_eq_none_iff] at h
        rw [List.take_of_length_le h, List.take_of_length_le (by omega)]
      rw [this]
      have := sumQ_few E rs k
      omega
    | some r =>
      rw [sumQ_snoc E h]
      have := sumQ_few E rs k
      have := stepQ_kept (sumQ E (rs.take k)) r
      omega
/-- What is known of the sum's state besides. -/
structure SumOk (E : Nat → OpV) (rs : List Rp) (k : Nat) (st : SumQ) : Prop where
  sum : ∀ s, st.sum = some s → s ∈ (rs.take k).map (·.g)
  n : ∀ g ∈ rs.map (·.g), -1099511627776 ≤ (st.E g).n ∧ (st.E g).n ≤ 1099511627776
theorem sumB_of {n : Int} (h : sumB n = true) : -1099511627776 ≤ n ∧ n ≤ 1099511627776 := by
  unfold sumB at h
  rw [Bool.and_eq_true, decide_eq_true_eq, decide_eq_true_eq] at h
  exact h
theorem sumOk {E : Nat → OpV} {rs : List Rp} (hn : ∀ g ∈ rs.map (·.g), -1099511627776 ≤ (E g).n ∧ (E g).n ≤ 1099511627776) : ∀ k, k ≤ rs.length → SumOk E rs k (sumQ E (rs.take k))
  | 0, _ => ⟨fun s hs => by simp [sumQ] at hs, hn⟩
  | k + 1, hk => by
    obtain ⟨r, hr⟩ := some_of_lt (l := rs) (k := k) (by omega)
    have ih := sumOk hn k (by omega)
    have ht : rs.take (k + 1) = rs.take k ++ [r] := by
      obtain ⟨hk', e⟩ := List.getElem?_eq_some_iff.1 hr
      rw [List.take_succ_eq_append_getElem hk', e]
    have hl : ∀ s, s ∈ (rs.take k).map (·.g) → s ∈ (rs.take (k + 1)).map (·.g) := fun s hs => by rw [ht, List.map_append]; exact List.mem_append_left _ hs
    have hg : r.g ∈ (rs.take (k + 1)).map (·.g) := by rw [ht, List.map_append]; simp
    rw [sumQ_snoc E hr]
    unfold stepQ
    split
    · split
      · exact ⟨fun s hs => by cases hs; exact hg, ih.n⟩
      · rename_i s hs
        split
        · rename_i hb
          refine ⟨fun t ht => by cases ht; exact hl _ (ih.sum _ hs), fun g hg => ?_⟩
          unfold updE
          simp only
          split
          · exact sumB_of hb
          · exact ih.n g hg
        · exact ⟨fun s hs => by cases hs; exact hg, ih.n⟩
    · exact ⟨fun s hs => hl _ (ih.sum s hs), ih.n⟩
/-- What stands while counters are summed. -/
structure SumW (w : World) (rs : List Rp) (D : Nat → Value) (st : SumQ) (v : Value) (wr : World) : Prop where
  row : RowR wr w.heap.size v st.kept
  ops : OpsM wr rs st.E D
  off : Off (rs.map (·.g)) w wr
theorem SumW.app {w wr w' : World} {rs : List Rp} {D : Nat → Value} {st : SumQ} {v v' : Value} {r : Rp} (h : SumW w rs D st v wr) (sum : Option Nat) (hG : ∀ g ∈ rs.map (·.g), g < w.heap.size) (hg : wr.grownBy w' v.ownBlock) (hr : w'.ownsRow w.heap.size 34 3 v' (st.kept.length + 1) (st.kept.flatMap Rp.cells ++ r.cells)) : SumW w rs D ⟨st.kept ++ [r], sum, st.E⟩ v' w' where
  row := RowR.snoc hr
  ops := fun q hq => by
    rw [hg.block _ (lt_of_heapQ (h.ops q hq)) fun e => by have := (h.row.lt _ e.symm).1; have := hG q.g (List.mem_map.2 ⟨q, hq, rfl⟩); omega]
    exact h.ops q hq
  off := ⟨hg.os.trans h.off.os, hg.tape.trans h.off.tape, hg.output.trans h.off.output, Nat.le_trans h.off.size hg.size, fun i hi hn => (hg.block i (Nat.lt_of_lt_of_le hi h.off.size) fun e => by have := (h.row.lt i e.symm).1; omega).trans (h.off.block i hi hn)⟩
theorem SumW.moved {w wr w' : World} {rs : List Rp} {D : Nat → Value} {st : SumQ} {v : Value} (h : SumW w rs D st v wr) (hb : Below wr.heap.size wr w') : SumW w rs D st v w' := ⟨h.row.below hb, h.ops.below hb, h.off.trans (Off.of_below hb)⟩
theorem heap_setQ {w : World} {b : Nat} {cs : Array Value} {t : TypeId} (h : w.heap[b]? = some (.cells cs t (0, 0))) (j : Nat) (v : Value) : (w.setCell ⟨b, j, none⟩ v).heap[b]? = some (.cells (cs.setIfInBounds j v) t (0, 0)) := by
  simp only [World.setCell, Array.getElem?_modify, h]
  simp
theorem SumW.add {w wr : World} {rs : List Rp} {D : Nat → Value} {st : SumQ} {v : Value} (h : SumW w rs D st v wr) (s : Nat) (hs : s ∈ rs.map (·.g)) (n : Int) : SumW w rs D ⟨st.kept, some s, updE st.E s { st.E s with n := n }⟩ v (wr.setCell ⟨s, 4, none⟩ (.int .i64 n)) := by
  obtain ⟨q0, hq0, rfl⟩ := List.mem_map.1 hs
  have h0 := h.ops q0 hq0
  refine ⟨?_, fun q hq => ?_, h.off.trans (Off.set hs _ _)⟩
  · refine ownsRow_setCell_other h.row (fun e => ?_) _
    rcases h.row.2 with ⟨hv, _⟩ | ⟨g, cap, cur, hv, _, hh, _⟩
    · rw [hv] at e; cases e
    · rw [hv] at e
      have e' : g = q0.g := Option.some.inj e
      rw [e', h0] at hh
      injection hh with hh
      injection hh with _ hh
      exact absurd hh (by decide)
  · by_cases e : q.g = q0.g
    · dsimp only
      rw [e, heap_setQ h0, updE_same]
      rfl
    · dsimp only
      rw [Below.heap_setCell _ _ _ _ e, h.ops q hq, updE_other _ _ e]
def SumRet (rs : List Rp) (E : Nat → OpV) (D : Nat → Value) (w : World) (e : Ending) (w' : World) : Prop := ∃ v, e = .returned v ∧ SumW w rs D (sumQ E rs) v w'
def ptrQ : Option Nat → Value
  | none => .pointer none
  | some s => .pointer (some ⟨s, 0, none⟩)
theorem opC_cell {w : World} {g : Nat} {o : OpV} {dv : Value} (h : w.heap[g]? = some (.cells (opC o dv).toArray 76 (0, 0))) : w.cell? ⟨g, 2, none⟩ = some (.int .i64 o.kind) ∧ w.cell? ⟨g, 4, none⟩ = some (.int .i64 o.n) ∧ w.frozen? ⟨g, 4, none⟩ = false := by
  refine ⟨?_, ?_, ?_⟩
  · simp only [World.cell?, h]; rfl
  · simp only [World.cell?, h]; rfl
  · simp only [World.frozen?, h]; simp
theorem RowR.block {w : World} {base : Nat} {v : Value} {rs qs : List Rp} {E : Nat → OpV} {D : Nat → Value} (h : RowR w base v rs) (hO : OpsM w qs E D) : ∀ b n c, v = .slice (some ⟨b, 0, none⟩) n c → b ∉ qs.map (·.g) := fun b n c hv hm => by
  obtain ⟨q, hq, e⟩ := List.mem_map.1 hm
  rcases h.2 with ⟨hv', _⟩ | ⟨g, cap, cur, hv', _, hh, _⟩
  · rw [hv'] at hv; cases hv
  · rw [hv'] at hv
    cases hv
    have := hO q hq
    rw [e, hh] at this
    injection this with this
    injection this with _ this
    exact absurd this (by decide)
theorem nq0 (w : World) : (binOp .neq 159 (.pointer none) (.pointer none)).run Tryz.prog w = .ok (.bool false) w := by kernel_rfl
theorem nq1 (w : World) (s : Nat) : (binOp .neq 159 (.pointer (some ⟨s, 0, none⟩)) (.pointer none)).run Tryz.prog w = .ok (.bool true) w := by kernel_rfl
theorem List.mem_of_mem_map_takeQ {rs : List Rp} {k s : Nat} (h : s ∈ (rs.take k).map (·.g)) : s ∈ rs.map (·.g) := by
  obtain ⟨q, hq, e⟩ := List.mem_map.1 h
  exact List.mem_map.2 ⟨q, List.mem_of_mem_take hq, e⟩
theorem wrap_sumQ {a b : Int} (ha : -1099511627776 ≤ a ∧ a ≤ 1099511627776) (hb : -1099511627776 ≤ b ∧ b ≤ 1099511627776) : IntKind.i64.wrap (a + b) = a + b := by
  simp [IntKind.wrap, IntKind.bits, IntKind.signed]
  omega
set_option maxHeartbeats 4000000 in
theorem sumCounters_ok (w : World) (base : Nat) (v : Value) (rs : List Rp) (E : Nat → OpV) (D : Nat → Value) (hv : RowR w base v rs) (hO : OpsM w rs E D) (hn : ∀ g ∈ rs.map (·.g), -1099511627776 ≤ (E g).n ∧ (E g).n ≤ 1099511627776) (hl : rs.length ≤ 1000) :
    Calls Tryz.prog 72 #[v] w fun e w' => SumRet rs E D w e w' := by
  obtain ⟨i28, hi28, hy0, hy1, hy2⟩ := info_parts Tryz.info34q
  have K105 := isSum_ok
  obtain ⟨L, hL⟩ : ∃ L, L = rs.length := ⟨_, rfl⟩
  obtain ⟨va, vc, hve⟩ := hv.shape
  rw [← hL] at hve
  have hG : ∀ g ∈ rs.map (·.g), g < w.heap.size := fun g hg => by
    obtain ⟨q, hq, rfl⟩ := List.mem_map.1 hg
    exact lt_of_heapQ (hO q hq)
  have HB := hid (hv.block hO)
  have HV := hid hv
  have HO := hid hO
  have HL := hid hL
  have HVE := hid hve
  have HN := hid hn
  have HG := hid hG
  rw [hve]
  rw [← hL] at hl
  clear hv hO hL hve hn hG
  go_enter Tryz.func72, Tryz.ntmps72
  go_wp2_with fail
  go_loopw [3, 4, 9] (fun kv sv i wr => ∃ (k : Nat), k ≤ L ∧ i = .int .i64 k ∧ sv = ptrQ (sumQ E (rs.take k)).sum ∧ Hid (SumW w rs D (sumQ E (rs.take k)) kv wr)) (fun _ _ i _ => L - (intOf i).toNat)
  case atStart => exact ⟨0, Nat.zero_le _, rfl, rfl, ⟨RowR.nil _ _, HO.out, Off.refl _ _⟩⟩
  case round =>
    obtain ⟨k, hk, rfl, rfl, HI⟩ := hrel
    by_cases hlt : k < L
    · obtain ⟨r, hr⟩ := some_of_lt (l := rs) (k := k) (by rw [← HL.out]; exact hlt)
      obtain ⟨b, cap, e1, q0, q1, q2⟩ := HV.out.at hr
      have hbG := HB.out b _ _ e1
      rw [HVE.out] at e1
      injection e1 with e1 e2 e3
      clear e2
      subst e1 e3
      have hmem := List.mem_of_getElem? hr
      obtain ⟨st, hst⟩ : ∃ st, st = sumQ E (rs.take k) := ⟨_, rfl⟩
      have hsn := sumQ_snoc E hr
      have hok := sumOk HN.out k (by rw [← HL.out]; exact hk)
      have hfew := sumQ_few E rs k
      rw [← hst] at HI hsn hok hfew ⊢
      obtain ⟨r3, r4, r4f⟩ := opC_cell (HI.out.ops r hmem)
      have r0 := HI.out.off.cell q0 hbG
      have r1 := HI.out.off.cell q1 hbG
      have r2 := HI.out.off.cell q2 hbG
      have hi1 : (k : Int) < (L : Int) := by omega
      obtain ⟨ki, hki⟩ : ∃ ki, ki = (st.E r.g).kind := ⟨_, rfl⟩
      obtain ⟨rn, hrn⟩ : ∃ rn, rn = (st.E r.g).n := ⟨_, rfl⟩
      rw [← hki] at r3
      rw [← hrn] at r4
      have hrow := HI.out.row
      unfold RowR at hrow
      obtain ⟨m, hm⟩ : ∃ m, m = st.kept.length := ⟨_, rfl⟩
      rw [← hm] at hrow hfew
      obtain ⟨va2, vc2, hve2⟩ := HI.out.row.shape
      rw [← hm] at hve2
      subst hve2
      have hbs := HI.out.off.size
      obtain ⟨sm, hsm⟩ : ∃ sm, sm = st.sum := ⟨_, rfl⟩
      have hsum := hok.sum
      have hbn := hok.n
      have hrb := hbn r.g (List.mem_map.2 ⟨r, hmem, rfl⟩)
      rw [← hrn] at hrb
      rw [← hsm] at hsum ⊢
      have HSM := hid hsm
      have HSN := hid hsn
      have HKI := hid hki
      have HRN := hid hrn
      have HM := hid hm
      have HST := hid hst
      have HMEM := hid hmem
      have HROW := hid hrow
      have HBN := hid hbn
      have HSUM := hid hsum
      obtain ⟨wa, wc, wn, pl, g⟩ := r
      simp only at r0 r1 r2 r3 r4 r4f hrb HSN HKI HRN HMEM
      obtain ⟨n1, hn1⟩ : ∃ n1, n1 = wn.length := ⟨_, rfl⟩
      rw [← hn1] at r0
      have HONE : Hid (∀ v ∈ [Value.slice wa n1 wc, .int .i64 pl, .slice (some ⟨g, 0, none⟩) 1 1], v.oneCell' = true) := by
        rw [hn1]
        exact Rp.one ⟨wa, wc, wn, pl, g⟩
      have fin : ∀ (sum' : Option Nat) (v9 : Value) (w9 : World), stepQ st ⟨wa, wc, wn, pl, g⟩ = ⟨st.kept ++ [⟨wa, wc, wn, pl, g⟩], sum', st.E⟩ → ∀ W : World, Below wr.heap.size wr W → ∀ o, (W.alloc o).grownBy w9 (Value.slice va2 m vc2).ownBlock → w9.ownsRow w.heap.size 34 3 v9 (m + 1) (st.kept.flatMap Rp.cells ++ [.slice wa n1 wc, .int .i64 pl, .slice (some ⟨g, 0, none⟩) 1 1]) → sumQ E (rs.take (k + 1)) = ⟨st.kept ++ [⟨wa, wc, wn, pl, g⟩], sum', st.E⟩ ∧ SumW w rs D ⟨st.kept ++ [⟨wa, wc, wn, pl, g⟩], sum', st.E⟩ v9 w9 := fun sum' v9 w9 he W hW o hg ho => by
        refine ⟨HSN.out.trans he, ((HI.out.moved hW).moved (below_alloc W o)).app sum' HG.out hg ?_⟩
        rw [← HM.out]
        have : Rp.cells ⟨wa, wc, wn, pl, g⟩ = [.slice wa n1 wc, .int .i64 pl, .slice (some ⟨g, 0, none⟩) 1 1] := by rw [hn1]; rfl
        rw [this]
        exact ho
      have FIN := hid fin
      clear hok hsn hst hmem hki hrn hm hrow hbG q0 q1 q2 hr hsm hbn hsum fin hn1
      by_cases h2 : ki = 2
      · have hb2 : (ki == 2) = true := by simp [h2]
        have HK2 : Hid ((st.E g).kind = 2) := by rw [← HKI.out]; exact h2
        clear h2
        cases sm with
        | none =>
          have HE := hid (stepQ_first (r := ⟨wa, wc, wn, pl, g⟩) HK2.out HSM.out.symm)
          have nq := nq0
          show _
          unfold ptrQ
          go_wp2_with fail
          go_region
          obtain ⟨wd, hwd⟩ : ∃ wd, wd = wr.drew := ⟨_, rfl⟩
          rw [← hwd]
          have HROW2 : Hid (wd.ownsRow w.heap.size 34 3 (.slice va2 m vc2) m (st.kept.flatMap Rp.cells)) := by rw [hwd]; exact HROW.out
          have HBD : Hid (Below wr.heap.size wr wd) := by rw [hwd]; exact below_draws (Below.refl _ _) 1
          have hds : w.heap.size ≤ wd.heap.size := by rw [hwd]; exact hbs
          have d0 : wd.cell? ⟨b, k * 3, none⟩ = some (.slice wa n1 wc) := by rw [hwd]; exact r0
          have d1 : wd.cell? ⟨b, k * 3 + 1, none⟩ = some (.int .i64 pl) := by rw [hwd]; exact r1
          have d2 : wd.cell? ⟨b, k * 3 + 2, none⟩ = some (.slice (some ⟨g, 0, none⟩) 1 1) := by rw [hwd]; exact r2
          clear hwd r0 r1 r2 r3 r4 r4f
          go_wp2_with (at_builtin; refine wpList_append_own _ rfl _ _ 22 rfl w.heap.size 34 i28 _ 3 56 Tryz.underlying22 hi28 hy0 hy1 hy2 rfl (by decide) _ _ _ rfl (HROW2.out.alloc _) ⟨wd.heap.size, 0, none⟩ 1 1 [.slice wa n1 wc, .int .i64 pl, .slice (some ⟨g, 0, none⟩) 1 1] rfl rfl (cells_newQ _ _ _ _ (by simp)) ?ho1 ?ho2 ?ho3 ?ho4 ?_; (case ho1 => exact HONE.out); (case ho2 => unfold maxLen; omega); (case ho3 => omega); (case ho4 => simp; omega); intro v9 w9 hown9 hgr9 _; have G9 := hid hgr9; have O9 := hid hown9; clear hown9 hgr9)
          obtain ⟨F1, F2⟩ := FIN.out (some g) v9 w9 HE.out wd HBD.out _ G9.out O9.out
          refine ⟨⟨k + 1, by omega, by go_num, ?_, ?_⟩, by simp [intOf]; omega⟩
          · rw [F1]
          · rw [F1]; exact F2
        | some s =>
          obtain ⟨q, hq, hqs⟩ := List.mem_map.1 (List.mem_of_mem_map_takeQ (HSUM.out s rfl))
          obtain ⟨_, s4, s4f⟩ := opC_cell (HI.out.ops q hq)
          rw [hqs] at s4 s4f
          have hsb := HBN.out s (List.mem_map.2 ⟨q, hq, hqs⟩)
          have HSG := hid (show s ∈ rs.map (·.g) from List.mem_map.2 ⟨q, hq, hqs⟩)
          obtain ⟨sn, hsn⟩ : ∃ sn, sn = (st.E s).n := ⟨_, rfl⟩
          rw [← hsn] at s4 hsb
          have HSNN := hid hsn
          have hwr : IntKind.i64.wrap (sn + rn) = sn + rn := wrap_sumQ hsb hrb
          clear hq hqs hsn
          have nq := nq1
          show _
          unfold ptrQ
          go_wp2_with fail
          go_region_held (fun w' => w'.cell? ⟨g, 4, none⟩ = some (.int .i64 rn) ∧ w'.cell? ⟨s, 4, none⟩ = some (.int .i64 sn)) (go_keep) (first | (go_at_call 105; refine (K105 _ _).mono ?_; rintro e w' ⟨rfl, rfl⟩))
          obtain ⟨bs, hbs2⟩ : ∃ bs, bs = sumB (sn + rn) := ⟨_, rfl⟩
          rw [← hbs2]
          have HBS := hid hbs2
          clear hbs2
          obtain ⟨wd, hwd⟩ : ∃ wd, wd = wr.drew := ⟨_, rfl⟩
          rw [← hwd]
          have HROW2 : Hid (wd.ownsRow w.heap.size 34 3 (.slice va2 m vc2) m (st.kept.flatMap Rp.cells)) := by rw [hwd]; exact HROW.out
          have HBD : Hid (Below wr.heap.size wr wd) := by rw [hwd]; exact below_draws (Below.refl _ _) 1
          have hds : w.heap.size ≤ wd.heap.size := by rw [hwd]; exact hbs
          have d0 : wd.cell? ⟨b, k * 3, none⟩ = some (.slice wa n1 wc) := by rw [hwd]; exact r0
          have d1 : wd.cell? ⟨b, k * 3 + 1, none⟩ = some (.int .i64 pl) := by rw [hwd]; exact r1
          have d2 : wd.cell? ⟨b, k * 3 + 2, none⟩ = some (.slice (some ⟨g, 0, none⟩) 1 1) := by rw [hwd]; exact r2
          have d3 : wd.cell? ⟨g, 4, none⟩ = some (.int .i64 rn) := by rw [hwd]; exact r4
          have d4 : wd.cell? ⟨s, 4, none⟩ = some (.int .i64 sn) := by rw [hwd]; exact s4
          have d5 : wd.frozen? ⟨s, 4, none⟩ = false := by rw [hwd]; exact s4f
          clear s4 s4f
          cases bs with
          | false =>
            have HE := hid (stepQ_full (r := ⟨wa, wc, wn, pl, g⟩) HK2.out HSM.out.symm (by rw [← HSNN.out, ← HRN.out, ← HBS.out]; decide))
            clear hwd r0 r1 r2 r3 r4 r4f
            go_wp2_with (at_builtin; refine wpList_append_own _ rfl _ _ 22 rfl w.heap.size 34 i28 _ 3 56 Tryz.underlying22 hi28 hy0 hy1 hy2 rfl (by decide) _ _ _ rfl (HROW2.out.alloc _) ⟨wd.heap.size, 0, none⟩ 1 1 [.slice wa n1 wc, .int .i64 pl, .slice (some ⟨g, 0, none⟩) 1 1] rfl rfl (cells_newQ _ _ _ _ (by simp)) ?ho1 ?ho2 ?ho3 ?ho4 ?_; (case ho1 => exact HONE.out); (case ho2 => unfold maxLen; omega); (case ho3 => omega); (case ho4 => simp; omega); intro v9 w9 hown9 hgr9 _; have G9 := hid hgr9; have O9 := hid hown9; clear hown9 hgr9)
            obtain ⟨F1, F2⟩ := FIN.out (some g) v9 w9 HE.out wd HBD.out _ G9.out O9.out
            refine ⟨⟨k + 1, by omega, by go_num, ?_, ?_⟩, by simp [intOf]; omega⟩
            · rw [F1]
            · rw [F1]; exact F2
          | true =>
            have HE := hid (stepQ_sum (r := ⟨wa, wc, wn, pl, g⟩) HK2.out HSM.out.symm (by rw [← HSNN.out, ← HRN.out, ← HBS.out]))
            clear hwd r0 r1 r2 r3 r4 r4f
            go_wp2_with fail
            go_region
            obtain ⟨we, hwe⟩ : ∃ we, we = (wd.setCell ⟨s, 4, none⟩ (.int .i64 (sn + rn))).drew := ⟨_, rfl⟩
            rw [← hwe]
            have F2 : Hid (SumW w rs D ⟨st.kept, some s, updE st.E s { st.E s with n := sn + rn }⟩ (.slice va2 m vc2) we) := by
              rw [hwe]
              exact ((HI.out.moved HBD.out).add s HSG.out (sn + rn)).moved (below_draws (Below.refl _ _) 1)
            clear hwe
            go_wp2_with fail
            have F1 := HSN.out.trans HE.out
            rw [← HSNN.out, ← HRN.out] at F1
            refine ⟨⟨k + 1, by omega, by go_num, ?_, ?_⟩, by simp [intOf]; omega⟩
            · rw [F1]
            · rw [F1]; exact F2.out
      · have hb2 : (ki == 2) = false := by simp [h2]
        have HK2 : Hid (¬ (st.E g).kind = 2) := by rw [← HKI.out]; exact h2
        clear h2
        have HE := hid (stepQ_other (r := ⟨wa, wc, wn, pl, g⟩) HK2.out)
        rw [← HSM.out] at HE
        obtain ⟨pv, hpv⟩ : ∃ pv, pv = ptrQ sm := ⟨_, rfl⟩
        rw [← hpv]
        have HP := hid hpv
        clear hpv
        go_wp2_with (at_builtin; refine wpList_append_own _ rfl _ _ 22 rfl w.heap.size 34 i28 _ 3 56 Tryz.underlying22 hi28 hy0 hy1 hy2 rfl (by decide) _ _ _ rfl (HROW.out.alloc _) ⟨wr.heap.size, 0, none⟩ 1 1 [.slice wa n1 wc, .int .i64 pl, .slice (some ⟨g, 0, none⟩) 1 1] rfl rfl (cells_newQ _ _ _ _ (by simp)) ?ho1 ?ho2 ?ho3 ?ho4 ?_; (case ho1 => exact HONE.out); (case ho2 => unfold maxLen; omega); (case ho3 => omega); (case ho4 => simp; omega); intro v9 w9 hown9 hgr9 _; have G9 := hid hgr9; have O9 := hid hown9; clear hown9 hgr9)
        obtain ⟨F1, F2⟩ := FIN.out sm v9 w9 HE.out wr (Below.refl _ _) _ G9.out O9.out
        refine ⟨⟨k + 1, by omega, by go_num, ?_, ?_⟩, by simp [intOf]; omega⟩
        · rw [F1]; exact HP.out
        · rw [F1]; exact F2
    · obtain rfl : k = L := by omega
      have hi3 : ¬ (k : Int) < (k : Int) := by omega
      have hI := HI.out
      rw [List.take_of_length_le (by rw [← HL.out]; exact Nat.le_refl _)] at hI
      have H := hid hI
      clear hI HI
      go_wp2
      go_ret
      exact ⟨_, rfl, H.out⟩
end Go.Proofs.YtdnebclemngdcaaGreatDoor
namespace Go.Proofs.YtdnebclemngdcaaGreatDoor
open Go.RowKit Go.Maps
set_option maxRecDepth 100000
set_option linter.unusedSectionVars false
variable [Inhabited ComV] [DecidableEq D3] [Inhabited D3] [Inhabited Dd] [Inhabited Dn] [Inhabited OpV]

theorem keyed156 : Keyed Tryz.prog 156 :=
  Keyed.of_law (deep_law_gate (by kernel_rfl) (of_decide_eq_true (by kernel_rfl)) (of_decide_eq_true (by kernel_rfl)) (by kernel_rfl) (by kernel_rfl))
/-- A target: a dot and a text. -/
def tgtV (d : D3) (t : ByteArray) : Value := .agg #[.int .i64 d.p, .int .i64 d.t, .int .i64 d.a, .string t]
def klT (d : D3) (t : ByteArray) : Lit := .string (keyBytes [.int .i64 d.p, .int .i64 d.t, .int .i64 d.a, .string t.data.toList])
theorem keyLits_str (D : Nat) (s : ByteArray) (hs : s.size ≤ 1000) : Tryz.prog.keyLits (D + 1) 9 [.string s] = some [.string s.data.toList] := by
  have : s.size ≤ maxLen := by unfold maxLen; omega
  simp [Program.keyLits, Tryz.underlying9, this]
theorem key_tgt (d : D3) (t : ByteArray) (h : wf3 d) (ht : t.size ≤ 1000) : keyOf Tryz.prog 156 (tgtV d t) = some (klT d t) := by
  obtain ⟨h1, h2, h3⟩ := h
  obtain ⟨p, q, a⟩ := d
  simp only at h1 h2 h3
  have hk : Tryz.prog.keyType 156 = true := by kernel_rfl
  have hts : Tryz.prog.types.size + 1 = 285 + 1 + 1 + 1 := by kernel_rfl
  unfold keyOf
  rw [Tryz.underlying156, hts]
  simp only
  have hc : Tryz.prog.cellsOf 156 = 4 := by kernel_rfl
  have hc87 : Tryz.prog.cellsOf 87 = 3 := by kernel_rfl
  have hc9 : Tryz.prog.cellsOf 9 = 1 := by kernel_rfl
  have hf : Value.formed Tryz.prog 156 (tgtV ⟨p, q, a⟩ t) = true := by
    simp [Value.formed, Tryz.underlying156, hc, tgtV]
  have hl : Tryz.prog.keyLits (285 + 1 + 1 + 1) 156 [.int .i64 p, .int .i64 q, .int .i64 a, .string t] = some [.int .i64 p, .int .i64 q, .int .i64 a, .string t.data.toList] := by
    unfold Program.keyLits
    rw [Tryz.underlying156]
    simp [hc, hc87, hc9, keyLits_dot, keyLits_str, h1, h2, h3, ht]
  rw [hk, hf]
  simp only [Bool.and_self, if_true, tgtV, Value.cells, hl, klT, Option.map_some]
theorem klT_key (d : D3) (t : ByteArray) : WideAt.IsKeyLit (klT d t) := trivial
theorem klT_inj {d e : D3} {t u : ByteArray} (hd : wf3 d) (he : wf3 e) (ht : t.size ≤ 1000) (hu : u.size ≤ 1000) (h : klT d t = klT e u) : d = e ∧ t = u := by
  have := keyed156.inj (key_tgt d t hd ht) (by rw [h]; exact key_tgt e u he hu)
  obtain ⟨p, t, a⟩ := d
  obtain ⟨p', t', a'⟩ := e
  simp only [tgtV, Value.agg.injEq] at this
  simpa [and_assoc] using this
theorem isAdd_ok (w : World) (wa : Option Addr) (wl wc : Nat) (pl : Int) (g : Nat) (o : OpV) (dv : Value) (h : w.heap[g]? = some (.cells (opC o dv).toArray 76 (0, 0))) :
    Calls Tryz.prog 104 #[.agg #[.slice wa wl wc, .int .i64 pl, .slice (some ⟨g, 0, none⟩) 1 1]] w fun e w' => e = .returned (.bool (decide (o.kind = 3) && !o.rem)) ∧ w' = w.alloc (.cells #[.slice wa wl wc, .int .i64 pl, .slice (some ⟨g, 0, none⟩) 1 1] 34) := by
  have r2 := (opC_cell h).1
  have r5 : w.cell? ⟨g, 5, none⟩ = some (.bool o.rem) := by simp only [World.cell?, h]; rfl
  have hlt : g < w.heap.size := lt_of_heapQ h
  have hne : g ≠ w.heap.size := by omega
  obtain ⟨ki, hki⟩ : ∃ ki, ki = o.kind := ⟨_, rfl⟩
  obtain ⟨rm, hrm⟩ : ∃ rm, rm = o.rem := ⟨_, rfl⟩
  rw [← hki] at r2 ⊢
  rw [← hrm] at r5 ⊢
  clear h hki hrm
  by_cases h3 : ki = 3
  · have hb : (ki == 3) = true := by simp [h3]
    have H3 := hid h3
    clear h3
    go_enter Tryz.func104, Tryz.ntmps104
    go_wp2
    go_ret
    exact ⟨ret_bool (by rw [H3.out]; simp), rfl⟩
  · have hb : (ki == 3) = false := by simp [h3]
    have H3 := hid h3
    clear h3
    go_enter Tryz.func104, Tryz.ntmps104
    go_wp2
    go_ret
    exact ⟨ret_bool (by rw [decide_eq_false H3.out]; rfl), rfl⟩
theorem opC_all {w : World} {g : Nat} {o : OpV} {dv : Value} (h : w.heap[g]? = some (.cells (opC o dv).toArray 76 (0, 0))) : w.cell? ⟨g, 0, none⟩ = some (.int .i64 o.at_) ∧ w.cell? ⟨g, 1, none⟩ = some (.string o.key) ∧ w.cell? ⟨g, 2, none⟩ = some (.int .i64 o.kind) ∧ w.cell? ⟨g, 3, none⟩ = some (.string o.text) ∧ w.cell? ⟨g, 4, none⟩ = some (.int .i64 o.n) ∧ w.cell? ⟨g, 5, none⟩ = some (.bool o.rem) ∧ w.cell? ⟨g, 6, none⟩ = some dv := by
  refine ⟨?_, ?_, ?_, ?_, ?_, ?_, ?_⟩ <;> (simp only [World.cell?, h]; rfl)
theorem box4Q {w : World} {z : Nat} {a b c d : Value} {t : TypeId} (h : w.heap[z]? = some (.cells #[a, b, c, d] t (0, 0))) : w.cell? ⟨z, 0, none⟩ = some a ∧ w.cell? ⟨z, 1, none⟩ = some b ∧ w.cell? ⟨z, 2, none⟩ = some c ∧ w.cell? ⟨z, 3, none⟩ = some d ∧ w.frozen? ⟨z, 0, none⟩ = false ∧ w.frozen? ⟨z, 1, none⟩ = false ∧ w.frozen? ⟨z, 2, none⟩ = false ∧ w.frozen? ⟨z, 3, none⟩ = false := by
  refine ⟨?_, ?_, ?_, ?_, ?_, ?_, ?_, ?_⟩ <;> first | (simp only [World.cell?, h]; rfl) | (simp only [World.frozen?, h]; simp)
theorem upQ {w w' : World} {a : Addr} {v : Value} (hb : Below w.heap.size w w') (h : w.cell? a = some v) : w'.cell? a = some v := by rw [hb.cell (lt_of_cell h)]; exact h
set_option maxHeartbeats 4000000 in
theorem targetOf_ok (w : World) (b1 o1 n c1 p g : Nat) (T : Int) (o : OpV) (da : Option Addr) (dl dc : Nat) (h : w.heap[g]? = some (.cells (opC o (.slice da dl dc)).toArray 76 (0, 0))) (hp : p < n) (ct : w.cell? ⟨b1, o1 + p, none⟩ = some (.int .i64 T)) :
    Calls Tryz.prog 103 #[.agg #[.slice (some ⟨b1, o1, none⟩) n c1, .int .i64 p, .slice (some ⟨g, 0, none⟩) 1 1]] w fun e w' => e = .returned (tgtV ⟨p, T, o.at_⟩ o.text) ∧ Below w.heap.size w w' := by
  obtain ⟨x1, x2, x3, x4, x5, x6, xd⟩ := o
  unfold tgtV
  obtain ⟨u0, u1, u2, u3, u4, u5, u6⟩ := opC_all h
  simp only at u0 u1 u2 u3 u4 u5 u6 ⊢
  obtain ⟨w1, hw1⟩ : ∃ w1, w1 = (w.alloc (.cells #[.slice (some ⟨b1, o1, none⟩) n c1, .int .i64 p, .slice (some ⟨g, 0, none⟩) 1 1] 34)).alloc (.cells #[.int .i64 0, .int .i64 0, .int .i64 0, .string ⟨#[]⟩] 156) := ⟨_, rfl⟩
  have hb1 : Below w.heap.size w w1 := by rw [hw1]; exact below2 w _ _
  have hs1 : w1.heap.size = w.heap.size + 1 + 1 := by rw [hw1]; simp
  have bx : w1.heap[w.heap.size]? = some (.cells #[.slice (some ⟨b1, o1, none⟩) n c1, .int .i64 p, .slice (some ⟨g, 0, none⟩) 1 1] 34 (0, 0)) := by
    rw [hw1, (MapKept.heap_alloc _ _).2 _ (by simp)]; exact (MapKept.heap_alloc _ _).1
  have by_ : w1.heap[w.heap.size + 1]? = some (.cells #[.int .i64 0, .int .i64 0, .int .i64 0, .string ⟨#[]⟩] 156 (0, 0)) := by
    rw [hw1]
    have := (MapKept.heap_alloc (w.alloc (.cells #[.slice (some ⟨b1, o1, none⟩) n c1, .int .i64 p, .slice (some ⟨g, 0, none⟩) 1 1] 34)) (.cells #[.int .i64 0, .int .i64 0, .int .i64 0, .string ⟨#[]⟩] 156)).1
    simpa using this
  have v0 := upQ hb1 u0
  have v1 := upQ hb1 u1
  have v2 := upQ hb1 u2
  have v3 := upQ hb1 u3
  have v4 := upQ hb1 u4
  have v5 := upQ hb1 u5
  have v6 := upQ hb1 u6
  have ct1 := upQ hb1 ct
  have d0 : w1.cell? ⟨w.heap.size, 0, none⟩ = some (.slice (some ⟨b1, o1, none⟩) n c1) := by simp only [World.cell?, bx]; rfl
  have d1 : w1.cell? ⟨w.heap.size, 1, none⟩ = some (.int .i64 p) := by simp only [World.cell?, bx]; rfl
  have d2 : w1.cell? ⟨w.heap.size, 2, none⟩ = some (.slice (some ⟨g, 0, none⟩) 1 1) := by simp only [World.cell?, bx]; rfl
  obtain ⟨q, hq⟩ : ∃ q, q = w.heap.size := ⟨_, rfl⟩
  obtain ⟨z, hz⟩ : ∃ z, z = w.heap.size + 1 := ⟨_, rfl⟩
  have HB1 := hid hb1
  have hz1 : z < w1.heap.size := by omega
  have hwz : w.heap.size ≤ z := by omega
  have nz1 : z ≠ q := by omega
  have nz2 : z ≠ g := by have := lt_of_heapQ h; omega
  have nz3 : q ≠ z := by omega
  have nz4 : g ≠ z := by have := lt_of_heapQ h; omega
  go_enter Tryz.func103, Tryz.ntmps103
  go_upto_region 1 with (fail)
  rw [← hw1]
  rw [← hz] at by_ ⊢
  rw [← hq] at d0 d1 d2 ⊢
  have BY := hid by_
  have CT := hid ct1
  clear hw1 hb1 hs1 bx by_ u0 u1 u2 u3 u4 u5 u6 ct ct1 hq hz h
  go_region_held (fun w' => w'.cell? ⟨q, 0, none⟩ = some (.slice (some ⟨b1, o1, none⟩) n c1) ∧ w'.cell? ⟨q, 1, none⟩ = some (.int .i64 p) ∧ w'.cell? ⟨q, 2, none⟩ = some (.slice (some ⟨g, 0, none⟩) 1 1) ∧ w'.cell? ⟨g, 0, none⟩ = some (.int .i64 x1) ∧ w'.cell? ⟨g, 1, none⟩ = some (.string x2) ∧ w'.cell? ⟨g, 2, none⟩ = some (.int .i64 x3) ∧ w'.cell? ⟨g, 3, none⟩ = some (.string x4) ∧ w'.cell? ⟨g, 4, none⟩ = some (.int .i64 x5) ∧ w'.cell? ⟨g, 5, none⟩ = some (.bool x6) ∧ w'.cell? ⟨g, 6, none⟩ = some (.slice da dl dc)) (go_keep) (first | (go_at_call 39; refine (dotOf_any _ b1 o1 n c1 p T _ _ _ _ _ _ _ _ _ _ _ _ hp ?hct).mono ?_; (case hct => exact CT.out); rintro e w5 ⟨rfl, hb5⟩; have hb6 : Below w1.heap.size w1 w5 := (below_draws (Below.refl _ _) 1).trans hb5; have d0' := upQ hb6 d0; have d1' := upQ hb6 d1; have d2' := upQ hb6 d2; have v0' := upQ hb6 v0; have v1' := upQ hb6 v1; have v2' := upQ hb6 v2; have v3' := upQ hb6 v3; have v4' := upQ hb6 v4; have v5' := upQ hb6 v5; have v6' := upQ hb6 v6; have by5 := (hb6.block _ hz1).trans BY.out; obtain ⟨z0, z1, z2, z3, f0, f1, f2, f3⟩ := box4Q by5; have BY5 := hid by5; clear by5; have HB5 := hid (HB1.out.trans (hb6.mono HB1.out.size)); clear hb5 hb6))
  obtain ⟨w6, hw6⟩ : ∃ w6, w6 = (((w5.setCell ⟨z, 0, none⟩ (.int .i64 p)).setCell ⟨z, 1, none⟩ (.int .i64 T)).setCell ⟨z, 2, none⟩ (.int .i64 x1)).setCell ⟨z, 3, none⟩ (.string x4) := ⟨_, rfl⟩
  have hb6 : w6.heap[z]? = some (.cells #[.int .i64 p, .int .i64 T, .int .i64 x1, .string x4] 156 (0, 0)) := by
    rw [hw6, heap_setQ (heap_setQ (heap_setQ (heap_setQ BY5.out _ _) _ _) _ _) _ _]
    rfl
  have B6 : Below w.heap.size w w6 := by
    rw [hw6]
    exact (((HB5.out.setCell hwz _).setCell hwz _).setCell hwz _).setCell hwz _
  rw [← hw6]
  clear hw6
  go_wp2
  refine bodyPost_ret (ret_cell (k := 4) Tryz.results103 Tryz.isAgg156 Tryz.sizeOf156 _ _ z [.int .i64 p, .int .i64 T, .int .i64 x1, .string x4] rfl rfl (fun j hj => ?_)) rfl ⟨rfl, B6⟩
  rcases (by simp at hj; omega : j = 0 ∨ j = 1 ∨ j = 2 ∨ j = 3) with rfl | rfl | rfl | rfl <;> (simp only [World.cell?, hb6]; rfl)
end Go.Proofs.YtdnebclemngdcaaGreatDoor
