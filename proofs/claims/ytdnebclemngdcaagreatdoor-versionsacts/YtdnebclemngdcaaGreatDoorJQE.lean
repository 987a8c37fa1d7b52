/- partOf by its contract: all of it lies in blocks of its own; lastRegister by its contract; sumCounters by its contract; Targets as the keys of a map; isAdd, targetOf by their contracts; withoutRemoved by its contract. -/
import Derived.Test.YtdnebclemngdcaaGreatDoorJWPart2
import Derived.Test.YtdnebclemngdcaaGreatDoorJZR3
import Derived.Deep.RegionHeld
import Derived.Test.YtdnebclemngdcaaGreatDoorJWSeen
namespace Go.Proofs.YtdnebclemngdcaaGreatDoor
open Go.RowKit Go.Sort Go.Maps
set_option maxRecDepth 100000
set_option linter.unusedSectionVars false
variable [Inhabited ComV] [DecidableEq D3] [Inhabited D3] [Inhabited Dd] [Inhabited Dn] [Inhabited OpV]

theorem ownsMono {w : World} {B B' e size n : Nat} {v : Value} {xs : List Value} (hB : B' ≤ B) (h : w.ownsRow B e size v n xs) : w.ownsRow B' e size v n xs := by
  refine ⟨h.1, ?_⟩; rcases h.2 with h0 | ⟨g, cap, cur, hv, h1, h2⟩
  · exact .inl h0
  · exact .inr ⟨g, cap, cur, hv, Nat.le_trans hB h1, h2⟩
set_option maxHeartbeats 2000000 in
theorem clone_dotsO (w : World) (v : Value) (ds : List D3) (h : DotsAt w v ds) (hl : ds.length ≤ 1000000) :
    Calls Tryz.prog 65 #[v] w fun e w' => ∃ a c, e = .returned (.slice a ds.length c) ∧ w'.ownsRow w.heap.size 87 3 (.slice a ds.length c) ds.length (ds.flatMap D3.cells) ∧ Below w.heap.size w w' := by
  have q22 : ∀ (w : World) (a : Option Addr) (n c n' c' : Nat), (binOp .eql 65 (.slice a n c) (.slice none n' c')).run Tryz.prog w = .ok (.bool a.isNone) w := fun w a n c n' c' => Lib.run_eql_slice_nil w _ _ a n c n' c' Tryz.underlying65
  obtain ⟨i0, hi, hz0, hz1, hz2⟩ := info_parts Tryz.info87; have hsrc := src_dots h; obtain ⟨ad, c, hv, h0, _, hh⟩ := h; rw [List.length_map] at hv; subst hv; obtain ⟨n, hn⟩ : ∃ n, n = ds.length := ⟨_, rfl⟩; rw [← hn] at hsrc hl ⊢; have HN := hid hn; have HS := hid hsrc; have HH := hid hh; clear hn hsrc hh
  cases ad with
  | none =>
    obtain rfl := h0 rfl
    have hz : ds = [] := by
      rcases HH.out with h | ⟨b, o, he, _⟩
      · simpa using h
      · cases he
    subst hz; obtain rfl : n = 0 := HN.out; go_enter Tryz.func65, Tryz.ntmps65; go_wp2; go_ret; exact ⟨none, 0, rfl, World.ownsRow_nil _ _ _ _, Below.refl _ _⟩
  | some ad =>
    go_enter Tryz.func65, Tryz.ntmps65
    go_wp2_with (at_builtin; refine wpList_append_own_src rfl _ _ 65 rfl w.heap.size 87 i0 _ 3 24 Tryz.underlying65 hi hz0 hz1 hz2 rfl (by decide) _ _ _ rfl (World.ownsRow_made w #[] 0 (Nat.le_refl _) (Nat.zero_le _) rfl) _ n (ds.flatMap D3.cells) rfl ?hs1 (dots_one _) ?hm2 ?hm3 ?hm4 ?_; (case hs1 => exact HS.out.moved (fun a u h => cell_alloc h _)); (case hm2 => unfold maxLen; omega); (case hm3 => omega); (case hm4 => simp); intro v3 w3 hown3 hgrow3)
    rw [Nat.zero_add, List.nil_append] at hown3; obtain ⟨a3, c3, rfl⟩ := row_shape hown3; have HT := hid hown3; have HB : Hid (Below w.heap.size w w3) := ((Below.refl _ w).alloc (Nat.le_refl _) _).grown hgrow3 (by simp) (fun k hk => ((World.ownsRow_made (e := 87) (size := 3) (base := w.heap.size) w #[] 0 (Nat.le_refl _) (Nat.zero_le _) rfl).lt k hk).1); clear hown3 hgrow3; go_wp2; go_ret; exact ⟨a3, c3, rfl, HT.out, HB.out⟩
def PartOwn (c : ComV) (o : OpV) (w : World) (e : Ending) (w' : World) : Prop := ∃ a1 c1 gg dv, e = .returned (.agg #[.slice a1 c.when_.length c1, .int .i64 c.place, .slice (some ⟨gg, 0, none⟩) 1 1]) ∧ (IntsT w' (.slice a1 c.when_.length c1) c.when_ ∧ w'.heap[gg]? = some (.cells (opCells o dv).toArray 76 (0, 0)) ∧ w.heap.size ≤ gg ∧ w'.ownsRow w.heap.size 87 3 dv o.dots.length (o.dots.flatMap D3.cells)) ∧ Below w.heap.size w w'
set_option maxHeartbeats 4000000 in
theorem partOf_own (w : World) (c : ComV) (o : OpV) (wv : Value) (oa : Option Addr) (ol oc : Nat) (dv : Value) (hw : IntsAt w wv c.when_) (hd : DotsAt w dv o.dots) (hl : c.when_.length ≤ 1000000) (hdl : o.dots.length ≤ 1000000) :
    Calls Tryz.prog 40 #[.agg #[wv, .int .i64 c.place, .slice oa ol oc], .agg (opCells o dv).toArray] w fun e w' => PartOwn c o w e w' := by
  obtain ⟨a1, c1, rfl⟩ := hw.slice; obtain ⟨a2, c2, rfl⟩ := hd.len; unfold PartOwn; obtain ⟨zs, pl, _⟩ := c; obtain ⟨x1, x2, x3, x4, x5, x6, ds⟩ := o; simp only at hd hdl hw hl ⊢; show Calls Tryz.prog 40 #[.agg #[.slice a1 zs.length c1, .int .i64 pl, .slice oa ol oc], .agg #[.int .i64 x1, .string x2, .int .i64 x3, .string x4, .int .i64 x5, .bool x6, .slice a2 ds.length c2]] w _; obtain ⟨n, hn⟩ : ∃ n, n = zs.length := ⟨_, rfl⟩; obtain ⟨m, hm⟩ : ∃ m, m = ds.length := ⟨_, rfl⟩; rw [← hn] at hw hl ⊢; rw [← hm] at hd hdl ⊢; obtain ⟨w1, hw1⟩ : ∃ w1, w1 = ((w.alloc (.cells #[.slice a1 n c1, .int .i64 pl, .slice oa ol oc] 34)).alloc (.cells #[.int .i64 x1, .string x2, .int .i64 x3, .string x4, .int .i64 x5, .bool x6, .slice a2 m c2] 76)).alloc (.cells #[.slice none 0 0, .int .i64 0, .slice none 0 0] 34) := ⟨_, rfl⟩; have b1 : Below w.heap.size w w1 := by rw [hw1]; exact below3 w _ _ _
  have hA := heap_alloc3 w (.cells #[.slice a1 n c1, .int .i64 pl, .slice oa ol oc] 34) (.cells #[.int .i64 x1, .string x2, .int .i64 x3, .string x4, .int .i64 x5, .bool x6, .slice a2 m c2] 76) (.cells #[.slice none 0 0, .int .i64 0, .slice none 0 0] 34); rw [← hw1] at hA; have bx0 : w1.heap[w.heap.size]? = some (.cells #[.slice a1 n c1, .int .i64 pl, .slice oa ol oc] 34 (0, 0)) := by rw [hA.1]; exact (MapKept.heap_alloc _ _).1
  have bx1 : w1.heap[w.heap.size + 1]? = some (.cells #[.int .i64 x1, .string x2, .int .i64 x3, .string x4, .int .i64 x5, .bool x6, .slice a2 m c2] 76 (0, 0)) := by
    rw [hA.2]; have := (MapKept.heap_alloc (w.alloc (.cells #[.slice a1 n c1, .int .i64 pl, .slice oa ol oc] 34)) (.cells #[.int .i64 x1, .string x2, .int .i64 x3, .string x4, .int .i64 x5, .bool x6, .slice a2 m c2] 76)).1
    simpa using this
  have bx2 : w1.heap[w.heap.size + 1 + 1]? = some (.cells #[.slice none 0 0, .int .i64 0, .slice none 0 0] 34 (0, 0)) := by
    rw [hw1]; have := (MapKept.heap_alloc ((w.alloc (.cells #[.slice a1 n c1, .int .i64 pl, .slice oa ol oc] 34)).alloc (.cells #[.int .i64 x1, .string x2, .int .i64 x3, .string x4, .int .i64 x5, .bool x6, .slice a2 m c2] 76)) (.cells #[.slice none 0 0, .int .i64 0, .slice none 0 0] 34)).1
    simpa using this
  have K91 := clone_dotsO w1 (.slice a2 m c2) ds (hd.mono b1 (Nat.le_refl _)) (by omega); have HW := hid hw; have B1 := hid b1; have HN := hid hn; have HM := hid hm; go_enter Tryz.func40, Tryz.ntmps40; obtain ⟨k, hk⟩ : ∃ k, k = w.heap.size + 1 := ⟨_, rfl⟩; obtain ⟨g, hg⟩ : ∃ g, g = k + 1 := ⟨_, rfl⟩; rw [← hk] at bx1; rw [← hk, ← hg] at bx2; have X0 := hid bx0; have X1 := hid bx1; have X2 := hid bx2; have l1 : w1.cell? ⟨k, 6, none⟩ = some (.slice a2 m c2) := by simp only [World.cell?, bx1]; rfl
  clear hn hm hw hd b1 hA bx0 bx1 bx2; go_wp2_with fail; rw [← hw1]; refine K91.mono ?_; rintro e w2 ⟨a3, c3, rfl, hT3, hb2⟩; rw [← HM.out] at hT3 ⊢; rw [← hk]; rw [← hg]; have hk1 : k < w1.heap.size := lt_of_heap X1.out; have hg1 : g < w1.heap.size := lt_of_heap X2.out; have h01 : w.heap.size < w1.heap.size := lt_of_heap X0.out; have y0 : w2.heap[w.heap.size]? = _ := (hb2.block _ h01).trans X0.out; have y1 : w2.heap[k]? = _ := (hb2.block _ hk1).trans X1.out; have y2 : w2.heap[g]? = _ := (hb2.block _ hg1).trans X2.out; have m6 : w2.cell? ⟨k, 6, none⟩ = some (.slice a2 m c2) := by simp only [World.cell?, y1]; rfl
  have m6f : w2.frozen? ⟨k, 6, none⟩ = false := by simp only [World.frozen?, y1]; simp
  have n1 : k ≠ w.heap.size := by omega
  have n2 : k ≠ g := by omega
  have n4 : g ≠ k := by omega
  have n3 : g ≠ w.heap.size := by omega
  have hgw : w.heap.size ≤ g := by omega
  have hkw : w.heap.size ≤ k := by omega
  have B2 := hid (B1.out.trans (hb2.mono B1.out.size)); have HT3 := hid hT3; have Y0 := hid y0; have Y1 := hid y1; have Y2 := hid y2; clear hk hg K91 hT3 hb2 y0 y1 y2 hw1 l1 hk1 hg1 h01; go_upto_region 2 with (fail); obtain ⟨w3, hw3⟩ : ∃ w3, w3 = w2.setCell ⟨k, 6, none⟩ (.slice a3 m c3) := ⟨_, rfl⟩; rw [← hw3]; have z0 : w3.heap[w.heap.size]? = some (.cells #[.slice a1 n c1, .int .i64 pl, .slice oa ol oc] 34 (0, 0)) := by rw [hw3, Below.heap_setCell _ _ _ _ (Ne.symm n1)]; exact Y0.out
  have z1 : w3.heap[k]? = some (.cells #[.int .i64 x1, .string x2, .int .i64 x3, .string x4, .int .i64 x5, .bool x6, .slice a3 m c3] 76 (0, 0)) := by rw [hw3, heap_set Y1.out]; rfl
  have z2 : w3.heap[g]? = some (.cells #[.slice none 0 0, .int .i64 0, .slice none 0 0] 34 (0, 0)) := by rw [hw3, Below.heap_setCell _ _ _ _ (Ne.symm n2)]; exact Y2.out
  have B3 : Hid (Below w.heap.size w w3) := by rw [hw3]; exact B2.out.setCell hkw _
  have hw1s : w.heap.size ≤ w1.heap.size := B1.out.size; have HD3 : Hid (w3.ownsRow w.heap.size 87 3 (.slice a3 m c3) m (ds.flatMap D3.cells)) := by rw [hw3]; exact ownsMono hw1s (owns_below HT3.out (keepT_set Y1.out (by decide) _ _))
  have s0 : w3.cell? ⟨w.heap.size, 0, none⟩ = some (.slice a1 n c1) := by simp only [World.cell?, z0]; rfl
  have s1 : w3.cell? ⟨w.heap.size, 1, none⟩ = some (.int .i64 pl) := by simp only [World.cell?, z0]; rfl
  have q0 : w3.cell? ⟨k, 0, none⟩ = some (.int .i64 x1) := by simp only [World.cell?, z1]; rfl
  have q1 : w3.cell? ⟨k, 1, none⟩ = some (.string x2) := by simp only [World.cell?, z1]; rfl
  have q2 : w3.cell? ⟨k, 2, none⟩ = some (.int .i64 x3) := by simp only [World.cell?, z1]; rfl
  have q3 : w3.cell? ⟨k, 3, none⟩ = some (.string x4) := by simp only [World.cell?, z1]; rfl
  have q4 : w3.cell? ⟨k, 4, none⟩ = some (.int .i64 x5) := by simp only [World.cell?, z1]; rfl
  have q5 : w3.cell? ⟨k, 5, none⟩ = some (.bool x6) := by simp only [World.cell?, z1]; rfl
  have q6 : w3.cell? ⟨k, 6, none⟩ = some (.slice a3 m c3) := by simp only [World.cell?, z1]; rfl
  have HI3 : IntsAt w3 (.slice a1 n c1) zs := HW.out.mono B3.out (Nat.le_refl _); have K64 := fun W (h : IntsAt W (.slice a1 n c1) zs) => clone_ints W _ zs h (by have := HN.out; omega)
  rw [← HN.out] at K64; have Z2 := hid z2; clear hw3 z0 z1 z2 m6 m6f Y0 Y1 Y2 HT3 n2 n1
  go_region_held (fun w' => w'.cell? ⟨w.heap.size, 0, none⟩ = some (.slice a1 n c1) ∧ w'.cell? ⟨w.heap.size, 1, none⟩ = some (.int .i64 pl) ∧ w'.cell? ⟨k, 0, none⟩ = some (.int .i64 x1) ∧ w'.cell? ⟨k, 1, none⟩ = some (.string x2) ∧ w'.cell? ⟨k, 2, none⟩ = some (.int .i64 x3) ∧ w'.cell? ⟨k, 3, none⟩ = some (.string x4) ∧ w'.cell? ⟨k, 4, none⟩ = some (.int .i64 x5) ∧ w'.cell? ⟨k, 5, none⟩ = some (.bool x6) ∧ w'.cell? ⟨k, 6, none⟩ = some (.slice a3 m c3)) (go_keep) (first | (go_at_call 42; refine (K64 _ ?hI).mono ?_; (case hI => first | exact HI3 | exact ints_al HI3 _); rintro e w4 ⟨a4, c4, rfl, hT4, hb4⟩; have up4 : ∀ {a : Addr} {v : Value}, w3.cell? a = some v → w4.cell? a = some v := (fun {a v} h => by first | (rw [hb4.cell (lt_of_cell h)]; exact h) | (rw [hb4.cell (lt_of_cell (cell_alloc h _))]; exact cell_alloc h _)); have s0' := up4 s0; have s1' := up4 s1; have q0' := up4 q0; have q1' := up4 q1; have q2' := up4 q2; have q3' := up4 q3; have q4' := up4 q4; have q5' := up4 q5; have q6' := up4 q6; clear up4; have v2 : w4.heap[g]? = some (.cells #[.slice none 0 0, .int .i64 0, .slice none 0 0] 34 (0, 0)) := (by first | exact (hb4.block _ (lt_of_heap Z2.out)).trans Z2.out | exact (hb4.block _ (Nat.lt_of_lt_of_le (lt_of_heap Z2.out) (by simp))).trans (((MapKept.heap_alloc _ _).2 _ (lt_of_heap Z2.out)).trans Z2.out)); have t0 : w4.cell? ⟨g, 0, none⟩ = some (.slice none 0 0) := (by simp only [World.cell?, v2]; rfl); have t1 : w4.cell? ⟨g, 1, none⟩ = some (.int .i64 0) := (by simp only [World.cell?, v2]; rfl); have t2 : w4.cell? ⟨g, 2, none⟩ = some (.slice none 0 0) := (by simp only [World.cell?, v2]; rfl); have r0 : w4.frozen? ⟨g, 0, none⟩ = false := (by simp only [World.frozen?, v2]; simp); have r1 : w4.frozen? ⟨g, 1, none⟩ = false := (by simp only [World.frozen?, v2]; simp); have r2 : w4.frozen? ⟨g, 2, none⟩ = false := (by simp only [World.frozen?, v2]; simp); have v3 : ∀ o, (w4.alloc o).heap[g]? = some (.cells #[.slice none 0 0, .int .i64 0, .slice none 0 0] 34 (0, 0)) := (fun o => ((MapKept.heap_alloc w4 o).2 _ (lt_of_heap v2)).trans v2); have t0a := (fun o => cell_alloc t0 o); have t1a := (fun o => cell_alloc t1 o); have t2a := (fun o => cell_alloc t2 o); have r0a : ∀ o, (w4.alloc o).frozen? ⟨g, 0, none⟩ = false := (fun o => by simp only [World.frozen?, v3 o]; simp); have r1a : ∀ o, (w4.alloc o).frozen? ⟨g, 1, none⟩ = false := (fun o => by simp only [World.frozen?, v3 o]; simp); have r2a : ∀ o, (w4.alloc o).frozen? ⟨g, 2, none⟩ = false := (fun o => by simp only [World.frozen?, v3 o]; simp); have HB4 := hid hb4; have HT4 := hid hT4; have HV2 := hid v2; clear hb4 hT4 v2 v3))
  · obtain ⟨w5, hw5⟩ : ∃ w5, w5 = w4.alloc (.cells #[.int .i64 x1, .string x2, .int .i64 x3, .string x4, .int .i64 x5, .bool x6, .slice a3 m c3] 76) := ⟨_, rfl⟩; have hv5 : w5.heap[g]? = some (.cells #[.slice none 0 0, .int .i64 0, .slice none 0 0] 34 (0, 0)) := by rw [hw5]; exact ((MapKept.heap_alloc _ _).2 _ (lt_of_heap HV2.out)).trans HV2.out
    have hne : w4.heap.size ≠ g := Nat.ne_of_gt (lt_of_heap HV2.out); have hb34 : Below w3.heap.size w3 w4 := (below_draws (Below.refl w3.heap.size w3) 1).trans HB4.out; rw [← hw5]; obtain ⟨F1, F2, F3⟩ := fill3 hv5 (.slice a4 n c4) (.int .i64 pl) (.slice (some ⟨w4.heap.size, 0, none⟩) 1 1); obtain ⟨wf, hwf⟩ : ∃ wf, wf = ((w5.setCell ⟨g, 0, none⟩ (.slice a4 n c4)).setCell ⟨g, 1, none⟩ (.int .i64 pl)).setCell ⟨g, 2, none⟩ (.slice (some ⟨w4.heap.size, 0, none⟩) 1 1) := ⟨_, rfl⟩; rw [← hwf] at F1 F2 F3 ⊢
    have hcom : IntsT wf (.slice a4 n c4) zs ∧ wf.heap[w4.heap.size]? = some (.cells (opCells ⟨x1, x2, x3, x4, x5, x6, ds⟩ (.slice a3 m c3)).toArray 76 (0, 0)) ∧ w.heap.size ≤ w4.heap.size ∧ wf.ownsRow w.heap.size 87 3 (.slice a3 m c3) m (ds.flatMap D3.cells) := by
      have hI : IntsT wf (.slice a4 n c4) zs := HT4.out.kept ((by rw [hw5]; exact keepT_alloc _ _ _ : KeepT 3 w4 w5).trans (keepT_but hv5 (by decide) F2)); have hD := owns_below (owns_below HD3.out (keepT_below hb34 (Nat.le_refl _))) ((by rw [hw5]; exact keepT_alloc _ _ _ : KeepT 87 w4 w5).trans (keepT_but hv5 (by decide) F2)); have hO : wf.heap[w4.heap.size]? = some (.cells (opCells ⟨x1, x2, x3, x4, x5, x6, ds⟩ (.slice a3 m c3)).toArray 76 (0, 0)) := by rw [F2 _ hne, hw5]; exact (MapKept.heap_alloc _ _).1
      exact ⟨hI, hO, Nat.le_trans B3.out.size hb34.size, hD⟩
    have hbf : Below w.heap.size w wf := F3 _ _ (by rw [hw5]; exact (B3.out.trans (hb34.mono B3.out.size)).alloc (Nat.le_trans B3.out.size hb34.size) _) hgw; have HF1 := hid F1; have HCOM := hid hcom; have HBF := hid hbf; clear F1 F2 F3 hwf hcom hbf hv5; go_wp2; refine bodyPost_ret (ret_cell (k := 3) Tryz.results40 Tryz.isAgg34 Tryz.sizeOf34 _ _ g [.slice a4 n c4, .int .i64 pl, .slice (some ⟨w4.heap.size, 0, none⟩) 1 1] rfl rfl (fun j hj => ?_)) rfl ⟨a4, c4, _, .slice a3 m c3, rfl, HCOM.out, HBF.out⟩; rcases (by simp at hj; omega : j = 0 ∨ j = 1 ∨ j = 2) with rfl | rfl | rfl <;> (simp only [World.cell?, HF1.out]; rfl)
  · have hv5 := HV2.out; obtain ⟨w5, hw5⟩ : ∃ w5, w5 = w3.alloc (.cells #[.int .i64 x1, .string x2, .int .i64 x3, .string x4, .int .i64 x5, .bool x6, .slice a3 m c3] 76) := ⟨_, rfl⟩; have hb5 : Below w5.heap.size w5 w4 := by rw [hw5]; exact (below_draws (Below.refl _ _) 1).trans HB4.out
    have ho5 : w5.heap[w3.heap.size]? = some (.cells #[.int .i64 x1, .string x2, .int .i64 x3, .string x4, .int .i64 x5, .bool x6, .slice a3 m c3] 76 (0, 0)) := by rw [hw5]; exact (MapKept.heap_alloc _ _).1
    have hne : w3.heap.size ≠ g := Nat.ne_of_gt (lt_of_heap Z2.out); obtain ⟨F1, F2, F3⟩ := fill3 hv5 (.slice a4 n c4) (.int .i64 pl) (.slice (some ⟨w3.heap.size, 0, none⟩) 1 1); obtain ⟨wf, hwf⟩ : ∃ wf, wf = ((w4.setCell ⟨g, 0, none⟩ (.slice a4 n c4)).setCell ⟨g, 1, none⟩ (.int .i64 pl)).setCell ⟨g, 2, none⟩ (.slice (some ⟨w3.heap.size, 0, none⟩) 1 1) := ⟨_, rfl⟩; rw [← hwf] at F1 F2 F3 ⊢
    have hcom : IntsT wf (.slice a4 n c4) zs ∧ wf.heap[w3.heap.size]? = some (.cells (opCells ⟨x1, x2, x3, x4, x5, x6, ds⟩ (.slice a3 m c3)).toArray 76 (0, 0)) ∧ w.heap.size ≤ w3.heap.size ∧ wf.ownsRow w.heap.size 87 3 (.slice a3 m c3) m (ds.flatMap D3.cells) := by
      have hI : IntsT wf (.slice a4 n c4) zs := HT4.out.kept (keepT_but hv5 (by decide) F2); have hD := owns_below (owns_below (owns_below HD3.out (by rw [hw5]; exact keepT_alloc _ _ _ : KeepT 87 w3 w5)) (keepT_below hb5 (Nat.le_refl _))) (keepT_but hv5 (by decide) F2); have hO : wf.heap[w3.heap.size]? = some (.cells (opCells ⟨x1, x2, x3, x4, x5, x6, ds⟩ (.slice a3 m c3)).toArray 76 (0, 0)) := by rw [F2 _ hne, hb5.block _ (lt_of_heap ho5)]; exact ho5
      exact ⟨hI, hO, B3.out.size, hD⟩
    have hbf : Below w.heap.size w wf := F3 _ _ ((by rw [hw5]; exact B3.out.alloc B3.out.size _ : Below w.heap.size w w5).trans (hb5.mono (by rw [hw5]; exact Nat.le_trans B3.out.size (by simp)))) hgw; have HF1 := hid F1; have HCOM := hid hcom; have HBF := hid hbf; clear F1 F2 F3 hwf hcom hbf hv5; go_wp2; refine bodyPost_ret (ret_cell (k := 3) Tryz.results40 Tryz.isAgg34 Tryz.sizeOf34 _ _ g [.slice a4 n c4, .int .i64 pl, .slice (some ⟨w3.heap.size, 0, none⟩) 1 1] rfl rfl (fun j hj => ?_)) rfl ⟨a4, c4, _, .slice a3 m c3, rfl, HCOM.out, HBF.out⟩; rcases (by simp at hj; omega : j = 0 ∨ j = 1 ∨ j = 2) with rfl | rfl | rfl <;> (simp only [World.cell?, HF1.out]; rfl)
end Go.Proofs.YtdnebclemngdcaaGreatDoor
namespace Go.Proofs.YtdnebclemngdcaaGreatDoor
open Go.RowKit Go.Maps
set_option maxRecDepth 100000
set_option linter.unusedSectionVars false
variable [Inhabited ComV] [DecidableEq D3] [Inhabited D3] [Inhabited Dd] [Inhabited Dn] [Inhabited OpV]

def lastAt (E : Nat → OpV) (rs : List Rp) : Nat → Int
  | 0 => -1
  | k + 1 => match rs[k]? with
    | some r => if (E r.g).kind = 1 then (k : Int) else lastAt E rs k
    | none => lastAt E rs k
theorem lastAt_succ (E : Nat → OpV) (rs : List Rp) (k : Nat) (r : Rp) (h : rs[k]? = some r) : lastAt E rs (k + 1) = if (E r.g).kind = 1 then (k : Int) else lastAt E rs k := by
  show (match rs[k]? with | some r => if (E r.g).kind = 1 then (k : Int) else lastAt E rs k | none => lastAt E rs k) = _; rw [h]
def regB (E : Nat → OpV) (rs : List Rp) (i : Nat) (r : Rp) : Bool := decide (i = 0) || (decide ((i : Int) = lastAt E rs rs.length) || !decide ((E r.g).kind = 1))
def RowRet (rs : List Rp) (w : World) (e : Ending) (w' : World) : Prop := ∃ v, e = .returned v ∧ RowR w' w.heap.size v rs ∧ Below w.heap.size w w'
set_option maxHeartbeats 4000000 in
theorem lastRegister_ok (w : World) (base : Nat) (v : Value) (rs : List Rp) (E : Nat → OpV) (D : Nat → Value) (hv : RowR w base v rs) (hO : OpsM w rs E D) (hl : rs.length ≤ 1000) :
    Calls Tryz.prog 73 #[v] w fun e w' => RowRet (keepL (regB E rs) 0 rs) w e w' := by
  obtain ⟨i28, hi28, hy0, hy1, hy2⟩ := info_parts Tryz.info34q; obtain ⟨L, hL⟩ : ∃ L, L = rs.length := ⟨_, rfl⟩; obtain ⟨va, vc, hve⟩ := hv.shape; rw [← hL] at hve; have HV := hid hv; have HO := hid hO; have HL := hid hL; have HVE := hid hve; rw [hve]; rw [← hL] at hl; clear hv hO hL hve; go_enter Tryz.func73, Tryz.ntmps73; go_wp2_with fail
  go_loopw [3, 11] (fun last i wr => ∃ (k : Nat), k ≤ L ∧ i = .int .i64 k ∧ last = .int .i64 (lastAt E rs k) ∧ Hid (Below w.heap.size w wr)) (fun _ i _ => L - (intOf i).toNat)
  case atStart => exact ⟨0, Nat.zero_le _, rfl, rfl, Below.refl _ _⟩
  case round =>
    obtain ⟨k, hk, rfl, rfl, HB⟩ := hrel
    by_cases hlt : k < L
    · obtain ⟨r, hr⟩ := some_of_lt (l := rs) (k := k) (by rw [← HL.out]; exact hlt); obtain ⟨b, cap, e1, q0, q1, q2⟩ := HV.out.at hr; rw [HVE.out] at e1; injection e1 with e1 e2 e3; clear e2; subst e1 e3; have ho := HO.out r (List.mem_of_getElem? hr); have up : ∀ {a : Addr} {v : Value}, w.cell? a = some v → wr.cell? a = some v := fun {a v} h => by rw [HB.out.cell (lt_of_cell h)]; exact h
      have r0 := up q0; have r1 := up q1; have r2 := up q2; have r3 := up (show w.cell? ⟨r.g, 2, none⟩ = some (.int .i64 (E r.g).kind) by simp only [World.cell?, ho]; rfl); have hs := lastAt_succ E rs k r hr; have hne : r.g ≠ wr.heap.size := by have : r.g < wr.heap.size := lt_of_cell r3; omega
      have hglt : r.g < wr.heap.size := lt_of_cell r3; have hi1 : (k : Int) < (L : Int) := by omega
      obtain ⟨ki, hki⟩ : ∃ ki, ki = (E r.g).kind := ⟨_, rfl⟩; rw [← hki] at r3 hs; obtain ⟨g, hg⟩ : ∃ g, g = r.g := ⟨_, rfl⟩; rw [← hg] at r2 r3 hne hglt; obtain ⟨n1, hn1⟩ : ∃ n1, n1 = r.wn.length := ⟨_, rfl⟩; rw [← hn1] at r0; have HS := hid hs; clear q0 q1 q2 up ho hr hki hg hn1 hs
      by_cases h1 : ki = 1
      · have hb1 : (ki == 1) = true := by simp [h1]
        have HK := hid h1; clear h1; go_wp2_with fail; refine ⟨⟨k + 1, by omega, by go_num, ?_, ?_⟩, by simp [intOf]; omega⟩
        · rw [HS.out, if_pos HK.out]
        · exact HB.out.alloc HB.out.size _
      · have hb1 : (ki == 1) = false := by simp [h1]
        have HK := hid h1; clear h1; go_wp2_with fail; refine ⟨⟨k + 1, by omega, by go_num, ?_, ?_⟩, by simp [intOf]; omega⟩
        · rw [HS.out, if_neg HK.out]
        · exact HB.out.alloc HB.out.size _
    · obtain rfl : k = L := by omega
      have hi2 : ¬ (k : Int) < (k : Int) := by omega
      have HW := hid HB.out; clear HB hlt; obtain ⟨lx, hlx⟩ : ∃ lx, lx = lastAt E rs k := ⟨_, rfl⟩; rw [← hlx]; have HX := hid hlx; obtain ⟨w1, hw1⟩ : ∃ w1, w1 = wr := ⟨_, rfl⟩; subst hw1; clear hlx; go_wp2_with fail
      go_loopw [6, 26] (fun kv i wr => ∃ (j : Nat), j ≤ k ∧ i = .int .i64 j ∧ Hid (RowInv w kv (keepL (regB E rs) 0 (rs.take j)) wr)) (fun _ i _ => k - (intOf i).toNat)
      case atStart => exact ⟨0, Nat.zero_le _, rfl, ⟨RowR.nil _ _, HW.out⟩⟩
      case round =>
        obtain ⟨j, hj, rfl, HI⟩ := hrel
        by_cases hlt : j < k
        · obtain ⟨r, hr⟩ := some_of_lt (l := rs) (k := j) (by rw [← HL.out]; exact hlt); obtain ⟨b, cap, e1, q0, q1, q2⟩ := HV.out.at hr; rw [HVE.out] at e1; injection e1 with e1 e2 e3; clear e2; subst e1 e3; have ho := HO.out r (List.mem_of_getElem? hr); have up : ∀ {a : Addr} {v : Value}, w.cell? a = some v → wr.cell? a = some v := fun {a v} h => by rw [HI.out.below.cell (lt_of_cell h)]; exact h
          have r0 := up q0; have r1 := up q1; have r2 := up q2; have r3 := up (show w.cell? ⟨r.g, 2, none⟩ = some (.int .i64 (E r.g).kind) by simp only [World.cell?, ho]; rfl); have hs := keepL_snoc (regB E rs) hr; have hne : r.g ≠ wr.heap.size := by have : r.g < wr.heap.size := lt_of_cell r3; omega
          have hglt : r.g < wr.heap.size := lt_of_cell r3; have hi1 : (j : Int) < (k : Int) := by omega
          obtain ⟨bb, hbb⟩ : ∃ bb, bb = regB E rs j r := ⟨_, rfl⟩; rw [← hbb] at hs; unfold regB at hbb; rw [← HL.out, ← HX.out] at hbb; obtain ⟨ki, hki⟩ : ∃ ki, ki = (E r.g).kind := ⟨_, rfl⟩; rw [← hki] at r3 hbb; have hrow := HI.out.row; obtain ⟨m, hm⟩ : ∃ m, m = (keepL (regB E rs) 0 (rs.take j)).length := ⟨_, rfl⟩; have hmk : m ≤ j := by rw [hm]; exact Nat.le_trans (keepL_sub _ _ _).length_le (by rw [List.length_take]; omega)
          unfold RowR at hrow; rw [← hm] at hrow; obtain ⟨va2, vc2, hve2⟩ := HI.out.row.shape; rw [← hm] at hve2; subst hve2; have hbs := HI.out.below.size; have HS := hid hs; have HM := hid hm; have HI2 := hid (HI.out.moved (below_alloc wr (.cells #[.slice r.wa r.wn.length r.wc, .int .i64 r.pl, .slice (some ⟨r.g, 0, none⟩) 1 1] 34))); have hrow2 := hid (hrow.alloc (.cells #[.slice r.wa r.wn.length r.wc, .int .i64 r.pl, .slice (some ⟨r.g, 0, none⟩) 1 1] 34)); have b1 : ((j : Int) == 0) = decide (j = 0) := by rw [Bool.eq_iff_iff]; simp
          have b2 : ((j : Int) == lx) = decide ((j : Int) = lx) := by rw [Bool.eq_iff_iff]; simp
          have b3 : (ki != 1) = !decide (ki = 1) := by rw [Bool.eq_iff_iff]; simp
          obtain ⟨B1, hB1⟩ : ∃ B1, B1 = decide (j = 0) := ⟨_, rfl⟩; obtain ⟨B2, hB2⟩ : ∃ B2, B2 = decide ((j : Int) = lx) := ⟨_, rfl⟩; obtain ⟨B3, hB3⟩ : ∃ B3, B3 = !decide (ki = 1) := ⟨_, rfl⟩; rw [← hB1] at b1 hbb; rw [← hB2] at b2 hbb; rw [← hB3] at b3 hbb; have HBB := hid hbb; obtain ⟨wa, wc, wn, pl, g⟩ := r; simp only at r0 r1 r2 r3 hne hglt HI2 hrow2; obtain ⟨n1, hn1⟩ : ∃ n1, n1 = wn.length := ⟨_, rfl⟩; rw [← hn1] at r0 HI2 hrow2; have HN1 := hid hn1; clear q0 q1 q2 up ho hr hki hs hm HI hrow hB1 hB2 hB3 hbb hn1
          have fin0 : bb = false → ∀ W : World, RowInv w (.slice va2 m vc2) (keepL (regB E rs) 0 (rs.take j)) W → RowInv w (.slice va2 m vc2) (keepL (regB E rs) 0 (rs.take (j + 1))) W := fun h W hW => by
            rw [HS.out, h]; simpa using hW
          have FIN0 := hid fin0
          have fin1 : bb = true → ∀ (W W' : World) (v' : Value), RowInv w (.slice va2 m vc2) (keepL (regB E rs) 0 (rs.take j)) W → W.grownBy W' (Value.slice va2 m vc2).ownBlock → W'.ownsRow w.heap.size 34 3 v' (m + 1) ((keepL (regB E rs) 0 (rs.take j)).flatMap Rp.cells ++ [.slice wa n1 wc, .int .i64 pl, .slice (some ⟨g, 0, none⟩) 1 1]) → RowInv w v' (keepL (regB E rs) 0 (rs.take (j + 1))) W' := fun h W W' v' hW hg ho => by
            rw [HS.out, h, if_pos rfl]; refine hW.step hg ?_; rw [← HM.out]; have : Rp.cells ⟨wa, wc, wn, pl, g⟩ = [.slice wa n1 wc, .int .i64 pl, .slice (some ⟨g, 0, none⟩) 1 1] := by rw [HN1.out]; rfl
            rw [this]; exact ho
          have FIN1 := hid fin1
          have HONE : Hid (∀ v ∈ [Value.slice wa n1 wc, .int .i64 pl, .slice (some ⟨g, 0, none⟩) 1 1], v.oneCell' = true) := by
            rw [HN1.out]; exact Rp.one ⟨wa, wc, wn, pl, g⟩
          clear fin0 fin1
          cases B1 with
          | true =>
            go_wp2_with (at_builtin; refine wpList_append_own _ rfl _ _ 22 rfl w.heap.size 34 i28 _ 3 56 Tryz.underlying22 hi28 hy0 hy1 hy2 rfl (by decide) _ _ _ rfl (hrow2.out.alloc _) ⟨wr.heap.size + 1, 0, none⟩ 1 1 [.slice wa n1 wc, .int .i64 pl, .slice (some ⟨g, 0, none⟩) 1 1] rfl rfl (cells_newQ _ _ _ _ (by simp)) ?ho1 ?ho2 ?ho3 ?ho4 ?_; (case ho1 => exact HONE.out); (case ho2 => unfold maxLen; omega); (case ho3 => omega); (case ho4 => simp; omega); intro v9 w9 hown9 hgr9 _; have G9 := hid hgr9; have O9 := hid hown9; clear hown9 hgr9)
            refine ⟨⟨j + 1, by omega, by go_num, ?_⟩, by simp [intOf]; omega⟩; exact FIN1.out HBB.out _ _ _ (HI2.out.moved (below_alloc _ _)) G9.out O9.out
          | false =>
            cases B2 with
            | true =>
              go_wp2_with (at_builtin; refine wpList_append_own _ rfl _ _ 22 rfl w.heap.size 34 i28 _ 3 56 Tryz.underlying22 hi28 hy0 hy1 hy2 rfl (by decide) _ _ _ rfl (hrow2.out.alloc _) ⟨wr.heap.size + 1, 0, none⟩ 1 1 [.slice wa n1 wc, .int .i64 pl, .slice (some ⟨g, 0, none⟩) 1 1] rfl rfl (cells_newQ _ _ _ _ (by simp)) ?ho1 ?ho2 ?ho3 ?ho4 ?_; (case ho1 => exact HONE.out); (case ho2 => unfold maxLen; omega); (case ho3 => omega); (case ho4 => simp; omega); intro v9 w9 hown9 hgr9 _; have G9 := hid hgr9; have O9 := hid hown9; clear hown9 hgr9)
              refine ⟨⟨j + 1, by omega, by go_num, ?_⟩, by simp [intOf]; omega⟩; exact FIN1.out HBB.out _ _ _ (HI2.out.moved (below_alloc _ _)) G9.out O9.out
            | false =>
              cases B3 with
              | true =>
                go_wp2_with (at_builtin; refine wpList_append_own _ rfl _ _ 22 rfl w.heap.size 34 i28 _ 3 56 Tryz.underlying22 hi28 hy0 hy1 hy2 rfl (by decide) _ _ _ rfl (hrow2.out.alloc _) ⟨wr.heap.size + 1, 0, none⟩ 1 1 [.slice wa n1 wc, .int .i64 pl, .slice (some ⟨g, 0, none⟩) 1 1] rfl rfl (cells_newQ _ _ _ _ (by simp)) ?ho1 ?ho2 ?ho3 ?ho4 ?_; (case ho1 => exact HONE.out); (case ho2 => unfold maxLen; omega); (case ho3 => omega); (case ho4 => simp; omega); intro v9 w9 hown9 hgr9 _; have G9 := hid hgr9; have O9 := hid hown9; clear hown9 hgr9)
                refine ⟨⟨j + 1, by omega, by go_num, ?_⟩, by simp [intOf]; omega⟩; exact FIN1.out HBB.out _ _ _ (HI2.out.moved (below_alloc _ _)) G9.out O9.out
              | false =>
                go_wp2_with fail; refine ⟨⟨j + 1, by omega, by go_num, ?_⟩, by simp [intOf]; omega⟩
                exact FIN0.out HBB.out _ HI2.out
        · obtain rfl : j = k := by omega
          have hi3 : ¬ (j : Int) < (j : Int) := by omega
          have hI := HI.out; rw [List.take_of_length_le (by rw [← HL.out]; exact Nat.le_refl _)] at hI; have H := hid hI; clear hI HI; go_wp2; go_ret; exact ⟨_, rfl, H.out.row, H.out.below⟩
end Go.Proofs.YtdnebclemngdcaaGreatDoor
namespace Go.Proofs.YtdnebclemngdcaaGreatDoor
open Go.RowKit Go.Maps
set_option maxRecDepth 100000
set_option linter.unusedSectionVars false
variable [Inhabited ComV] [DecidableEq D3] [Inhabited D3] [Inhabited Dd] [Inhabited Dn] [Inhabited OpV]

def sumB (n : Int) : Bool := decide (-1099511627776 ≤ n) && decide (n ≤ 1099511627776)
theorem isSum_ok (w : World) (n : Int) : Calls Tryz.prog 105 #[.int .i64 n] w fun e w' => e = .returned (.bool (sumB n)) ∧ w' = w := by
  by_cases h1 : -1099511627776 ≤ n
  · by_cases h2 : n ≤ 1099511627776
    · go_enter Tryz.func105, Tryz.ntmps105; go_wp2; go_ret; exact ⟨ret_bool (by simp [sumB, h1, h2]), rfl⟩
    · go_enter Tryz.func105, Tryz.ntmps105; go_wp2; go_ret; exact ⟨ret_bool (by simp [sumB, h2]), rfl⟩
  · go_enter Tryz.func105, Tryz.ntmps105; go_wp2; go_ret; exact ⟨ret_bool (by unfold sumB; rw [decide_eq_false (show ¬ -1099511627776 ≤ n by omega)]; rfl), rfl⟩

structure Off (G : List Nat) (w w' : World) : Prop where
  os : w'.os = w.os
  tape : w'.tape = w.tape
  output : w'.output = w.output
  size : w.heap.size ≤ w'.heap.size
  block : ∀ i, i < w.heap.size → i ∉ G → w'.heap[i]? = w.heap[i]?
theorem Off.refl (G : List Nat) (w : World) : Off G w w := ⟨rfl, rfl, rfl, Nat.le_refl _, fun _ _ _ => rfl⟩
theorem Off.trans {G : List Nat} {a b c : World} (h : Off G a b) (h' : Off G b c) : Off G a c := ⟨h'.os.trans h.os, h'.tape.trans h.tape, h'.output.trans h.output, Nat.le_trans h.size h'.size, fun i hi hg => (h'.block i (Nat.lt_of_lt_of_le hi h.size) hg).trans (h.block i hi hg)⟩
theorem Off.of_below {G : List Nat} {w w' : World} (h : Below w.heap.size w w') : Off G w w' := ⟨h.os, h.tape, h.output, h.size, fun i hi _ => h.block i hi⟩
theorem Off.mono {G G' : List Nat} {w w' : World} (h : Off G w w') (hs : ∀ i ∈ G, i ∈ G') : Off G' w w' := ⟨h.os, h.tape, h.output, h.size, fun i hi hg => h.block i hi fun hx => hg (hs i hx)⟩
theorem Off.cell {G : List Nat} {w w' : World} (h : Off G w w') {a : Addr} {v : Value} (hc : w.cell? a = some v) (hg : a.block ∉ G) : w'.cell? a = some v := (World.cell?_of_block (h.block _ (lt_of_cell hc) hg)).trans hc
theorem Off.set {G : List Nat} {w : World} {b : Nat} (hb : b ∈ G) (j : Nat) (v : Value) : Off G w (w.setCell ⟨b, j, none⟩ v) := ⟨rfl, rfl, rfl, by simp [World.setCell], fun i _ hg => Below.heap_setCell _ _ _ _ fun e => hg (by have e' : i = b := e; rw [e']; exact hb)⟩
structure SumQ where
  kept : List Rp
  sum : Option Nat
  E : Nat → OpV
def updE (E : Nat → OpV) (g : Nat) (o : OpV) : Nat → OpV := fun i => if i = g then o else E i
theorem updE_same (E : Nat → OpV) (g : Nat) (o : OpV) : updE E g o g = o := if_pos rfl
theorem updE_other (E : Nat → OpV) {g i : Nat} (o : OpV) (h : i ≠ g) : updE E g o i = E i := if_neg h
def stepQ (st : SumQ) (r : Rp) : SumQ :=
  if (st.E r.g).kind = 2 then
    match st.sum with
    | none => ⟨st.kept ++ [r], some r.g, st.E⟩
    | some s => if sumB ((st.E s).n + (st.E r.g).n) = true then ⟨st.kept, some s, updE st.E s { st.E s with n := (st.E s).n + (st.E r.g).n }⟩ else ⟨st.kept ++ [r], some r.g, st.E⟩
  else ⟨st.kept ++ [r], st.sum, st.E⟩
theorem stepQ_other {st : SumQ} {r : Rp} (h : ¬ (st.E r.g).kind = 2) : stepQ st r = ⟨st.kept ++ [r], st.sum, st.E⟩ := by
  unfold stepQ; rw [if_neg h]
theorem stepQ_first {st : SumQ} {r : Rp} (h : (st.E r.g).kind = 2) (hs : st.sum = none) : stepQ st r = ⟨st.kept ++ [r], some r.g, st.E⟩ := by
  unfold stepQ; rw [if_pos h, hs]
theorem stepQ_sum {st : SumQ} {r : Rp} {s : Nat} (h : (st.E r.g).kind = 2) (hs : st.sum = some s) (hb : sumB ((st.E s).n + (st.E r.g).n) = true) : stepQ st r = ⟨st.kept, some s, updE st.E s { st.E s with n := (st.E s).n + (st.E r.g).n }⟩ := by
  unfold stepQ; rw [if_pos h, hs]; exact if_pos hb
theorem stepQ_full {st : SumQ} {r : Rp} {s : Nat} (h : (st.E r.g).kind = 2) (hs : st.sum = some s) (hb : ¬ sumB ((st.E s).n + (st.E r.g).n) = true) : stepQ st r = ⟨st.kept ++ [r], some r.g, st.E⟩ := by
  unfold stepQ; rw [if_pos h, hs]; exact if_neg hb
def sumQ (E : Nat → OpV) (rs : List Rp) : SumQ := rs.foldl stepQ ⟨[], none, E⟩
theorem sumQ_snoc (E : Nat → OpV) {rs : List Rp} {k : Nat} {r : Rp} (h : rs[k]? = some r) : sumQ E (rs.take (k + 1)) = stepQ (sumQ E (rs.take k)) r := by
  obtain ⟨hk, e⟩ := List.getElem?_eq_some_iff.1 h; unfold sumQ; rw [List.take_succ_eq_append_getElem hk, List.foldl_append, e]; rfl
theorem stepQ_kept (st : SumQ) (r : Rp) : (stepQ st r).kept.length ≤ st.kept.length + 1 := by
  unfold stepQ
  split
  · split
    · simp
    · split
      · simp
      · simp
  · simp
theorem sumQ_few (E : Nat → OpV) (rs : List Rp) : ∀ k, (sumQ E (rs.take k)).kept.length ≤ k
  | 0 => by simp [sumQ]
  | k + 1 => by
    cases h : rs[k]? with
    | none =>
      have : rs.take (k + 1) = rs.take k := by
        rw [List.getElem?_eq_none_iff] at h; rw [List.take_of_length_le h, List.take_of_length_le (by omega)]
      rw [this]; have := sumQ_few E rs k; omega
    | some r =>
      rw [sumQ_snoc E h]; have := sumQ_few E rs k; have := stepQ_kept (sumQ E (rs.take k)) r; omega
structure SumOk (E : Nat → OpV) (rs : List Rp) (k : Nat) (st : SumQ) : Prop where
  sum : ∀ s, st.sum = some s → s ∈ (rs.take k).map (·.g)
  n : ∀ g ∈ rs.map (·.g), -1099511627776 ≤ (st.E g).n ∧ (st.E g).n ≤ 1099511627776
theorem sumB_of {n : Int} (h : sumB n = true) : -1099511627776 ≤ n ∧ n ≤ 1099511627776 := by
  unfold sumB at h; rw [Bool.and_eq_true, decide_eq_true_eq, decide_eq_true_eq] at h; exact h
theorem sumOk {E : Nat → OpV} {rs : List Rp} (hn : ∀ g ∈ rs.map (·.g), -1099511627776 ≤ (E g).n ∧ (E g).n ≤ 1099511627776) : ∀ k, k ≤ rs.length → SumOk E rs k (sumQ E (rs.take k))
  | 0, _ => ⟨fun s hs => by simp [sumQ] at hs, hn⟩
  | k + 1, hk => by
    obtain ⟨r, hr⟩ := some_of_lt (l := rs) (k := k) (by omega); have ih := sumOk hn k (by omega)
    have ht : rs.take (k + 1) = rs.take k ++ [r] := by
      obtain ⟨hk', e⟩ := List.getElem?_eq_some_iff.1 hr; rw [List.take_succ_eq_append_getElem hk', e]
    have hl : ∀ s, s ∈ (rs.take k).map (·.g) → s ∈ (rs.take (k + 1)).map (·.g) := fun s hs => by rw [ht, List.map_append]; exact List.mem_append_left _ hs
    have hg : r.g ∈ (rs.take (k + 1)).map (·.g) := by rw [ht, List.map_append]; simp
    rw [sumQ_snoc E hr]; unfold stepQ
    split
    · split
      · exact ⟨fun s hs => by cases hs; exact hg, ih.n⟩
      · rename_i s hs
        split
        · rename_i hb
          refine ⟨fun t ht => by cases ht; exact hl _ (ih.sum _ hs), fun g hg => ?_⟩; unfold updE; simp only
          split
          · exact sumB_of hb
          · exact ih.n g hg
        · exact ⟨fun s hs => by cases hs; exact hg, ih.n⟩
    · exact ⟨fun s hs => hl _ (ih.sum s hs), ih.n⟩
structure SumW (w : World) (rs : List Rp) (D : Nat → Value) (st : SumQ) (v : Value) (wr : World) : Prop where
  row : RowR wr w.heap.size v st.kept
  ops : OpsM wr rs st.E D
  off : Off (rs.map (·.g)) w wr
theorem SumW.app {w wr w' : World} {rs : List Rp} {D : Nat → Value} {st : SumQ} {v v' : Value} {r : Rp} (h : SumW w rs D st v wr) (sum : Option Nat) (hG : ∀ g ∈ rs.map (·.g), g < w.heap.size) (hg : wr.grownBy w' v.ownBlock) (hr : w'.ownsRow w.heap.size 34 3 v' (st.kept.length + 1) (st.kept.flatMap Rp.cells ++ r.cells)) : SumW w rs D ⟨st.kept ++ [r], sum, st.E⟩ v' w' where
  row := RowR.snoc hr
  ops := fun q hq => by
    rw [hg.block _ (lt_of_heapQ (h.ops q hq)) fun e => by have := (h.row.lt _ e.symm).1; have := hG q.g (List.mem_map.2 ⟨q, hq, rfl⟩); omega]; exact h.ops q hq
  off := ⟨hg.os.trans h.off.os, hg.tape.trans h.off.tape, hg.output.trans h.off.output, Nat.le_trans h.off.size hg.size, fun i hi hn => (hg.block i (Nat.lt_of_lt_of_le hi h.off.size) fun e => by have := (h.row.lt i e.symm).1; omega).trans (h.off.block i hi hn)⟩
theorem SumW.moved {w wr w' : World} {rs : List Rp} {D : Nat → Value} {st : SumQ} {v : Value} (h : SumW w rs D st v wr) (hb : Below wr.heap.size wr w') : SumW w rs D st v w' := ⟨h.row.below hb, h.ops.below hb, h.off.trans (Off.of_below hb)⟩
theorem heap_setQ {w : World} {b : Nat} {cs : Array Value} {t : TypeId} (h : w.heap[b]? = some (.cells cs t (0, 0))) (j : Nat) (v : Value) : (w.setCell ⟨b, j, none⟩ v).heap[b]? = some (.cells (cs.setIfInBounds j v) t (0, 0)) := by
  simp only [World.setCell, Array.getElem?_modify, h]; simp
theorem SumW.add {w wr : World} {rs : List Rp} {D : Nat → Value} {st : SumQ} {v : Value} (h : SumW w rs D st v wr) (s : Nat) (hs : s ∈ rs.map (·.g)) (n : Int) : SumW w rs D ⟨st.kept, some s, updE st.E s { st.E s with n := n }⟩ v (wr.setCell ⟨s, 4, none⟩ (.int .i64 n)) := by
  obtain ⟨q0, hq0, rfl⟩ := List.mem_map.1 hs; have h0 := h.ops q0 hq0; refine ⟨?_, fun q hq => ?_, h.off.trans (Off.set hs _ _)⟩
  · refine ownsRow_setCell_other h.row (fun e => ?_) _; rcases h.row.2 with ⟨hv, _⟩ | ⟨g, cap, cur, hv, _, hh, _⟩
    · rw [hv] at e; cases e
    · rw [hv] at e; have e' : g = q0.g := Option.some.inj e; rw [e', h0] at hh; injection hh with hh; injection hh with _ hh; exact absurd hh (by decide)
  · by_cases e : q.g = q0.g
    · dsimp only
      rw [e, heap_setQ h0, updE_same]; rfl
    · dsimp only
      rw [Below.heap_setCell _ _ _ _ e, h.ops q hq, updE_other _ _ e]
def SumRet (rs : List Rp) (E : Nat → OpV) (D : Nat → Value) (w : World) (e : Ending) (w' : World) : Prop := ∃ v, e = .returned v ∧ SumW w rs D (sumQ E rs) v w'
def ptrQ : Option Nat → Value
  | none => .pointer none
  | some s => .pointer (some ⟨s, 0, none⟩)
theorem opC_cell {w : World} {g : Nat} {o : OpV} {dv : Value} (h : w.heap[g]? = some (.cells (opC o dv).toArray 76 (0, 0))) : w.cell? ⟨g, 2, none⟩ = some (.int .i64 o.kind) ∧ w.cell? ⟨g, 4, none⟩ = some (.int .i64 o.n) ∧ w.frozen? ⟨g, 4, none⟩ = false := by
  refine ⟨?_, ?_, ?_⟩
  · simp only [World.cell?, h]; rfl
  · simp only [World.cell?, h]; rfl
  · simp only [World.frozen?, h]; simp
theorem RowR.block {w : World} {base : Nat} {v : Value} {rs qs : List Rp} {E : Nat → OpV} {D : Nat → Value} (h : RowR w base v rs) (hO : OpsM w qs E D) : ∀ b n c, v = .slice (some ⟨b, 0, none⟩) n c → b ∉ qs.map (·.g) := fun b n c hv hm => by
  obtain ⟨q, hq, e⟩ := List.mem_map.1 hm; rcases h.2 with ⟨hv', _⟩ | ⟨g, cap, cur, hv', _, hh, _⟩
  · rw [hv'] at hv; cases hv
  · rw [hv'] at hv; cases hv; have := hO q hq; rw [e, hh] at this; injection this with this; injection this with _ this; exact absurd this (by decide)
theorem nq0 (w : World) : (binOp .neq 159 (.pointer none) (.pointer none)).run Tryz.prog w = .ok (.bool false) w := by kernel_rfl
theorem nq1 (w : World) (s : Nat) : (binOp .neq 159 (.pointer (some ⟨s, 0, none⟩)) (.pointer none)).run Tryz.prog w = .ok (.bool true) w := by kernel_rfl
theorem List.mem_of_mem_map_takeQ {rs : List Rp} {k s : Nat} (h : s ∈ (rs.take k).map (·.g)) : s ∈ rs.map (·.g) := by
  obtain ⟨q, hq, e⟩ := List.mem_map.1 h; exact List.mem_map.2 ⟨q, List.mem_of_mem_take hq, e⟩
theorem wrap_sumQ {a b : Int} (ha : -1099511627776 ≤ a ∧ a ≤ 1099511627776) (hb : -1099511627776 ≤ b ∧ b ≤ 1099511627776) : IntKind.i64.wrap (a + b) = a + b := by
  simp [IntKind.wrap, IntKind.bits, IntKind.signed]; omega
set_option maxHeartbeats 4000000 in
theorem sumCounters_ok (w : World) (base : Nat) (v : Value) (rs : List Rp) (E : Nat → OpV) (D : Nat → Value) (hv : RowR w base v rs) (hO : OpsM w rs E D) (hn : ∀ g ∈ rs.map (·.g), -1099511627776 ≤ (E g).n ∧ (E g).n ≤ 1099511627776) (hl : rs.length ≤ 1000) :
    Calls Tryz.prog 72 #[v] w fun e w' => SumRet rs E D w e w' := by
  obtain ⟨i28, hi28, hy0, hy1, hy2⟩ := info_parts Tryz.info34q; have K105 := isSum_ok; obtain ⟨L, hL⟩ : ∃ L, L = rs.length := ⟨_, rfl⟩; obtain ⟨va, vc, hve⟩ := hv.shape; rw [← hL] at hve
  have hG : ∀ g ∈ rs.map (·.g), g < w.heap.size := fun g hg => by
    obtain ⟨q, hq, rfl⟩ := List.mem_map.1 hg; exact lt_of_heapQ (hO q hq)
  have HB := hid (hv.block hO); have HV := hid hv; have HO := hid hO; have HL := hid hL; have HVE := hid hve; have HN := hid hn; have HG := hid hG; rw [hve]; rw [← hL] at hl; clear hv hO hL hve hn hG; go_enter Tryz.func72, Tryz.ntmps72; go_wp2_with fail
  go_loopw [3, 4, 9] (fun kv sv i wr => ∃ (k : Nat), k ≤ L ∧ i = .int .i64 k ∧ sv = ptrQ (sumQ E (rs.take k)).sum ∧ Hid (SumW w rs D (sumQ E (rs.take k)) kv wr)) (fun _ _ i _ => L - (intOf i).toNat)
  case atStart => exact ⟨0, Nat.zero_le _, rfl, rfl, ⟨RowR.nil _ _, HO.out, Off.refl _ _⟩⟩
  case round =>
    obtain ⟨k, hk, rfl, rfl, HI⟩ := hrel
    by_cases hlt : k < L
    · obtain ⟨r, hr⟩ := some_of_lt (l := rs) (k := k) (by rw [← HL.out]; exact hlt); obtain ⟨b, cap, e1, q0, q1, q2⟩ := HV.out.at hr; have hbG := HB.out b _ _ e1; rw [HVE.out] at e1; injection e1 with e1 e2 e3; clear e2; subst e1 e3; have hmem := List.mem_of_getElem? hr; obtain ⟨st, hst⟩ : ∃ st, st = sumQ E (rs.take k) := ⟨_, rfl⟩; have hsn := sumQ_snoc E hr; have hok := sumOk HN.out k (by rw [← HL.out]; exact hk); have hfew := sumQ_few E rs k; rw [← hst] at HI hsn hok hfew ⊢; obtain ⟨r3, r4, r4f⟩ := opC_cell (HI.out.ops r hmem); have r0 := HI.out.off.cell q0 hbG; have r1 := HI.out.off.cell q1 hbG; have r2 := HI.out.off.cell q2 hbG; have hi1 : (k : Int) < (L : Int) := by omega
      obtain ⟨ki, hki⟩ : ∃ ki, ki = (st.E r.g).kind := ⟨_, rfl⟩; obtain ⟨rn, hrn⟩ : ∃ rn, rn = (st.E r.g).n := ⟨_, rfl⟩; rw [← hki] at r3; rw [← hrn] at r4; have hrow := HI.out.row; unfold RowR at hrow; obtain ⟨m, hm⟩ : ∃ m, m = st.kept.length := ⟨_, rfl⟩; rw [← hm] at hrow hfew; obtain ⟨va2, vc2, hve2⟩ := HI.out.row.shape; rw [← hm] at hve2; subst hve2; have hbs := HI.out.off.size; obtain ⟨sm, hsm⟩ : ∃ sm, sm = st.sum := ⟨_, rfl⟩; have hsum := hok.sum; have hbn := hok.n; have hrb := hbn r.g (List.mem_map.2 ⟨r, hmem, rfl⟩); rw [← hrn] at hrb; rw [← hsm] at hsum ⊢; have HSM := hid hsm; have HSN := hid hsn; have HKI := hid hki; have HRN := hid hrn; have HM := hid hm; have HST := hid hst; have HMEM := hid hmem; have HROW := hid hrow; have HBN := hid hbn; have HSUM := hid hsum; obtain ⟨wa, wc, wn, pl, g⟩ := r; simp only at r0 r1 r2 r3 r4 r4f hrb HSN HKI HRN HMEM
      obtain ⟨n1, hn1⟩ : ∃ n1, n1 = wn.length := ⟨_, rfl⟩; rw [← hn1] at r0
      have HONE : Hid (∀ v ∈ [Value.slice wa n1 wc, .int .i64 pl, .slice (some ⟨g, 0, none⟩) 1 1], v.oneCell' = true) := by
        rw [hn1]; exact Rp.one ⟨wa, wc, wn, pl, g⟩
      have fin : ∀ (sum' : Option Nat) (v9 : Value) (w9 : World), stepQ st ⟨wa, wc, wn, pl, g⟩ = ⟨st.kept ++ [⟨wa, wc, wn, pl, g⟩], sum', st.E⟩ → ∀ W : World, Below wr.heap.size wr W → ∀ o, (W.alloc o).grownBy w9 (Value.slice va2 m vc2).ownBlock → w9.ownsRow w.heap.size 34 3 v9 (m + 1) (st.kept.flatMap Rp.cells ++ [.slice wa n1 wc, .int .i64 pl, .slice (some ⟨g, 0, none⟩) 1 1]) → sumQ E (rs.take (k + 1)) = ⟨st.kept ++ [⟨wa, wc, wn, pl, g⟩], sum', st.E⟩ ∧ SumW w rs D ⟨st.kept ++ [⟨wa, wc, wn, pl, g⟩], sum', st.E⟩ v9 w9 := fun sum' v9 w9 he W hW o hg ho => by
        refine ⟨HSN.out.trans he, ((HI.out.moved hW).moved (below_alloc W o)).app sum' HG.out hg ?_⟩; rw [← HM.out]; have : Rp.cells ⟨wa, wc, wn, pl, g⟩ = [.slice wa n1 wc, .int .i64 pl, .slice (some ⟨g, 0, none⟩) 1 1] := by rw [hn1]; rfl
        rw [this]; exact ho
      have FIN := hid fin; clear hok hsn hst hmem hki hrn hm hrow hbG q0 q1 q2 hr hsm hbn hsum fin hn1
      by_cases h2 : ki = 2
      · have hb2 : (ki == 2) = true := by simp [h2]
        have HK2 : Hid ((st.E g).kind = 2) := by rw [← HKI.out]; exact h2
        clear h2
        cases sm with
        | none =>
          have HE := hid (stepQ_first (r := ⟨wa, wc, wn, pl, g⟩) HK2.out HSM.out.symm); have nq := nq0; show _; unfold ptrQ; go_wp2_with fail
          go_region
          obtain ⟨wd, hwd⟩ : ∃ wd, wd = wr.drew := ⟨_, rfl⟩; rw [← hwd]; have HROW2 : Hid (wd.ownsRow w.heap.size 34 3 (.slice va2 m vc2) m (st.kept.flatMap Rp.cells)) := by rw [hwd]; exact HROW.out
          have HBD : Hid (Below wr.heap.size wr wd) := by rw [hwd]; exact below_draws (Below.refl _ _) 1
          have hds : w.heap.size ≤ wd.heap.size := by rw [hwd]; exact hbs
          have d0 : wd.cell? ⟨b, k * 3, none⟩ = some (.slice wa n1 wc) := by rw [hwd]; exact r0
          have d1 : wd.cell? ⟨b, k * 3 + 1, none⟩ = some (.int .i64 pl) := by rw [hwd]; exact r1
          have d2 : wd.cell? ⟨b, k * 3 + 2, none⟩ = some (.slice (some ⟨g, 0, none⟩) 1 1) := by rw [hwd]; exact r2
          clear hwd r0 r1 r2 r3 r4 r4f
          go_wp2_with (at_builtin; refine wpList_append_own _ rfl _ _ 22 rfl w.heap.size 34 i28 _ 3 56 Tryz.underlying22 hi28 hy0 hy1 hy2 rfl (by decide) _ _ _ rfl (HROW2.out.alloc _) ⟨wd.heap.size, 0, none⟩ 1 1 [.slice wa n1 wc, .int .i64 pl, .slice (some ⟨g, 0, none⟩) 1 1] rfl rfl (cells_newQ _ _ _ _ (by simp)) ?ho1 ?ho2 ?ho3 ?ho4 ?_; (case ho1 => exact HONE.out); (case ho2 => unfold maxLen; omega); (case ho3 => omega); (case ho4 => simp; omega); intro v9 w9 hown9 hgr9 _; have G9 := hid hgr9; have O9 := hid hown9; clear hown9 hgr9)
          obtain ⟨F1, F2⟩ := FIN.out (some g) v9 w9 HE.out wd HBD.out _ G9.out O9.out; refine ⟨⟨k + 1, by omega, by go_num, ?_, ?_⟩, by simp [intOf]; omega⟩
          · rw [F1]
          · rw [F1]; exact F2
        | some s =>
          obtain ⟨q, hq, hqs⟩ := List.mem_map.1 (List.mem_of_mem_map_takeQ (HSUM.out s rfl)); obtain ⟨_, s4, s4f⟩ := opC_cell (HI.out.ops q hq); rw [hqs] at s4 s4f; have hsb := HBN.out s (List.mem_map.2 ⟨q, hq, hqs⟩); have HSG := hid (show s ∈ rs.map (·.g) from List.mem_map.2 ⟨q, hq, hqs⟩); obtain ⟨sn, hsn⟩ : ∃ sn, sn = (st.E s).n := ⟨_, rfl⟩; rw [← hsn] at s4 hsb; have HSNN := hid hsn; have hwr : IntKind.i64.wrap (sn + rn) = sn + rn := wrap_sumQ hsb hrb; clear hq hqs hsn; have nq := nq1; show _; unfold ptrQ; go_wp2_with fail
          go_region_held (fun w' => w'.cell? ⟨g, 4, none⟩ = some (.int .i64 rn) ∧ w'.cell? ⟨s, 4, none⟩ = some (.int .i64 sn)) (go_keep) (first | (go_at_call 105; refine (K105 _ _).mono ?_; rintro e w' ⟨rfl, rfl⟩))
          obtain ⟨bs, hbs2⟩ : ∃ bs, bs = sumB (sn + rn) := ⟨_, rfl⟩; rw [← hbs2]; have HBS := hid hbs2; clear hbs2; obtain ⟨wd, hwd⟩ : ∃ wd, wd = wr.drew := ⟨_, rfl⟩; rw [← hwd]; have HROW2 : Hid (wd.ownsRow w.heap.size 34 3 (.slice va2 m vc2) m (st.kept.flatMap Rp.cells)) := by rw [hwd]; exact HROW.out
          have HBD : Hid (Below wr.heap.size wr wd) := by rw [hwd]; exact below_draws (Below.refl _ _) 1
          have hds : w.heap.size ≤ wd.heap.size := by rw [hwd]; exact hbs
          have d0 : wd.cell? ⟨b, k * 3, none⟩ = some (.slice wa n1 wc) := by rw [hwd]; exact r0
          have d1 : wd.cell? ⟨b, k * 3 + 1, none⟩ = some (.int .i64 pl) := by rw [hwd]; exact r1
          have d2 : wd.cell? ⟨b, k * 3 + 2, none⟩ = some (.slice (some ⟨g, 0, none⟩) 1 1) := by rw [hwd]; exact r2
          have d3 : wd.cell? ⟨g, 4, none⟩ = some (.int .i64 rn) := by rw [hwd]; exact r4
          have d4 : wd.cell? ⟨s, 4, none⟩ = some (.int .i64 sn) := by rw [hwd]; exact s4
          have d5 : wd.frozen? ⟨s, 4, none⟩ = false := by rw [hwd]; exact s4f
          clear s4 s4f
          cases bs with
          | false =>
            have HE := hid (stepQ_full (r := ⟨wa, wc, wn, pl, g⟩) HK2.out HSM.out.symm (by rw [← HSNN.out, ← HRN.out, ← HBS.out]; decide)); clear hwd r0 r1 r2 r3 r4 r4f
            go_wp2_with (at_builtin; refine wpList_append_own _ rfl _ _ 22 rfl w.heap.size 34 i28 _ 3 56 Tryz.underlying22 hi28 hy0 hy1 hy2 rfl (by decide) _ _ _ rfl (HROW2.out.alloc _) ⟨wd.heap.size, 0, none⟩ 1 1 [.slice wa n1 wc, .int .i64 pl, .slice (some ⟨g, 0, none⟩) 1 1] rfl rfl (cells_newQ _ _ _ _ (by simp)) ?ho1 ?ho2 ?ho3 ?ho4 ?_; (case ho1 => exact HONE.out); (case ho2 => unfold maxLen; omega); (case ho3 => omega); (case ho4 => simp; omega); intro v9 w9 hown9 hgr9 _; have G9 := hid hgr9; have O9 := hid hown9; clear hown9 hgr9)
            obtain ⟨F1, F2⟩ := FIN.out (some g) v9 w9 HE.out wd HBD.out _ G9.out O9.out; refine ⟨⟨k + 1, by omega, by go_num, ?_, ?_⟩, by simp [intOf]; omega⟩
            · rw [F1]
            · rw [F1]; exact F2
          | true =>
            have HE := hid (stepQ_sum (r := ⟨wa, wc, wn, pl, g⟩) HK2.out HSM.out.symm (by rw [← HSNN.out, ← HRN.out, ← HBS.out])); clear hwd r0 r1 r2 r3 r4 r4f; go_wp2_with fail
            go_region
            obtain ⟨we, hwe⟩ : ∃ we, we = (wd.setCell ⟨s, 4, none⟩ (.int .i64 (sn + rn))).drew := ⟨_, rfl⟩; rw [← hwe]
            have F2 : Hid (SumW w rs D ⟨st.kept, some s, updE st.E s { st.E s with n := sn + rn }⟩ (.slice va2 m vc2) we) := by
              rw [hwe]; exact ((HI.out.moved HBD.out).add s HSG.out (sn + rn)).moved (below_draws (Below.refl _ _) 1)
            clear hwe; go_wp2_with fail; have F1 := HSN.out.trans HE.out; rw [← HSNN.out, ← HRN.out] at F1; refine ⟨⟨k + 1, by omega, by go_num, ?_, ?_⟩, by simp [intOf]; omega⟩
            · rw [F1]
            · rw [F1]; exact F2.out
      · have hb2 : (ki == 2) = false := by simp [h2]
        have HK2 : Hid (¬ (st.E g).kind = 2) := by rw [← HKI.out]; exact h2
        clear h2; have HE := hid (stepQ_other (r := ⟨wa, wc, wn, pl, g⟩) HK2.out); rw [← HSM.out] at HE; obtain ⟨pv, hpv⟩ : ∃ pv, pv = ptrQ sm := ⟨_, rfl⟩; rw [← hpv]; have HP := hid hpv; clear hpv
        go_wp2_with (at_builtin; refine wpList_append_own _ rfl _ _ 22 rfl w.heap.size 34 i28 _ 3 56 Tryz.underlying22 hi28 hy0 hy1 hy2 rfl (by decide) _ _ _ rfl (HROW.out.alloc _) ⟨wr.heap.size, 0, none⟩ 1 1 [.slice wa n1 wc, .int .i64 pl, .slice (some ⟨g, 0, none⟩) 1 1] rfl rfl (cells_newQ _ _ _ _ (by simp)) ?ho1 ?ho2 ?ho3 ?ho4 ?_; (case ho1 => exact HONE.out); (case ho2 => unfold maxLen; omega); (case ho3 => omega); (case ho4 => simp; omega); intro v9 w9 hown9 hgr9 _; have G9 := hid hgr9; have O9 := hid hown9; clear hown9 hgr9)
        obtain ⟨F1, F2⟩ := FIN.out sm v9 w9 HE.out wr (Below.refl _ _) _ G9.out O9.out; refine ⟨⟨k + 1, by omega, by go_num, ?_, ?_⟩, by simp [intOf]; omega⟩
        · rw [F1]; exact HP.out
        · rw [F1]; exact F2
    · obtain rfl : k = L := by omega
      have hi3 : ¬ (k : Int) < (k : Int) := by omega
      have hI := HI.out; rw [List.take_of_length_le (by rw [← HL.out]; exact Nat.le_refl _)] at hI; have H := hid hI; clear hI HI; go_wp2; go_ret; exact ⟨_, rfl, H.out⟩
end Go.Proofs.YtdnebclemngdcaaGreatDoor
namespace Go.Proofs.YtdnebclemngdcaaGreatDoor
open Go.RowKit Go.Maps
set_option maxRecDepth 100000
set_option linter.unusedSectionVars false
variable [Inhabited ComV] [DecidableEq D3] [Inhabited D3] [Inhabited Dd] [Inhabited Dn] [Inhabited OpV]

theorem keyed156 : Keyed Tryz.prog 156 :=
  Keyed.of_law (deep_law_gate (by kernel_rfl) (of_decide_eq_true (by kernel_rfl)) (of_decide_eq_true (by kernel_rfl)) (by kernel_rfl) (by kernel_rfl))
def tgtV (d : D3) (t : ByteArray) : Value := .agg #[.int .i64 d.p, .int .i64 d.t, .int .i64 d.a, .string t]
def klT (d : D3) (t : ByteArray) : Lit := .string (keyBytes [.int .i64 d.p, .int .i64 d.t, .int .i64 d.a, .string t.data.toList])
theorem keyLits_str (D : Nat) (s : ByteArray) (hs : s.size ≤ 1000) : Tryz.prog.keyLits (D + 1) 9 [.string s] = some [.string s.data.toList] := by
  have : s.size ≤ maxLen := by unfold maxLen; omega
  simp [Program.keyLits, Tryz.underlying9, this]
theorem key_tgt (d : D3) (t : ByteArray) (h : wf3 d) (ht : t.size ≤ 1000) : keyOf Tryz.prog 156 (tgtV d t) = some (klT d t) := by
  obtain ⟨h1, h2, h3⟩ := h; obtain ⟨p, q, a⟩ := d; simp only at h1 h2 h3; have hk : Tryz.prog.keyType 156 = true := by kernel_rfl
  have hts : Tryz.prog.types.size + 1 = 285 + 1 + 1 + 1 := by kernel_rfl
  unfold keyOf; rw [Tryz.underlying156, hts]; simp only; have hc : Tryz.prog.cellsOf 156 = 4 := by kernel_rfl
  have hc87 : Tryz.prog.cellsOf 87 = 3 := by kernel_rfl
  have hc9 : Tryz.prog.cellsOf 9 = 1 := by kernel_rfl
  have hf : Value.formed Tryz.prog 156 (tgtV ⟨p, q, a⟩ t) = true := by
    simp [Value.formed, Tryz.underlying156, hc, tgtV]
  have hl : Tryz.prog.keyLits (285 + 1 + 1 + 1) 156 [.int .i64 p, .int .i64 q, .int .i64 a, .string t] = some [.int .i64 p, .int .i64 q, .int .i64 a, .string t.data.toList] := by
    unfold Program.keyLits; rw [Tryz.underlying156]; simp [hc, hc87, hc9, keyLits_dot, keyLits_str, h1, h2, h3, ht]
  rw [hk, hf]; simp only [Bool.and_self, if_true, tgtV, Value.cells, hl, klT, Option.map_some]
theorem klT_key (d : D3) (t : ByteArray) : WideAt.IsKeyLit (klT d t) := trivial
theorem klT_inj {d e : D3} {t u : ByteArray} (hd : wf3 d) (he : wf3 e) (ht : t.size ≤ 1000) (hu : u.size ≤ 1000) (h : klT d t = klT e u) : d = e ∧ t = u := by
  have := keyed156.inj (key_tgt d t hd ht) (by rw [h]; exact key_tgt e u he hu); obtain ⟨p, t, a⟩ := d; obtain ⟨p', t', a'⟩ := e; simp only [tgtV, Value.agg.injEq] at this
  simpa [and_assoc] using this
theorem isAdd_ok (w : World) (wa : Option Addr) (wl wc : Nat) (pl : Int) (g : Nat) (o : OpV) (dv : Value) (h : w.heap[g]? = some (.cells (opC o dv).toArray 76 (0, 0))) :
    Calls Tryz.prog 104 #[.agg #[.slice wa wl wc, .int .i64 pl, .slice (some ⟨g, 0, none⟩) 1 1]] w fun e w' => e = .returned (.bool (decide (o.kind = 3) && !o.rem)) ∧ w' = w.alloc (.cells #[.slice wa wl wc, .int .i64 pl, .slice (some ⟨g, 0, none⟩) 1 1] 34) := by
  have r2 := (opC_cell h).1; have r5 : w.cell? ⟨g, 5, none⟩ = some (.bool o.rem) := by simp only [World.cell?, h]; rfl
  have hlt : g < w.heap.size := lt_of_heapQ h; have hne : g ≠ w.heap.size := by omega
  obtain ⟨ki, hki⟩ : ∃ ki, ki = o.kind := ⟨_, rfl⟩; obtain ⟨rm, hrm⟩ : ∃ rm, rm = o.rem := ⟨_, rfl⟩; rw [← hki] at r2 ⊢; rw [← hrm] at r5 ⊢; clear h hki hrm
  by_cases h3 : ki = 3
  · have hb : (ki == 3) = true := by simp [h3]
    have H3 := hid h3; clear h3; go_enter Tryz.func104, Tryz.ntmps104; go_wp2; go_ret; exact ⟨ret_bool (by rw [H3.out]; simp), rfl⟩
  · have hb : (ki == 3) = false := by simp [h3]
    have H3 := hid h3; clear h3; go_enter Tryz.func104, Tryz.ntmps104; go_wp2; go_ret; exact ⟨ret_bool (by rw [decide_eq_false H3.out]; rfl), rfl⟩
theorem opC_all {w : World} {g : Nat} {o : OpV} {dv : Value} (h : w.heap[g]? = some (.cells (opC o dv).toArray 76 (0, 0))) : w.cell? ⟨g, 0, none⟩ = some (.int .i64 o.at_) ∧ w.cell? ⟨g, 1, none⟩ = some (.string o.key) ∧ w.cell? ⟨g, 2, none⟩ = some (.int .i64 o.kind) ∧ w.cell? ⟨g, 3, none⟩ = some (.string o.text) ∧ w.cell? ⟨g, 4, none⟩ = some (.int .i64 o.n) ∧ w.cell? ⟨g, 5, none⟩ = some (.bool o.rem) ∧ w.cell? ⟨g, 6, none⟩ = some dv := by
  refine ⟨?_, ?_, ?_, ?_, ?_, ?_, ?_⟩ <;> (simp only [World.cell?, h]; rfl)
theorem box4Q {w : World} {z : Nat} {a b c d : Value} {t : TypeId} (h : w.heap[z]? = some (.cells #[a, b, c, d] t (0, 0))) : w.cell? ⟨z, 0, none⟩ = some a ∧ w.cell? ⟨z, 1, none⟩ = some b ∧ w.cell? ⟨z, 2, none⟩ = some c ∧ w.cell? ⟨z, 3, none⟩ = some d ∧ w.frozen? ⟨z, 0, none⟩ = false ∧ w.frozen? ⟨z, 1, none⟩ = false ∧ w.frozen? ⟨z, 2, none⟩ = false ∧ w.frozen? ⟨z, 3, none⟩ = false := by
  refine ⟨?_, ?_, ?_, ?_, ?_, ?_, ?_, ?_⟩ <;> first | (simp only [World.cell?, h]; rfl) | (simp only [World.frozen?, h]; simp)
theorem upQ {w w' : World} {a : Addr} {v : Value} (hb : Below w.heap.size w w') (h : w.cell? a = some v) : w'.cell? a = some v := by rw [hb.cell (lt_of_cell h)]; exact h
set_option maxHeartbeats 4000000 in
theorem targetOf_ok (w : World) (b1 o1 n c1 p g : Nat) (T : Int) (o : OpV) (da : Option Addr) (dl dc : Nat) (h : w.heap[g]? = some (.cells (opC o (.slice da dl dc)).toArray 76 (0, 0))) (hp : p < n) (ct : w.cell? ⟨b1, o1 + p, none⟩ = some (.int .i64 T)) :
    Calls Tryz.prog 103 #[.agg #[.slice (some ⟨b1, o1, none⟩) n c1, .int .i64 p, .slice (some ⟨g, 0, none⟩) 1 1]] w fun e w' => e = .returned (tgtV ⟨p, T, o.at_⟩ o.text) ∧ Below w.heap.size w w' := by
  obtain ⟨x1, x2, x3, x4, x5, x6, xd⟩ := o; unfold tgtV; obtain ⟨u0, u1, u2, u3, u4, u5, u6⟩ := opC_all h; simp only at u0 u1 u2 u3 u4 u5 u6 ⊢; obtain ⟨w1, hw1⟩ : ∃ w1, w1 = (w.alloc (.cells #[.slice (some ⟨b1, o1, none⟩) n c1, .int .i64 p, .slice (some ⟨g, 0, none⟩) 1 1] 34)).alloc (.cells #[.int .i64 0, .int .i64 0, .int .i64 0, .string ⟨#[]⟩] 156) := ⟨_, rfl⟩; have hb1 : Below w.heap.size w w1 := by rw [hw1]; exact below2 w _ _
  have hs1 : w1.heap.size = w.heap.size + 1 + 1 := by rw [hw1]; simp
  have bx : w1.heap[w.heap.size]? = some (.cells #[.slice (some ⟨b1, o1, none⟩) n c1, .int .i64 p, .slice (some ⟨g, 0, none⟩) 1 1] 34 (0, 0)) := by
    rw [hw1, (MapKept.heap_alloc _ _).2 _ (by simp)]; exact (MapKept.heap_alloc _ _).1
  have by_ : w1.heap[w.heap.size + 1]? = some (.cells #[.int .i64 0, .int .i64 0, .int .i64 0, .string ⟨#[]⟩] 156 (0, 0)) := by
    rw [hw1]; have := (MapKept.heap_alloc (w.alloc (.cells #[.slice (some ⟨b1, o1, none⟩) n c1, .int .i64 p, .slice (some ⟨g, 0, none⟩) 1 1] 34)) (.cells #[.int .i64 0, .int .i64 0, .int .i64 0, .string ⟨#[]⟩] 156)).1
    simpa using this
  have v0 := upQ hb1 u0; have v1 := upQ hb1 u1; have v2 := upQ hb1 u2; have v3 := upQ hb1 u3; have v4 := upQ hb1 u4; have v5 := upQ hb1 u5; have v6 := upQ hb1 u6; have ct1 := upQ hb1 ct; have d0 : w1.cell? ⟨w.heap.size, 0, none⟩ = some (.slice (some ⟨b1, o1, none⟩) n c1) := by simp only [World.cell?, bx]; rfl
  have d1 : w1.cell? ⟨w.heap.size, 1, none⟩ = some (.int .i64 p) := by simp only [World.cell?, bx]; rfl
  have d2 : w1.cell? ⟨w.heap.size, 2, none⟩ = some (.slice (some ⟨g, 0, none⟩) 1 1) := by simp only [World.cell?, bx]; rfl
  obtain ⟨q, hq⟩ : ∃ q, q = w.heap.size := ⟨_, rfl⟩; obtain ⟨z, hz⟩ : ∃ z, z = w.heap.size + 1 := ⟨_, rfl⟩; have HB1 := hid hb1; have hz1 : z < w1.heap.size := by omega
  have hwz : w.heap.size ≤ z := by omega
  have nz1 : z ≠ q := by omega
  have nz2 : z ≠ g := by have := lt_of_heapQ h; omega
  have nz3 : q ≠ z := by omega
  have nz4 : g ≠ z := by have := lt_of_heapQ h; omega
  go_enter Tryz.func103, Tryz.ntmps103; go_upto_region 1 with (fail); rw [← hw1]; rw [← hz] at by_ ⊢; rw [← hq] at d0 d1 d2 ⊢; have BY := hid by_; have CT := hid ct1; clear hw1 hb1 hs1 bx by_ u0 u1 u2 u3 u4 u5 u6 ct ct1 hq hz h
  go_region_held (fun w' => w'.cell? ⟨q, 0, none⟩ = some (.slice (some ⟨b1, o1, none⟩) n c1) ∧ w'.cell? ⟨q, 1, none⟩ = some (.int .i64 p) ∧ w'.cell? ⟨q, 2, none⟩ = some (.slice (some ⟨g, 0, none⟩) 1 1) ∧ w'.cell? ⟨g, 0, none⟩ = some (.int .i64 x1) ∧ w'.cell? ⟨g, 1, none⟩ = some (.string x2) ∧ w'.cell? ⟨g, 2, none⟩ = some (.int .i64 x3) ∧ w'.cell? ⟨g, 3, none⟩ = some (.string x4) ∧ w'.cell? ⟨g, 4, none⟩ = some (.int .i64 x5) ∧ w'.cell? ⟨g, 5, none⟩ = some (.bool x6) ∧ w'.cell? ⟨g, 6, none⟩ = some (.slice da dl dc)) (go_keep) (first | (go_at_call 39; refine (dotOf_any _ b1 o1 n c1 p T _ _ _ _ _ _ _ _ _ _ _ _ hp ?hct).mono ?_; (case hct => exact CT.out); rintro e w5 ⟨rfl, hb5⟩; have hb6 : Below w1.heap.size w1 w5 := (below_draws (Below.refl _ _) 1).trans hb5; have d0' := upQ hb6 d0; have d1' := upQ hb6 d1; have d2' := upQ hb6 d2; have v0' := upQ hb6 v0; have v1' := upQ hb6 v1; have v2' := upQ hb6 v2; have v3' := upQ hb6 v3; have v4' := upQ hb6 v4; have v5' := upQ hb6 v5; have v6' := upQ hb6 v6; have by5 := (hb6.block _ hz1).trans BY.out; obtain ⟨z0, z1, z2, z3, f0, f1, f2, f3⟩ := box4Q by5; have BY5 := hid by5; clear by5; have HB5 := hid (HB1.out.trans (hb6.mono HB1.out.size)); clear hb5 hb6))
  obtain ⟨w6, hw6⟩ : ∃ w6, w6 = (((w5.setCell ⟨z, 0, none⟩ (.int .i64 p)).setCell ⟨z, 1, none⟩ (.int .i64 T)).setCell ⟨z, 2, none⟩ (.int .i64 x1)).setCell ⟨z, 3, none⟩ (.string x4) := ⟨_, rfl⟩
  have hb6 : w6.heap[z]? = some (.cells #[.int .i64 p, .int .i64 T, .int .i64 x1, .string x4] 156 (0, 0)) := by
    rw [hw6, heap_setQ (heap_setQ (heap_setQ (heap_setQ BY5.out _ _) _ _) _ _) _ _]; rfl
  have B6 : Below w.heap.size w w6 := by
    rw [hw6]; exact (((HB5.out.setCell hwz _).setCell hwz _).setCell hwz _).setCell hwz _
  rw [← hw6]; clear hw6; go_wp2; refine bodyPost_ret (ret_cell (k := 4) Tryz.results103 Tryz.isAgg156 Tryz.sizeOf156 _ _ z [.int .i64 p, .int .i64 T, .int .i64 x1, .string x4] rfl rfl (fun j hj => ?_)) rfl ⟨rfl, B6⟩; rcases (by simp at hj; omega : j = 0 ∨ j = 1 ∨ j = 2 ∨ j = 3) with rfl | rfl | rfl | rfl <;> (simp only [World.cell?, hb6]; rfl)
end Go.Proofs.YtdnebclemngdcaaGreatDoor
namespace Go.Proofs.YtdnebclemngdcaaGreatDoor
open Go.RowKit Go.Maps
set_option maxRecDepth 100000
set_option linter.unusedSectionVars false
variable [Inhabited ComV] [DecidableEq D3] [Inhabited D3] [Inhabited Dd] [Inhabited Dn] [Inhabited OpV]

def tgtB (T : List (D3 × ByteArray)) (d : D3) (t : ByteArray) : Bool := T.any fun x => decide (x.1 = d) && decide (x.2 = t)
theorem tgtB_snoc (T : List (D3 × ByteArray)) (e d : D3) (u t : ByteArray) : tgtB (T ++ [(e, u)]) d t = (tgtB T d t || (decide (e = d) && decide (u = t))) := by
  unfold tgtB; rw [List.any_append]; simp
def TgtAt (w : World) (mb n : Nat) (T : List (D3 × ByteArray)) : Prop := ∃ D : DataW Unit, w.ownsMap Tryz.prog 156 unitElem mb n D ∧ ∀ d t, wf3 d → t.size ≤ 1000 → Maps.has D (klT d t) = tgtB T d t
theorem TgtAt.start (w : World) : TgtAt (w.alloc (.map #[] 0)) w.heap.size 0 [] := ⟨.map [], World.ownsMap_made _ _ _ _, fun _ _ _ _ => rfl⟩
theorem TgtAt.kept {w w' : World} {mb n : Nat} {T : List (D3 × ByteArray)} {row : Option Nat} (h : TgtAt w mb n T) (hg : w.grownBy w' row) (hne : some mb ≠ row) : TgtAt w' mb n T := let ⟨D, h1, h2⟩ := h; ⟨D, h1.kept hg hne, h2⟩
theorem TgtAt.below {w w' : World} {mb n : Nat} {T : List (D3 × ByteArray)} (h : TgtAt w mb n T) (hb : Below w.heap.size w w') : TgtAt w' mb n T := h.kept (row := none) ⟨hb.os, hb.tape, hb.output, hb.size, fun i hi _ => hb.block i hi⟩ (by simp)
theorem TgtAt.lt {w : World} {mb n : Nat} {T : List (D3 × ByteArray)} (h : TgtAt w mb n T) : mb < w.heap.size := let ⟨_, h1, _⟩ := h; h1.lt
theorem TgtAt.look {w : World} {mb n : Nat} {T : List (D3 × ByteArray)} (h : TgtAt w mb n T) (d : D3) (t : ByteArray) (hd : wf3 d) (ht : t.size ≤ 1000) : (Instr.lookup 154 (.map (some mb)) (tgtV d t) true).run Tryz.prog w = .ok (.tuple #[.agg #[], .bool (tgtB T d t)]) w := by
  obtain ⟨D, h1, h2⟩ := h; obtain ⟨v, ps, hrun, hR⟩ := h1.look_ok keyed156 Tryz.underlying154 (Tryz.zero111 w) unitElem_mk (key_tgt d t hd ht); obtain ⟨rfl, _⟩ := unitElem_inv hR; rw [hrun, h2 d t hd ht]
theorem TgtAt.put {w : World} {mb n : Nat} {T : List (D3 × ByteArray)} (h : TgtAt w mb n T) (d : D3) (t : ByteArray) (hd : wf3 d) (ht : t.size ≤ 1000) (hn : n < maxLen) : ∃ w', (Instr.mapUpdate 154 (.map (some mb)) (tgtV d t) (.agg #[])).run Tryz.prog w = .ok () w' ∧ TgtAt w' mb (n + 1) (T ++ [(d, t)]) ∧ w.grownBy w' (some mb) := by
  obtain ⟨D, h1, h2⟩ := h; obtain ⟨w', hrun, hm, hg⟩ := h1.update keyed156 Tryz.underlying154 hn (key_tgt d t hd ht) unitElem_mk; refine ⟨w', hrun, ⟨_, hm, fun e u he hu => ?_⟩, hg⟩; rw [tgtB_snoc]
  by_cases q : d = e ∧ t = u
  · obtain ⟨rfl, rfl⟩ := q; rw [has_put_same h1.isMap (klT_key _ _)]; simp
  · rw [has_put_other (fun x => q (by obtain ⟨e1, e2⟩ := klT_inj he hd hu ht x; exact ⟨e1.symm, e2.symm⟩)), h2 e u he hu]
    have : (decide (d = e) && decide (t = u)) = false := by
      rw [Bool.and_eq_false_iff, decide_eq_false_iff_not, decide_eq_false_iff_not]
      by_cases q1 : d = e
      · exact .inr fun q2 => q ⟨q1, q2⟩
      · exact .inl q1
    rw [this, Bool.or_false]
def remT (E : Nat → OpV) (rs : List Rp) : List (D3 × ByteArray) := rs.flatMap fun r => (E r.g).dots.map fun d => (d, (E r.g).text)
def DotsO (w : World) (v : Value) (ds : List D3) : Prop := w.ownsRow 0 87 3 v ds.length (ds.flatMap D3.cells)
theorem DotsO.shape {w : World} {v : Value} {ds : List D3} (h : DotsO w v ds) : ∃ a c, v = .slice a ds.length c := by
  rcases h.2 with ⟨rfl, h0⟩ | ⟨g, cap, cur, rfl, _⟩
  · exact ⟨none, 0, by rw [h0]⟩
  · exact ⟨_, _, rfl⟩
theorem DotsO.below {w w' : World} {v : Value} {ds : List D3} (h : DotsO w v ds) (hb : Below w.heap.size w w') : DotsO w' v ds := owns_belowQ h hb
theorem DotsO.at {w : World} {v : Value} {ds : List D3} (h : DotsO w v ds) {k : Nat} {d : D3} (hd : ds[k]? = some d) :
    ∃ b cap, v = .slice (some ⟨b, 0, none⟩) ds.length cap ∧ w.cell? ⟨b, k * 3, none⟩ = some (.int .i64 d.p) ∧ w.cell? ⟨b, k * 3 + 1, none⟩ = some (.int .i64 d.t) ∧ w.cell? ⟨b, k * 3 + 2, none⟩ = some (.int .i64 d.a) := by
  obtain ⟨hk, e⟩ := List.getElem?_eq_some_iff.1 hd; rcases h.2 with ⟨_, h0⟩ | ⟨b, cap, cur, hv, _, hh, hc, _, hs, ht⟩
  · omega
  · have cell : ∀ i, i < 3 → w.cell? ⟨b, k * 3 + i, none⟩ = some (d.cells[i]!) := fun i hi => by
      have := flat3_get ds k i hk hi; rw [getElem!_pos ds k hk, e, ← ht, List.getElem?_take, if_pos (by omega), Array.getElem?_toList] at this; simp only [World.cell?, hh]; exact this
    exact ⟨b, cap, hv, cell 0 (by omega), cell 1 (by omega), cell 2 (by omega)⟩
structure OpFit (o : OpV) : Prop where
  dots : ∀ d ∈ o.dots, wf3 d
  few : o.dots.length ≤ 60
  text : o.text.size ≤ 1000
def dotR (E : Nat → OpV) (r : Rp) : D3 := ⟨r.pl, r.wn.getD r.pl.toNat 0, (E r.g).at_⟩
structure RpFit (w : World) (E : Nat → OpV) (r : Rp) : Prop where
  ints : IntsAt w (.slice r.wa r.wn.length r.wc) r.wn
  lo : 0 ≤ r.pl
  hi : r.pl < r.wn.length
  wf : wf3 (dotR E r)
theorem RpFit.at {w : World} {E : Nat → OpV} {r : Rp} (h : RpFit w E r) : ∃ b o p, r.wa = some ⟨b, o, none⟩ ∧ r.pl = (p : Nat) ∧ p < r.wn.length ∧ w.cell? ⟨b, o + p, none⟩ = some (.int .i64 (r.wn.getD r.pl.toNat 0)) := by
  obtain ⟨ad, c, e, _, h2⟩ := h.ints; injection e with e1 _ _; have hl := h.lo; have hh := h.hi; have hp : r.pl.toNat < r.wn.length := by omega
  rcases h2 with h2 | ⟨b, o, e2, h2⟩
  · rw [h2] at hp; simp at hp
  · exact ⟨b, o, r.pl.toNat, by rw [e1, e2], by omega, hp, h2 _ hp⟩
def isAddQ (E : Nat → OpV) (r : Rp) : Bool := decide ((E r.g).kind = 3) && !(E r.g).rem
def wrQ (E : Nat → OpV) (T : List (D3 × ByteArray)) (i : Nat) (r : Rp) : Bool := decide (i = 0) || (!isAddQ E r || !tgtB T (dotR E r) (E r.g).text)
structure TInv (w : World) (mb : Nat) (T : List (D3 × ByteArray)) (n : Nat) (wr : World) : Prop where
  set : TgtAt wr mb n T
  below : Below w.heap.size w wr
theorem TInv.moved {w wr w' : World} {mb n : Nat} {T : List (D3 × ByteArray)} (h : TInv w mb T n wr) (hb : Below wr.heap.size wr w') : TInv w mb T n w' := ⟨h.set.below hb, h.below.trans (hb.mono h.below.size)⟩
theorem TInv.step {w wr w' : World} {mb n n' : Nat} {T T' : List (D3 × ByteArray)} (h : TInv w mb T n wr) (hm : w.heap.size ≤ mb) (hs : TgtAt w' mb n' T') (hg : wr.grownBy w' (some mb)) : TInv w mb T' n' w' := ⟨hs, h.below.grown hg h.below.size (fun k hk => by cases hk; exact hm)⟩
theorem remT_snoc (E : Nat → OpV) {rs : List Rp} {k : Nat} {r : Rp} (h : rs[k]? = some r) : remT E (rs.take (k + 1)) = remT E (rs.take k) ++ (E r.g).dots.map fun d => (d, (E r.g).text) := by
  obtain ⟨hk, e⟩ := List.getElem?_eq_some_iff.1 h; unfold remT; rw [List.take_succ_eq_append_getElem hk, List.flatMap_append, e]; simp
theorem take_snocQ {α : Type} {l : List α} {k : Nat} {a : α} (h : l[k]? = some a) : l.take (k + 1) = l.take k ++ [a] := by
  obtain ⟨hk, e⟩ := List.getElem?_eq_some_iff.1 h; rw [List.take_succ_eq_append_getElem hk, e]
theorem grown_transQ {a b c : World} {r : Option Nat} (h : a.grownBy b r) (h' : b.grownBy c r) : a.grownBy c r := ⟨h'.os.trans h.os, h'.tape.trans h.tape, h'.output.trans h.output, Nat.le_trans h.size h'.size, fun k hk hr => (h'.block k (Nat.lt_of_lt_of_le hk h.size) hr).trans (h.block k hk hr)⟩
theorem grown_belowQ {a b : World} (r : Option Nat) (h : Below a.heap.size a b) : a.grownBy b r := ⟨h.os, h.tape, h.output, h.size, fun k hk _ => h.block k hk⟩
theorem TgtAt.ne {w : World} {mb n g : Nat} {T : List (D3 × ByteArray)} {cs : Array Value} {t : TypeId} (h : TgtAt w mb n T) (hg : w.heap[g]? = some (.cells cs t (0, 0))) : g ≠ mb := let ⟨_, h1, _⟩ := h; cells_ne_map h1 hg
theorem cellNe {w w' : World} {mb n : Nat} {T : List (D3 × ByteArray)} (h : TgtAt w mb n T) (hg : w.grownBy w' (some mb)) {a : Addr} {v : Value} (hc : w.cell? a = some v) : w'.cell? a = some v := by
  refine hg.cell hc fun e => ?_
  have e' : a.block = mb := Option.some.inj e; obtain ⟨_, h1, _⟩ := h; obtain ⟨es, clock, hb⟩ := map_obj h1; simp only [World.cell?, e', hb] at hc; cases hc
set_option maxHeartbeats 4000000 in
theorem withoutRemoved_ok (w : World) (base : Nat) (v : Value) (rs : List Rp) (E : Nat → OpV) (D : Nat → Value) (hv : RowR w base v rs) (hO : OpsM w rs E D) (hD : ∀ r ∈ rs, DotsO w (D r.g) (E r.g).dots) (hF : ∀ r ∈ rs, OpFit (E r.g)) (hR : ∀ r ∈ rs, RpFit w E r) (hl : rs.length ≤ 1000) :
    Calls Tryz.prog 71 #[v] w fun e w' => RowRet (keepL (wrQ E (remT E rs)) 0 rs) w e w' := by
  have hmm := @run_makeMap Tryz.prog; obtain ⟨i28, hi28, hy0, hy1, hy2⟩ := info_parts Tryz.info34q; obtain ⟨L, hL⟩ : ∃ L, L = rs.length := ⟨_, rfl⟩; obtain ⟨va, vc, hve⟩ := hv.shape; rw [← hL] at hve; have HV := hid hv; have HO := hid hO; have HD := hid hD; have HF := hid hF; have HR := hid hR; have HL := hid hL; have HVE := hid hve; rw [hve]; rw [← hL] at hl; clear hv hO hL hve hD hF hR; obtain ⟨mb, hmb⟩ : ∃ mb, mb = w.heap.size := ⟨_, rfl⟩; have HMB := hid hmb; obtain ⟨w0, hw0⟩ : ∃ w0, w0 = w.alloc (.map #[] 0) := ⟨_, rfl⟩; have T0 : Hid (TInv w mb [] 0 w0) := by rw [hw0, hmb]; exact ⟨TgtAt.start w, below_alloc _ _⟩
  go_enter Tryz.func71, Tryz.ntmps71; go_wp2_with fail; rw [← hw0, ← hmb]; clear hw0 hmb
  go_loopw [16] (fun i wr => ∃ (k n : Nat), k ≤ L ∧ i = .int .i64 k ∧ n ≤ k * 60 ∧ Hid (TInv w mb (remT E (rs.take k)) n wr)) (fun i _ => L - (intOf i).toNat)
  case atStart => exact ⟨0, 0, Nat.zero_le _, rfl, Nat.zero_le _, T0.out⟩
  case round =>
    obtain ⟨k, n, hk, rfl, hn, HI⟩ := hrel
    by_cases hlt : k < L
    · obtain ⟨r, hr⟩ := some_of_lt (l := rs) (k := k) (by rw [← HL.out]; exact hlt); obtain ⟨b, cap, e1, q0, q1, q2⟩ := HV.out.at hr; rw [HVE.out] at e1; injection e1 with e1 e2 e3; subst e1 e3; clear e2; have hmem := List.mem_of_getElem? hr; have ho := HO.out r hmem; have hd := HD.out r hmem; have hf := HF.out r hmem; have hsn := remT_snoc E hr; have r0 := upQ HI.out.below q0; have r1 := upQ HI.out.below q1; have r2 := upQ HI.out.below q2; obtain ⟨_, _, _, p3, _, _, p6⟩ := opC_all ho; have r3 := upQ HI.out.below p3; have r6 := upQ HI.out.below p6; have hglt : r.g < wr.heap.size := lt_of_cell r3; have hne : r.g ≠ wr.heap.size := by omega
      have hi1 : (k : Int) < (L : Int) := by omega
      obtain ⟨tx, htx⟩ : ∃ tx, tx = (E r.g).text := ⟨_, rfl⟩; obtain ⟨ds, hds⟩ : ∃ ds, ds = (E r.g).dots := ⟨_, rfl⟩; obtain ⟨dv, hdv⟩ : ∃ dv, dv = D r.g := ⟨_, rfl⟩; have hf1 := hf.dots; have hf2 := hf.few; have hf3 := hf.text; rw [← htx] at r3 hsn hf3; rw [← hds] at hsn hd hf1 hf2; rw [← hdv] at r6 hd; obtain ⟨M, hM⟩ : ∃ M, M = ds.length := ⟨_, rfl⟩; obtain ⟨da, dc, hdve⟩ := hd.shape; rw [← hM] at hdve hf2; rw [hdve] at r6; have HDV := hid hd; have HDE := hid hdve; have HM := hid hM; have HSN := hid hsn; have HW3 := hid hf1; obtain ⟨wa, wc, wn, pl, g⟩ := r; simp only at r0 r1 r2 r3 r6 hglt hne; obtain ⟨n1, hn1⟩ : ∃ n1, n1 = wn.length := ⟨_, rfl⟩; rw [← hn1] at r0; clear q0 q1 q2 ho hd hf hmem hr hsn p3 p6 htx hds hdv hM hdve hf1 hn1; obtain ⟨T, hT⟩ : ∃ T, T = remT E (rs.take k) := ⟨_, rfl⟩; rw [← hT] at HI HSN; clear hT; obtain ⟨w1, hw1⟩ : ∃ w1, w1 = wr := ⟨_, rfl⟩; subst hw1
      obtain ⟨w2, hw2⟩ : ∃ w2, w2 = w1.alloc (.cells #[.slice wa n1 wc, .int .i64 pl, .slice (some ⟨g, 0, none⟩) 1 1] 34) := ⟨_, rfl⟩; have I2 : Hid (TInv w mb T n w2) := by rw [hw2]; exact HI.out.moved (below_alloc _ _)
      have x2 : w2.heap[w1.heap.size]? = some (.cells #[.slice wa n1 wc, .int .i64 pl, .slice (some ⟨g, 0, none⟩) 1 1] 34 (0, 0)) := by rw [hw2]; exact (MapKept.heap_alloc _ _).1
      have hB2 : Below w1.heap.size w1 w2 := by rw [hw2]; exact below_alloc _ _
      have s3 := upQ hB2 r3; have s6 := upQ hB2 r6; have s2 : w2.cell? ⟨w1.heap.size, 2, none⟩ = some (.slice (some ⟨g, 0, none⟩) 1 1) := by simp only [World.cell?, x2]; rfl
      have hB1 := HI.out.below.size; obtain ⟨bx, hbx⟩ : ∃ bx, bx = w1.heap.size := ⟨_, rfl⟩; have hbxw : w.heap.size ≤ bx := by omega
      go_wp2_with fail; rw [← hw2]
      rw [← hbx] at x2 s2 ⊢; have D2 := hid (((HDV.out.below HI.out.below).below hB2)); clear hw2 r0 r1 r2 r3 r6 s6 x2 hbx hB2 HI HDV
      go_loopw [26] (fun i wr => ∃ (j m : Nat), j ≤ M ∧ i = .int .i64 j ∧ m ≤ n + j ∧ Hid (TInv w mb (T ++ (ds.take j).map fun d => (d, tx)) m wr) ∧ Hid (w2.grownBy wr (some mb))) (fun i _ => M - (intOf i).toNat)
      case atStart => exact ⟨0, n, Nat.zero_le _, rfl, Nat.le_refl _, (by show TInv _ _ _ _ _; simpa using I2.out), grown_belowQ _ (Below.refl _ _)⟩
      case round =>
        obtain ⟨j, m, hj, rfl, hm, HI, HG⟩ := hrel
        by_cases hltj : j < M
        · obtain ⟨d, hd⟩ := some_of_lt (l := ds) (k := j) (by rw [← HM.out]; exact hltj); obtain ⟨bd, dcap, e1, t0, t1, t2⟩ := D2.out.at hd; rw [HDE.out] at e1; injection e1 with e1 e2 e3; subst e1 e3; clear e2; have hwf := HW3.out d (List.mem_of_getElem? hd); have hts := take_snocQ hd; have a0 := cellNe I2.out.set HG.out t0; have a1 := cellNe I2.out.set HG.out t1; have a2 := cellNe I2.out.set HG.out t2; have a3 := cellNe I2.out.set HG.out s3; have a4 := cellNe I2.out.set HG.out s2; have hi2 : (j : Int) < (M : Int) := by omega
          obtain ⟨w4, hw4⟩ : ∃ w4, w4 = wr.alloc (.cells #[.int .i64 d.p, .int .i64 d.t, .int .i64 d.a] 87) := ⟨_, rfl⟩; have hB4 : Below wr.heap.size wr w4 := by rw [hw4]; exact below_alloc _ _
          have x4 : w4.heap[wr.heap.size]? = some (.cells #[.int .i64 d.p, .int .i64 d.t, .int .i64 d.a] 87 (0, 0)) := by rw [hw4]; exact (MapKept.heap_alloc _ _).1
          have c0 : w4.cell? ⟨wr.heap.size, 0, none⟩ = some (.int .i64 d.p) := by simp only [World.cell?, x4]; rfl
          have c1 : w4.cell? ⟨wr.heap.size, 1, none⟩ = some (.int .i64 d.t) := by simp only [World.cell?, x4]; rfl
          have c2 : w4.cell? ⟨wr.heap.size, 2, none⟩ = some (.int .i64 d.a) := by simp only [World.cell?, x4]; rfl
          have c3 := upQ hB4 a3; have c4 := upQ hB4 a4; have hBd : Below wr.heap.size wr w4.drew := hB4.trans ((below_draws (Below.refl _ _) 1 : Below w4.heap.size w4 w4.drew).mono hB4.size); have I4 := HI.out.moved hBd; obtain ⟨w6, hrun, hset, hg6⟩ := I4.set.put d tx hwf hf3 (by unfold maxLen; omega); have f0 := cellNe I4.set hg6 (show w4.drew.cell? _ = _ from c0); have f1 := cellNe I4.set hg6 (show w4.drew.cell? _ = _ from c1); have f2 := cellNe I4.set hg6 (show w4.drew.cell? _ = _ from c2); have f3 := cellNe I4.set hg6 (show w4.drew.cell? _ = _ from c3); have f4 := cellNe I4.set hg6 (show w4.drew.cell? _ = _ from c4); have J6 := hid (I4.step (by rw [HMB.out]; exact Nat.le_refl _) hset hg6); have G6 := hid (grown_transQ HG.out (grown_transQ (grown_belowQ (some mb) hBd) hg6)); unfold tgtV at hrun; obtain ⟨dp, dt, da'⟩ := d; simp only at a0 a1 a2 c0 c1 c2 f0 f1 f2 hrun hw4
          have HTS := hid hts; obtain ⟨z, hz⟩ : ∃ z, z = wr.heap.size := ⟨_, rfl⟩; rw [← hz] at c0 c1 c2 f0 f1 f2; clear t0 t1 t2 hB4 hBd x4 hset hg6 I4 hd hts hwf a3 a4 HI; go_wp2_with fail; rw [← hw4, ← hz]; clear hw4 a0 a1 a2 hz
          go_region_held (fun w' => w'.cell? ⟨z, 0, none⟩ = some (.int .i64 dp) ∧ w'.cell? ⟨z, 1, none⟩ = some (.int .i64 dt) ∧ w'.cell? ⟨z, 2, none⟩ = some (.int .i64 da') ∧ w'.cell? ⟨bx, 2, none⟩ = some (.slice (some ⟨g, 0, none⟩) 1 1) ∧ w'.cell? ⟨g, 3, none⟩ = some (.string tx)) (go_keep) (fail)
          clear c0 c1 c2 c3 c4 f0 f1 f2 f3 f4 hrun; go_wp2_with fail; refine ⟨⟨j + 1, m + 1, by omega, by go_num, by omega, ?_, G6.out⟩, by simp [intOf]; omega⟩; show TInv _ _ _ _ _; have := J6.out; rw [HTS.out, List.map_append, ← List.append_assoc]; exact this
        · obtain rfl : j = M := by omega
          have hi3 : ¬ (j : Int) < (j : Int) := by omega
          have J : Hid (TInv w mb (remT E (rs.take (k + 1))) m wr) := by
            have := HI.out; rw [List.take_of_length_le (by rw [← HM.out]; exact Nat.le_refl _)] at this; rw [HSN.out]; exact this
          clear HI; go_wp2_with fail; refine ⟨⟨k + 1, m, by omega, by go_num, by omega, J.out⟩, by simp [intOf]; omega⟩
    · obtain rfl : k = L := by omega
      have hi3 : ¬ (k : Int) < (k : Int) := by omega
      have hT := HI.out; rw [List.take_of_length_le (by rw [← HL.out]; exact Nat.le_refl _)] at hT; obtain ⟨T, hTe⟩ : ∃ T, T = remT E rs := ⟨_, rfl⟩; rw [← hTe] at hT; have HTE := hid hTe; have HT := hid hT; clear HI hlt hT hTe; obtain ⟨w1, hw1⟩ : ∃ w1, w1 = wr := ⟨_, rfl⟩; subst hw1; go_wp2_with fail
      go_loopw [8, 43] (fun kv i wr => ∃ (j : Nat), j ≤ k ∧ i = .int .i64 j ∧ Hid (RowInv w kv (keepL (wrQ E T) 0 (rs.take j)) wr) ∧ Hid (TgtAt wr mb n T)) (fun _ i _ => k - (intOf i).toNat)
      case atStart => exact ⟨0, Nat.zero_le _, rfl, ⟨RowR.nil _ _, HT.out.below⟩, HT.out.set⟩
      case round =>
        obtain ⟨j, hj, rfl, HI, HG⟩ := hrel
        by_cases hlt : j < k
        · obtain ⟨r, hr⟩ := some_of_lt (l := rs) (k := j) (by rw [← HL.out]; exact hlt); obtain ⟨b, cap, e1, q0, q1, q2⟩ := HV.out.at hr; rw [HVE.out] at e1; injection e1 with e1 e2 e3; subst e1 e3; clear e2; have hmem := List.mem_of_getElem? hr; have ho := HO.out r hmem; have hd := HD.out r hmem; have hf := HF.out r hmem; have hq := HR.out r hmem; obtain ⟨b1, o1, p, hwa, hpl, hpn, ct⟩ := hq.at; have hwf := hq.wf; have r0 := upQ HI.out.below q0; have r1 := upQ HI.out.below q1; have r2 := upQ HI.out.below q2; have ctr := upQ HI.out.below ct; have hs := keepL_snoc (wrQ E T) hr; have hi1 : (j : Int) < (k : Int) := by omega
          obtain ⟨da, dc, hdve⟩ := hd.shape; have hor : wr.heap[r.g]? = some (.cells (opC (E r.g) (D r.g)).toArray 76 (0, 0)) := by rw [HI.out.below.block _ (lt_of_heapQ ho)]; exact ho
          rw [hdve] at hor; obtain ⟨bb, hbb⟩ : ∃ bb, bb = wrQ E T j r := ⟨_, rfl⟩; rw [← hbb] at hs; unfold wrQ at hbb; have hft := hf.text; have hrow := HI.out.row; obtain ⟨m, hm⟩ : ∃ m, m = (keepL (wrQ E T) 0 (rs.take j)).length := ⟨_, rfl⟩; have hmk : m ≤ j := by rw [hm]; exact Nat.le_trans (keepL_sub _ _ _).length_le (by rw [List.length_take]; omega)
          unfold RowR at hrow; rw [← hm] at hrow; obtain ⟨va2, vc2, hve2⟩ := HI.out.row.shape; rw [← hm] at hve2; subst hve2; have hbs := HI.out.below.size; have HS := hid hs; have HM := hid hm; have HBB := hid hbb; obtain ⟨wa, wc, wn, pl, g⟩ := r; simp only at hwa hpl; subst hwa hpl; have tq : dotR E ⟨some ⟨b1, o1, none⟩, wc, wn, p, g⟩ = ⟨p, wn.getD (p : Int).toNat 0, (E g).at_⟩ := rfl; rw [tq] at HBB hwf; simp only at r0 r1 r2 hor ctr hpn hft HBB; obtain ⟨n1, hn1⟩ : ∃ n1, n1 = wn.length := ⟨_, rfl⟩; obtain ⟨TT, hTT⟩ : ∃ TT, TT = wn.getD (p : Int).toNat 0 := ⟨_, rfl⟩; rw [← hn1] at r0 hpn; rw [← hTT] at ctr HBB hwf; have HN1 := hid hn1
          have HONE : Hid (∀ v ∈ [Value.slice (some ⟨b1, o1, none⟩) n1 wc, .int .i64 p, .slice (some ⟨g, 0, none⟩) 1 1], v.oneCell' = true) := by
            rw [hn1]; exact Rp.one ⟨some ⟨b1, o1, none⟩, wc, wn, p, g⟩
          obtain ⟨tb, htb⟩ : ∃ tb, tb = tgtB T ⟨p, TT, (E g).at_⟩ (E g).text := ⟨_, rfl⟩; have HDT := hid htb; clear q0 q1 q2 ho hd hf hq ct hr hmem hdve hm hs hbb hn1 hTT tq htb; obtain ⟨w2, hw2⟩ : ∃ w2, w2 = wr.alloc (.cells #[.slice (some ⟨b1, o1, none⟩) n1 wc, .int .i64 p, .slice (some ⟨g, 0, none⟩) 1 1] 34) := ⟨_, rfl⟩; have hB2 : Below wr.heap.size wr w2 := by rw [hw2]; exact below_alloc _ _
          have x2 : w2.heap[wr.heap.size]? = some (.cells #[.slice (some ⟨b1, o1, none⟩) n1 wc, .int .i64 p, .slice (some ⟨g, 0, none⟩) 1 1] 34 (0, 0)) := by rw [hw2]; exact (MapKept.heap_alloc _ _).1
          have ho2 : w2.heap[g]? = _ := (hB2.block _ (lt_of_heapQ hor)).trans hor; have K103 := hid (targetOf_ok w2 b1 o1 n1 wc p g TT (E g) da (E g).dots.length dc ho2 hpn (upQ hB2 ctr)); go_wp2_with fail; rw [← hw2]; refine K103.out.mono ?_; rintro e w3 ⟨rfl, hB3⟩; rw [← HDT.out] at HBB
          have hl3 : (Instr.lookup 154 (.map (some mb)) (tgtV ⟨p, TT, (E g).at_⟩ (E g).text) true).run Tryz.prog w3 = .ok (.tuple #[.agg #[], .bool tb]) w3 := by
            rw [HDT.out]; exact (HG.out.below (hB2.trans (hB3.mono hB2.size))).look _ _ hwf hft
          obtain ⟨tv, htv⟩ : ∃ tv, tv = tgtV ⟨p, TT, (E g).at_⟩ (E g).text := ⟨_, rfl⟩; rw [← htv] at hl3 ⊢; obtain ⟨w4, hw4⟩ : ∃ w4, w4 = w3.alloc (.cells #[] 84) := ⟨_, rfl⟩; have hB4 : Below wr.heap.size wr w4 := (hB2.trans (hB3.mono hB2.size)).trans ((by rw [hw4]; exact below_alloc _ _ : Below w3.heap.size w3 w4).mono (Nat.le_trans hB2.size hB3.size))
          have x4 : w4.heap[wr.heap.size]? = some (.cells #[.slice (some ⟨b1, o1, none⟩) n1 wc, .int .i64 p, .slice (some ⟨g, 0, none⟩) 1 1] 34 (0, 0)) := by
            rw [hw4, (MapKept.heap_alloc _ _).2 _ (Nat.lt_of_lt_of_le (lt_of_heapQ x2) hB3.size), hB3.block _ (lt_of_heapQ x2)]; exact x2
          have ho4 : w4.heap[g]? = _ := (hB4.block _ (lt_of_heapQ hor)).trans hor; have y0 : w4.cell? ⟨wr.heap.size, 0, none⟩ = some (.slice (some ⟨b1, o1, none⟩) n1 wc) := by simp only [World.cell?, x4]; rfl
          have y1 : w4.cell? ⟨wr.heap.size, 1, none⟩ = some (.int .i64 p) := by simp only [World.cell?, x4]; rfl
          have y2 : w4.cell? ⟨wr.heap.size, 2, none⟩ = some (.slice (some ⟨g, 0, none⟩) 1 1) := by simp only [World.cell?, x4]; rfl
          have K104 := hid (isAdd_ok w4 (some ⟨b1, o1, none⟩) n1 wc p g (E g) _ ho4); obtain ⟨w5, hw5⟩ : ∃ w5, w5 = w4.alloc (.cells #[.slice (some ⟨b1, o1, none⟩) n1 wc, .int .i64 p, .slice (some ⟨g, 0, none⟩) 1 1] 34) := ⟨_, rfl⟩; rw [← hw5] at K104; have hB45 : Below w4.heap.size w4 w5 := by rw [hw5]; exact below_alloc _ _
          have hB5 : Below wr.heap.size wr w5 := hB4.trans (hB45.mono hB4.size); have z0 := upQ hB45 y0; have z1 := upQ hB45 y1; have z2 := upQ hB45 y2; have BW4 := hid hB4; have BW5 := hid hB5; have RW4 := hid (owns_belowQ hrow hB4); have RW5 := hid (owns_belowQ hrow hB5); have hs4 : w.heap.size ≤ w4.heap.size := Nat.le_trans hbs hB4.size; have hs5 : w.heap.size ≤ w5.heap.size := Nat.le_trans hbs hB5.size
          have fin0 : bb = false → ∀ W : World, Below wr.heap.size wr W → RowInv w (.slice va2 m vc2) (keepL (wrQ E T) 0 (rs.take (j + 1))) W ∧ TgtAt W mb n T := fun h W hW => by
            refine ⟨?_, HG.out.below hW⟩; rw [HS.out, h]; simpa using HI.out.moved hW
          have FIN0 := hid fin0
          have fin1 : bb = true → ∀ W : World, Below wr.heap.size wr W → ∀ (W' : World) (v' : Value) (o : Obj), (W.alloc o).grownBy W' (Value.slice va2 m vc2).ownBlock → W'.ownsRow w.heap.size 34 3 v' (m + 1) ((keepL (wrQ E T) 0 (rs.take j)).flatMap Rp.cells ++ [.slice (some ⟨b1, o1, none⟩) n1 wc, .int .i64 p, .slice (some ⟨g, 0, none⟩) 1 1]) → RowInv w v' (keepL (wrQ E T) 0 (rs.take (j + 1))) W' ∧ TgtAt W' mb n T := fun h W hW W' v' o hg ho => by
            have hBo : Below wr.heap.size wr (W.alloc o) := hW.trans ((below_alloc W o).mono hW.size)
            constructor
            · rw [HS.out, h, if_pos rfl]; refine (HI.out.moved hBo).step hg ?_; rw [← HM.out]; have : Rp.cells ⟨some ⟨b1, o1, none⟩, wc, wn, p, g⟩ = [.slice (some ⟨b1, o1, none⟩) n1 wc, .int .i64 p, .slice (some ⟨g, 0, none⟩) 1 1] := by rw [HN1.out]; rfl
              rw [this]; exact ho
            · refine (HG.out.below hBo).kept hg fun e => ?_
              obtain ⟨cs, hcs⟩ := own_type (owns_belowQ hrow hBo) e.symm; exact (HG.out.below hBo).ne hcs rfl
          have FIN1 := hid fin1; have b1' : ((j : Int) == 0) = decide (j = 0) := by rw [Bool.eq_iff_iff]; simp
          obtain ⟨B1, hB1⟩ : ∃ B1, B1 = decide (j = 0) := ⟨_, rfl⟩; rw [← hB1] at b1' HBB; unfold isAddQ at HBB; obtain ⟨B2, hB2'⟩ : ∃ B2, B2 = (decide ((E g).kind = 3) && !(E g).rem) := ⟨_, rfl⟩; simp only at HBB; rw [← hB2'] at HBB K104; clear hB2 hB3 hB4 hB45 hB5 x2 x4 ho2 ho4 hor K103 r0 r1 r2 ctr hwf hft hrow hB1 hB2' fin0 fin1 htv hw2; go_upto_region 16 with (fail); rw [← hw4]; clear hw4 hw5
          cases B1 with
          | true =>
            go_wp2_with (at_builtin; refine wpList_append_own _ rfl _ _ 22 rfl w.heap.size 34 i28 _ 3 56 Tryz.underlying22 hi28 hy0 hy1 hy2 rfl (by decide) _ _ _ rfl (RW4.out.alloc _) ⟨w4.heap.size, 0, none⟩ 1 1 [.slice (some ⟨b1, o1, none⟩) n1 wc, .int .i64 p, .slice (some ⟨g, 0, none⟩) 1 1] rfl rfl (cells_newQ _ _ _ _ (by simp)) ?ho1 ?ho2 ?ho3 ?ho4 ?_; (case ho1 => exact HONE.out); (case ho2 => unfold maxLen; omega); (case ho3 => omega); (case ho4 => simp; omega); intro v9 w9 hown9 hgr9 _; have G9 := hid hgr9; have O9 := hid hown9; clear hown9 hgr9)
            obtain ⟨F1, F2⟩ := FIN1.out HBB.out w4 BW4.out w9 v9 _ G9.out O9.out; refine ⟨⟨j + 1, by omega, by go_num, F1, F2⟩, by simp [intOf]; omega⟩
          | false =>
            cases B2 with
            | false =>
              go_wp2_with (first | (go_at_call 104; refine K104.out.mono ?_; rintro e w' ⟨rfl, hw'⟩; rw [hw']; clear hw') | (at_builtin; refine wpList_append_own _ rfl _ _ 22 rfl w.heap.size 34 i28 _ 3 56 Tryz.underlying22 hi28 hy0 hy1 hy2 rfl (by decide) _ _ _ rfl (RW5.out.alloc _) ⟨w5.heap.size, 0, none⟩ 1 1 [.slice (some ⟨b1, o1, none⟩) n1 wc, .int .i64 p, .slice (some ⟨g, 0, none⟩) 1 1] rfl rfl (cells_newQ _ _ _ _ (by simp)) ?ho1 ?ho2 ?ho3 ?ho4 ?_; (case ho1 => exact HONE.out); (case ho2 => unfold maxLen; omega); (case ho3 => omega); (case ho4 => simp; omega); intro v9 w9 hown9 hgr9 _; have G9 := hid hgr9; have O9 := hid hown9; clear hown9 hgr9))
              obtain ⟨F1, F2⟩ := FIN1.out HBB.out w5 BW5.out w9 v9 _ G9.out O9.out; refine ⟨⟨j + 1, by omega, by go_num, F1, F2⟩, by simp [intOf]; omega⟩
            | true =>
              cases tb with
              | false =>
                go_wp2_with (first | (go_at_call 104; refine K104.out.mono ?_; rintro e w' ⟨rfl, hw'⟩; rw [hw']; clear hw') | (at_builtin; refine wpList_append_own _ rfl _ _ 22 rfl w.heap.size 34 i28 _ 3 56 Tryz.underlying22 hi28 hy0 hy1 hy2 rfl (by decide) _ _ _ rfl (RW5.out.alloc _) ⟨w5.heap.size, 0, none⟩ 1 1 [.slice (some ⟨b1, o1, none⟩) n1 wc, .int .i64 p, .slice (some ⟨g, 0, none⟩) 1 1] rfl rfl (cells_newQ _ _ _ _ (by simp)) ?ho1 ?ho2 ?ho3 ?ho4 ?_; (case ho1 => exact HONE.out); (case ho2 => unfold maxLen; omega); (case ho3 => omega); (case ho4 => simp; omega); intro v9 w9 hown9 hgr9 _; have G9 := hid hgr9; have O9 := hid hown9; clear hown9 hgr9))
                obtain ⟨F1, F2⟩ := FIN1.out HBB.out w5 BW5.out w9 v9 _ G9.out O9.out; refine ⟨⟨j + 1, by omega, by go_num, F1, F2⟩, by simp [intOf]; omega⟩
              | true =>
                go_wp2_with (go_at_call 104; refine K104.out.mono ?_; rintro e w' ⟨rfl, hw'⟩; rw [hw']; clear hw')
                obtain ⟨F1, F2⟩ := FIN0.out HBB.out w5 BW5.out; refine ⟨⟨j + 1, by omega, by go_num, F1, F2⟩, by simp [intOf]; omega⟩
        · obtain rfl : j = k := by omega
          have hi4 : ¬ (j : Int) < (j : Int) := by omega
          have hI := HI.out; rw [List.take_of_length_le (by rw [← HL.out]; exact Nat.le_refl _)] at hI; have H := hid hI; clear hI HI; go_wp2; go_ret; exact ⟨_, rfl, by rw [← HTE.out]; exact H.out.row, H.out.below⟩
end Go.Proofs.YtdnebclemngdcaaGreatDoor
