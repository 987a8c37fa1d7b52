/- OwnCommit by its contract; OwnCommits by its contract. -/
import Derived.Test.YtdnebclemngdcaaGreatDoorJVRowT
import Derived.Test.YtdnebclemngdcaaGreatDoorJVSetsI
namespace Go.Proofs.YtdnebclemngdcaaGreatDoor
open Go.RowKit Go.Sort Go.Maps
set_option maxRecDepth 100000
set_option linter.unusedSectionVars false
variable [Inhabited ComV] [DecidableEq D3] [Inhabited D3] [Inhabited Dd] [Inhabited Dn] [Inhabited OpV]

theorem Tryz.info3o : (Tryz.prog.info? 3).map (fun i => (i.zero, i.size, i.bytes)) = some (some (.int .i64 0), 1, 8) := by kernel_rfl
theorem Tryz.info76 : (Tryz.prog.info? 76).map (fun i => (i.zero, i.size, i.bytes)) = some (some (.agg #[.int .i64 0, .string ByteArray.empty, .int .i64 0, .string ByteArray.empty, .int .i64 0, .bool false, .slice none 0 0]), 7, 88) := by kernel_rfl
def OwnRet (c : ComV) (w : World) (e : Ending) (w' : World) : Prop := ∃ wv ov, e = .returned (.agg #[wv, .int .i64 c.place, ov]) ∧ ComT w' [wv, .int .i64 c.place, ov] c ∧ Below w.heap.size w w'
theorem ret_own (w : World) (tmps : Array Value) (g : Nat) (a b c : Value) (h4 : tmps[2]?.getD undef = .pointer (some ⟨g, 0, none⟩)) (hc : ∀ j (hj : j < [a, b, c].length), w.cell? ⟨g, j, none⟩ = some [a, b, c][j]) :
    (results Tryz.f10 tmps).run Tryz.prog w = .ok (.agg #[a, b, c]) w := by
  have hl := run_loadCellsFrom_list Tryz.prog w ⟨g, 0, none⟩ [a, b, c] 3 rfl (fun j v hj => by
    obtain ⟨h1, h2⟩ := List.getElem?_eq_some_iff.1 hj; rw [Addr.add_lit, Nat.zero_add, hc j h1, h2])
  simp [results, Tryz.results10, h4, asAddr, loadVar, loadCells, Tryz.isAgg34, Tryz.sizeOf34, hl, Result.andThen]
theorem row3 {w : World} {g : Nat} {a b c : Value} {t : TypeId} (h : w.heap[g]? = some (.cells #[a, b, c] t (0, 0))) : (∀ j, j < 3 → (w.cell? ⟨g, 0 + j, none⟩).isSome = true) ∧ ∀ j, j < 3 → w.frozen? ⟨g, 0 + j, none⟩ = false := by
  refine ⟨fun j hj => ?_, fun j hj => ?_⟩
  · rcases (by omega : j = 0 ∨ j = 1 ∨ j = 2) with rfl | rfl | rfl <;> simp [World.cell?, h]
  · simp [World.frozen?, h]
theorem set3 {w : World} {g : Nat} {a b c : Value} {t : TypeId} (h : w.heap[g]? = some (.cells #[a, b, c] t (0, 0))) (vs : List Value) (hl : vs.length = 3) : ∀ j (hj : j < vs.length), (w.setCells g 0 vs).cell? ⟨g, j, none⟩ = some vs[j] := fun j hj => by
  have := World.cell?_setCells_in g vs 0 w (fun q hq => (row3 h).1 q (by omega)) j hj; rwa [Nat.zero_add] at this
theorem ints_one (zs : List Int) : ∀ u ∈ zs.map (Value.int .i64), u.oneCell' = true := fun u hu => by
  obtain ⟨z, _, rfl⟩ := List.mem_map.1 hu; rfl
theorem dots_one (ds : List D3) : ∀ u ∈ ds.flatMap D3.cells, u.oneCell' = true := fun u hu => by
  obtain ⟨d, _, h⟩ := List.mem_flatMap.1 hu; exact D3.one d u h
theorem OwnInv.cells {w wr : World} {c : ComV} {wv ov wv' ov' : Value} {k : Nat} {rows : List (List Value)} (h : OwnInv w c wv ov k wv' ov' rows wr) : wr.cell? ⟨w.heap.size, 2, none⟩ = some ov ∧ wr.cell? ⟨w.heap.size + 2, 2, none⟩ = some ov' ∧ wr.frozen? ⟨w.heap.size + 2, 2, none⟩ = false := by
  refine ⟨?_, ?_, ?_⟩
  · simp only [World.cell?, h.box]; rfl
  · simp only [World.cell?, h.out]; rfl
  · simp only [World.frozen?, h.out]; simp

theorem row_shape {w : World} {base e size : Nat} {v : Value} {n : Nat} {xs : List Value} (h : w.ownsRow base e size v n xs) : ∃ a c, v = .slice a n c := by
  rcases h.2 with ⟨rfl, rfl⟩ | ⟨g, cap, cur, rfl, _⟩
  · exact ⟨_, _, rfl⟩
  · exact ⟨_, _, rfl⟩
theorem own_cell {w w3 : World} {o1 o2 : Obj} {x y z : Value} (hg : (((w.alloc o1).alloc o2).alloc (.cells #[x, y, z] 34)).grownBy w3 none) : w3.cell? ⟨w.heap.size + 1 + 1, 0, none⟩ = some x ∧ w3.frozen? ⟨w.heap.size + 1 + 1, 0, none⟩ = false := by
  have h : w3.heap[w.heap.size + 1 + 1]? = some (.cells #[x, y, z] 34 (0, 0)) := by
    rw [hg.block _ (by simp) (by simp), show w.heap.size + 1 + 1 = ((w.alloc o1).alloc o2).heap.size by simp]; exact (MapKept.heap_alloc _ _).1
  constructor
  · simp only [World.cell?, h]; rfl
  · simp only [World.frozen?, h]; simp
theorem own_box {w wr w5 : World} {c : ComV} {wv ov wv' ov' v5 : Value} {k : Nat} {rows : List (List Value)} {o : OpV} {dvo : Value} (h : OwnInv w c wv ov k wv' ov' rows wr) (hg : (wr.alloc (.cells #[.int .i64 o.at_, .string o.key, .int .i64 o.kind, .string o.text, .int .i64 o.n, .bool o.rem, dvo] 76)).grownBy w5 none)
    (hr : w5.ownsRow (w.heap.size + 3) 87 3 v5 o.dots.length (o.dots.flatMap D3.cells)) : OwnInv w c wv ov k wv' ov' rows (w5.setCell ⟨wr.heap.size, 6, none⟩ v5) ∧ (w5.setCell ⟨wr.heap.size, 6, none⟩ v5).heap[wr.heap.size]? = some (.cells (opCells o v5).toArray 76 (0, 0)) ∧ (w5.setCell ⟨wr.heap.size, 6, none⟩ v5).ownsRow (w.heap.size + 3) 87 3 v5 o.dots.length (o.dots.flatMap D3.cells) := by
  have hbx : w5.heap[wr.heap.size]? = some (.cells #[.int .i64 o.at_, .string o.key, .int .i64 o.kind, .string o.text, .int .i64 o.n, .bool o.rem, dvo] 76 (0, 0)) := by
    rw [hg.block _ (by simp) (by simp)]; exact (MapKept.heap_alloc _ _).1
  refine ⟨h.moved (((below_alloc wr _).grown hg (by simp) (fun k hk => by cases hk)).setCell (Nat.le_refl _) _), ?_, ?_⟩
  · rw [heap_set hbx]; rfl
  · refine owns_below hr fun b cs hb => Below.heap_setCell _ _ _ _ fun e => ?_
    have e' : b = wr.heap.size := e; rw [e', hbx] at hb; injection hb with hb; injection hb with _ hb; exact absurd hb (by decide)
theorem own_box_cell {wr w5 : World} {cs : List Value} {u : Value} (hg : (wr.alloc (.cells cs.toArray 76)).grownBy w5 none) (hu : cs[6]? = some u) : w5.cell? ⟨wr.heap.size, 6, none⟩ = some u ∧ w5.frozen? ⟨wr.heap.size, 6, none⟩ = false := by
  have hbx : w5.heap[wr.heap.size]? = some (.cells cs.toArray 76 (0, 0)) := by
    rw [hg.block _ (by simp) (by simp)]; exact (MapKept.heap_alloc _ _).1
  constructor
  · simp only [World.cell?, hbx]; simp [hu]
  · simp only [World.frozen?, hbx]; simp
theorem OwnInv.cell2 {w wr w1 : World} {c : ComV} {wv ov wv' ov' : Value} {k : Nat} {rows : List (List Value)} {o : Obj} (h : OwnInv w c wv ov k wv' ov' rows wr) (hg : (wr.alloc o).grownBy w1 ov'.ownBlock) : w1.cell? ⟨w.heap.size + 1 + 1, 2, none⟩ = some ov' ∧ w1.frozen? ⟨w.heap.size + 1 + 1, 2, none⟩ = false := by
  have h' := h.moved (below_alloc wr o)
  have e : w1.heap[w.heap.size + 1 + 1]? = some (.cells #[wv', .int .i64 c.place, ov'] 34 (0, 0)) := by
    rw [hg.block _ (by have := h'.size; omega) (fun e => by have := (h'.row.lt _ e.symm).1; omega)]; exact h'.out
  constructor
  · simp only [World.cell?, e]; rfl
  · simp only [World.frozen?, e]; simp
theorem cells_of7 {w : World} {b : Nat} {o : OpV} {dv : Value} (h : w.heap[b]? = some (.cells (opCells o dv).toArray 76 (0, 0))) : w.cell? ⟨b, 0, none⟩ = some (.int .i64 o.at_) ∧ w.cell? ⟨b, 1, none⟩ = some (.string o.key) ∧ w.cell? ⟨b, 2, none⟩ = some (.int .i64 o.kind) ∧ w.cell? ⟨b, 3, none⟩ = some (.string o.text) ∧ w.cell? ⟨b, 4, none⟩ = some (.int .i64 o.n) ∧ w.cell? ⟨b, 5, none⟩ = some (.bool o.rem) ∧ w.cell? ⟨b, 6, none⟩ = some dv := by
  refine ⟨?_, ?_, ?_, ?_, ?_, ?_, ?_⟩ <;> (simp only [World.cell?, h]; rfl)
theorem one7 (o : OpV) (a : Option Addr) (l c : Nat) : ∀ v ∈ opCells o (.slice a l c), v.oneCell' = true := fun v hv => by
  simp only [opCells, List.mem_cons, List.not_mem_nil, or_false] at hv; rcases hv with rfl | rfl | rfl | rfl | rfl | rfl | rfl <;> rfl
set_option maxHeartbeats 4000000 in
theorem ownCommit (w : World) (c : ComV) (wv ov : Value) (hw : IntsAt w wv c.when_) (ho : OpsAt w ov c.ops) (hl : c.when_.length ≤ 20) (hm : c.ops.length ≤ 20) (hd : ∀ o ∈ c.ops, o.dots.length ≤ 70) :
    Calls Tryz.prog 10 #[.agg #[wv, .int .i64 c.place, ov]] w fun e w' => OwnRet c w e w' := by
  obtain ⟨i3, hi3, hx0, hx1, hx2⟩ := info_parts Tryz.info3o; obtain ⟨i24, hi24, hy0, hy1, hy2⟩ := info_parts Tryz.info76; obtain ⟨i65, hi65, hz0, hz1, hz2⟩ := info_parts Tryz.info87; have hsrc := src_ints hw; obtain ⟨a1, c1, rfl, _⟩ := hw; have hsh := ho.shape; obtain ⟨a2, c2, rfl, _, _, hop⟩ := hsh; obtain ⟨n, hn⟩ : ∃ n, n = c.when_.length := ⟨_, rfl⟩; obtain ⟨m, hmm⟩ : ∃ m, m = c.ops.length := ⟨_, rfl⟩; rw [← hn] at hl hsrc; rw [← hmm] at hm; have HN := hid hn; have HM := hid hmm; have HO := hid hop; have HD := hid hd; obtain ⟨p, hp⟩ : ∃ p, p = c.place := ⟨_, rfl⟩; rw [← hp, ← hn, ← hmm]; have HP := hid hp; have HS := hid hsrc; clear hn hmm hop ho hd hp hsrc; go_enter Tryz.func10, Tryz.ntmps10
  go_upto_region 3 with (at_builtin; refine wpList_append_src rfl _ _ 23 rfl (w.heap.size + 3) 3 i3 _ 1 8 Tryz.underlying23 hi3 hx0 hx1 hx2 rfl (by decide) rfl _ n (c.when_.map (Value.int .i64)) rfl (HS.out.moved ?hm1) (ints_one _) ?hm2 ?hm3 ?hm4 ?_; (case hm1 => exact fun a u h => cell_alloc (cell_alloc (cell_alloc h _) _) _); (case hm2 => unfold maxLen; omega); (case hm3 => omega); (case hm4 => simp); intro v3 w3 hown3 hgrow3; obtain ⟨g0, f0⟩ := own_cell hgrow3; obtain ⟨a3, c3, rfl⟩ := row_shape hown3)
  have I0 : Hid (OwnInv w c (.slice a1 n c1) (.slice a2 m c2) 0 (.slice a3 n c3) (.slice none 0 0) [] (w3.setCell ⟨w.heap.size + 2, 0, none⟩ (.slice a3 n c3))) := hid (OwnInv.start (by rw [← HP.out]; exact hgrow3) (by rw [← HN.out]; exact hown3)); clear hown3 hgrow3 g0 f0; go_upto_region 4 with (fail)
  go_loopw [4] (fun i wr => ∃ (k : Nat) (ov' : Value) (rows : List (List Value)), k ≤ m ∧ i = .int .i64 k ∧ Hid (OwnInv w c (.slice a1 n c1) (.slice a2 m c2) k (.slice a3 n c3) ov' rows wr)) (fun i _ => m - (intOf i).toNat)
  case atStart => exact ⟨0, _, _, Nat.zero_le _, rfl, I0.out⟩
  case round =>
    obtain ⟨k, ov', rows, hk, rfl, HI⟩ := hrel; obtain ⟨k2, o2, of2⟩ := HI.out.cells
    by_cases hlt : k < m
    · obtain ⟨b, off, rfl, ho'⟩ := HO.out.resolve_left (fun h => by have := HM.out; rw [h] at this; simp at this; omega); obtain ⟨dp, dc, hdd, q0, q1, q2, q3, q4, q5, q6⟩ := ho' k (by have := HM.out; omega); have up : ∀ {a : Addr} {v : Value}, w.cell? a = some v → wr.cell? a = some v := fun {a v} h => by rw [HI.out.below.cell (lt_of_cell h)]; exact h
      have r0 := up q0; have r1 := up q1; have r2 := up q2; have r3 := up q3; have r4 := up q4; have r5 := up q5; have r6 := up q6; have hmem : c.ops[k]! ∈ c.ops := by rw [getElem!_pos c.ops k (by have := HM.out; omega)]; exact List.getElem_mem _
      have hdl := HD.out _ hmem
      have htake : c.ops.take (k + 1) = c.ops.take k ++ [c.ops[k]!] := by
        have hkl : k < c.ops.length := by have := HM.out; omega
        rw [List.take_succ_eq_append_getElem hkl, getElem!_pos c.ops k hkl]
      obtain ⟨o, hoe⟩ : ∃ o, o = c.ops[k]! := ⟨_, rfl⟩; rw [← hoe] at r0 r1 r2 r3 r4 r5 r6 hdl htake hdd; have HT := hid htake; have HDD := hid (src_dots (hdd.mono HI.out.below (Nat.le_refl _))); clear q0 q1 q2 q3 q4 q5 q6 ho' up hoe hmem htake hdd; have k2' := fun ob => cell_alloc k2 ob
      have r6' := fun ob => cell_alloc r6 ob
      go_upto_region 8 with (fail)
      go_upto_region 9 with (at_builtin; refine wpList_append_src rfl _ _ 65 rfl (w.heap.size + 3) 87 i65 _ 3 24 Tryz.underlying65 hi65 hz0 hz1 hz2 rfl (by decide) rfl _ o.dots.length (o.dots.flatMap D3.cells) rfl (HDD.out.moved ?hm1) (dots_one _) ?hm2 ?hm3 ?hm4 ?_; (case hm1 => exact fun a u h => cell_alloc h _); (case hm2 => unfold maxLen; omega); (case hm3 => omega); (case hm4 => have := HI.out.size; simp; omega); intro v5 w5 hown5 hgrow5; obtain ⟨x6, xf6⟩ := own_box_cell (cs := [.int .i64 o.at_, .string o.key, .int .i64 o.kind, .string o.text, .int .i64 o.n, .bool o.rem, .slice dp o.dots.length dc]) hgrow5 rfl; obtain ⟨a5, c5, rfl⟩ := row_shape hown5)
      obtain ⟨I6, B6, D6⟩ := own_box HI.out hgrow5 hown5; obtain ⟨w6, hw6⟩ : ∃ w6, w6 = w5.setCell ⟨wr.heap.size, 6, none⟩ (.slice a5 o.dots.length c5) := ⟨_, rfl⟩; rw [← hw6] at I6 B6 D6 ⊢; obtain ⟨s0, s1, s2, s3, s4, s5, s6⟩ := cells_of7 B6; obtain ⟨_, t2, tf2⟩ := I6.cells; have t2' : w6.cell? ⟨w.heap.size + 1 + 1, 2, none⟩ = some ov' := t2; have hrow := I6.row; have hs6 := I6.size; obtain ⟨ao, co, hov⟩ := row_shape hrow; subst hov; have H6 := hid I6; have HD6 := hid D6; clear hw6 hown5 hgrow5 x6 xf6 k2' r6' I6 B6 D6 t2 tf2 HI k2 o2 of2 r0 r1 r2 r3 r4 r5 r6 HDD
      go_wp2_with (at_builtin; refine wpList_append_own _ rfl _ _ 32 rfl (w.heap.size + 3) 76 i24 _ 7 88 Tryz.underlying32 hi24 hy0 hy1 hy2 rfl (by decide) _ _ _ rfl (hrow.alloc _) ⟨w6.heap.size, 0, none⟩ 1 1 (opCells o (.slice a5 o.dots.length c5)) rfl rfl (cells11_new _ _ _ _ rfl) (one7 _ _ _ _) ?hm2 ?hm3 ?hm4 ?_; (case hm2 => unfold maxLen; omega); (case hm3 => omega); (case hm4 => simp; omega); intro v7 w7 hown7 hgrow7 _; obtain ⟨y2, yf2⟩ := H6.out.cell2 hgrow7; obtain ⟨a7, c7, rfl⟩ := row_shape hown7)
      go_roundw
      case rel => exact ⟨k + 1, _, _, by omega, by go_num, (H6.out.moved (below_alloc _ _)).op hgrow7 hown7 (HD6.out.alloc _) HT.out⟩
      case measure => simp [intOf]; omega
    · obtain rfl : k = m := by omega
      have hout := HI.out.out; have hres := HI.out.res; have R4 := hid (row3 hres); have hrow := HI.out.row; obtain ⟨ao, co, hov⟩ := row_shape hrow; subst hov; have S4 := hid (set3 hres [.slice a3 n c3, .int .i64 p, .slice ao k co] rfl); have hkm := HM.out; rw [hkm] at HI; have hT := HI.out.comT; rw [← hkm] at hT; have HT := hid (hT.kept (keep3_setCells hres (by decide) (by decide) (by decide) 0 [.slice a3 n c3, .int .i64 p, .slice ao k co])); have HPP := HP.out; have HB := hid HI.out.below; have q0 : wr.cell? ⟨w.heap.size + 1 + 1, 0, none⟩ = some (.slice a3 n c3) := by simp only [World.cell?, Nat.add_assoc]; rw [hout]; rfl
      have q1 : wr.cell? ⟨w.heap.size + 1 + 1, 1, none⟩ = some (.int .i64 p) := by simp only [World.cell?, Nat.add_assoc]; rw [hout, HPP]; rfl
      have q2 : wr.cell? ⟨w.heap.size + 1 + 1, 2, none⟩ = some (.slice ao k co) := by simp only [World.cell?, Nat.add_assoc]; rw [hout]; rfl
      clear hout hres hrow hT o2 of2 HI hkm HPP
      go_wp2_with (refine wpList_store_k _ rfl (.tmp 2) (.tmp 43) 34 rfl (w.heap.size + 1) 0 [.slice a3 n c3, .int .i64 p, .slice ao k co] rfl rfl 3 rfl Tryz.sizeOf34 rfl _ ?hW R4.out.1 R4.out.2 ?_; case hW => rfl)
      refine bodyPost_ret (ret_own _ _ (w.heap.size + 1) _ _ _ rfl S4.out) rfl ⟨_, _, by rw [← HP.out], ?_, below_setCells (by omega) _ _ HB.out⟩; have hT := HT.out; rw [← HP.out] at hT ⊢; exact hT
end Go.Proofs.YtdnebclemngdcaaGreatDoor
namespace Go.Proofs.YtdnebclemngdcaaGreatDoor
open Go.RowKit Go.Sort Go.Maps
set_option maxRecDepth 100000
set_option linter.unusedSectionVars false
variable [Inhabited ComV] [DecidableEq D3] [Inhabited D3] [Inhabited Dd] [Inhabited Dn] [Inhabited OpV]

theorem Tryz.info28o : (Tryz.prog.info? 34).map (fun i => (i.zero, i.size, i.bytes)) = some (some (.agg #[.slice none 0 0, .int .i64 0, .slice none 0 0]), 3, 56) := by kernel_rfl
structure OwnsInv (w : World) (l : List ComV) (v : Value) (rows : List (List Value)) (wr : World) : Prop where
  below : Below w.heap.size w wr
  row : wr.ownsRow w.heap.size 34 3 v l.length rows.flatten
  coms : F2 (ComT wr) rows l
theorem OwnsInv.start (w : World) : OwnsInv w [] (.slice none 0 0) [] w := ⟨Below.refl _ _, World.ownsRow_nil _ _ _ _, trivial⟩
theorem OwnsInv.moved {w wr w' : World} {l : List ComV} {v : Value} {rows : List (List Value)} (h : OwnsInv w l v rows wr) (hb : Below wr.heap.size wr w') : OwnsInv w l v rows w' where
  below := h.below.trans (hb.mono h.below.size)
  row := owns_below h.row fun b _ hc => hb.block b (lt_of_heap hc)
  coms := f2_mono (fun _ _ h => h.kept (Keep3.of_below hb (Nat.le_refl _))) h.coms
theorem OwnsInv.step {w wr w' : World} {l : List ComV} {v v' : Value} {rows : List (List Value)} {r : List Value} {c : ComV} (h : OwnsInv w l v rows wr) (hc : ComT wr r c) (hg : wr.grownBy w' v.ownBlock) (hr : w'.ownsRow w.heap.size 34 3 v' (l.length + 1) (rows.flatten ++ r)) : OwnsInv w (l ++ [c]) v' (rows ++ [r]) w' where
  below := h.below.trans ⟨hg.os, hg.tape, hg.output, hg.size, fun i hi => hg.block i (Nat.lt_of_lt_of_le hi h.below.size) fun e => by have := (h.row.lt i e.symm).1; omega⟩
  row := by simpa using hr
  coms := f2_append (f2_mono (fun _ _ x => x.kept (Keep3.grown h.row hg)) h.coms) (hc.kept (Keep3.grown h.row hg))
theorem one3v (w1 w2 : Value) (p : Int) (a1 a2 : Option Addr) (l1 c1 l2 c2 : Nat) (e1 : w1 = .slice a1 l1 c1) (e2 : w2 = .slice a2 l2 c2) : ∀ v ∈ [w1, .int .i64 p, w2], v.oneCell' = true := fun v hv => by
  subst e1 e2; simp only [List.mem_cons, List.not_mem_nil, or_false] at hv; rcases hv with rfl | rfl | rfl <;> rfl
theorem ComT.shape {w : World} {wv ov : Value} {p : Int} {c : ComV} (h : ComT w [wv, .int .i64 p, ov] c) : (∃ a1 c1, wv = .slice a1 c.when_.length c1) ∧ ∃ a2 c2, ov = .slice a2 c.ops.length c2 := by
  obtain ⟨wv', ov', he, ⟨a1, c1, h1, _⟩, rows, ⟨a2, c2, h2, _⟩, hf⟩ := h; injection he with e1 e2; injection e2 with _ e2; injection e2 with e2; subst e1 e2; rw [h1, h2, List.length_map, f2_len hf]; exact ⟨⟨_, _, rfl⟩, _, _, rfl⟩
end Go.Proofs.YtdnebclemngdcaaGreatDoor
