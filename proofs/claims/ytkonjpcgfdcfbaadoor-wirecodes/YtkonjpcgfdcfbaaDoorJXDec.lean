/- Decode, by its contract; Decode, by its contracts. -/
import Derived.Test.YtkonjpcgfdcfbaaDoorJXWhole
import Derived.Test.YtkonjpcgfdcfbaaDoorJXAtt
import Derived.Test.YtkonjpcgfdcfbaaDoorJXEi
namespace Go.Proofs.YtkonjpcgfdcfbaaDoor
open Go.RowKit
set_option maxRecDepth 100000

theorem fill9n {w : World} {g : Nat} {t : TypeId} {z0 z1 z2 z3 z4 z5 z6 z7 z8 : Value} (h : w.heap[g]? = some (.cells #[z0, z1, z2, z3, z4, z5, z6, z7, z8] t (0, 0))) (v0 v1 v2 v3 v4 v5 v6 v7 v8 : Value) : (((((((((w.setCell ⟨g, 0, none⟩ v0).setCell ⟨g, 1, none⟩ v1).setCell ⟨g, 2, none⟩ v2).setCell ⟨g, 3, none⟩ v3).setCell ⟨g, 4, none⟩ v4).setCell ⟨g, 5, none⟩ v5).setCell ⟨g, 6, none⟩ v6).setCell ⟨g, 7, none⟩ v7).setCell ⟨g, 8, none⟩ v8).heap[g]? = some (.cells #[v0, v1, v2, v3, v4, v5, v6, v7, v8] t (0, 0)) := by
  have h0 := heap_set (j := 0) h v0
  rw [show (#[z0, z1, z2, z3, z4, z5, z6, z7, z8] : Array Value).setIfInBounds 0 v0 = #[v0, z1, z2, z3, z4, z5, z6, z7, z8] from rfl] at h0
  have h1 := heap_set (j := 1) h0 v1
  rw [show (#[v0, z1, z2, z3, z4, z5, z6, z7, z8] : Array Value).setIfInBounds 1 v1 = #[v0, v1, z2, z3, z4, z5, z6, z7, z8] from rfl] at h1
  have h2 := heap_set (j := 2) h1 v2
  rw [show (#[v0, v1, z2, z3, z4, z5, z6, z7, z8] : Array Value).setIfInBounds 2 v2 = #[v0, v1, v2, z3, z4, z5, z6, z7, z8] from rfl] at h2
  have h3 := heap_set (j := 3) h2 v3
  rw [show (#[v0, v1, v2, z3, z4, z5, z6, z7, z8] : Array Value).setIfInBounds 3 v3 = #[v0, v1, v2, v3, z4, z5, z6, z7, z8] from rfl] at h3
  have h4 := heap_set (j := 4) h3 v4
  rw [show (#[v0, v1, v2, v3, z4, z5, z6, z7, z8] : Array Value).setIfInBounds 4 v4 = #[v0, v1, v2, v3, v4, z5, z6, z7, z8] from rfl] at h4
  have h5 := heap_set (j := 5) h4 v5
  rw [show (#[v0, v1, v2, v3, v4, z5, z6, z7, z8] : Array Value).setIfInBounds 5 v5 = #[v0, v1, v2, v3, v4, v5, z6, z7, z8] from rfl] at h5
  have h6 := heap_set (j := 6) h5 v6
  rw [show (#[v0, v1, v2, v3, v4, v5, z6, z7, z8] : Array Value).setIfInBounds 6 v6 = #[v0, v1, v2, v3, v4, v5, v6, z7, z8] from rfl] at h6
  have h7 := heap_set (j := 7) h6 v7
  rw [show (#[v0, v1, v2, v3, v4, v5, v6, z7, z8] : Array Value).setIfInBounds 7 v7 = #[v0, v1, v2, v3, v4, v5, v6, v7, z8] from rfl] at h7
  have h8 := heap_set (j := 8) h7 v8
  rw [show (#[v0, v1, v2, v3, v4, v5, v6, v7, z8] : Array Value).setIfInBounds 8 v8 = #[v0, v1, v2, v3, v4, v5, v6, v7, v8] from rfl] at h8
  exact h8
theorem drew_heap (w : World) : w.drew.heap = w.heap := rfl
theorem below9 {B g : Nat} {a w : World} (h : Below B a w) (hg : B ≤ g) (v0 v1 v2 v3 v4 v5 v6 v7 v8 : Value) : Below B a (((((((((w.setCell ⟨g, 0, none⟩ v0).setCell ⟨g, 1, none⟩ v1).setCell ⟨g, 2, none⟩ v2).setCell ⟨g, 3, none⟩ v3).setCell ⟨g, 4, none⟩ v4).setCell ⟨g, 5, none⟩ v5).setCell ⟨g, 6, none⟩ v6).setCell ⟨g, 7, none⟩ v7).setCell ⟨g, 8, none⟩ v8) := ((((((((h.setCell hg _).setCell hg _).setCell hg _).setCell hg _).setCell hg _).setCell hg _).setCell hg _).setCell hg _).setCell hg _
theorem fill9 {w : World} {g : Nat} {t : TypeId} {z0 z1 z2 z3 z4 z5 z6 z7 z8 : Value} (h : w.heap[g]? = some (.cells #[z0, z1, z2, z3, z4, z5, z6, z7, z8] t (0, 0))) (v0 v1 v2 v3 v4 v5 v6 v7 v8 : Value) : (w.setCells g 0 [v0, v1, v2, v3, v4, v5, v6, v7, v8]).heap[g]? = some (.cells #[v0, v1, v2, v3, v4, v5, v6, v7, v8] t (0, 0)) := by
  have h0 := heap_set (j := 0) h v0
  rw [show (#[z0, z1, z2, z3, z4, z5, z6, z7, z8] : Array Value).setIfInBounds 0 v0 = #[v0, z1, z2, z3, z4, z5, z6, z7, z8] from rfl] at h0
  have h1 := heap_set (j := 1) h0 v1
  rw [show (#[v0, z1, z2, z3, z4, z5, z6, z7, z8] : Array Value).setIfInBounds 1 v1 = #[v0, v1, z2, z3, z4, z5, z6, z7, z8] from rfl] at h1
  have h2 := heap_set (j := 2) h1 v2
  rw [show (#[v0, v1, z2, z3, z4, z5, z6, z7, z8] : Array Value).setIfInBounds 2 v2 = #[v0, v1, v2, z3, z4, z5, z6, z7, z8] from rfl] at h2
  have h3 := heap_set (j := 3) h2 v3
  rw [show (#[v0, v1, v2, z3, z4, z5, z6, z7, z8] : Array Value).setIfInBounds 3 v3 = #[v0, v1, v2, v3, z4, z5, z6, z7, z8] from rfl] at h3
  have h4 := heap_set (j := 4) h3 v4
  rw [show (#[v0, v1, v2, v3, z4, z5, z6, z7, z8] : Array Value).setIfInBounds 4 v4 = #[v0, v1, v2, v3, v4, z5, z6, z7, z8] from rfl] at h4
  have h5 := heap_set (j := 5) h4 v5
  rw [show (#[v0, v1, v2, v3, v4, z5, z6, z7, z8] : Array Value).setIfInBounds 5 v5 = #[v0, v1, v2, v3, v4, v5, z6, z7, z8] from rfl] at h5
  have h6 := heap_set (j := 6) h5 v6
  rw [show (#[v0, v1, v2, v3, v4, v5, z6, z7, z8] : Array Value).setIfInBounds 6 v6 = #[v0, v1, v2, v3, v4, v5, v6, z7, z8] from rfl] at h6
  have h7 := heap_set (j := 7) h6 v7
  rw [show (#[v0, v1, v2, v3, v4, v5, v6, z7, z8] : Array Value).setIfInBounds 7 v7 = #[v0, v1, v2, v3, v4, v5, v6, v7, z8] from rfl] at h7
  have h8 := heap_set (j := 8) h7 v8
  rw [show (#[v0, v1, v2, v3, v4, v5, v6, v7, z8] : Array Value).setIfInBounds 8 v8 = #[v0, v1, v2, v3, v4, v5, v6, v7, v8] from rfl] at h8
  exact h8
/-- The closure that reads: what is read lies in m's box. -/
theorem decode1_ok (w : World) (a0 : Addr) (b g : Nat) (l : List UInt8) (m : MsgV) (h : Rs a0 b w l) (hg : w.heap[g]? = some (.cells #[.int .i64 0, .int .i64 0, .int .i64 0, .int .i64 0, .int .i64 0, .bool false, .slice none 0 0, .int .i64 0, .slice none 0 0] 34 (0, 0))) (hne : g ≠ b) (hq : wholeP l = some m) :
    Calls Tryd.prog 25 #[.pointer (some ⟨b, 0, none⟩), .pointer (some ⟨g, 0, none⟩)] w fun e w' => e = .returned (.tuple #[]) ∧ ∃ a1 c1 a2 c2, w'.heap[g]? = some (.cells #[.int .i64 m.frm, .int .i64 m.to_, .int .i64 m.shard, .int .i64 m.seq, .int .i64 m.time, .bool m.beat, .slice a1 m.c.when_.length c1, .int .i64 m.c.place, .slice a2 m.c.ops.length c2] 34 (0, 0)) ∧
      ComOwn w.heap.size w' (.slice a1 m.c.when_.length c1) (.slice a2 m.c.ops.length c2) m.c ∧ (∀ k, k < w.heap.size → k ≠ b → k ≠ g → w'.heap[k]? = w.heap[k]?) ∧ w'.os = w.os ∧ w'.tape = w.tape ∧ w'.output = w.output ∧ w.heap.size ≤ w'.heap.size := by
  have K := hid (whole_any w a0 b l h)
  go_enter Tryd.func25, Tryd.ntmps25
  go_wp2_with fail
  refine K.out.mono ?_
  rintro e w1 (⟨m', l1, hq1, hr, hs, ha⟩ | ⟨hq1, rfl, ha⟩)
  · have hm : m' = m := by
      have := wholeQ_some hq1
      rw [hq] at this
      exact (Option.some.inj this).symm
    subst hm
    obtain ⟨a1, c1, a2, c2, rfl, hown⟩ := hr
    have hgl := lt_of_heap hg
    have hres : w1.heap[g]? = some (.cells #[.int .i64 0, .int .i64 0, .int .i64 0, .int .i64 0, .int .i64 0, .bool false, .slice none 0 0, .int .i64 0, .slice none 0 0] 34 (0, 0)) := by rw [ha.block _ hgl hne]; exact hg
    obtain ⟨wz, STORE, HZ⟩ := store_res hres [.int .i64 m'.frm, .int .i64 m'.to_, .int .i64 m'.shard, .int .i64 m'.seq, .int .i64 m'.time, .bool m'.beat, .slice a1 m'.c.when_.length c1, .int .i64 m'.c.place, .slice a2 m'.c.ops.length c2] rfl rfl 34 9 rfl Tryd.sizeOf34
    have HA := hid ha
    have HO := hid hown
    have HR := hid hres
    clear hs ha hown hres hq1
    go_wp2_with (refine STORE _ _ _ _ (.tmp 1) (.tmp 2) rfl rfl rfl rfl ?_)
    go_end0
    refine ⟨rfl, a1, c1, a2, c2, ?_, ?_, fun k hk hb hkg => ?_, ?_⟩
    · rw [HZ.out.2]
      exact fill9 HR.out _ _ _ _ _ _ _ _ _
    · rw [HZ.out.2]
      exact HO.out.kept (.sets HR.out (by decide) _ _)
    · rw [HZ.out.2, setCells_other _ _ _ _ _ hkg]
      exact HA.out.block k hk hb
    · have hbz := below_setCells (B := g) (b := g) (a := w1) (Nat.le_refl _) [.int .i64 m'.frm, .int .i64 m'.to_, .int .i64 m'.shard, .int .i64 m'.seq, .int .i64 m'.time, .bool m'.beat, .slice a1 m'.c.when_.length c1, .int .i64 m'.c.place, .slice a2 m'.c.ops.length c2] 0 (Below.refl _ _)
      rw [HZ.out.2]
      exact ⟨hbz.os.trans HA.out.os, hbz.tape.trans HA.out.tape, hbz.output.trans HA.out.output, by rw [setCells_size]; exact HA.out.size⟩
  · exfalso
    have := wholeQ_none hq1
    rw [hq] at this
    cases this
theorem decode1_bad (w : World) (a0 : Addr) (b : Nat) (p : Addr) (l : List UInt8) (h : Rs a0 b w l) (hq : wholeP l = none) :
    Calls Tryd.prog 25 #[.pointer (some ⟨b, 0, none⟩), .pointer (some p)] w fun e w' => e = thrown (.iface 131 (.pointer (some a0))) ∧ Aside b w.heap.size w w' := by
  have K := hid (whole_any w a0 b l h)
  go_enter Tryd.func25, Tryd.ntmps25
  go_wp2_with fail
  refine K.out.mono ?_
  rintro e w1 (⟨m', l1, hq1, _⟩ | ⟨hq1, rfl, ha⟩)
  · exfalso
    have := wholeQ_some hq1
    rw [hq] at this
    cases this
  · go_wp2
    exact ⟨rfl, rfl, ha⟩
end Go.Proofs.YtkonjpcgfdcfbaaDoor
namespace Go.Proofs.YtkonjpcgfdcfbaaDoor
open Go.RowKit
set_option maxRecDepth 100000

theorem ret_cell_tmp {f : Func} {s t k s2 : Nat} (hf : f.results = #[ResultVar.cell s t, ResultVar.tmp s2]) (hag : ∀ w, (isAgg t).run Tryd.prog w = .ok true w) (hsz : ∀ w, (sizeOf t).run Tryd.prog w = .ok k w) (w : World) (tmps : Array Value) (g : Nat) (vs : List Value) (v2 : Value) (hk : vs.length = k) (h4 : tmps[s]?.getD undef = .pointer (some ⟨g, 0, none⟩)) (h5 : tmps[s2]?.getD undef = v2) (hc : ∀ j (hj : j < vs.length), w.cell? ⟨g, j, none⟩ = some vs[j]) :
    (results f tmps).run Tryd.prog w = .ok (.tuple #[.agg vs.toArray, v2]) w := by
  have hl := run_loadCellsFrom_list Tryd.prog w ⟨g, 0, none⟩ vs k hk (fun j v hj => by
    obtain ⟨h1, h2⟩ := List.getElem?_eq_some_iff.1 hj
    rw [Addr.add_lit, Nat.zero_add, hc j h1, h2])
  simp [results, hf, h4, h5, asAddr, loadVar, loadCells, hag, hsz, hl, Result.andThen]
theorem cells_heap {w : World} {g : Nat} {t : TypeId} (vs : List Value) (h : w.heap[g]? = some (.cells vs.toArray t (0, 0))) : ∀ j (hj : j < vs.length), w.cell? ⟨g, j, none⟩ = some vs[j] := fun j hj => by
  rw [cell_of h]
  simp
set_option maxHeartbeats 1000000 in
theorem decode_long (w : World) (a0 : Addr) (l : List UInt8) (he : w.cell? ⟨0, 0, none⟩ = some (.iface 131 (.pointer (some a0)))) (h : 6000 < l.length) :
    Calls Tryd.prog 11 #[.string ⟨l.toArray⟩] w fun e w' => e = .returned (.tuple #[.agg #[.int .i64 0, .int .i64 0, .int .i64 0, .int .i64 0, .int .i64 0, .bool false, .slice none 0 0, .int .i64 0, .slice none 0 0], .iface 131 (.pointer (some a0))]) ∧ Below w.heap.size w w' := by
  have hca := fun o => cell_alloc he o
  go_enter Tryd.func11, Tryd.ntmps11
  go_wp2_with fail
  go_region
  go_wp2_with fail
  refine bodyPost_ret (ret_cell_tmp (k := 9) Tryd.results11 Tryd.isAgg34 Tryd.sizeOf34 _ _ w.heap.size [.int .i64 0, .int .i64 0, .int .i64 0, .int .i64 0, .int .i64 0, .bool false, .slice none 0 0, .int .i64 0, .slice none 0 0] _ rfl rfl rfl (cells_heap (t := 34) _ (heap_new _ _))) rfl ⟨rfl, (below_alloc _ _).drew⟩
set_option maxHeartbeats 1000000 in
theorem decode_short (w : World) (a0 : Addr) (l : List UInt8) (he : w.cell? ⟨0, 0, none⟩ = some (.iface 131 (.pointer (some a0)))) (h : l.length < 4) :
    Calls Tryd.prog 11 #[.string ⟨l.toArray⟩] w fun e w' => e = .returned (.tuple #[.agg #[.int .i64 0, .int .i64 0, .int .i64 0, .int .i64 0, .int .i64 0, .bool false, .slice none 0 0, .int .i64 0, .slice none 0 0], .iface 131 (.pointer (some a0))]) ∧ Below w.heap.size w w' := by
  have hca := fun o => cell_alloc he o
  have h6 : ¬ 6000 < l.length := by omega
  go_enter Tryd.func11, Tryd.ntmps11
  go_wp2_with fail
  go_region
  go_wp2_with fail
  refine bodyPost_ret (ret_cell_tmp (k := 9) Tryd.results11 Tryd.isAgg34 Tryd.sizeOf34 _ _ w.heap.size [.int .i64 0, .int .i64 0, .int .i64 0, .int .i64 0, .int .i64 0, .bool false, .slice none 0 0, .int .i64 0, .slice none 0 0] _ rfl rfl rfl (cells_heap (t := 34) _ (heap_new _ _))) rfl ⟨rfl, (below_alloc _ _).drew⟩
set_option maxHeartbeats 2000000 in
theorem decode_sum (w : World) (a7 : Addr) (l t s : List UInt8) (he : w.cell? ⟨1, 0, none⟩ = some (.iface 131 (.pointer (some a7)))) (h6 : ¬ 6000 < l.length) (h4 : ¬ l.length < 4) (ht : t = l.take (l.length - 4)) (hs : s = l.drop (l.length - 4)) (hne : ¬ s = sum4 t) :
    Calls Tryd.prog 11 #[.string ⟨l.toArray⟩] w fun e w' => e = .returned (.tuple #[.agg #[.int .i64 0, .int .i64 0, .int .i64 0, .int .i64 0, .int .i64 0, .bool false, .slice none 0 0, .int .i64 0, .slice none 0 0], .iface 131 (.pointer (some a7))]) ∧ Below w.heap.size w w' := by
  have hlt := lt_of_cell he
  have HT := hid ht
  have HS := hid hs
  have HE := hid he
  have HNE := hid hne
  have K := hid (fun W => sumOf_any W t (by rw [ht, List.length_take]; omega))
  clear ht hs he hne
  obtain ⟨w1, hw1⟩ : ∃ w1, w1 = (w.alloc (.cells #[.int .i64 0, .int .i64 0, .int .i64 0, .int .i64 0, .int .i64 0, .bool false, .slice none 0 0, .int .i64 0, .slice none 0 0] 34)).drew := ⟨_, rfl⟩
  have HW1 := hid hw1
  go_enter Tryd.func11, Tryd.ntmps11
  go_wp2_with fail
  go_region
  go_wp2_with fail
  rw [ext_take, ext_drop, ← HT.out, ← HS.out, ← hw1]
  clear hw1
  refine (K.out _).mono ?_
  rintro e w2 ⟨rfl, hb2⟩
  have hs1 : w1.heap.size = w.heap.size + 1 := by rw [HW1.out]; simp
  have hh : w2.heap[w.heap.size]? = some (.cells #[.int .i64 0, .int .i64 0, .int .i64 0, .int .i64 0, .int .i64 0, .bool false, .slice none 0 0, .int .i64 0, .slice none 0 0] 34 (0, 0)) := by
    rw [hb2.block _ (by omega), HW1.out]
    exact heap_new _ _
  have HB : Hid (Below w.heap.size w w2) := (show Below w.heap.size w w1 by rw [HW1.out]; exact (below_alloc _ _).drew).trans (hb2.mono (by omega))
  have he2 : w2.cell? ⟨1, 0, none⟩ = some (.iface 131 (.pointer (some a7))) := by rw [HB.out.cell (p := ⟨1, 0, none⟩) hlt]; exact HE.out
  have HH := hid hh
  have hne : (s == sum4 t) = false := beq_eq_false_iff_ne.2 HNE.out
  clear hb2
  have c0 := (cell_of (j := 0) hh).trans rfl
  have c1 := (cell_of (j := 1) hh).trans rfl
  have c2 := (cell_of (j := 2) hh).trans rfl
  have c3 := (cell_of (j := 3) hh).trans rfl
  have c4 := (cell_of (j := 4) hh).trans rfl
  have c5 := (cell_of (j := 5) hh).trans rfl
  have c6 := (cell_of (j := 6) hh).trans rfl
  have c7 := (cell_of (j := 7) hh).trans rfl
  have c8 := (cell_of (j := 8) hh).trans rfl
  have z := fun j => free_of (j := j) hh
  clear hh
  go_wp2_with fail
  go_region
  generalize hwz : World.drew _ = wz
  have HZ : Hid (wz.heap[w.heap.size]? = some (.cells #[.int .i64 0, .int .i64 0, .int .i64 0, .int .i64 0, .int .i64 0, .bool false, .slice none 0 0, .int .i64 0, .slice none 0 0] 34 (0, 0))) := by
    show wz.heap[w.heap.size]? = _
    rw [← hwz, drew_heap]
    exact fill9n HH.out _ _ _ _ _ _ _ _ _
  have HBZ : Hid (Below w.heap.size w wz) := by
    show Below _ _ _
    rw [← hwz]
    exact (below9 HB.out (Nat.le_refl _) _ _ _ _ _ _ _ _ _).drew
  clear hwz c0 c1 c2 c3 c4 c5 c6 c7 c8 z
  go_wp2_with fail
  refine bodyPost_ret (ret_cell_tmp (k := 9) Tryd.results11 Tryd.isAgg34 Tryd.sizeOf34 _ _ w.heap.size [.int .i64 0, .int .i64 0, .int .i64 0, .int .i64 0, .int .i64 0, .bool false, .slice none 0 0, .int .i64 0, .slice none 0 0] _ rfl rfl rfl (cells_heap (t := 34) _ HZ.out)) rfl ⟨rfl, HBZ.out⟩
theorem Keeps.but {b : Nat} {w w' : World} {cs : Array Value} {t : TypeId} (h : w.heap[b]? = some (.cells cs t (0, 0))) (ht : t ≠ 3 ∧ t ≠ 52 ∧ t ≠ 62) (ha : Aside b w.heap.size w w') : Keeps w w' := fun t' ht' i cs' hc => ha.block i (lt_of_heap hc) fun hi => by
  rw [hi, h] at hc
  injection hc with hc
  injection hc with _ hc
  exact ht'.elim (fun h1 => ht.1 (hc.trans h1)) fun h1 => h1.elim (fun h2 => ht.2.1 (hc.trans h2)) fun h2 => ht.2.2 (hc.trans h2)
/-- A whole row of cells is stored. -/
theorem store_row {wr : World} {g : Nat} {cs : Array Value} {t : TypeId} (h : wr.heap[g]? = some (.cells cs t (0, 0))) (vs : List Value) (hl : vs.length = cs.size) (hone : vs.all (fun v => v.oneCell') = true) (ty n : Nat) (hn : vs.length = n) (hs : ∀ w, (sizeOf ty).run Tryd.prog w = .ok n w) :
    ∃ wz, (∀ (Q : Exit → Act → World → Prop) (ops : Array Oper) (o : Oper) (rest : List Oper) (a : Act) (x y : Operand), o.guard = none → o.op = .store ty x y → a.eval x = .pointer (some ⟨g, 0, none⟩) → a.eval y = .agg vs.toArray → wpList Tryd.prog ops Q rest (a.put o.dst undef) wz → wpList Tryd.prog ops Q (o :: rest) a wr) ∧
      Hid ((∀ j (hj : j < vs.length), wz.cell? ⟨g, j, none⟩ = some vs[j]) ∧ wz = wr.setCells g 0 vs) := by
  refine ⟨_, fun Q ops o rest a x y h1 h2 h3 h4 h5 => ?_, setk h vs hl, rfl⟩
  exact wpList_store_k _ h1 x y ty h2 g 0 vs h3 h4 n hn hs hone _ rfl (rowk h (by omega)).1 (rowk h (by omega)).2 h5
set_option maxHeartbeats 4000000 in
theorem decode_bad (w : World) (a0 : Addr) (l t : List UInt8) (he : w.cell? ⟨0, 0, none⟩ = some (.iface 131 (.pointer (some a0)))) (h6 : ¬ 6000 < l.length) (h4 : ¬ l.length < 4) (ht : t = l.take (l.length - 4)) (hs : sum4 t = l.drop (l.length - 4)) (hq : wholeP t = none) :
    Calls Tryd.prog 11 #[.string ⟨l.toArray⟩] w fun e w' => e = .returned (.tuple #[.agg #[.int .i64 0, .int .i64 0, .int .i64 0, .int .i64 0, .int .i64 0, .bool false, .slice none 0 0, .int .i64 0, .slice none 0 0], .iface 131 (.pointer (some a0))]) ∧ Below w.heap.size w w' := by
  have hlt := lt_of_cell he
  have HT := hid ht
  have HS := hid hs
  have HE := hid he
  have hl : t.length ≤ 6000 := by rw [ht, List.length_take]; omega
  have HL := hid hl
  have K := hid (fun W => sumOf_any W t (by omega))
  clear ht hs he hl
  obtain ⟨w1, hw1⟩ : ∃ w1, w1 = (w.alloc (.cells #[.int .i64 0, .int .i64 0, .int .i64 0, .int .i64 0, .int .i64 0, .bool false, .slice none 0 0, .int .i64 0, .slice none 0 0] 34)).drew := ⟨_, rfl⟩
  have HW1 := hid hw1
  go_enter Tryd.func11, Tryd.ntmps11
  go_wp2_with fail
  go_region
  go_wp2_with fail
  rw [ext_take, ext_drop, ← HT.out, ← HS.out, ← hw1]
  clear hw1
  refine (K.out _).mono ?_
  rintro e w2 ⟨rfl, hb2⟩
  have hs1 : w1.heap.size = w.heap.size + 1 := by rw [HW1.out]; simp
  have hs2 : w.heap.size + 1 ≤ w2.heap.size := by have := hb2.size; omega
  have HH : Hid (w2.heap[w.heap.size]? = some (.cells #[.int .i64 0, .int .i64 0, .int .i64 0, .int .i64 0, .int .i64 0, .bool false, .slice none 0 0, .int .i64 0, .slice none 0 0] 34 (0, 0))) := by
    show w2.heap[w.heap.size]? = _
    rw [hb2.block _ (by omega), HW1.out]
    exact heap_new _ _
  have HB : Hid (Below w.heap.size w w2) := (show Below w.heap.size w w1 by rw [HW1.out]; exact (below_alloc _ _).drew).trans (hb2.mono (by omega))
  have HR : Hid (Rs a0 w2.heap.size ((w2.alloc (.cells #[.string ⟨t.toArray⟩] 66)).alloc (.cells #[.nilIface] 31)) t) := Rs.alloc ⟨heap_new _ _, cell_alloc (by rw [HB.out.cell (p := ⟨0, 0, none⟩) hlt]; exact HE.out) _, by omega, HL.out⟩ _
  have HH3 : Hid (((w2.alloc (.cells #[.string ⟨t.toArray⟩] 66)).alloc (.cells #[.nilIface] 31)).heap[w.heap.size]? = some (.cells #[.int .i64 0, .int .i64 0, .int .i64 0, .int .i64 0, .int .i64 0, .bool false, .slice none 0 0, .int .i64 0, .slice none 0 0] 34 (0, 0))) := heap_old (heap_old HH.out _) _
  have HN3 : Hid (((w2.alloc (.cells #[.string ⟨t.toArray⟩] 66)).alloc (.cells #[.nilIface] 31)).heap[(w2.alloc (.cells #[.string ⟨t.toArray⟩] 66)).heap.size]? = some (.cells #[.nilIface] 31 (0, 0))) := heap_new _ _
  clear hb2 hs1
  have KA := hid (attempt_bad25 ⟨w2.heap.size, 0, none⟩ ⟨w.heap.size, 0, none⟩ (w2.alloc (.cells #[.string ⟨t.toArray⟩] 66)) 131 (some a0) (fun u => u.heap[w.heap.size]? = some (.cells #[.int .i64 0, .int .i64 0, .int .i64 0, .int .i64 0, .int .i64 0, .bool false, .slice none 0 0, .int .i64 0, .slice none 0 0] 34 (0, 0)) ∧ Below w.heap.size w u) ((decode1_bad _ a0 w2.heap.size ⟨w.heap.size, 0, none⟩ t HR.out hq).mono fun e u hu => ⟨hu.1, by rw [hu.2.block _ (by simp) (by simp)]; exact HN3.out, by rw [hu.2.block _ (by simp; omega) (by omega)]; exact HH3.out, HB.out.trans (((below_alloc _ _).mono (by omega)).trans (((below_alloc _ _).mono (by simp; omega)).trans ((hu.2.below (by simp; omega)).mono (by omega))))⟩))
  clear HR HH3 HN3 hq
  go_wp2_with fail
  refine KA.out.mono ?_
  rintro e w3 ⟨rfl, u, ⟨hu1, hu2⟩, hn3, ha3⟩
  have hu3 := ha3.below (Nat.le_of_lt (lt_of_heap hn3))
  clear ha3 hn3
  have hsz : w.heap.size < (w2.alloc (.cells #[.string ⟨t.toArray⟩] 66)).heap.size := by simp; omega
  have hh : w3.heap[w.heap.size]? = some (.cells #[.int .i64 0, .int .i64 0, .int .i64 0, .int .i64 0, .int .i64 0, .bool false, .slice none 0 0, .int .i64 0, .slice none 0 0] 34 (0, 0)) := by rw [hu3.block _ hsz]; exact hu1
  have HB3 : Hid (Below w.heap.size w w3) := hu2.trans (hu3.mono (by omega))
  have c0 := (cell_of (j := 0) hh).trans rfl
  have c1 := (cell_of (j := 1) hh).trans rfl
  have c2 := (cell_of (j := 2) hh).trans rfl
  have c3 := (cell_of (j := 3) hh).trans rfl
  have c4 := (cell_of (j := 4) hh).trans rfl
  have c5 := (cell_of (j := 5) hh).trans rfl
  have c6 := (cell_of (j := 6) hh).trans rfl
  have c7 := (cell_of (j := 7) hh).trans rfl
  have c8 := (cell_of (j := 8) hh).trans rfl
  obtain ⟨wz, STORE, HZ⟩ := store_row hh [.int .i64 0, .int .i64 0, .int .i64 0, .int .i64 0, .int .i64 0, .bool false, .slice none 0 0, .int .i64 0, .slice none 0 0] rfl rfl 34 9 rfl Tryd.sizeOf34
  clear hu1 hu2 hu3 hh hsz KA
  go_wp2_with (refine STORE _ _ _ _ _ (.tmp 2) (.tmp 37) rfl rfl rfl rfl ?_)
  refine bodyPost_ret (ret_cell_tmp (k := 9) Tryd.results11 Tryd.isAgg34 Tryd.sizeOf34 _ _ w.heap.size [.int .i64 0, .int .i64 0, .int .i64 0, .int .i64 0, .int .i64 0, .bool false, .slice none 0 0, .int .i64 0, .slice none 0 0] _ rfl rfl rfl HZ.out.1) rfl ⟨rfl, by rw [HZ.out.2]; exact below_setCells (Nat.le_refl _) _ _ HB3.out⟩
/-- What Decode hands back of a message. -/
def DecRet (w : World) (m : MsgV) (e : Ending) (w' : World) : Prop := ∃ a1 c1 a2 c2, e = .returned (.tuple #[.agg #[.int .i64 m.frm, .int .i64 m.to_, .int .i64 m.shard, .int .i64 m.seq, .int .i64 m.time, .bool m.beat, .slice a1 m.c.when_.length c1, .int .i64 m.c.place, .slice a2 m.c.ops.length c2], .nilIface]) ∧ ComOwn w.heap.size w' (.slice a1 m.c.when_.length c1) (.slice a2 m.c.ops.length c2) m.c ∧ Below w.heap.size w w'
set_option maxHeartbeats 4000000 in
theorem decode_ok (w : World) (a0 : Addr) (l t : List UInt8) (m : MsgV) (he : w.cell? ⟨0, 0, none⟩ = some (.iface 131 (.pointer (some a0)))) (h6 : ¬ 6000 < l.length) (h4 : ¬ l.length < 4) (ht : t = l.take (l.length - 4)) (hs : sum4 t = l.drop (l.length - 4)) (hq : wholeP t = some m) :
    Calls Tryd.prog 11 #[.string ⟨l.toArray⟩] w (DecRet w m) := by
  have hlt := lt_of_cell he
  have HT := hid ht
  have HS := hid hs
  have HE := hid he
  have hl : t.length ≤ 6000 := by rw [ht, List.length_take]; omega
  have HL := hid hl
  have K := hid (fun W => sumOf_any W t (by omega))
  clear ht hs he hl
  obtain ⟨w1, hw1⟩ : ∃ w1, w1 = (w.alloc (.cells #[.int .i64 0, .int .i64 0, .int .i64 0, .int .i64 0, .int .i64 0, .bool false, .slice none 0 0, .int .i64 0, .slice none 0 0] 34)).drew := ⟨_, rfl⟩
  have HW1 := hid hw1
  go_enter Tryd.func11, Tryd.ntmps11
  go_wp2_with fail
  go_region
  go_wp2_with fail
  rw [ext_take, ext_drop, ← HT.out, ← HS.out, ← hw1]
  clear hw1
  refine (K.out _).mono ?_
  rintro e w2 ⟨rfl, hb2⟩
  have hs1 : w1.heap.size = w.heap.size + 1 := by rw [HW1.out]; simp
  have hs2 : w.heap.size + 1 ≤ w2.heap.size := by have := hb2.size; omega
  have HH : Hid (w2.heap[w.heap.size]? = some (.cells #[.int .i64 0, .int .i64 0, .int .i64 0, .int .i64 0, .int .i64 0, .bool false, .slice none 0 0, .int .i64 0, .slice none 0 0] 34 (0, 0))) := by
    show w2.heap[w.heap.size]? = _
    rw [hb2.block _ (by omega), HW1.out]
    exact heap_new _ _
  have HB : Hid (Below w.heap.size w w2) := (show Below w.heap.size w w1 by rw [HW1.out]; exact (below_alloc _ _).drew).trans (hb2.mono (by omega))
  have HR : Hid (Rs a0 w2.heap.size ((w2.alloc (.cells #[.string ⟨t.toArray⟩] 66)).alloc (.cells #[.nilIface] 31)) t) := Rs.alloc ⟨heap_new _ _, cell_alloc (by rw [HB.out.cell (p := ⟨0, 0, none⟩) hlt]; exact HE.out) _, by omega, HL.out⟩ _
  have HH3 : Hid (((w2.alloc (.cells #[.string ⟨t.toArray⟩] 66)).alloc (.cells #[.nilIface] 31)).heap[w.heap.size]? = some (.cells #[.int .i64 0, .int .i64 0, .int .i64 0, .int .i64 0, .int .i64 0, .bool false, .slice none 0 0, .int .i64 0, .slice none 0 0] 34 (0, 0))) := heap_old (heap_old HH.out _) _
  have HN3 : Hid (((w2.alloc (.cells #[.string ⟨t.toArray⟩] 66)).alloc (.cells #[.nilIface] 31)).heap[(w2.alloc (.cells #[.string ⟨t.toArray⟩] 66)).heap.size]? = some (.cells #[.nilIface] 31 (0, 0))) := heap_new _ _
  clear hb2 hs1
  have KA := hid (attempt_ok25 ⟨w2.heap.size, 0, none⟩ ⟨w.heap.size, 0, none⟩ (w2.alloc (.cells #[.string ⟨t.toArray⟩] 66)) (fun u => (∃ a1 c1 a2 c2, u.heap[w.heap.size]? = some (.cells #[.int .i64 m.frm, .int .i64 m.to_, .int .i64 m.shard, .int .i64 m.seq, .int .i64 m.time, .bool m.beat, .slice a1 m.c.when_.length c1, .int .i64 m.c.place, .slice a2 m.c.ops.length c2] 34 (0, 0)) ∧ ComOwn w.heap.size u (.slice a1 m.c.when_.length c1) (.slice a2 m.c.ops.length c2) m.c) ∧ Below w.heap.size w u ∧ (w2.alloc (.cells #[.string ⟨t.toArray⟩] 66)).heap.size ≤ u.heap.size) ((decode1_ok _ a0 w2.heap.size w.heap.size t m HR.out HH3.out (by omega) hq).mono fun e u hu => by
    obtain ⟨h1, a1, c1, a2, c2, h2, h3, h4, h5, h6, h7, h8⟩ := hu
    simp only [World.size_alloc] at h3 h4 h8
    refine ⟨h1, by rw [h4 _ (by simp) (by simp) (by simp; omega)]; exact HN3.out, ⟨a1, c1, a2, c2, h2, h3.base (by omega)⟩, ?_, by simp; omega⟩
    exact ⟨h5.trans HB.out.os, h6.trans HB.out.tape, h7.trans HB.out.output, by have := HB.out.size; omega, fun k hk => by
      rw [h4 k (by omega) (by omega) (by omega), Below.heap_alloc _ _ _ (by simp; omega), Below.heap_alloc _ _ _ (by omega)]
      exact HB.out.block k hk⟩))
  clear HR HH3 HN3 hq
  go_wp2_with fail
  refine KA.out.mono ?_
  rintro e w3 ⟨rfl, u, ⟨⟨a1, c1, a2, c2, hu1, hown⟩, hu2, hu4⟩, hn3, ha3⟩
  have hu3 := ha3.below (Nat.le_of_lt (lt_of_heap hn3))
  have hsz : w.heap.size < (w2.alloc (.cells #[.string ⟨t.toArray⟩] 66)).heap.size := by simp; omega
  have hh : w3.heap[w.heap.size]? = some (.cells #[.int .i64 m.frm, .int .i64 m.to_, .int .i64 m.shard, .int .i64 m.seq, .int .i64 m.time, .bool m.beat, .slice a1 m.c.when_.length c1, .int .i64 m.c.place, .slice a2 m.c.ops.length c2] 34 (0, 0)) := by rw [hu3.block _ hsz]; exact hu1
  have HO : Hid (ComOwn w.heap.size w3 (.slice a1 m.c.when_.length c1) (.slice a2 m.c.ops.length c2) m.c) := hown.kept (Keeps.but hn3 (by decide) ha3)
  clear ha3 hn3
  have HB3 : Hid (Below w.heap.size w w3) := hu2.trans (hu3.mono (by omega))
  have q0 := (cell_of (j := 0) hh).trans rfl
  have q1 := (cell_of (j := 1) hh).trans rfl
  have q2 := (cell_of (j := 2) hh).trans rfl
  have q3 := (cell_of (j := 3) hh).trans rfl
  have q4 := (cell_of (j := 4) hh).trans rfl
  have q5 := (cell_of (j := 5) hh).trans rfl
  have q6 := (cell_of (j := 6) hh).trans rfl
  have q7 := (cell_of (j := 7) hh).trans rfl
  have q8 := (cell_of (j := 8) hh).trans rfl
  obtain ⟨wz, STORE, HZ⟩ := store_row hh [.int .i64 m.frm, .int .i64 m.to_, .int .i64 m.shard, .int .i64 m.seq, .int .i64 m.time, .bool m.beat, .slice a1 m.c.when_.length c1, .int .i64 m.c.place, .slice a2 m.c.ops.length c2] rfl rfl 34 9 rfl Tryd.sizeOf34
  have HK : Hid (Keeps w3 wz) := by
    show Keeps _ _
    rw [HZ.out.2]
    exact Keeps.sets hh (by decide) _ _
  clear hu1 hu2 hu3 hu4 hh hsz KA hown
  go_wp2_with (refine STORE _ _ _ _ _ (.tmp 2) (.tmp 37) rfl rfl rfl rfl ?_)
  refine bodyPost_ret (ret_cell_tmp (k := 9) Tryd.results11 Tryd.isAgg34 Tryd.sizeOf34 _ _ w.heap.size [.int .i64 m.frm, .int .i64 m.to_, .int .i64 m.shard, .int .i64 m.seq, .int .i64 m.time, .bool m.beat, .slice a1 m.c.when_.length c1, .int .i64 m.c.place, .slice a2 m.c.ops.length c2] _ rfl rfl rfl HZ.out.1) rfl ⟨a1, c1, a2, c2, rfl, HO.out.kept HK.out, by rw [HZ.out.2]; exact below_setCells (Nat.le_refl _) _ _ HB3.out⟩
end Go.Proofs.YtkonjpcgfdcfbaaDoor
