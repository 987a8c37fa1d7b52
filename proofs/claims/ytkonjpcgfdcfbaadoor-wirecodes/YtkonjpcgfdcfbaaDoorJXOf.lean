/- WireOf by its contract. -/
import Derived.Test.YtkonjpcgfdcfbaaDoorJXOw
import Derived.Test.YtkonjpcgfdcfbaaDoorJXBk
import Derived.Deep.RegionHeld
namespace Go.Proofs.YtkonjpcgfdcfbaaDoor
open Go.RowKit
set_option maxRecDepth 100000

theorem other9 {w : World} {g k : Nat} (hk : k ≠ g) (v0 v1 v2 v3 v4 v5 v6 v7 v8 : Value) : (((((((((w.setCell ⟨g, 0, none⟩ v0).setCell ⟨g, 1, none⟩ v1).setCell ⟨g, 2, none⟩ v2).setCell ⟨g, 3, none⟩ v3).setCell ⟨g, 4, none⟩ v4).setCell ⟨g, 5, none⟩ v5).setCell ⟨g, 6, none⟩ v6).setCell ⟨g, 7, none⟩ v7).setCell ⟨g, 8, none⟩ v8).heap[k]? = w.heap[k]? := by
  rw [Below.heap_setCell _ _ _ _ hk, Below.heap_setCell _ _ _ _ hk, Below.heap_setCell _ _ _ _ hk, Below.heap_setCell _ _ _ _ hk, Below.heap_setCell _ _ _ _ hk, Below.heap_setCell _ _ _ _ hk, Below.heap_setCell _ _ _ _ hk, Below.heap_setCell _ _ _ _ hk, Below.heap_setCell _ _ _ _ hk]
def OfRet (m : MsgV) (w : World) (e : Ending) (w' : World) : Prop := ∃ a1 c1 a2 c2, e = .returned (.agg #[.int .i64 m.frm, .int .i64 m.to_, .int .i64 m.shard, .int .i64 m.seq, .int .i64 m.time, .bool m.beat, .slice a1 m.c.when_.length c1, .int .i64 m.c.place, .slice a2 m.c.ops.length c2]) ∧ ComOwn w.heap.size w' (.slice a1 m.c.when_.length c1) (.slice a2 m.c.ops.length c2) m.c ∧ Below w.heap.size w w'
set_option maxHeartbeats 1500000 in
theorem wireOf_any (w : World) (m : MsgV) (wv ov : Value) (hw : IntsAt w wv m.c.when_) (ho : OpsAt w ov m.c.ops) (hL : Light m.c) :
    Calls Tryd.prog 8 #[.agg #[.int .i64 m.frm, .int .i64 m.to_, .int .i64 m.shard, .int .i64 m.seq, .int .i64 m.time, .bool m.beat, wv, .int .i64 m.c.place, ov]] w (OfRet m w) := by
  obtain ⟨x1, x2, x3, x4, x5, x6, c⟩ := m
  simp only at hw ho hL ⊢
  have HWI := hid hw
  have HOI := hid ho
  have HLI := hid hL
  obtain ⟨a1, c1, rfl⟩ := hw.len
  obtain ⟨a2, c2, rfl⟩ := ho.len
  obtain ⟨n1, hn1⟩ : ∃ n, n = c.when_.length := ⟨_, rfl⟩
  obtain ⟨n2, hn2⟩ : ∃ n, n = c.ops.length := ⟨_, rfl⟩
  obtain ⟨pl, hpl⟩ : ∃ pl, pl = c.place := ⟨_, rfl⟩
  rw [← hn1] at HWI ⊢
  rw [← hn2] at HOI ⊢
  rw [← hpl]
  obtain ⟨wB, hwB⟩ : ∃ wB, wB = (w.alloc (.cells #[.int .i64 x1, .int .i64 x2, .int .i64 x3, .int .i64 x4, .int .i64 x5, .bool x6, .slice a1 n1 c1, .int .i64 pl, .slice a2 n2 c2] 27)).alloc (.cells #[.int .i64 0, .int .i64 0, .int .i64 0, .int .i64 0, .int .i64 0, .bool false, .slice none 0 0, .int .i64 0, .slice none 0 0] 34) := ⟨_, rfl⟩
  have HB : Hid (Below w.heap.size w wB) := by show Below _ _ _; rw [hwB]; exact below2 w _ _
  have hsB : wB.heap.size = w.heap.size + 2 := by rw [hwB]; simp
  have G1 : Hid (wB.heap[w.heap.size]? = some (.cells #[.int .i64 x1, .int .i64 x2, .int .i64 x3, .int .i64 x4, .int .i64 x5, .bool x6, .slice a1 n1 c1, .int .i64 pl, .slice a2 n2 c2] 27 (0, 0))) := by show wB.heap[w.heap.size]? = _; rw [hwB]; exact heap_old (heap_new _ _) _
  have G2 : Hid (wB.heap[w.heap.size + 1]? = some (.cells #[.int .i64 0, .int .i64 0, .int .i64 0, .int .i64 0, .int .i64 0, .bool false, .slice none 0 0, .int .i64 0, .slice none 0 0] 34 (0, 0))) := by show wB.heap[w.heap.size + 1]? = _; rw [hwB]; exact heap_new2 _ _ _
  have K21 : Hid (∀ u, Below (w.heap.size + 2) wB u → Calls Tryd.prog 21 #[.agg #[.slice a1 n1 c1, .int .i64 pl, .slice a2 n2 c2]] u fun e w' => ∃ b1 d1 b2 d2, e = .returned (.agg #[.slice b1 n1 d1, .int .i64 pl, .slice b2 n2 d2]) ∧ Hid (ComOwn (w.heap.size + 2) w' (.slice b1 n1 d1) (.slice b2 n2 d2) c) ∧ Below (w.heap.size + 1) wB w' ∧ Below (w.heap.size + 2) wB w') := fun u hu => by
    have hwu : Below w.heap.size w u := HB.out.trans (hu.mono (by omega))
    have hsu : w.heap.size + 2 ≤ u.heap.size := by have := hu.size; omega
    rw [hpl]
    refine (own_any u c _ _ (HWI.out.mono hwu (Nat.le_refl _)) (HOI.out.mono hwu (Nat.le_refl _)) HLI.out).mono ?_
    rintro e w' ⟨b1, d1, b2, d2, rfl, hown, hb⟩
    rw [← hn1, ← hn2] at hown ⊢
    have hb2 : Below (w.heap.size + 2) wB w' := hu.trans (hb.mono hsu)
    exact ⟨b1, d1, b2, d2, rfl, hown.base hsu, hb2.mono (by omega), hb2⟩
  have HELD : Hid (∀ u, Below (w.heap.size + 1) wB u → (u.cell? ⟨w.heap.size, 0, none⟩ = some (.int .i64 x1) ∧ u.cell? ⟨w.heap.size, 1, none⟩ = some (.int .i64 x2) ∧ u.cell? ⟨w.heap.size, 2, none⟩ = some (.int .i64 x3) ∧ u.cell? ⟨w.heap.size, 3, none⟩ = some (.int .i64 x4) ∧ u.cell? ⟨w.heap.size, 4, none⟩ = some (.int .i64 x5) ∧ u.cell? ⟨w.heap.size, 5, none⟩ = some (.bool x6) ∧ u.cell? ⟨w.heap.size, 6, none⟩ = some (.slice a1 n1 c1) ∧ u.cell? ⟨w.heap.size, 7, none⟩ = some (.int .i64 pl) ∧ u.cell? ⟨w.heap.size, 8, none⟩ = some (.slice a2 n2 c2))) := fun u hu => by
    have e1 : u.heap[w.heap.size]? = _ := (hu.block _ (by omega)).trans G1.out
    exact ⟨(cell_of e1).trans rfl, (cell_of e1).trans rfl, (cell_of e1).trans rfl, (cell_of e1).trans rfl, (cell_of e1).trans rfl, (cell_of e1).trans rfl, (cell_of e1).trans rfl, (cell_of e1).trans rfl, (cell_of e1).trans rfl⟩
  have RR : Hid (∀ u, Below (w.heap.size + 2) wB u → (u.cell? ⟨w.heap.size + 1, 0, none⟩ = some (.int .i64 0) ∧ u.cell? ⟨w.heap.size + 1, 1, none⟩ = some (.int .i64 0) ∧ u.cell? ⟨w.heap.size + 1, 2, none⟩ = some (.int .i64 0) ∧ u.cell? ⟨w.heap.size + 1, 3, none⟩ = some (.int .i64 0) ∧ u.cell? ⟨w.heap.size + 1, 4, none⟩ = some (.int .i64 0) ∧ u.cell? ⟨w.heap.size + 1, 5, none⟩ = some (.bool false) ∧ u.cell? ⟨w.heap.size + 1, 6, none⟩ = some (.slice none 0 0) ∧ u.cell? ⟨w.heap.size + 1, 7, none⟩ = some (.int .i64 0) ∧ u.cell? ⟨w.heap.size + 1, 8, none⟩ = some (.slice none 0 0) ∧ ∀ j, u.frozen? ⟨w.heap.size + 1, j, none⟩ = false)) := fun u hu => by
    have e2 : u.heap[w.heap.size + 1]? = _ := (hu.block _ (by omega)).trans G2.out
    exact ⟨(cell_of e2).trans rfl, (cell_of e2).trans rfl, (cell_of e2).trans rfl, (cell_of e2).trans rfl, (cell_of e2).trans rfl, (cell_of e2).trans rfl, (cell_of e2).trans rfl, (cell_of e2).trans rfl, (cell_of e2).trans rfl, fun j => free_of e2⟩
  have HN1 := hid hn1
  have HN2 := hid hn2
  have HPL := hid hpl
  have hb0 : Below (w.heap.size + 1) wB wB.drew := (Below.refl _ _).drew
  have hb00 : Below (w.heap.size + 2) wB wB.drew := (Below.refl _ _).drew
  clear hn1 hn2 hpl hw ho hL
  go_enter Tryd.func8, Tryd.ntmps8
  go_wp2_with fail
  rw [← hwB]
  clear hwB
  go_region_held (fun u => u.cell? ⟨w.heap.size, 0, none⟩ = some (.int .i64 x1) ∧ u.cell? ⟨w.heap.size, 1, none⟩ = some (.int .i64 x2) ∧ u.cell? ⟨w.heap.size, 2, none⟩ = some (.int .i64 x3) ∧ u.cell? ⟨w.heap.size, 3, none⟩ = some (.int .i64 x4) ∧ u.cell? ⟨w.heap.size, 4, none⟩ = some (.int .i64 x5) ∧ u.cell? ⟨w.heap.size, 5, none⟩ = some (.bool x6) ∧ u.cell? ⟨w.heap.size, 6, none⟩ = some (.slice a1 n1 c1) ∧ u.cell? ⟨w.heap.size, 7, none⟩ = some (.int .i64 pl) ∧ u.cell? ⟨w.heap.size, 8, none⟩ = some (.slice a2 n2 c2))
    ((refine HELD.out _ ?_; first | (with_reducible assumption) | (with_reducible refine below9 ?_ (Nat.le_refl _) _ _ _ _ _ _ _ _ _; with_reducible assumption)))
    ((go_at_call 21; refine (K21.out _ (by assumption)).mono ?_; rintro e u1 ⟨b1, d1, b2, d2, rfl, HOW, hb1, hb2⟩; obtain ⟨q0, q1, q2, q3, q4, q5, q6, q7, q8, z0⟩ := RR.out _ hb2))
  obtain ⟨wz, hwz⟩ : ∃ wz, wz = (((((((((u1.setCell ⟨w.heap.size + 1, 0, none⟩ (.int .i64 x1)).setCell ⟨w.heap.size + 1, 1, none⟩ (.int .i64 x2)).setCell ⟨w.heap.size + 1, 2, none⟩ (.int .i64 x3)).setCell ⟨w.heap.size + 1, 3, none⟩ (.int .i64 x4)).setCell ⟨w.heap.size + 1, 4, none⟩ (.int .i64 x5)).setCell ⟨w.heap.size + 1, 5, none⟩ (.bool x6)).setCell ⟨w.heap.size + 1, 6, none⟩ (.slice b1 n1 d1)).setCell ⟨w.heap.size + 1, 7, none⟩ (.int .i64 pl)).setCell ⟨w.heap.size + 1, 8, none⟩ (.slice b2 n2 d2)) := ⟨_, rfl⟩
  rw [← hwz]
  have HZ : Hid (wz.heap[w.heap.size + 1]? = some (.cells #[.int .i64 x1, .int .i64 x2, .int .i64 x3, .int .i64 x4, .int .i64 x5, .bool x6, .slice b1 n1 d1, .int .i64 pl, .slice b2 n2 d2] 34 (0, 0))) := by
    show wz.heap[w.heap.size + 1]? = _
    rw [hwz]
    exact fill9n ((hb2.block _ (by omega)).trans G2.out) _ _ _ _ _ _ _ _ _
  have HBZ : Hid (Below w.heap.size w wz) := by
    show Below _ _ _
    rw [hwz]
    exact below9 (HB.out.trans (hb2.mono (by omega))) (by omega) _ _ _ _ _ _ _ _ _
  have HOZ : Hid (ComOwn w.heap.size wz (.slice b1 n1 d1) (.slice b2 n2 d2) c) := by
    refine ComOwn.base (base := w.heap.size + 2) ?_ (by omega)
    rw [hwz]
    exact HOW.out.at fun g h1 _ => other9 (by omega) _ _ _ _ _ _ _ _ _
  clear hwz hb1 hb2 q0 q1 q2 q3 q4 q5 q6 q7 q8 z0
  go_wp2_with fail
  refine bodyPost_ret (ret_cell (k := 9) Tryd.results8 Tryd.isAgg34 Tryd.sizeOf34 _ _ (w.heap.size + 1) [.int .i64 x1, .int .i64 x2, .int .i64 x3, .int .i64 x4, .int .i64 x5, .bool x6, .slice b1 n1 d1, .int .i64 pl, .slice b2 n2 d2] rfl rfl (cells_heap (t := 34) _ HZ.out)) rfl ⟨b1, d1, b2, d2, by rw [← HN1.out, ← HN2.out, ← HPL.out], ?_, HBZ.out⟩
  show ComOwn _ _ (.slice b1 c.when_.length d1) (.slice b2 c.ops.length d2) c
  rw [← HN1.out, ← HN2.out]
  exact HOZ.out
end Go.Proofs.YtkonjpcgfdcfbaaDoor
