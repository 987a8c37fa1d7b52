/- The reference's sender: next; The reference's sender: Beat, Acked; The reference's sender: Commit; The reference's sender: Commit, what goes. -/
import Derived.Test.YtcojglkjbbgoaaaDoorJTC2
import Derived.Test.YtcojglkjbbgoaaaDoorJHY
import Derived.Deep.RegionLaw
namespace Go.Proofs.YtcojglkjbbgoaaaDoor
open Go.RowKit
set_option maxRecDepth 100000

/-- The reference's sender: its box g, its row v of messages. -/
structure RefS (w : World) (g : Nat) (f t s seq time : Int) (v : Value) (L : List Raw) : Prop where
  box : w.heap[g]? = some (.cells #[.int .i64 f, .int .i64 t, .int .i64 s, .int .i64 seq, .int .i64 time, v] 52 (0, 0))
  row : w.ownsRow (g + 1) 58 9 v L.length (raws L)
theorem RefS.moved {w w' : World} {g : Nat} {f t s seq time : Int} {v : Value} {L : List Raw} (h : RefS w g f t s seq time v L) (hb : Below w.heap.size w w') : RefS w' g f t s seq time v L :=
  ⟨by rw [hb.block _ (lt_of_heap h.box)]; exact h.box, owns_at h.row fun k _ h2 => hb.block k h2⟩
/-- What the reference's next leaves. -/
def RnRet (w : World) (g : Nat) (f t s seq time : Int) (v : Value) (L : List Raw) (r : Raw) (w' : World) : Prop := ∃ v' : Value, RefS w' g f t s seq time v' (L ++ [r]) ∧ OnlyS g v w w' ∧ (v'.ownBlock = v.ownBlock ∨ ∃ b, v'.ownBlock = some b ∧ w.heap.size ≤ b)
/-- Inside: the sender, the message's box, the result's. -/
structure RsI (w : World) (g : Nat) (f t s seq time : Int) (v0 v : Value) (L : List Raw) (r : Raw) (wr : World) : Prop where
  ref : RefS wr g f t s seq time v L
  mbox : wr.heap[w.heap.size + 2]? = some (.cells r.cells.toArray 58 (0, 0))
  rbox : wr.heap[w.heap.size + 1]? = some (.cells #[.int .i64 0, .int .i64 0, .int .i64 0, .int .i64 0, .int .i64 0, .bool false, .slice none 0 0, .int .i64 0, .slice none 0 0] 58 (0, 0))
  only : OnlyS g v0 w wr
theorem RsI.start {w wb : World} {g : Nat} {f t s seq time nt p : Int} {bt : Bool} {a1 a2 : Option Addr} {n1 c1 n2 c2 : Nat} {v : Value} {L : List Raw} (h : RefS w g f t s seq time v L) (hwb : wb = (w.alloc (.cells #[.slice a1 n1 c1, .int .i64 p, .slice a2 n2 c2] 35)).alloc (.cells #[.int .i64 0, .int .i64 0, .int .i64 0, .int .i64 0, .int .i64 0, .bool false, .slice none 0 0, .int .i64 0, .slice none 0 0] 58)) :
    RsI w g f t s (seq + 1) nt v v L ⟨f, t, s, seq + 1, nt, bt, a1, n1, c1, p, a2, n2, c2⟩ (((wb.setCell ⟨g, 3, none⟩ (.int .i64 (seq + 1))).setCell ⟨g, 4, none⟩ (.int .i64 nt)).alloc (.cells #[.int .i64 f, .int .i64 t, .int .i64 s, .int .i64 (seq + 1), .int .i64 nt, .bool bt, .slice a1 n1 c1, .int .i64 p, .slice a2 n2 c2] 58)).drew := by
  have hb : Below w.heap.size w wb := by rw [hwb]; exact below2 _ _ _
  have hs : wb.heap.size = w.heap.size + 2 := by rw [hwb]; simp
  have hg := lt_of_heap h.box
  have hB := h.moved hb
  have hsz : ((wb.setCell ⟨g, 3, none⟩ (.int .i64 (seq + 1))).setCell ⟨g, 4, none⟩ (.int .i64 nt)).heap.size = wb.heap.size := by rw [size_set, size_set]
  have e0 : ((wb.setCell ⟨g, 3, none⟩ (.int .i64 (seq + 1))).setCell ⟨g, 4, none⟩ (.int .i64 nt)).heap[g]? = some (.cells #[.int .i64 f, .int .i64 t, .int .i64 s, .int .i64 (seq + 1), .int .i64 nt, v] 52 (0, 0)) := by
    rw [heap_set (heap_set hB.box _)]; rfl
  have keep : ∀ k, k < wb.heap.size → k ≠ g → (((wb.setCell ⟨g, 3, none⟩ (.int .i64 (seq + 1))).setCell ⟨g, 4, none⟩ (.int .i64 nt)).alloc (.cells #[.int .i64 f, .int .i64 t, .int .i64 s, .int .i64 (seq + 1), .int .i64 nt, .bool bt, .slice a1 n1 c1, .int .i64 p, .slice a2 n2 c2] 58)).drew.heap[k]? = wb.heap[k]? := fun k hk hkg => by
    rw [drew_heap, Below.heap_alloc _ _ _ (by rw [hsz]; omega), Below.heap_setCell _ _ _ _ hkg, Below.heap_setCell _ _ _ _ hkg]
  refine ⟨⟨?_, owns_at hB.row fun k h1 h2 => keep k h2 (by omega)⟩, ?_, ?_, ⟨hb.os, hb.tape, hb.output, ?_, fun k hk hkg _ => (keep k (by omega) hkg).trans (hb.block k hk)⟩⟩
  · rw [drew_heap]
    exact heap_old e0 _
  · rw [drew_heap]
    have := heap_new ((wb.setCell ⟨g, 3, none⟩ (.int .i64 (seq + 1))).setCell ⟨g, 4, none⟩ (.int .i64 nt)) (.cells #[.int .i64 f, .int .i64 t, .int .i64 s, .int .i64 (seq + 1), .int .i64 nt, .bool bt, .slice a1 n1 c1, .int .i64 p, .slice a2 n2 c2] 58)
    rwa [hsz, hs] at this
  · rw [keep _ (by omega) (by omega), hwb]
    exact heap_new2 _ _ _
  · rw [drew_heap, World.size_alloc, hsz]; omega
theorem RsI.more {w w1 w2 : World} {g : Nat} {f t s seq time : Int} {v v' : Value} {L : List Raw} {r : Raw} {n : Nat} (h : RsI w g f t s seq time v v L r w1) (hn : L.length = n) (hg : g < w.heap.size) {o' : Obj} (hr : w2.ownsRow (g + 1) 58 9 v' (n + 1) (raws L ++ r.cells)) (hgr : (w1.alloc o').grownBy w2 v.ownBlock) (hv : ∀ b, v.ownBlock = some b → b < w.heap.size) (hat : v'.ownBlock = v.ownBlock ∨ v'.ownBlock = some (w1.alloc o').heap.size) :
    (w2.cell? ⟨g, 5, none⟩ = some v ∧ w2.frozen? ⟨g, 5, none⟩ = false) ∧ RsI w g f t s seq time v v' (L ++ [r]) r (w2.setCell ⟨g, 5, none⟩ v') ∧ (v'.ownBlock = v.ownBlock ∨ ∃ b, v'.ownBlock = some b ∧ w.heap.size + 2 < b) := by
  subst hn
  have hl := lt_of_heap h.mbox
  have keep := grown_keep hgr
  have hgv : v.ownBlock ≠ some g := fun e => by have := (h.ref.row.lt g e).1; omega
  have e0 := (keep g (by omega) hgv).trans h.ref.box
  refine ⟨⟨(cell_of e0).trans rfl, free_of e0⟩, ⟨⟨by rw [heap_set e0]; rfl, ?_⟩, ?_, ?_, ?_⟩, ?_⟩
  · rw [raws_snoc, List.length_append]
    exact owns_at hr fun k h1 _ => Below.heap_setCell _ _ _ _ (by show k ≠ g; omega)
  · rw [Below.heap_setCell _ _ _ _ (by show w.heap.size + 2 ≠ g; omega), keep _ (by omega) (fun e => by have := hv _ e; omega)]; exact h.mbox
  · rw [Below.heap_setCell _ _ _ _ (by show w.heap.size + 1 ≠ g; omega), keep _ (by omega) (fun e => by have := hv _ e; omega)]; exact h.rbox
  · exact ⟨hgr.os.trans h.only.os, hgr.tape.trans h.only.tape, hgr.output.trans h.only.output, by have := hgr.size; have := h.only.size; rw [size_set]; simp at *; omega, fun k hk hkg hkv => by
      rw [Below.heap_setCell _ _ _ _ hkg, keep k (by omega) hkv]; exact h.only.block k hk hkg hkv⟩
  · rcases hat with h | h
    · exact .inl h
    · exact .inr ⟨_, h, by simp; omega⟩
set_option maxHeartbeats 4000000 in
theorem rnext_raw (w : World) (g : Nat) (f t s seq time nt p : Int) (bt : Bool) (a1 a2 : Option Addr) (n1 c1 n2 c2 : Nat) (v : Value) (L : List Raw) (h : RefS w g f t s seq time v L) (hl : L.length ≤ 1000) (h0 : 0 ≤ seq) (h1 : seq ≤ 1000) :
    Calls Tryd.prog 46 #[.pointer (some ⟨g, 0, none⟩), .int .i64 nt, .agg #[.slice a1 n1 c1, .int .i64 p, .slice a2 n2 c2], .bool bt] w fun e w' => e = .returned (.agg #[.int .i64 f, .int .i64 t, .int .i64 s, .int .i64 (seq + 1), .int .i64 nt, .bool bt, .slice a1 n1 c1, .int .i64 p, .slice a2 n2 c2]) ∧ RnRet w g f t s (seq + 1) nt v L ⟨f, t, s, seq + 1, nt, bt, a1, n1, c1, p, a2, n2, c2⟩ w' := by
  obtain ⟨i58, hi, hz0, hz1, hz2⟩ := info_parts Tryd.info58
  have hg := lt_of_heap h.box
  have H := hid h
  have HV : Hid (∀ b, v.ownBlock = some b → b < w.heap.size) := fun b hb => (h.row.lt b hb).2
  obtain ⟨av, cv, rfl⟩ := row_shape h.row
  obtain ⟨n, hn⟩ : ∃ n, n = L.length := ⟨_, rfl⟩
  rw [← hn] at hl H HV ⊢
  have HN := hid hn
  obtain ⟨wb, hwb⟩ : ∃ wb, wb = (w.alloc (.cells #[.slice a1 n1 c1, .int .i64 p, .slice a2 n2 c2] 35)).alloc (.cells #[.int .i64 0, .int .i64 0, .int .i64 0, .int .i64 0, .int .i64 0, .bool false, .slice none 0 0, .int .i64 0, .slice none 0 0] 58) := ⟨_, rfl⟩
  have hb : Below w.heap.size w wb := by rw [hwb]; exact below2 _ _ _
  have hst := RsI.start (nt := nt) (bt := bt) H.out hwb
  have HB := H.out.moved hb
  have c0 := (cell_of (j := 0) HB.box).trans rfl
  have c1' := (cell_of (j := 1) HB.box).trans rfl
  have c2' := (cell_of (j := 2) HB.box).trans rfl
  have c3 := (cell_of (j := 3) HB.box).trans rfl
  have c4 := (cell_of (j := 4) HB.box).trans rfl
  have c5 := (cell_of (j := 5) HB.box).trans rfl
  have fz := fun j => free_of (j := j) HB.box
  have X0 : wb.heap[w.heap.size]? = some (.cells #[.slice a1 n1 c1, .int .i64 p, .slice a2 n2 c2] 35 (0, 0)) := by rw [hwb]; exact heap_old (heap_new _ _) _
  have hsb : wb.heap.size = w.heap.size + 2 := by rw [hwb]; simp
  obtain ⟨wc, hwc⟩ : ∃ wc, wc = (wb.setCell ⟨g, 3, none⟩ (.int .i64 (seq + 1))).setCell ⟨g, 4, none⟩ (.int .i64 nt) := ⟨_, rfl⟩
  have hsc : wc.heap.size = w.heap.size + 2 := by rw [hwc, size_set, size_set, hsb]
  have XC : wc.heap[w.heap.size]? = some (.cells #[.slice a1 n1 c1, .int .i64 p, .slice a2 n2 c2] 35 (0, 0)) := by
    rw [hwc, Below.heap_setCell _ _ _ _ (by show w.heap.size ≠ g; omega), Below.heap_setCell _ _ _ _ (by show w.heap.size ≠ g; omega)]; exact X0
  have GC : wc.heap[g]? = some (.cells #[.int .i64 f, .int .i64 t, .int .i64 s, .int .i64 (seq + 1), .int .i64 nt, .slice av n cv] 52 (0, 0)) := by
    rw [hwc, heap_set (heap_set HB.box _)]; rfl
  rw [← hwc] at hst
  have N3 := hid hst
  clear h HB X0 hst hn hb hsb
  go_enter Tryd.func46, Tryd.ntmps46
  go_upto_region 1 with (fail)
  rw [← hwb]
  clear hwb
  go_upto_region 3 with (fail)
  rw [← hwc]
  clear hwc c0 c1' c2' c3 c4 c5 fz
  have g0 : wc.cell? ⟨g, 0, none⟩ = some (.int .i64 f) := (cell_of GC).trans rfl
  have g1 : wc.cell? ⟨g, 1, none⟩ = some (.int .i64 t) := (cell_of GC).trans rfl
  have g2 : wc.cell? ⟨g, 2, none⟩ = some (.int .i64 s) := (cell_of GC).trans rfl
  have g3 : wc.cell? ⟨g, 3, none⟩ = some (.int .i64 (seq + 1)) := (cell_of GC).trans rfl
  have d0 : wc.cell? ⟨w.heap.size, 0, none⟩ = some (.slice a1 n1 c1) := (cell_of XC).trans rfl
  have d1 : wc.cell? ⟨w.heap.size, 1, none⟩ = some (.int .i64 p) := (cell_of XC).trans rfl
  have d2 : wc.cell? ⟨w.heap.size, 2, none⟩ = some (.slice a2 n2 c2) := (cell_of XC).trans rfl
  have ga0 := fun o => cell_alloc g0 o
  have ga1 := fun o => cell_alloc g1 o
  have ga2 := fun o => cell_alloc g2 o
  have ga3 := fun o => cell_alloc g3 o
  have da0 := fun o => cell_alloc d0 o
  have da1 := fun o => cell_alloc d1 o
  have da2 := fun o => cell_alloc d2 o
  clear GC XC
  go_region

  obtain ⟨w3, hw3⟩ : ∃ w3, w3 = (wc.alloc (.cells #[.int .i64 f, .int .i64 t, .int .i64 s, .int .i64 (seq + 1), .int .i64 nt, .bool bt, .slice a1 n1 c1, .int .i64 p, .slice a2 n2 c2] 58)).drew := ⟨_, rfl⟩
  rw [← hw3] at N3 ⊢
  clear hw3 g0 g1 g2 g3 d0 d1 d2 ga0 ga1 ga2 ga3 da0 da1 da2 hsc
  have p5 : w3.cell? ⟨g, 5, none⟩ = some (.slice av n cv) := (cell_of N3.out.ref.box).trans rfl
  have m0 : w3.cell? ⟨w.heap.size + 2, 0, none⟩ = some (.int .i64 f) := (cell_of N3.out.mbox).trans rfl
  have m1 : w3.cell? ⟨w.heap.size + 2, 1, none⟩ = some (.int .i64 t) := (cell_of N3.out.mbox).trans rfl
  have m2 : w3.cell? ⟨w.heap.size + 2, 2, none⟩ = some (.int .i64 s) := (cell_of N3.out.mbox).trans rfl
  have m3 : w3.cell? ⟨w.heap.size + 2, 3, none⟩ = some (.int .i64 (seq + 1)) := (cell_of N3.out.mbox).trans rfl
  have m4 : w3.cell? ⟨w.heap.size + 2, 4, none⟩ = some (.int .i64 nt) := (cell_of N3.out.mbox).trans rfl
  have m5 : w3.cell? ⟨w.heap.size + 2, 5, none⟩ = some (.bool bt) := (cell_of N3.out.mbox).trans rfl
  have m6 : w3.cell? ⟨w.heap.size + 2, 6, none⟩ = some (.slice a1 n1 c1) := (cell_of N3.out.mbox).trans rfl
  have m7 : w3.cell? ⟨w.heap.size + 2, 7, none⟩ = some (.int .i64 p) := (cell_of N3.out.mbox).trans rfl
  have m8 : w3.cell? ⟨w.heap.size + 2, 8, none⟩ = some (.slice a2 n2 c2) := (cell_of N3.out.mbox).trans rfl
  have p5a := fun o => cell_alloc p5 o
  have hk2 : n + 1 ≤ maxLen := by unfold maxLen; omega
  have hk3 : (n + 1) * 104 ≤ 140737488355328 := by omega
  have hsz3 := lt_of_heap N3.out.mbox
  have hbs : ∀ o, g + 1 ≤ (w3.alloc o).drew.heap.size := fun o => by show g + 1 ≤ (w3.alloc o).heap.size; simp; omega
  have ROW : Hid (w3.ownsRow (g + 1) 58 9 (.slice av n cv) n (raws L)) := (show World.ownsRow _ _ _ _ _ _ _ from by have := N3.out.ref.row; rw [← HN.out] at this; exact this)
  go_upto_region 4 with (fail)
  go_region_law (first
    | (refine step_append_at rfl _ _ 50 rfl (g + 1) 58 i58 _ 9 104 Tryd.underlying50 hi hz0 hz1 hz2 rfl (by decide) (.slice av n cv) n (raws L) rfl (row_ad ROW.out _) _ 1 1 [.int .i64 f, .int .i64 t, .int .i64 s, .int .i64 (seq + 1), .int .i64 nt, .bool bt, .slice a1 n1 c1, .int .i64 p, .slice a2 n2 c2] rfl rfl (new_ad _ _ _) (oneR ⟨f, t, s, seq + 1, nt, bt, a1, n1, c1, p, a2, n2, c2⟩) hk2 hk3 (hbs _) ?_; intro v' w9 hrow hgr hat; obtain ⟨a9, cc9, hv9⟩ := row_shape hrow; subst hv9; obtain ⟨⟨c9, z9⟩, h9, hor⟩ := N3.out.more HN.out.symm hg hrow (grown_undrew hgr) HV.out hat; have N9 := hid h9; have HOR := hid hor; clear hrow hgr h9 hor hat))
  all_goals
    go_upto_region 6 with (fail)
    obtain ⟨wX, hX⟩ : ∃ wX, wX = w9.setCell ⟨g, 5, none⟩ (.slice a9 (n + 1) cc9) := ⟨_, rfl⟩
    rw [← hX] at N9 ⊢
    clear hX m0 m1 m2 m3 m4 m5 m6 m7 m8 p5 p5a c9 z9
    have m0 : wX.cell? ⟨w.heap.size + 2, 0, none⟩ = some (.int .i64 f) := (cell_of N9.out.mbox).trans rfl
    have m1 : wX.cell? ⟨w.heap.size + 2, 1, none⟩ = some (.int .i64 t) := (cell_of N9.out.mbox).trans rfl
    have m2 : wX.cell? ⟨w.heap.size + 2, 2, none⟩ = some (.int .i64 s) := (cell_of N9.out.mbox).trans rfl
    have m3 : wX.cell? ⟨w.heap.size + 2, 3, none⟩ = some (.int .i64 (seq + 1)) := (cell_of N9.out.mbox).trans rfl
    have m4 : wX.cell? ⟨w.heap.size + 2, 4, none⟩ = some (.int .i64 nt) := (cell_of N9.out.mbox).trans rfl
    have m5 : wX.cell? ⟨w.heap.size + 2, 5, none⟩ = some (.bool bt) := (cell_of N9.out.mbox).trans rfl
    have m6 : wX.cell? ⟨w.heap.size + 2, 6, none⟩ = some (.slice a1 n1 c1) := (cell_of N9.out.mbox).trans rfl
    have m7 : wX.cell? ⟨w.heap.size + 2, 7, none⟩ = some (.int .i64 p) := (cell_of N9.out.mbox).trans rfl
    have m8 : wX.cell? ⟨w.heap.size + 2, 8, none⟩ = some (.slice a2 n2 c2) := (cell_of N9.out.mbox).trans rfl
    obtain ⟨wz, STORE, HZ⟩ := store_row N9.out.rbox [.int .i64 f, .int .i64 t, .int .i64 s, .int .i64 (seq + 1), .int .i64 nt, .bool bt, .slice a1 n1 c1, .int .i64 p, .slice a2 n2 c2] rfl rfl 58 9 rfl Tryd.sizeOf58
    go_wp2_with (refine STORE _ _ _ _ _ (.tmp 8) (.tmp 53) rfl rfl rfl rfl ?_)
    have hso : ∀ k, k ≠ w.heap.size + 1 → wz.heap[k]? = wX.heap[k]? := fun k hk => by rw [HZ.out.2]; exact setCells_other _ _ _ _ _ hk
    have hbz := below_setCells (B := 0) (b := w.heap.size + 1) (a := wX) (Nat.zero_le _) [.int .i64 f, .int .i64 t, .int .i64 s, .int .i64 (seq + 1), .int .i64 nt, .bool bt, .slice a1 n1 c1, .int .i64 p, .slice a2 n2 c2] 0 (Below.refl _ _)
    refine bodyPost_ret (ret_cell (k := 9) Tryd.results46 Tryd.isAgg58 Tryd.sizeOf58 _ _ (w.heap.size + 1) [.int .i64 f, .int .i64 t, .int .i64 s, .int .i64 (seq + 1), .int .i64 nt, .bool bt, .slice a1 n1 c1, .int .i64 p, .slice a2 n2 c2] rfl rfl HZ.out.1) rfl ⟨rfl, .slice a9 (n + 1) cc9, ⟨?_, ?_⟩, ⟨?_, ?_, ?_, ?_, ?_⟩, ?_⟩
    · rw [hso g (by omega)]; exact N9.out.ref.box
    · refine owns_own N9.out.ref.row fun b hb => hso b fun e => ?_
      rcases HOR.out with h | ⟨b', h, hb'⟩
      · have := HV.out b (by rw [← h]; exact hb); omega
      · have h3 := Option.some.inj (hb.symm.trans h)
        omega
    · rw [HZ.out.2]; exact hbz.os.trans N9.out.only.os
    · rw [HZ.out.2]; exact hbz.tape.trans N9.out.only.tape
    · rw [HZ.out.2]; exact hbz.output.trans N9.out.only.output
    · rw [HZ.out.2, setCells_size]; exact N9.out.only.size
    · exact fun k hk hkg hkv => by rw [hso k (by omega)]; exact N9.out.only.block k hk hkg hkv
    · rcases HOR.out with h | ⟨b', h, hb'⟩
      · exact .inl h
      · exact .inr ⟨b', h, by omega⟩
end Go.Proofs.YtcojglkjbbgoaaaDoor
namespace Go.Proofs.YtcojglkjbbgoaaaDoor
open Go.RowKit
set_option maxRecDepth 100000

set_option maxHeartbeats 4000000 in
theorem rbeat_ok (w : World) (g : Nat) (f t s seq time nt : Int) (v : Value) (L : List Raw) (h : RefS w g f t s seq time v L) (hl : L.length ≤ 1000) (h0 : 0 ≤ seq) (h1 : seq ≤ 1000) (ht0 : 0 ≤ nt) (ht1 : nt ≤ 1099511627776) (ht2 : time ≤ nt) :
    Calls Tryd.prog 24 #[.pointer (some ⟨g, 0, none⟩), .int .i64 nt] w fun e w' => e = .returned (.tuple #[.agg #[.int .i64 f, .int .i64 t, .int .i64 s, .int .i64 (seq + 1), .int .i64 nt, .bool true, .slice none 0 0, .int .i64 0, .slice none 0 0], .int .i64 0]) ∧ RnRet w g f t s (seq + 1) nt v L ⟨f, t, s, seq + 1, nt, true, none, 0, 0, 0, none, 0, 0⟩ w' := by
  obtain ⟨w0, hw0⟩ : ∃ w0, w0 = w.alloc (.cells #[.int .i64 0, .int .i64 0, .int .i64 0, .int .i64 0, .int .i64 0, .bool false, .slice none 0 0, .int .i64 0, .slice none 0 0] 58) := ⟨_, rfl⟩
  have hb0 : Below w.heap.size w w0 := by rw [hw0]; exact below_alloc _ _
  have G0 : Hid (w0.heap[w.heap.size]? = some (.cells #[.int .i64 0, .int .i64 0, .int .i64 0, .int .i64 0, .int .i64 0, .bool false, .slice none 0 0, .int .i64 0, .slice none 0 0] 58 (0, 0))) := by show w0.heap[w.heap.size]? = _; rw [hw0]; exact heap_new _ _
  have H0 := hid (h.moved hb0)
  have hg := lt_of_heap h.box
  have HV : Hid (∀ b, v.ownBlock = some b → b < w.heap.size) := fun b hb => (h.row.lt b hb).2
  have B0 := hid hb0
  have c4 : w0.cell? ⟨g, 4, none⟩ = some (.int .i64 time) := (cell_of H0.out.box).trans rfl
  have KN := hid (rnext_raw w0 g f t s seq time nt 0 true none none 0 0 0 0 v L H0.out hl h0 h1)
  have k1 : ¬ nt < 0 := by omega
  have k2 : ¬ 1099511627776 < nt := by omega
  have k3 : ¬ nt < time := by omega
  clear h hb0
  go_enter Tryd.func24, Tryd.ntmps24
  go_upto_region 1 with (fail)
  rw [← hw0]
  clear hw0
  go_wp2_with fail
  refine KN.out.mono ?_
  rintro e w2 ⟨rfl, v', hs2, ho2, hv2⟩
  have hG2 : w2.heap[w.heap.size]? = some (.cells #[.int .i64 0, .int .i64 0, .int .i64 0, .int .i64 0, .int .i64 0, .bool false, .slice none 0 0, .int .i64 0, .slice none 0 0] 58 (0, 0)) := ho2.box G0.out (by omega) fun e => by have := HV.out _ e; omega
  obtain ⟨wz, STORE, HZ⟩ := store_row hG2 [.int .i64 f, .int .i64 t, .int .i64 s, .int .i64 (seq + 1), .int .i64 nt, .bool true, .slice none 0 0, .int .i64 0, .slice none 0 0] rfl rfl 58 9 rfl Tryd.sizeOf58
  have S2 := hid hs2
  have O2 := hid ho2
  have V2 := hid hv2
  clear hs2 ho2 hv2 hG2
  go_wp2_with (refine STORE _ _ _ _ _ (.tmp 4) (.tmp 23) rfl rfl rfl rfl ?_)
  have hso : ∀ k, k ≠ w.heap.size → wz.heap[k]? = w2.heap[k]? := fun k hk => by rw [HZ.out.2]; exact setCells_other _ _ _ _ _ hk
  have hbz := below_setCells (B := 0) (b := w.heap.size) (a := w2) (Nat.zero_le _) [.int .i64 f, .int .i64 t, .int .i64 s, .int .i64 (seq + 1), .int .i64 nt, .bool true, .slice none 0 0, .int .i64 0, .slice none 0 0] 0 (Below.refl _ _)
  have hsw := B0.out.size
  have hs0 : w0.heap.size ≤ w2.heap.size := O2.out.size
  refine bodyPost_ret (ret_cell_tmp (k := 9) Tryd.results24 Tryd.isAgg58 Tryd.sizeOf58 _ _ (w.heap.size) [.int .i64 f, .int .i64 t, .int .i64 s, .int .i64 (seq + 1), .int .i64 nt, .bool true, .slice none 0 0, .int .i64 0, .slice none 0 0] _ rfl rfl rfl HZ.out.1) rfl ⟨rfl, v', ⟨?_, ?_⟩, ⟨?_, ?_, ?_, ?_, ?_⟩, ?_⟩
  · rw [hso g (by omega)]; exact S2.out.box
  · refine owns_own S2.out.row fun b hb => hso b fun e => ?_
    have hl0 := lt_of_heap G0.out
    rcases V2.out with h | ⟨b', h, hb'⟩
    · have := HV.out b (by rw [← h]; exact hb); omega
    · have h3 := Option.some.inj (hb.symm.trans h)
      omega
  · rw [HZ.out.2]; exact hbz.os.trans (O2.out.os.trans B0.out.os)
  · rw [HZ.out.2]; exact hbz.tape.trans (O2.out.tape.trans B0.out.tape)
  · rw [HZ.out.2]; exact hbz.output.trans (O2.out.output.trans B0.out.output)
  · rw [HZ.out.2, setCells_size]; omega
  · exact fun k hk hkg hkv => by rw [hso k (by omega), O2.out.block k (by omega) hkg hkv]; exact B0.out.block k hk
  · rcases V2.out with h | ⟨b', h, hb'⟩
    · exact .inl h
    · exact .inr ⟨b', h, by omega⟩
set_option maxHeartbeats 2000000 in
theorem rbeat_bad (w : World) (g : Nat) (f t s seq time nt en : Int) (v : Value) (L : List Raw) (h : RefS w g f t s seq time v L) (hn : (timeB nt = false ∧ en = 2) ∨ (timeB nt = true ∧ nt < time ∧ en = 9)) :
    Calls Tryd.prog 24 #[.pointer (some ⟨g, 0, none⟩), .int .i64 nt] w fun e w' => e = .returned (.tuple #[.agg #[.int .i64 0, .int .i64 0, .int .i64 0, .int .i64 0, .int .i64 0, .bool false, .slice none 0 0, .int .i64 0, .slice none 0 0], .int .i64 en]) ∧ Below w.heap.size w w' := by
  obtain ⟨w0, hw0⟩ : ∃ w0, w0 = w.alloc (.cells #[.int .i64 0, .int .i64 0, .int .i64 0, .int .i64 0, .int .i64 0, .bool false, .slice none 0 0, .int .i64 0, .slice none 0 0] 58) := ⟨_, rfl⟩
  have hb0 : Below w.heap.size w w0 := by rw [hw0]; exact below_alloc _ _
  have G0 : w0.heap[w.heap.size]? = some (.cells #[.int .i64 0, .int .i64 0, .int .i64 0, .int .i64 0, .int .i64 0, .bool false, .slice none 0 0, .int .i64 0, .slice none 0 0] 58 (0, 0)) := by rw [hw0]; exact heap_new _ _
  have B0 := hid hb0
  have c4 : w0.cell? ⟨g, 4, none⟩ = some (.int .i64 time) := (cell_of (h.moved hb0).box).trans rfl
  obtain ⟨wz, STORE, HZ⟩ := store_row G0 [.int .i64 0, .int .i64 0, .int .i64 0, .int .i64 0, .int .i64 0, .bool false, .slice none 0 0, .int .i64 0, .slice none 0 0] rfl rfl 58 9 rfl Tryd.sizeOf58
  clear h hb0 G0
  have tb : ∀ z : Int, timeB z = (decide (0 ≤ z) && decide (z ≤ 1099511627776)) := fun _ => rfl
  rcases hn with ⟨hn, rfl⟩ | ⟨hn, hlt, rfl⟩
  · rw [tb] at hn
    by_cases k1 : nt < 0
    · clear hn tb
      go_enter Tryd.func24, Tryd.ntmps24
      go_upto_region 1 with (fail)
      rw [← hw0]
      clear hw0
      go_wp2_with (refine STORE _ _ _ _ _ (.tmp 4) (.tmp 12) rfl rfl rfl rfl ?_)
      refine bodyPost_ret (ret_cell_tmp (k := 9) Tryd.results24 Tryd.isAgg58 Tryd.sizeOf58 _ _ w.heap.size [.int .i64 0, .int .i64 0, .int .i64 0, .int .i64 0, .int .i64 0, .bool false, .slice none 0 0, .int .i64 0, .slice none 0 0] _ rfl rfl rfl HZ.out.1) rfl ⟨rfl, by rw [HZ.out.2]; exact below_setCells (Nat.le_refl _) _ _ B0.out⟩
    · have k2 : 1099511627776 < nt := by
        rcases Int.lt_or_le 1099511627776 nt with q | q
        · exact q
        · rw [decide_eq_true (by omega), decide_eq_true q] at hn
          cases hn
      clear hn tb
      go_enter Tryd.func24, Tryd.ntmps24
      go_upto_region 1 with (fail)
      rw [← hw0]
      clear hw0
      go_wp2_with (refine STORE _ _ _ _ _ (.tmp 4) (.tmp 12) rfl rfl rfl rfl ?_)
      refine bodyPost_ret (ret_cell_tmp (k := 9) Tryd.results24 Tryd.isAgg58 Tryd.sizeOf58 _ _ w.heap.size [.int .i64 0, .int .i64 0, .int .i64 0, .int .i64 0, .int .i64 0, .bool false, .slice none 0 0, .int .i64 0, .slice none 0 0] _ rfl rfl rfl HZ.out.1) rfl ⟨rfl, by rw [HZ.out.2]; exact below_setCells (Nat.le_refl _) _ _ B0.out⟩
  · rw [tb] at hn
    have k1 : ¬ nt < 0 ∧ ¬ 1099511627776 < nt := by
      simp at hn
      omega
    obtain ⟨k1, k2⟩ := k1
    clear hn tb
    go_enter Tryd.func24, Tryd.ntmps24
    go_upto_region 1 with (fail)
    rw [← hw0]
    clear hw0
    go_wp2_with (refine STORE _ _ _ _ _ (.tmp 4) (.tmp 19) rfl rfl rfl rfl ?_)
    refine bodyPost_ret (ret_cell_tmp (k := 9) Tryd.results24 Tryd.isAgg58 Tryd.sizeOf58 _ _ w.heap.size [.int .i64 0, .int .i64 0, .int .i64 0, .int .i64 0, .int .i64 0, .bool false, .slice none 0 0, .int .i64 0, .slice none 0 0] _ rfl rfl rfl HZ.out.1) rfl ⟨rfl, by rw [HZ.out.2]; exact below_setCells (Nat.le_refl _) _ _ B0.out⟩
set_option maxHeartbeats 2000000 in
theorem racked_bad (w : World) (g : Nat) (f t s seq time k : Int) (v : Value) (L : List Raw) (h : RefS w g f t s seq time v L) (hk : k < 0 ∨ seq < k) : Calls Tryd.prog 25 #[.pointer (some ⟨g, 0, none⟩), .int .i64 k] w fun e w' => e = .returned (.int .i64 2) ∧ w' = w := by
  have c3 : w.cell? ⟨g, 3, none⟩ = some (.int .i64 seq) := (cell_of h.box).trans rfl
  clear h
  by_cases h0 : k < 0
  · clear hk
    go_enter Tryd.func25, Tryd.ntmps25
    go_wp2_with fail
    go_ret
    exact ⟨rfl, rfl⟩
  · have h1 : seq < k := by omega
    clear hk
    go_enter Tryd.func25, Tryd.ntmps25
    go_wp2_with fail
    go_ret
    exact ⟨rfl, rfl⟩
/-- What is left behind an ack. -/
def leftL (L : List Raw) (k : Int) : List Raw := L.filter fun q => decide (k < q.x4)
theorem leftL_take {L : List Raw} {j : Nat} {q : Raw} (h : L[j]? = some q) (k : Int) : leftL (L.take (j + 1)) k = leftL (L.take j) k ++ (if k < q.x4 then [q] else []) := by
  obtain ⟨h1, h2⟩ := List.getElem?_eq_some_iff.1 h
  unfold leftL
  rw [List.take_succ_eq_append_getElem h1, h2, List.filter_append]
  by_cases e : k < q.x4
  · simp [e]
  · simp [e]
set_option maxHeartbeats 4000000 in
theorem racked_ok (w : World) (g : Nat) (f t s seq time k : Int) (v : Value) (L : List Raw) (h : RefS w g f t s seq time v L) (hl : L.length ≤ 1000) (hk0 : 0 ≤ k) (hk1 : k ≤ seq) : Calls Tryd.prog 25 #[.pointer (some ⟨g, 0, none⟩), .int .i64 k] w fun e w' => e = .returned (.int .i64 0) ∧ ∃ v', RefS w' g f t s seq time v' (leftL L k) ∧ OnlyS g v w w' ∧ ∀ b, v'.ownBlock = some b → w.heap.size ≤ b := by
  obtain ⟨i58, hi, hz0, hz1, hz2⟩ := info_parts Tryd.info58
  have H := hid h
  have hg := lt_of_heap h.box
  obtain ⟨av, cv, rfl⟩ := row_shape h.row
  have c3 : w.cell? ⟨g, 3, none⟩ = some (.int .i64 seq) := (cell_of h.box).trans rfl
  have c5 : w.cell? ⟨g, 5, none⟩ = some (.slice av L.length cv) := (cell_of h.box).trans rfl
  obtain ⟨n, hn⟩ : ∃ n, n = L.length := ⟨_, rfl⟩
  rw [← hn] at c5 hl H ⊢
  have HN := hid hn
  have k1 : ¬ k < 0 := by omega
  have k2 : ¬ seq < k := by omega
  clear h hn
  go_enter Tryd.func25, Tryd.ntmps25
  go_wp2_with fail
  go_loopw [5, 6] (fun x i wr => ∃ (j : Nat) (xv : Value), j ≤ n ∧ i = .int .i64 j ∧ x = xv ∧ Hid (wr.ownsRow w.heap.size 58 9 xv (leftL (L.take j) k).length (raws (leftL (L.take j) k))) ∧ Hid (Below w.heap.size w wr)) (fun _ i _ => n - (intOf i).toNat)
  case atStart => exact ⟨0, _, Nat.zero_le _, rfl, rfl, World.ownsRow_nil _ _ _ _, Below.refl _ _⟩
  case round =>
    obtain ⟨j, xv, hj, rfl, hxx, HX, HR⟩ := hrel
    have hxx2 := hxx.symm
    clear hxx
    subst hxx2
    have r5 : wr.cell? ⟨g, 5, none⟩ = some (.slice av n cv) := by rw [HR.out.cell (p := ⟨g, 5, none⟩) hg]; exact c5
    by_cases hlt : j < n
    · obtain ⟨r, hr⟩ : ∃ r, L[j]? = some r := ⟨_, List.getElem?_eq_getElem (by rw [← HN.out]; exact hlt)⟩
      obtain ⟨b, rfl, _, hcell⟩ := row_raw H.out.row rfl hr
      have HT := hid (leftL_take hr k)
      obtain ⟨x1, x2, x3, x4, x5, x6, a1, n1, c1, p, a2, n2, c2⟩ := r
      have up : ∀ q u, (Raw.cells ⟨x1, x2, x3, x4, x5, x6, a1, n1, c1, p, a2, n2, c2⟩)[q]? = some u → wr.cell? ⟨b, j * 9 + q, none⟩ = some u := fun q u hu => by
        have e := hcell q u hu
        rw [HR.out.cell (p := ⟨b, j * 9 + q, none⟩) (lt_of_cell e)]; exact e
      have e0 : wr.cell? ⟨b, j * 9, none⟩ = some (.int .i64 x1) := up 0 _ rfl
      have e1 := up 1 (.int .i64 x2) rfl
      have e2 := up 2 (.int .i64 x3) rfl
      have e3 := up 3 (.int .i64 x4) rfl
      have e4 := up 4 (.int .i64 x5) rfl
      have e5 := up 5 (.bool x6) rfl
      have e6 := up 6 (.slice a1 n1 c1) rfl
      have e7 := up 7 (.int .i64 p) rfl
      have e8 := up 8 (.slice a2 n2 c2) rfl
      have hi1 : (j : Int) < (n : Int) := by omega
      have hlen : Hid ((leftL (L.take j) k).length ≤ 1000) := (show _ ≤ _ from Nat.le_trans (List.length_filter_le _ _) (by rw [List.length_take]; omega))
      simp only at HT
      clear up hcell hr
      by_cases hx : k < x4
      · rw [if_pos hx] at HT
        obtain ⟨xa, xc, hxv⟩ := row_shape HX.out
        subst hxv
        obtain ⟨m, hm⟩ : ∃ m, m = (leftL (L.take j) k).length := ⟨_, rfl⟩
        rw [← hm] at HX hlen ⊢
        have HM := hid hm
        have hm1 : m ≤ 1000 := hlen.out
        clear hm hlen
        go_wp2_with (at_builtin; refine wpList_append_own _ rfl _ _ 50 rfl w.heap.size 58 i58 _ 9 104 Tryd.underlying50 hi hz0 hz1 hz2 rfl (by decide) _ _ _ rfl (HX.out.alloc _) ⟨wr.heap.size, 0, none⟩ 1 1 [.int .i64 x1, .int .i64 x2, .int .i64 x3, .int .i64 x4, .int .i64 x5, .bool x6, .slice a1 n1 c1, .int .i64 p, .slice a2 n2 c2] rfl rfl (cells3_new _ _ _) (oneR ⟨x1, x2, x3, x4, x5, x6, a1, n1, c1, p, a2, n2, c2⟩) ?hm2 ?hm3 ?hm4 ?_; (case hm2 => unfold maxLen; omega); (case hm3 => omega); (case hm4 => have := HR.out.size; simp; omega); intro v9 w9 hown9 hgr9 _; have B9 : Hid (Below w.heap.size w w9) := (show Below _ _ _ from ⟨hgr9.os.trans HR.out.os, hgr9.tape.trans HR.out.tape, hgr9.output.trans HR.out.output, by have := hgr9.size; have := HR.out.size; simp at *; omega, fun q hq => by rw [hgr9.block q (by have := HR.out.size; simp; omega) (fun e => by have := (HX.out.lt q e.symm).1; omega), Below.heap_alloc _ _ _ (by have := HR.out.size; omega)]; exact HR.out.block q hq⟩); have X9 := hid hown9; clear hown9 hgr9)
        refine ⟨⟨j + 1, _, by omega, by go_num, rfl, ?_, B9.out⟩, by simp [intOf]; omega⟩
        show World.ownsRow _ _ _ _ _ _ _
        rw [HT.out, raws_snoc, List.length_append, ← HM.out]
        exact X9.out
      · rw [if_neg hx, List.append_nil] at HT
        go_wp2_with fail
        refine ⟨⟨j + 1, xv, by omega, by go_num, rfl, ?_, HR.out⟩, by simp [intOf]; omega⟩
        show World.ownsRow _ _ _ _ _ _ _
        rw [HT.out]
        exact HX.out
    · obtain rfl : j = n := by omega
      have HT : Hid (L.take j = L) := List.take_of_length_le (by rw [← HN.out]; omega)
      rw [HT.out] at HX
      have hB := (HR.out.block _ hg).trans H.out.box
      have z5 : wr.frozen? ⟨g, 5, none⟩ = false := free_of hB
      have HBX := hid hB
      clear hB
      obtain ⟨xa, xc, hxv⟩ := row_shape HX.out
      subst hxv
      obtain ⟨m, hm⟩ : ∃ m, m = (leftL L k).length := ⟨_, rfl⟩
      rw [← hm] at HX ⊢
      have HM := hid hm
      clear hm
      go_wp2_with fail
      go_ret
      refine ⟨rfl, .slice xa m xc, ⟨by rw [heap_set HBX.out]; rfl, ?_⟩, ⟨HR.out.os, HR.out.tape, HR.out.output, by rw [size_set]; exact HR.out.size, fun q hq hqg _ => by rw [Below.heap_setCell _ _ _ _ hqg]; exact HR.out.block q hq⟩, fun b hb => (HX.out.lt b hb).1⟩
      rw [← HM.out]
      refine owns_base (owns_at HX.out fun q hq _ => Below.heap_setCell _ _ _ _ (by show q ≠ g; omega)) (by omega)
end Go.Proofs.YtcojglkjbbgoaaaDoor
namespace Go.Proofs.YtcojglkjbbgoaaaDoor
open Go.RowKit
set_option maxRecDepth 100000

theorem ret_cell_cell {f : Func} {s t k s2 t2 k2 : Nat} (hf : f.results = #[ResultVar.cell s t, ResultVar.cell s2 t2]) (hag : ∀ w, (isAgg t).run Tryd.prog w = .ok true w) (hsz : ∀ w, (sizeOf t).run Tryd.prog w = .ok k w) (hag2 : ∀ w, (isAgg t2).run Tryd.prog w = .ok true w) (hsz2 : ∀ w, (sizeOf t2).run Tryd.prog w = .ok k2 w) (w : World) (tmps : Array Value) (g g2 : Nat) (vs us : List Value) (hk : vs.length = k) (hk2 : us.length = k2) (h4 : tmps[s]?.getD undef = .pointer (some ⟨g, 0, none⟩)) (h5 : tmps[s2]?.getD undef = .pointer (some ⟨g2, 0, none⟩)) (hc : ∀ j (hj : j < vs.length), w.cell? ⟨g, j, none⟩ = some vs[j]) (hc2 : ∀ j (hj : j < us.length), w.cell? ⟨g2, j, none⟩ = some us[j]) :
    (results f tmps).run Tryd.prog w = .ok (.tuple #[.agg vs.toArray, .agg us.toArray]) w := by
  have hl := run_loadCellsFrom_list Tryd.prog w ⟨g, 0, none⟩ vs k hk (fun j v hj => by
    obtain ⟨h1, h2⟩ := List.getElem?_eq_some_iff.1 hj
    rw [Addr.add_lit, Nat.zero_add, hc j h1, h2])
  have hl2 := run_loadCellsFrom_list Tryd.prog w ⟨g2, 0, none⟩ us k2 hk2 (fun j v hj => by
    obtain ⟨h1, h2⟩ := List.getElem?_eq_some_iff.1 hj
    rw [Addr.add_lit, Nat.zero_add, hc2 j h1, h2])
  simp [results, hf, h4, h5, asAddr, loadVar, loadCells, hag, hsz, hag2, hsz2, hl, hl2, Result.andThen]
/-- The boxes of the reference's Commit. -/
structure RcI (w : World) (wv ov : Value) (p : Int) (fb : Nat) (c a : Int) (wr : World) : Prop where
  below : Below w.heap.size w wr
  box : wr.heap[w.heap.size]? = some (.cells #[wv, .int .i64 p, ov] 35 (0, 0))
  res : wr.heap[w.heap.size + 1]? = some (.cells #[.int .i64 0, .int .i64 0, .int .i64 0, .int .i64 0, .int .i64 0, .bool false, .slice none 0 0, .int .i64 0, .slice none 0 0] 58 (0, 0))
  flt : wr.heap[w.heap.size + 2]? = some (.cells #[.int .i64 0, .int .i64 0] 60 (0, 0))
  own : wr.heap[fb]? = some (.cells #[.int .i64 c, .int .i64 a] 60 (0, 0))
  far : w.heap.size + 2 < fb
theorem RcI.start {w w1 : World} {wv ov : Value} {p c a : Int} (hb : Below (((w.alloc (.cells #[wv, .int .i64 p, ov] 35)).alloc (.cells #[.int .i64 0, .int .i64 0, .int .i64 0, .int .i64 0, .int .i64 0, .bool false, .slice none 0 0, .int .i64 0, .slice none 0 0] 58)).alloc (.cells #[.int .i64 0, .int .i64 0] 60)).heap.size (((w.alloc (.cells #[wv, .int .i64 p, ov] 35)).alloc (.cells #[.int .i64 0, .int .i64 0, .int .i64 0, .int .i64 0, .int .i64 0, .bool false, .slice none 0 0, .int .i64 0, .slice none 0 0] 58)).alloc (.cells #[.int .i64 0, .int .i64 0] 60)) w1) :
    RcI w wv ov p w1.heap.size c a (w1.alloc (.cells #[.int .i64 c, .int .i64 a] 60)) := by
  have hs := hb.size
  simp at hs
  have hk := fun q (hq : q < w.heap.size + 3) => (Below.heap_alloc w1 (.cells #[.int .i64 c, .int .i64 a] 60) q (by omega)).trans (hb.block q (by simp; omega))
  refine ⟨⟨hb.os, hb.tape, hb.output, by simp; omega, fun q hq => ?_⟩, ?_, ?_, ?_, heap_new _ _, by omega⟩
  · rw [hk q (by omega), Below.heap_alloc _ _ _ (by simp; omega), Below.heap_alloc _ _ _ (by simp; omega), Below.heap_alloc _ _ _ hq]
  · rw [hk _ (by omega)]
    exact heap_old (heap_old (heap_new _ _) _) _
  · rw [hk _ (by omega)]
    exact heap_old (heap_new2 _ _ _) _
  · rw [hk _ (by omega)]
    have := heap_new2 (w.alloc (.cells #[wv, .int .i64 p, ov] 35)) (.cells #[.int .i64 0, .int .i64 0, .int .i64 0, .int .i64 0, .int .i64 0, .bool false, .slice none 0 0, .int .i64 0, .slice none 0 0] 58) (.cells #[.int .i64 0, .int .i64 0] 60)
    simpa using this
theorem RcI.moved {w wr w' : World} {wv ov : Value} {p c a : Int} {fb : Nat} (h : RcI w wv ov p fb c a wr) (hb : Below wr.heap.size wr w') : RcI w wv ov p fb c a w' := by
  have h1 := lt_of_heap h.own
  have h2 := h.far
  exact ⟨h.below.trans (hb.mono h.below.size), by rw [hb.block _ (by omega)]; exact h.box, by rw [hb.block _ (by omega)]; exact h.res, by rw [hb.block _ (by omega)]; exact h.flt, by rw [hb.block _ h1]; exact h.own, h2⟩
/-- Both results laid. -/
theorem rc_fill {w wq : World} {z0 z1 z2 z3 z4 z5 z6 z7 z8 y0 y1 : Value} (hb : Below w.heap.size w wq) (hr : wq.heap[w.heap.size + 1]? = some (.cells #[z0, z1, z2, z3, z4, z5, z6, z7, z8] 58 (0, 0))) (hf : wq.heap[w.heap.size + 1 + 1]? = some (.cells #[y0, y1] 60 (0, 0))) (v0 v1 v2 v3 v4 v5 v6 v7 v8 c a : Value) {wz : World} (hwz : wz = (((((((((((wq.setCell ⟨w.heap.size + 1, 0, none⟩ v0).setCell ⟨w.heap.size + 1, 1, none⟩ v1).setCell ⟨w.heap.size + 1, 2, none⟩ v2).setCell ⟨w.heap.size + 1, 3, none⟩ v3).setCell ⟨w.heap.size + 1, 4, none⟩ v4).setCell ⟨w.heap.size + 1, 5, none⟩ v5).setCell ⟨w.heap.size + 1, 6, none⟩ v6).setCell ⟨w.heap.size + 1, 7, none⟩ v7).setCell ⟨w.heap.size + 1, 8, none⟩ v8).setCell ⟨w.heap.size + 1 + 1, 0, none⟩ c).setCell ⟨w.heap.size + 1 + 1, 1, none⟩ a).drew) :
    wz.heap[w.heap.size + 1]? = some (.cells #[v0, v1, v2, v3, v4, v5, v6, v7, v8] 58 (0, 0)) ∧ wz.heap[w.heap.size + 1 + 1]? = some (.cells #[c, a] 60 (0, 0)) ∧ Below w.heap.size w wz ∧ ∀ k, k ≠ w.heap.size + 1 → k ≠ w.heap.size + 1 + 1 → wz.heap[k]? = wq.heap[k]? := by
  have oth : ∀ k, k ≠ w.heap.size + 1 → (((((((((wq.setCell ⟨w.heap.size + 1, 0, none⟩ v0).setCell ⟨w.heap.size + 1, 1, none⟩ v1).setCell ⟨w.heap.size + 1, 2, none⟩ v2).setCell ⟨w.heap.size + 1, 3, none⟩ v3).setCell ⟨w.heap.size + 1, 4, none⟩ v4).setCell ⟨w.heap.size + 1, 5, none⟩ v5).setCell ⟨w.heap.size + 1, 6, none⟩ v6).setCell ⟨w.heap.size + 1, 7, none⟩ v7).setCell ⟨w.heap.size + 1, 8, none⟩ v8).heap[k]? = wq.heap[k]? := fun k hk => by
    repeat rw [Below.heap_setCell _ _ _ _ hk]
  have h9 := fill9n hr v0 v1 v2 v3 v4 v5 v6 v7 v8
  refine ⟨?_, ?_, ?_, ?_⟩
  · rw [hwz, drew_heap, Below.heap_setCell _ _ _ _ (by show w.heap.size + 1 ≠ w.heap.size + 1 + 1; omega), Below.heap_setCell _ _ _ _ (by show w.heap.size + 1 ≠ w.heap.size + 1 + 1; omega)]
    exact h9
  · rw [hwz, drew_heap, heap_set (heap_set ((oth _ (by omega)).trans hf) c) a]
    rfl
  · rw [hwz]
    exact Below.drew (((below9 hb (by omega) _ _ _ _ _ _ _ _ _).setCell (by show w.heap.size ≤ w.heap.size + 1 + 1; omega) _).setCell (by show w.heap.size ≤ w.heap.size + 1 + 1; omega) _)
  · intro k h1 h2
    rw [hwz, drew_heap, Below.heap_setCell _ _ _ _ h2, Below.heap_setCell _ _ _ _ h2]
    exact oth k h1
set_option maxHeartbeats 4000000 in
theorem rcommit_bad (w : World) (g : Nat) (f t s seq time : Int) (v : Value) (L : List Raw) (h : RefS w g f t s seq time v L) (c : ComV) (a1 a2 : Option Addr) (n1 c1 n2 c2 : Nat) (hw : IntsAt w (.slice a1 n1 c1) c.when_) (ho : OpsAt w (.slice a2 n2 c2) c.ops) (hL : Light c) (he : (comE c).1 ≠ 0) : Calls Tryd.prog 20 #[.pointer (some ⟨g, 0, none⟩), .agg #[.slice a1 n1 c1, .int .i64 c.place, .slice a2 n2 c2]] w fun e w' => e = .returned (.tuple #[.agg #[.int .i64 0, .int .i64 0, .int .i64 0, .int .i64 0, .int .i64 0, .bool false, .slice none 0 0, .int .i64 0, .slice none 0 0], .agg #[.int .i64 ((comE c).1 : Nat), .int .i64 (V.faultAt (comE c).2)]]) ∧ Below w.heap.size w w' := by
  obtain ⟨p, hp⟩ : ∃ p, p = c.place := ⟨_, rfl⟩
  obtain ⟨w0, hw0⟩ : ∃ w0, w0 = ((w.alloc (.cells #[.slice a1 n1 c1, .int .i64 p, .slice a2 n2 c2] 35)).alloc (.cells #[.int .i64 0, .int .i64 0, .int .i64 0, .int .i64 0, .int .i64 0, .bool false, .slice none 0 0, .int .i64 0, .slice none 0 0] 58)).alloc (.cells #[.int .i64 0, .int .i64 0] 60) := ⟨_, rfl⟩
  have bw0 : Below w.heap.size w w0 := by rw [hw0]; exact (below2 _ _ _).alloc (by simp; omega) _
  have KC := hid (commitFault_h w0 c _ _ (hw.mono bw0 (Nat.le_refl _)) (ho.mono bw0 (Nat.le_refl _)) hL)
  have X0 : w0.heap[w.heap.size]? = some (.cells #[.slice a1 n1 c1, .int .i64 p, .slice a2 n2 c2] 35 (0, 0)) := by rw [hw0]; exact heap_old (heap_old (heap_new _ _) _) _
  rw [← hp] at KC ⊢
  obtain ⟨ec, hec⟩ : ∃ ec : Int, ec = ((comE c).1 : Nat) := ⟨_, rfl⟩
  obtain ⟨ea, hea⟩ : ∃ ea : Int, ea = V.faultAt (comE c).2 := ⟨_, rfl⟩
  rw [← hec, ← hea] at KC ⊢
  have HP := hid hp
  have HEC := hid hec
  have HEA := hid hea
  have HW := hid hw
  have HW0 := hid hw0
  have H := hid h
  have p0 : w0.cell? ⟨w.heap.size, 0, none⟩ = some (.slice a1 n1 c1) := (cell_of X0).trans rfl
  have p1 : w0.cell? ⟨w.heap.size, 1, none⟩ = some (.int .i64 p) := (cell_of X0).trans rfl
  have p2 : w0.cell? ⟨w.heap.size, 2, none⟩ = some (.slice a2 n2 c2) := (cell_of X0).trans rfl
  clear hp hw ho hL hec hea bw0 X0 h
  go_enter Tryd.func20, Tryd.ntmps20
  go_wp2_with fail
  rw [← hw0]
  clear hw0
  refine KC.out.mono ?_
  rintro e wa ⟨rfl, hba⟩
  obtain ⟨w1, hw1⟩ : ∃ w1, w1 = wa.alloc (.cells #[.int .i64 ec, .int .i64 ea] 60) := ⟨_, rfl⟩
  have I1 : Hid (RcI w (.slice a1 n1 c1) (.slice a2 n2 c2) p wa.heap.size ec ea w1) := (show RcI _ _ _ _ _ _ _ _ from by rw [hw1]; exact RcI.start (by rw [← HW0.out]; exact hba))
  clear p0 p1 p2 hba
  go_upto_region 2 with (fail)
  rw [← hw1]
  clear hw1
  obtain ⟨fb, hfb⟩ : ∃ fb, fb = wa.heap.size := ⟨_, rfl⟩
  rw [← hfb] at I1 ⊢
  clear hfb
  have y0 : w1.cell? ⟨fb, 0, none⟩ = some (.int .i64 ec) := (cell_of I1.out.own).trans rfl
  have hpos : 0 < ec := by have := HEC.out; omega
  have y1 : w1.cell? ⟨fb, 1, none⟩ = some (.int .i64 ea) := (cell_of I1.out.own).trans rfl
  have hfar := I1.out.far
  go_upto_region 3 with (fail)
  have r0 := fun j => (show ∀ j, w1.frozen? ⟨w.heap.size + 1, j, none⟩ = false from fun j => free_of I1.out.res) j
  have r1 := fun j => (show ∀ j, w1.frozen? ⟨w.heap.size + 1 + 1, j, none⟩ = false from fun j => free_of I1.out.flt) j
  have k0 : w1.cell? ⟨w.heap.size + 1, 0, none⟩ = some (.int .i64 0) := (cell_of I1.out.res).trans rfl
  have k1 : w1.cell? ⟨w.heap.size + 1, 1, none⟩ = some (.int .i64 0) := (cell_of I1.out.res).trans rfl
  have k2 : w1.cell? ⟨w.heap.size + 1, 2, none⟩ = some (.int .i64 0) := (cell_of I1.out.res).trans rfl
  have k3 : w1.cell? ⟨w.heap.size + 1, 3, none⟩ = some (.int .i64 0) := (cell_of I1.out.res).trans rfl
  have k4 : w1.cell? ⟨w.heap.size + 1, 4, none⟩ = some (.int .i64 0) := (cell_of I1.out.res).trans rfl
  have k5 : w1.cell? ⟨w.heap.size + 1, 5, none⟩ = some (.bool false) := (cell_of I1.out.res).trans rfl
  have k6 : w1.cell? ⟨w.heap.size + 1, 6, none⟩ = some (.slice none 0 0) := (cell_of I1.out.res).trans rfl
  have k7 : w1.cell? ⟨w.heap.size + 1, 7, none⟩ = some (.int .i64 0) := (cell_of I1.out.res).trans rfl
  have k8 : w1.cell? ⟨w.heap.size + 1, 8, none⟩ = some (.slice none 0 0) := (cell_of I1.out.res).trans rfl
  have m0 : w1.cell? ⟨w.heap.size + 1 + 1, 0, none⟩ = some (.int .i64 0) := (cell_of I1.out.flt).trans rfl
  have m1 : w1.cell? ⟨w.heap.size + 1 + 1, 1, none⟩ = some (.int .i64 0) := (cell_of I1.out.flt).trans rfl
  go_region
  obtain ⟨wz, hwz⟩ : ∃ wz, wz = (((((((((((w1.setCell ⟨w.heap.size + 1, 0, none⟩ (.int .i64 0)).setCell ⟨w.heap.size + 1, 1, none⟩ (.int .i64 0)).setCell ⟨w.heap.size + 1, 2, none⟩ (.int .i64 0)).setCell ⟨w.heap.size + 1, 3, none⟩ (.int .i64 0)).setCell ⟨w.heap.size + 1, 4, none⟩ (.int .i64 0)).setCell ⟨w.heap.size + 1, 5, none⟩ (.bool false)).setCell ⟨w.heap.size + 1, 6, none⟩ (.slice none 0 0)).setCell ⟨w.heap.size + 1, 7, none⟩ (.int .i64 0)).setCell ⟨w.heap.size + 1, 8, none⟩ (.slice none 0 0)).setCell ⟨w.heap.size + 1 + 1, 0, none⟩ (.int .i64 ec)).setCell ⟨w.heap.size + 1 + 1, 1, none⟩ (.int .i64 ea)).drew := ⟨_, rfl⟩
  rw [← hwz]
  have FZ := hid (rc_fill I1.out.below I1.out.res I1.out.flt _ _ _ _ _ _ _ _ _ _ _ hwz)
  clear hwz k0 k1 k2 k3 k4 k5 k6 k7 k8 m0 m1 r0 r1
  go_wp2_with fail
  refine bodyPost_ret (ret_cell_cell (k := 9) (k2 := 2) Tryd.results20 Tryd.isAgg58 Tryd.sizeOf58 Tryd.isAgg60 Tryd.sizeOf60 _ _ (w.heap.size + 1) (w.heap.size + 1 + 1) [.int .i64 0, .int .i64 0, .int .i64 0, .int .i64 0, .int .i64 0, .bool false, .slice none 0 0, .int .i64 0, .slice none 0 0] [.int .i64 ec, .int .i64 ea] rfl rfl rfl rfl (cells_heap (t := 58) _ FZ.out.1) (cells_heap (t := 60) _ FZ.out.2.1)) rfl ⟨rfl, FZ.out.2.2.1⟩
set_option maxHeartbeats 8000000 in
theorem rcommit_shape (w : World) (g : Nat) (f t s seq time : Int) (v : Value) (L : List Raw) (h : RefS w g f t s seq time v L) (c : ComV) (a1 a2 : Option Addr) (n1 c1 n2 c2 : Nat) (hw : IntsAt w (.slice a1 n1 c1) c.when_) (ho : OpsAt w (.slice a2 n2 c2) c.ops) (hL : Light c) (he : (comE c).1 = 0) (hne : c.place ≠ f) : Calls Tryd.prog 20 #[.pointer (some ⟨g, 0, none⟩), .agg #[.slice a1 n1 c1, .int .i64 c.place, .slice a2 n2 c2]] w fun e w' => e = .returned (.tuple #[.agg #[.int .i64 0, .int .i64 0, .int .i64 0, .int .i64 0, .int .i64 0, .bool false, .slice none 0 0, .int .i64 0, .slice none 0 0], .agg #[.int .i64 3, .int .i64 (-1)]]) ∧ Below w.heap.size w w' := by
  obtain ⟨p, hp⟩ : ∃ p, p = c.place := ⟨_, rfl⟩
  obtain ⟨w0, hw0⟩ : ∃ w0, w0 = ((w.alloc (.cells #[.slice a1 n1 c1, .int .i64 p, .slice a2 n2 c2] 35)).alloc (.cells #[.int .i64 0, .int .i64 0, .int .i64 0, .int .i64 0, .int .i64 0, .bool false, .slice none 0 0, .int .i64 0, .slice none 0 0] 58)).alloc (.cells #[.int .i64 0, .int .i64 0] 60) := ⟨_, rfl⟩
  have bw0 : Below w.heap.size w w0 := by rw [hw0]; exact (below2 _ _ _).alloc (by simp; omega) _
  have KC := hid (commitFault_h w0 c _ _ (hw.mono bw0 (Nat.le_refl _)) (ho.mono bw0 (Nat.le_refl _)) hL)
  have X0 : w0.heap[w.heap.size]? = some (.cells #[.slice a1 n1 c1, .int .i64 p, .slice a2 n2 c2] 35 (0, 0)) := by rw [hw0]; exact heap_old (heap_old (heap_new _ _) _) _
  rw [← hp] at KC ⊢
  obtain ⟨ec, hec⟩ : ∃ ec : Int, ec = ((comE c).1 : Nat) := ⟨_, rfl⟩
  obtain ⟨ea, hea⟩ : ∃ ea : Int, ea = V.faultAt (comE c).2 := ⟨_, rfl⟩
  rw [← hec, ← hea] at KC
  have HP := hid hp
  have HEC := hid hec
  have HEA := hid hea
  have HW := hid hw
  have HW0 := hid hw0
  have H := hid h
  have p0 : w0.cell? ⟨w.heap.size, 0, none⟩ = some (.slice a1 n1 c1) := (cell_of X0).trans rfl
  have p1 : w0.cell? ⟨w.heap.size, 1, none⟩ = some (.int .i64 p) := (cell_of X0).trans rfl
  have p2 : w0.cell? ⟨w.heap.size, 2, none⟩ = some (.slice a2 n2 c2) := (cell_of X0).trans rfl
  clear hp hw ho hL hec hea bw0 X0 h
  go_enter Tryd.func20, Tryd.ntmps20
  go_wp2_with fail
  rw [← hw0]
  clear hw0
  refine KC.out.mono ?_
  rintro e wa ⟨rfl, hba⟩
  obtain ⟨w1, hw1⟩ : ∃ w1, w1 = wa.alloc (.cells #[.int .i64 ec, .int .i64 ea] 60) := ⟨_, rfl⟩
  have I1 : Hid (RcI w (.slice a1 n1 c1) (.slice a2 n2 c2) p wa.heap.size ec ea w1) := (show RcI _ _ _ _ _ _ _ _ from by rw [hw1]; exact RcI.start (by rw [← HW0.out]; exact hba))
  clear p0 p1 p2 hba
  go_upto_region 2 with (fail)
  rw [← hw1]
  clear hw1
  obtain ⟨fb, hfb⟩ : ∃ fb, fb = wa.heap.size := ⟨_, rfl⟩
  rw [← hfb] at I1 ⊢
  clear hfb
  have y0 : w1.cell? ⟨fb, 0, none⟩ = some (.int .i64 ec) := (cell_of I1.out.own).trans rfl
  have hz : ec = 0 := by rw [HEC.out, he]; rfl
  rw [hz] at y0
  have q0 : w1.cell? ⟨w.heap.size, 0, none⟩ = some (.slice a1 n1 c1) := (cell_of I1.out.box).trans rfl
  have q1 : w1.cell? ⟨w.heap.size, 1, none⟩ = some (.int .i64 p) := (cell_of I1.out.box).trans rfl
  have S1 := hid (H.out.moved I1.out.below)
  have s0 : w1.cell? ⟨g, 0, none⟩ = some (.int .i64 f) := (cell_of S1.out.box).trans rfl
  have s4 : w1.cell? ⟨g, 4, none⟩ = some (.int .i64 time) := (cell_of S1.out.box).trans rfl
  clear hz
  rw [← HP.out] at hne
  have bne : (p != f) = true := by simpa using hne
  clear hne
  go_upto_region 4 with (fail)
  go_quiet (fail)
  go_wp2_with fail
  generalize hwq : World.drewN _ _ = wq
  have hbq : Below w1.heap.size w1 wq := by rw [← hwq]; exact ⟨rfl, rfl, rfl, Nat.le_refl _, fun _ _ => rfl⟩
  have KB := hid (@V.bare_any inhD inhO wq 3)
  clear hwq y0 q0 q1 s0 s4
  refine KB.out.mono ?_
  rintro e w2 ⟨rfl, hb2⟩
  have I2 := hid ((I1.out.moved hbq).moved hb2)
  clear hbq hb2
  obtain ⟨w3, STORE, HZ⟩ := store_row I2.out.res [.int .i64 0, .int .i64 0, .int .i64 0, .int .i64 0, .int .i64 0, .bool false, .slice none 0 0, .int .i64 0, .slice none 0 0] rfl rfl 58 9 rfl Tryd.sizeOf58
  have hso : ∀ k, k ≠ w.heap.size + 1 → w3.heap[k]? = w2.heap[k]? := fun k hk => by rw [HZ.out.2]; exact setCells_other _ _ _ _ _ hk
  have B3 : Hid (Below w.heap.size w w3) := (show Below _ _ _ from by rw [HZ.out.2]; exact below_setCells (by omega) _ _ I2.out.below)
  have G3 : w3.heap[w.heap.size + 1 + 1]? = some (.cells #[.int .i64 0, .int .i64 0] 60 (0, 0)) := (hso _ (by omega)).trans I2.out.flt
  obtain ⟨wz, STORE2, HZ2⟩ := store_row G3 [.int .i64 3, .int .i64 (-1)] rfl rfl 60 2 rfl Tryd.sizeOf60
  have HSO := hid hso
  have HG3 := hid G3
  clear hso G3
  go_wp2_with (first | refine STORE _ _ _ _ _ (.tmp 4) (.tmp 21) rfl rfl rfl rfl ?_ | refine STORE2 _ _ _ _ _ (.tmp 5) (.tmp 22) rfl rfl rfl rfl ?_)
  have hso2 : ∀ k, k ≠ w.heap.size + 1 + 1 → wz.heap[k]? = w3.heap[k]? := fun k hk => by rw [HZ2.out.2]; exact setCells_other _ _ _ _ _ hk
  refine bodyPost_ret (ret_cell_cell (k := 9) (k2 := 2) Tryd.results20 Tryd.isAgg58 Tryd.sizeOf58 Tryd.isAgg60 Tryd.sizeOf60 _ _ (w.heap.size + 1) (w.heap.size + 1 + 1) [.int .i64 0, .int .i64 0, .int .i64 0, .int .i64 0, .int .i64 0, .bool false, .slice none 0 0, .int .i64 0, .slice none 0 0] [.int .i64 3, .int .i64 (-1)] rfl rfl rfl rfl (fun j hj => ?_) HZ2.out.1) rfl ⟨rfl, by rw [HZ2.out.2]; exact below_setCells (by omega) _ _ B3.out⟩
  rw [World.cell?_of_block (w := w3) (a := ⟨w.heap.size + 1, j, none⟩) (hso2 (w.heap.size + 1) (by omega))]
  exact HZ.out.1 j hj
set_option maxHeartbeats 8000000 in
theorem rcommit_old (w : World) (g : Nat) (f t s seq time : Int) (v : Value) (L : List Raw) (h : RefS w g f t s seq time v L) (c : ComV) (a1 a2 : Option Addr) (n1 c1 n2 c2 : Nat) (hw : IntsAt w (.slice a1 n1 c1) c.when_) (ho : OpsAt w (.slice a2 n2 c2) c.ops) (hL : Light c) (he : (comE c).1 = 0) (hpf : c.place = f) (x : Int) (hx : x = c.when_.getD c.place.toNat 0) (hxt : x ≤ time) : Calls Tryd.prog 20 #[.pointer (some ⟨g, 0, none⟩), .agg #[.slice a1 n1 c1, .int .i64 c.place, .slice a2 n2 c2]] w fun e w' => e = .returned (.tuple #[.agg #[.int .i64 0, .int .i64 0, .int .i64 0, .int .i64 0, .int .i64 0, .bool false, .slice none 0 0, .int .i64 0, .slice none 0 0], .agg #[.int .i64 9, .int .i64 (-1)]]) ∧ Below w.heap.size w w' := by
  obtain ⟨p, hp⟩ : ∃ p, p = c.place := ⟨_, rfl⟩
  obtain ⟨w0, hw0⟩ : ∃ w0, w0 = ((w.alloc (.cells #[.slice a1 n1 c1, .int .i64 p, .slice a2 n2 c2] 35)).alloc (.cells #[.int .i64 0, .int .i64 0, .int .i64 0, .int .i64 0, .int .i64 0, .bool false, .slice none 0 0, .int .i64 0, .slice none 0 0] 58)).alloc (.cells #[.int .i64 0, .int .i64 0] 60) := ⟨_, rfl⟩
  have bw0 : Below w.heap.size w w0 := by rw [hw0]; exact (below2 _ _ _).alloc (by simp; omega) _
  have KC := hid (commitFault_h w0 c _ _ (hw.mono bw0 (Nat.le_refl _)) (ho.mono bw0 (Nat.le_refl _)) hL)
  have X0 : w0.heap[w.heap.size]? = some (.cells #[.slice a1 n1 c1, .int .i64 p, .slice a2 n2 c2] 35 (0, 0)) := by rw [hw0]; exact heap_old (heap_old (heap_new _ _) _) _
  rw [← hp] at KC ⊢
  obtain ⟨ec, hec⟩ : ∃ ec : Int, ec = ((comE c).1 : Nat) := ⟨_, rfl⟩
  obtain ⟨ea, hea⟩ : ∃ ea : Int, ea = V.faultAt (comE c).2 := ⟨_, rfl⟩
  rw [← hec, ← hea] at KC
  have HP := hid hp
  have HEC := hid hec
  have HEA := hid hea
  have HW := hid hw
  have HW0 := hid hw0
  have H := hid h
  have p0 : w0.cell? ⟨w.heap.size, 0, none⟩ = some (.slice a1 n1 c1) := (cell_of X0).trans rfl
  have p1 : w0.cell? ⟨w.heap.size, 1, none⟩ = some (.int .i64 p) := (cell_of X0).trans rfl
  have p2 : w0.cell? ⟨w.heap.size, 2, none⟩ = some (.slice a2 n2 c2) := (cell_of X0).trans rfl
  clear hp hw ho hL hec hea bw0 X0 h
  go_enter Tryd.func20, Tryd.ntmps20
  go_wp2_with fail
  rw [← hw0]
  clear hw0
  refine KC.out.mono ?_
  rintro e wa ⟨rfl, hba⟩
  obtain ⟨w1, hw1⟩ : ∃ w1, w1 = wa.alloc (.cells #[.int .i64 ec, .int .i64 ea] 60) := ⟨_, rfl⟩
  have I1 : Hid (RcI w (.slice a1 n1 c1) (.slice a2 n2 c2) p wa.heap.size ec ea w1) := (show RcI _ _ _ _ _ _ _ _ from by rw [hw1]; exact RcI.start (by rw [← HW0.out]; exact hba))
  clear p0 p1 p2 hba
  go_upto_region 2 with (fail)
  rw [← hw1]
  clear hw1
  obtain ⟨fb, hfb⟩ : ∃ fb, fb = wa.heap.size := ⟨_, rfl⟩
  rw [← hfb] at I1 ⊢
  clear hfb
  have y0 : w1.cell? ⟨fb, 0, none⟩ = some (.int .i64 ec) := (cell_of I1.out.own).trans rfl
  have hz : ec = 0 := by rw [HEC.out, he]; rfl
  rw [hz] at y0
  have q0 : w1.cell? ⟨w.heap.size, 0, none⟩ = some (.slice a1 n1 c1) := (cell_of I1.out.box).trans rfl
  have q1 : w1.cell? ⟨w.heap.size, 1, none⟩ = some (.int .i64 p) := (cell_of I1.out.box).trans rfl
  have S1 := hid (H.out.moved I1.out.below)
  have s0 : w1.cell? ⟨g, 0, none⟩ = some (.int .i64 f) := (cell_of S1.out.box).trans rfl
  have s4 : w1.cell? ⟨g, 4, none⟩ = some (.int .i64 time) := (cell_of S1.out.box).trans rfl
  clear hz
  rw [hpf] at hx
  have bne : (p != f) = false := by rw [HP.out, hpf]; simp
  have hpz := (comE_zero he).2
  rw [hpf] at hpz
  obtain ⟨fn, rfl⟩ : ∃ fn : Nat, f = fn := ⟨f.toNat, by omega⟩
  obtain ⟨ad, cc, hv, hnil, hcells⟩ := HW.out
  injection hv with hv1 hv2 hv3
  have hfl : fn < n1 := by omega
  obtain ⟨b, o, hab, hcl⟩ : ∃ b o, a1 = some ⟨b, o, none⟩ ∧ w1.cell? ⟨b, o + fn, none⟩ = some (.int .i64 x) := by
    rcases hcells with hc | ⟨b, o, hc, hcl⟩
    · rw [hc] at hv2
      simp at hv2
      omega
    · refine ⟨b, o, hv1.trans hc, ?_⟩
      have e := hcl fn (by omega)
      rw [I1.out.below.cell (p := ⟨b, o + fn, none⟩) (lt_of_cell e), e, hx]
      simp
  subst hab
  have hfi : (fn : Int) < (n1 : Int) := by omega
  have HPF : Hid (p = fn) := HP.out.trans hpf
  obtain rfl := HPF.out
  clear hcells hnil hv1 hv2 hv3 hpz hx
  go_upto_region 4 with (fail)
  go_quiet (fail)
  go_upto_region 6 with (fail)
  go_quiet (fail)
  go_wp2_with fail
  generalize hwq : World.drewN _ _ = wq
  have hbq : Below w1.heap.size w1 wq := by rw [← hwq]; exact ⟨rfl, rfl, rfl, Nat.le_refl _, fun _ _ => rfl⟩
  have KB := hid (@V.bare_any inhD inhO wq 9)
  clear hwq y0 q0 q1 s0 s4
  refine KB.out.mono ?_
  rintro e w2 ⟨rfl, hb2⟩
  have I2 := hid ((I1.out.moved hbq).moved hb2)
  clear hbq hb2
  obtain ⟨w3, STORE, HZ⟩ := store_row I2.out.res [.int .i64 0, .int .i64 0, .int .i64 0, .int .i64 0, .int .i64 0, .bool false, .slice none 0 0, .int .i64 0, .slice none 0 0] rfl rfl 58 9 rfl Tryd.sizeOf58
  have hso : ∀ k, k ≠ w.heap.size + 1 → w3.heap[k]? = w2.heap[k]? := fun k hk => by rw [HZ.out.2]; exact setCells_other _ _ _ _ _ hk
  have B3 : Hid (Below w.heap.size w w3) := (show Below _ _ _ from by rw [HZ.out.2]; exact below_setCells (by omega) _ _ I2.out.below)
  have G3 : w3.heap[w.heap.size + 1 + 1]? = some (.cells #[.int .i64 0, .int .i64 0] 60 (0, 0)) := (hso _ (by omega)).trans I2.out.flt
  obtain ⟨wz, STORE2, HZ2⟩ := store_row G3 [.int .i64 9, .int .i64 (-1)] rfl rfl 60 2 rfl Tryd.sizeOf60
  have HSO := hid hso
  have HG3 := hid G3
  clear hso G3
  go_wp2_with (first | refine STORE _ _ _ _ _ (.tmp 4) (.tmp 34) rfl rfl rfl rfl ?_ | refine STORE2 _ _ _ _ _ (.tmp 5) (.tmp 35) rfl rfl rfl rfl ?_)
  have hso2 : ∀ k, k ≠ w.heap.size + 1 + 1 → wz.heap[k]? = w3.heap[k]? := fun k hk => by rw [HZ2.out.2]; exact setCells_other _ _ _ _ _ hk
  refine bodyPost_ret (ret_cell_cell (k := 9) (k2 := 2) Tryd.results20 Tryd.isAgg58 Tryd.sizeOf58 Tryd.isAgg60 Tryd.sizeOf60 _ _ (w.heap.size + 1) (w.heap.size + 1 + 1) [.int .i64 0, .int .i64 0, .int .i64 0, .int .i64 0, .int .i64 0, .bool false, .slice none 0 0, .int .i64 0, .slice none 0 0] [.int .i64 9, .int .i64 (-1)] rfl rfl rfl rfl (fun j hj => ?_) HZ2.out.1) rfl ⟨rfl, by rw [HZ2.out.2]; exact below_setCells (by omega) _ _ B3.out⟩
  rw [World.cell?_of_block (w := w3) (a := ⟨w.heap.size + 1, j, none⟩) (hso2 (w.heap.size + 1) (by omega))]
  exact HZ.out.1 j hj
end Go.Proofs.YtcojglkjbbgoaaaDoor
namespace Go.Proofs.YtcojglkjbbgoaaaDoor
open Go.RowKit
set_option maxRecDepth 100000

theorem heap9 {wq : World} {m k : Nat} (hk : k ≠ m) (v0 v1 v2 v3 v4 v5 v6 v7 v8 : Value) : (((((((((wq.setCell ⟨m, 0, none⟩ v0).setCell ⟨m, 1, none⟩ v1).setCell ⟨m, 2, none⟩ v2).setCell ⟨m, 3, none⟩ v3).setCell ⟨m, 4, none⟩ v4).setCell ⟨m, 5, none⟩ v5).setCell ⟨m, 6, none⟩ v6).setCell ⟨m, 7, none⟩ v7).setCell ⟨m, 8, none⟩ v8).heap[k]? = wq.heap[k]? := by
  repeat rw [Below.heap_setCell _ _ _ _ hk]
theorem heap11 {wq : World} {m l k : Nat} (hk : k ≠ m) (hl : k ≠ l) (v0 v1 v2 v3 v4 v5 v6 v7 v8 c a : Value) : (((((((((((wq.setCell ⟨m, 0, none⟩ v0).setCell ⟨m, 1, none⟩ v1).setCell ⟨m, 2, none⟩ v2).setCell ⟨m, 3, none⟩ v3).setCell ⟨m, 4, none⟩ v4).setCell ⟨m, 5, none⟩ v5).setCell ⟨m, 6, none⟩ v6).setCell ⟨m, 7, none⟩ v7).setCell ⟨m, 8, none⟩ v8).setCell ⟨l, 0, none⟩ c).setCell ⟨l, 1, none⟩ a).heap[k]? = wq.heap[k]? := by
  rw [Below.heap_setCell _ _ _ _ hl, Below.heap_setCell _ _ _ _ hl, heap9 hk]
/-- Both results laid, behind a call. -/
theorem rc_fill2 {w wq : World} {z0 z1 z2 z3 z4 z5 z6 z7 z8 y0 y1 : Value} (hr : wq.heap[w.heap.size + 1]? = some (.cells #[z0, z1, z2, z3, z4, z5, z6, z7, z8] 58 (0, 0))) (hf : wq.heap[w.heap.size + 1 + 1]? = some (.cells #[y0, y1] 60 (0, 0))) (v0 v1 v2 v3 v4 v5 v6 v7 v8 c a : Value) {wz : World} (hwz : wz = (((((((((((wq.setCell ⟨w.heap.size + 1, 0, none⟩ v0).setCell ⟨w.heap.size + 1, 1, none⟩ v1).setCell ⟨w.heap.size + 1, 2, none⟩ v2).setCell ⟨w.heap.size + 1, 3, none⟩ v3).setCell ⟨w.heap.size + 1, 4, none⟩ v4).setCell ⟨w.heap.size + 1, 5, none⟩ v5).setCell ⟨w.heap.size + 1, 6, none⟩ v6).setCell ⟨w.heap.size + 1, 7, none⟩ v7).setCell ⟨w.heap.size + 1, 8, none⟩ v8).setCell ⟨w.heap.size + 1 + 1, 0, none⟩ c).setCell ⟨w.heap.size + 1 + 1, 1, none⟩ a)) :
    wz.heap[w.heap.size + 1]? = some (.cells #[v0, v1, v2, v3, v4, v5, v6, v7, v8] 58 (0, 0)) ∧ wz.heap[w.heap.size + 1 + 1]? = some (.cells #[c, a] 60 (0, 0)) ∧ Below 0 wq wz ∧ ∀ k, k ≠ w.heap.size + 1 → k ≠ w.heap.size + 1 + 1 → wz.heap[k]? = wq.heap[k]? := by
  have oth : ∀ k, k ≠ w.heap.size + 1 → (((((((((wq.setCell ⟨w.heap.size + 1, 0, none⟩ v0).setCell ⟨w.heap.size + 1, 1, none⟩ v1).setCell ⟨w.heap.size + 1, 2, none⟩ v2).setCell ⟨w.heap.size + 1, 3, none⟩ v3).setCell ⟨w.heap.size + 1, 4, none⟩ v4).setCell ⟨w.heap.size + 1, 5, none⟩ v5).setCell ⟨w.heap.size + 1, 6, none⟩ v6).setCell ⟨w.heap.size + 1, 7, none⟩ v7).setCell ⟨w.heap.size + 1, 8, none⟩ v8).heap[k]? = wq.heap[k]? := fun k hk => by
    repeat rw [Below.heap_setCell _ _ _ _ hk]
  have h9 := fill9n hr v0 v1 v2 v3 v4 v5 v6 v7 v8
  refine ⟨?_, ?_, ?_, ?_⟩
  · rw [hwz, Below.heap_setCell _ _ _ _ (by show w.heap.size + 1 ≠ w.heap.size + 1 + 1; omega), Below.heap_setCell _ _ _ _ (by show w.heap.size + 1 ≠ w.heap.size + 1 + 1; omega)]
    exact h9
  · rw [hwz, heap_set (heap_set ((oth _ (by omega)).trans hf) c) a]
    rfl
  · rw [hwz]
    exact ((below9 (Below.refl _ _) (Nat.zero_le _) _ _ _ _ _ _ _ _ _).setCell (Nat.zero_le _) _).setCell (Nat.zero_le _) _
  · intro k h1 h2
    rw [hwz, Below.heap_setCell _ _ _ _ h2, Below.heap_setCell _ _ _ _ h2]
    exact oth k h1
set_option maxHeartbeats 2000000 in
theorem rcommit_ok (w : World) (g : Nat) (f t s seq time : Int) (v : Value) (L : List Raw) (h : RefS w g f t s seq time v L) (c : ComV) (a1 a2 : Option Addr) (n1 c1 n2 c2 : Nat) (hw : IntsAt w (.slice a1 n1 c1) c.when_) (ho : OpsAt w (.slice a2 n2 c2) c.ops) (hL : Light c) (hl : L.length ≤ 1000) (h0 : 0 ≤ seq) (h1 : seq ≤ 1000) (hbg : ∀ b o, a1 = some ⟨b, o, none⟩ → b < w.heap.size ∧ b ≠ g ∧ v.ownBlock ≠ some b) (he : (comE c).1 = 0) (hpf : c.place = f) (x : Int) (hx : x = c.when_.getD c.place.toNat 0) (hxt : time < x) : Calls Tryd.prog 20 #[.pointer (some ⟨g, 0, none⟩), .agg #[.slice a1 n1 c1, .int .i64 c.place, .slice a2 n2 c2]] w fun e w' => e = .returned (.tuple #[.agg #[.int .i64 f, .int .i64 t, .int .i64 s, .int .i64 (seq + 1), .int .i64 x, .bool false, .slice a1 n1 c1, .int .i64 c.place, .slice a2 n2 c2], .agg #[.int .i64 0, .int .i64 (-1)]]) ∧ RnRet w g f t s (seq + 1) x v L ⟨f, t, s, seq + 1, x, false, a1, n1, c1, c.place, a2, n2, c2⟩ w' := by
  have HV : Hid (∀ b, v.ownBlock = some b → b < w.heap.size) := fun b hb => (h.row.lt b hb).2
  have HG : Hid (g < w.heap.size) := lt_of_heap h.box
  obtain ⟨p, hp⟩ : ∃ p, p = c.place := ⟨_, rfl⟩
  obtain ⟨w0, hw0⟩ : ∃ w0, w0 = ((w.alloc (.cells #[.slice a1 n1 c1, .int .i64 p, .slice a2 n2 c2] 35)).alloc (.cells #[.int .i64 0, .int .i64 0, .int .i64 0, .int .i64 0, .int .i64 0, .bool false, .slice none 0 0, .int .i64 0, .slice none 0 0] 58)).alloc (.cells #[.int .i64 0, .int .i64 0] 60) := ⟨_, rfl⟩
  have bw0 : Below w.heap.size w w0 := by rw [hw0]; exact (below2 _ _ _).alloc (by simp; omega) _
  have KC := hid (commitFault_h w0 c _ _ (hw.mono bw0 (Nat.le_refl _)) (ho.mono bw0 (Nat.le_refl _)) hL)
  have X0 : w0.heap[w.heap.size]? = some (.cells #[.slice a1 n1 c1, .int .i64 p, .slice a2 n2 c2] 35 (0, 0)) := by rw [hw0]; exact heap_old (heap_old (heap_new _ _) _) _
  rw [← hp] at KC ⊢
  obtain ⟨ec, hec⟩ : ∃ ec : Int, ec = ((comE c).1 : Nat) := ⟨_, rfl⟩
  obtain ⟨ea, hea⟩ : ∃ ea : Int, ea = V.faultAt (comE c).2 := ⟨_, rfl⟩
  rw [← hec, ← hea] at KC
  have HP := hid hp
  have HEC := hid hec
  have HEA := hid hea
  have HW := hid hw
  have HW0 := hid hw0
  have H := hid h
  have p0 : w0.cell? ⟨w.heap.size, 0, none⟩ = some (.slice a1 n1 c1) := (cell_of X0).trans rfl
  have p1 : w0.cell? ⟨w.heap.size, 1, none⟩ = some (.int .i64 p) := (cell_of X0).trans rfl
  have p2 : w0.cell? ⟨w.heap.size, 2, none⟩ = some (.slice a2 n2 c2) := (cell_of X0).trans rfl
  clear hp hw ho hL hec hea bw0 X0 h
  go_enter Tryd.func20, Tryd.ntmps20
  go_wp2_with fail
  rw [← hw0]
  clear hw0
  refine KC.out.mono ?_
  rintro e wa ⟨rfl, hba⟩
  obtain ⟨w1, hw1⟩ : ∃ w1, w1 = wa.alloc (.cells #[.int .i64 ec, .int .i64 ea] 60) := ⟨_, rfl⟩
  have I1 : Hid (RcI w (.slice a1 n1 c1) (.slice a2 n2 c2) p wa.heap.size ec ea w1) := (show RcI _ _ _ _ _ _ _ _ from by rw [hw1]; exact RcI.start (by rw [← HW0.out]; exact hba))
  clear p0 p1 p2 hba
  go_upto_region 2 with (fail)
  rw [← hw1]
  clear hw1
  obtain ⟨fb, hfb⟩ : ∃ fb, fb = wa.heap.size := ⟨_, rfl⟩
  rw [← hfb] at I1 ⊢
  clear hfb
  have y0 : w1.cell? ⟨fb, 0, none⟩ = some (.int .i64 ec) := (cell_of I1.out.own).trans rfl
  have hz : ec = 0 := by rw [HEC.out, he]; rfl
  rw [hz] at y0
  have q0 : w1.cell? ⟨w.heap.size, 0, none⟩ = some (.slice a1 n1 c1) := (cell_of I1.out.box).trans rfl
  have q1 : w1.cell? ⟨w.heap.size, 1, none⟩ = some (.int .i64 p) := (cell_of I1.out.box).trans rfl
  have S1 := hid (H.out.moved I1.out.below)
  have s0 : w1.cell? ⟨g, 0, none⟩ = some (.int .i64 f) := (cell_of S1.out.box).trans rfl
  have s4 : w1.cell? ⟨g, 4, none⟩ = some (.int .i64 time) := (cell_of S1.out.box).trans rfl
  clear hz
  have hza : ea = -1 := by rw [HEA.out, (comE_zero he).1]; rfl
  have y1 : w1.cell? ⟨fb, 1, none⟩ = some (.int .i64 (-1)) := by rw [← hza]; exact (cell_of I1.out.own).trans rfl
  clear hza
  rw [hpf] at hx
  have bne : (p != f) = false := by rw [HP.out, hpf]; simp
  have hpz := (comE_zero he).2
  rw [hpf] at hpz
  obtain ⟨fn, rfl⟩ : ∃ fn : Nat, f = fn := ⟨f.toNat, by omega⟩
  obtain ⟨ad, cc, hv, hnil, hcells⟩ := HW.out
  injection hv with hv1 hv2 hv3
  have hfl : fn < n1 := by omega
  obtain ⟨b, o, hab, hcl⟩ : ∃ b o, a1 = some ⟨b, o, none⟩ ∧ w1.cell? ⟨b, o + fn, none⟩ = some (.int .i64 x) := by
    rcases hcells with hc | ⟨b, o, hc, hcl⟩
    · rw [hc] at hv2
      simp at hv2
      omega
    · refine ⟨b, o, hv1.trans hc, ?_⟩
      have e := hcl fn (by omega)
      rw [I1.out.below.cell (p := ⟨b, o + fn, none⟩) (lt_of_cell e), e, hx]
      simp
  subst hab
  have hfi : (fn : Int) < (n1 : Int) := by omega
  have HPF : Hid (p = fn) := HP.out.trans hpf
  obtain rfl := HPF.out
  clear hcells hnil hv1 hv2 hv3 hpz hx
  go_upto_region 4 with (fail)
  go_quiet (fail)
  go_upto_region 6 with (fail)
  go_quiet (fail)
  go_upto_region 8 with (fail)
  generalize hwq : World.drewN _ _ = wq
  have hcq : ∀ a, wq.cell? a = w1.cell? a := fun a => by rw [← hwq]; rfl
  have hbq : Below w1.heap.size w1 wq := by rw [← hwq]; exact ⟨rfl, rfl, rfl, Nat.le_refl _, fun _ _ => rfl⟩
  have y0' := (hcq _).trans y0
  have y1' := (hcq _).trans y1
  have hcl' := (hcq _).trans hcl
  have I1' := hid (I1.out.moved hbq)
  have S1' := hid (S1.out.moved hbq)
  clear y0 y1 hcl I1 S1 q0 q1 s0 s4 hwq hcq hbq
  have S1 := S1'
  have I1 := I1'
  clear S1' I1'
  have HBG := hid (hbg b o rfl)
  clear hbg
  have hbl := HBG.out.1
  have hfar := I1.out.far
  have hown := lt_of_heap I1.out.own
  have hz1 : w.heap.size ≤ wq.heap.size := I1.out.below.size
  have q0 : wq.cell? ⟨w.heap.size, 0, none⟩ = some (.slice (some ⟨b, o, none⟩) n1 c1) := (cell_of I1.out.box).trans rfl
  have q1 : wq.cell? ⟨w.heap.size, 1, none⟩ = some (.int .i64 fn) := (cell_of I1.out.box).trans rfl
  have q2 : wq.cell? ⟨w.heap.size, 2, none⟩ = some (.slice a2 n2 c2) := (cell_of I1.out.box).trans rfl
  have FOUR : Hid (∀ w2, OnlyS g v wq w2 → w2.heap[w.heap.size + 1]? = some (.cells #[.int .i64 0, .int .i64 0, .int .i64 0, .int .i64 0, .int .i64 0, .bool false, .slice none 0 0, .int .i64 0, .slice none 0 0] 58 (0, 0)) ∧ w2.heap[w.heap.size + 1 + 1]? = some (.cells #[.int .i64 0, .int .i64 0] 60 (0, 0)) ∧ w2.heap[w.heap.size]? = wq.heap[w.heap.size]? ∧ w2.heap[fb]? = wq.heap[fb]? ∧ w2.heap[b]? = wq.heap[b]?) := (show ∀ w2, _ from fun w2 ho => by
    have hg := HG.out
    have hkeep : ∀ k, w.heap.size ≤ k → k ≤ fb → w2.heap[k]? = wq.heap[k]? := fun k h1 h2 => ho.block k (by omega) (by omega) (fun e => by have := HV.out _ e; omega)
    exact ⟨(hkeep _ (by omega) (by omega)).trans I1.out.res, (hkeep _ (by omega) (by omega)).trans I1.out.flt, hkeep _ (by omega) (by omega), hkeep _ (by omega) (by omega), ho.block b (by have := (HBG.out).1; omega) HBG.out.2.1 HBG.out.2.2⟩)
  have HELD : Hid (∀ u : World, u.heap[w.heap.size]? = wq.heap[w.heap.size]? → u.heap[fb]? = wq.heap[fb]? → u.heap[b]? = wq.heap[b]? → u.cell? ⟨w.heap.size, 0, none⟩ = some (.slice (some ⟨b, o, none⟩) n1 c1) ∧ u.cell? ⟨w.heap.size, 1, none⟩ = some (.int .i64 fn) ∧ u.cell? ⟨w.heap.size, 2, none⟩ = some (.slice a2 n2 c2) ∧ u.cell? ⟨b, o + fn, none⟩ = some (.int .i64 x) ∧ u.cell? ⟨fb, 0, none⟩ = some (.int .i64 0) ∧ u.cell? ⟨fb, 1, none⟩ = some (.int .i64 (-1))) := (show ∀ u : World, _ from fun u e1 e2 e3 => by
    rw [World.cell?_of_block (w := wq) (a := ⟨w.heap.size, 0, none⟩) e1, World.cell?_of_block (w := wq) (a := ⟨w.heap.size, 1, none⟩) e1, World.cell?_of_block (w := wq) (a := ⟨w.heap.size, 2, none⟩) e1, World.cell?_of_block (w := wq) (a := ⟨b, o + fn, none⟩) e3, World.cell?_of_block (w := wq) (a := ⟨fb, 0, none⟩) e2, World.cell?_of_block (w := wq) (a := ⟨fb, 1, none⟩) e2]
    exact ⟨q0, q1, q2, hcl', y0', y1'⟩)
  clear he hxt hfl
  go_region_held (fun u => u.cell? ⟨w.heap.size, 0, none⟩ = some (.slice (some ⟨b, o, none⟩) n1 c1) ∧ u.cell? ⟨w.heap.size, 1, none⟩ = some (.int .i64 fn) ∧ u.cell? ⟨w.heap.size, 2, none⟩ = some (.slice a2 n2 c2) ∧ u.cell? ⟨b, o + fn, none⟩ = some (.int .i64 x) ∧ u.cell? ⟨fb, 0, none⟩ = some (.int .i64 0) ∧ u.cell? ⟨fb, 1, none⟩ = some (.int .i64 (-1))) ((refine HELD.out _ ?_ ?_ ?_ <;> first | with_reducible assumption | (simp only [drew_heap]; done) | (simp only [drew_heap]; with_reducible assumption) | (with_reducible refine (heap9 ?_ _ _ _ _ _ _ _ _ _).trans ?_; (show _ ≠ _; omega); with_reducible assumption) | (with_reducible refine (heap11 ?_ ?_ _ _ _ _ _ _ _ _ _ _ _).trans ?_; (show _ ≠ _; omega); (show _ ≠ _; omega); with_reducible assumption))) (first | (go_at_call 46; refine (rnext_raw _ g fn t s seq time x fn false (some ⟨b, o, none⟩) a2 n1 c1 n2 c2 v L ?hS hl h0 h1).mono ?_; (case hS => exact S1.out.moved ⟨rfl, rfl, rfl, Nat.le_refl _, fun _ _ => rfl⟩); rintro e w2 ⟨rfl, v2, hs2, ho2, hv2⟩; replace ho2 : OnlyS g v wq w2 := ⟨ho2.os, ho2.tape, ho2.output, ho2.size, ho2.block⟩; replace hv2 : v2.ownBlock = v.ownBlock ∨ ∃ b, v2.ownBlock = some b ∧ wq.heap.size ≤ b := hv2; obtain ⟨t1, t2, t3, t4, t5⟩ := FOUR.out w2 ho2; have RX := hid t1; have FX := hid t2; have S2 := hid hs2; have O2 := hid ho2; have V2 := hid hv2; have r0 := fun j => (show ∀ j, w2.frozen? ⟨w.heap.size + 1, j, none⟩ = false from fun j => free_of RX.out) j; have r1 := fun j => (show ∀ j, w2.frozen? ⟨w.heap.size + 1 + 1, j, none⟩ = false from fun j => free_of FX.out) j; have k0 : w2.cell? ⟨w.heap.size + 1, 0, none⟩ = some (.int .i64 0) := (cell_of RX.out).trans rfl; have k1 : w2.cell? ⟨w.heap.size + 1, 1, none⟩ = some (.int .i64 0) := (cell_of RX.out).trans rfl; have k2 : w2.cell? ⟨w.heap.size + 1, 2, none⟩ = some (.int .i64 0) := (cell_of RX.out).trans rfl; have k3 : w2.cell? ⟨w.heap.size + 1, 3, none⟩ = some (.int .i64 0) := (cell_of RX.out).trans rfl; have k4 : w2.cell? ⟨w.heap.size + 1, 4, none⟩ = some (.int .i64 0) := (cell_of RX.out).trans rfl; have k5 : w2.cell? ⟨w.heap.size + 1, 5, none⟩ = some (.bool false) := (cell_of RX.out).trans rfl; have k6 : w2.cell? ⟨w.heap.size + 1, 6, none⟩ = some (.slice none 0 0) := (cell_of RX.out).trans rfl; have k7 : w2.cell? ⟨w.heap.size + 1, 7, none⟩ = some (.int .i64 0) := (cell_of RX.out).trans rfl; have k8 : w2.cell? ⟨w.heap.size + 1, 8, none⟩ = some (.slice none 0 0) := (cell_of RX.out).trans rfl; have m0 : w2.cell? ⟨w.heap.size + 1 + 1, 0, none⟩ = some (.int .i64 0) := (cell_of FX.out).trans rfl; have m1 : w2.cell? ⟨w.heap.size + 1 + 1, 1, none⟩ = some (.int .i64 0) := (cell_of FX.out).trans rfl; clear hs2 ho2 hv2 t1 t2))
  obtain ⟨wz, hwz⟩ : ∃ wz, wz = (((((((((((w2.setCell ⟨w.heap.size + 1, 0, none⟩ (.int .i64 fn)).setCell ⟨w.heap.size + 1, 1, none⟩ (.int .i64 t)).setCell ⟨w.heap.size + 1, 2, none⟩ (.int .i64 s)).setCell ⟨w.heap.size + 1, 3, none⟩ (.int .i64 (seq + 1))).setCell ⟨w.heap.size + 1, 4, none⟩ (.int .i64 x)).setCell ⟨w.heap.size + 1, 5, none⟩ (.bool false)).setCell ⟨w.heap.size + 1, 6, none⟩ (.slice (some ⟨b, o, none⟩) n1 c1)).setCell ⟨w.heap.size + 1, 7, none⟩ (.int .i64 fn)).setCell ⟨w.heap.size + 1, 8, none⟩ (.slice a2 n2 c2)).setCell ⟨w.heap.size + 1 + 1, 0, none⟩ (.int .i64 0)).setCell ⟨w.heap.size + 1 + 1, 1, none⟩ (.int .i64 (-1))) := ⟨_, rfl⟩
  rw [← hwz]
  have FZ := hid (rc_fill2 RX.out FX.out _ _ _ _ _ _ _ _ _ _ _ hwz)
  have K1 := hid HG.out
  clear hwz k0 k1 k2 k3 k4 k5 k6 k7 k8 m0 m1 r0 r1
  go_wp2_with fail
  refine bodyPost_ret (ret_cell_cell (k := 9) (k2 := 2) Tryd.results20 Tryd.isAgg58 Tryd.sizeOf58 Tryd.isAgg60 Tryd.sizeOf60 _ _ (w.heap.size + 1) (w.heap.size + 1 + 1) [.int .i64 fn, .int .i64 t, .int .i64 s, .int .i64 (seq + 1), .int .i64 x, .bool false, .slice (some ⟨b, o, none⟩) n1 c1, .int .i64 fn, .slice a2 n2 c2] [.int .i64 0, .int .i64 (-1)] rfl rfl rfl rfl (cells_heap (t := 58) _ FZ.out.1) (cells_heap (t := 60) _ FZ.out.2.1)) rfl ⟨rfl, v2, ⟨?_, ?_⟩, ⟨?_, ?_, ?_, ?_, ?_⟩, ?_⟩
  · rw [FZ.out.2.2.2 g (by have := HG.out; omega) (by have := HG.out; omega)]; exact S2.out.box
  · refine owns_own S2.out.row fun k hk => ?_
    have h3 : k < w.heap.size ∨ wq.heap.size ≤ k := by
      rcases V2.out with h | ⟨b', h, hb'⟩
      · exact .inl (HV.out k (by rw [← h]; exact hk))
      · have h3 := Option.some.inj (hk.symm.trans h)
        exact .inr (by omega)
    exact FZ.out.2.2.2 k (by omega) (by omega)
  · exact FZ.out.2.2.1.os.trans (O2.out.os.trans I1.out.below.os)
  · exact FZ.out.2.2.1.tape.trans (O2.out.tape.trans I1.out.below.tape)
  · exact FZ.out.2.2.1.output.trans (O2.out.output.trans I1.out.below.output)
  · have h2 := FZ.out.2.2.1.size
    have h3 := O2.out.size
    omega
  · exact fun k hk hkg hkv => by rw [FZ.out.2.2.2 k (by omega) (by omega), O2.out.block k (by omega) hkg hkv]; exact I1.out.below.block k hk
  · rcases V2.out with h | ⟨b', h, hb'⟩
    · exact .inl h
    · exact .inr ⟨b', h, by omega⟩
end Go.Proofs.YtcojglkjbbgoaaaDoor
