/- Hear: a number that is too far ahead; what is new. -/
import Derived.Test.YtcojglkjbbgoaaaDoorJHT
import Derived.Test.YtcojglkjbbgoaaaDoorJHG
namespace Go.Proofs.YtcojglkjbbgoaaaDoor
open Go.RowKit Go.Maps
set_option maxRecDepth 100000

theorem wrap_64 {k : Int} (h : n64 k) : IntKind.i64.wrap k = k := by
  obtain ⟨h1, h2⟩ := h
  simp [IntKind.wrap, IntKind.bits, IntKind.signed]
  omega
set_option maxHeartbeats 2000000 in
theorem hear_full (w : World) (g mb n : Nat) (f t s seq time : Int) (M : Int → Option Raw) (r : Raw) (h : RcvM w g mb n f t s seq time M) (ev : Value) (hev : w.cell? ⟨3, 0, none⟩ = some ev) (hbe : bearsB f t s r = true) (hx : 1 ≤ r.x4) (ht : timeB r.x5 = true) (h64 : n64 r.x4) (hkn : ((M r.x4).isSome || decide (r.x4 ≤ seq)) = false) (h0 : 0 ≤ seq) (h1 : seq ≤ 1000) (hfar : 200 < r.x4 - (seq + 1)) : Calls Tryd.prog 11 #[.pointer (some ⟨g, 0, none⟩), .agg r.cells.toArray] w fun e w' => e = .returned (.tuple #[.slice none 0 0, ev]) ∧ Below w.heap.size w w' := by
  have BE := hid (fun u => bears_raw u f t s r)
  have c0 : ∀ u, Below w.heap.size w u → u.cell? ⟨g, 0, none⟩ = some (.int .i64 f) := fun u hu => (cell_of ((hu.block _ (lt_of_heap h.box)).trans h.box)).trans rfl
  have c1' : ∀ u, Below w.heap.size w u → u.cell? ⟨g, 1, none⟩ = some (.int .i64 t) := fun u hu => (cell_of ((hu.block _ (lt_of_heap h.box)).trans h.box)).trans rfl
  have c2' : ∀ u, Below w.heap.size w u → u.cell? ⟨g, 2, none⟩ = some (.int .i64 s) := fun u hu => (cell_of ((hu.block _ (lt_of_heap h.box)).trans h.box)).trans rfl
  have C3 : Hid (∀ u, Below w.heap.size w u → u.cell? ⟨g, 3, none⟩ = some (.int .i64 seq)) := (show ∀ u, Below w.heap.size w u → _ from fun u hu => (cell_of ((hu.block _ (lt_of_heap h.box)).trans h.box)).trans rfl)
  have KN := hid (fun u (hu : Below w.heap.size w u) => knows_raw u g mb n f t s seq time r.x4 M (h.below hu) h64)
  rw [hkn] at KN
  have HR := hid h
  have C0 := hid c0
  have C1 := hid c1'
  have C2 := hid c2'
  obtain ⟨x1, x2, x3, x4, x5, x6, a1, n1, c1, p, a2, n2, c2⟩ := r
  unfold Raw.cells at BE ⊢
  simp only at BE KN hx ht h64 hfar ⊢
  obtain ⟨wa, hwa⟩ : ∃ wa, wa = w.alloc (.cells #[.int .i64 x1, .int .i64 x2, .int .i64 x3, .int .i64 x4, .int .i64 x5, .bool x6, .slice a1 n1 c1, .int .i64 p, .slice a2 n2 c2] 37) := ⟨_, rfl⟩
  have hba : Below w.heap.size w wa := by rw [hwa]; exact below_alloc _ _
  clear h c0 c1' c2'
  rw [hbe] at BE
  clear hbe
  go_enter Tryd.func11, Tryd.ntmps11
  go_wp2_with fail
  rw [← hwa]
  have hX : wa.heap[w.heap.size]? = some (.cells #[.int .i64 x1, .int .i64 x2, .int .i64 x3, .int .i64 x4, .int .i64 x5, .bool x6, .slice a1 n1 c1, .int .i64 p, .slice a2 n2 c2] 37 (0, 0)) := by rw [hwa]; exact heap_new _ _
  have HELD : Hid (∀ u, Below wa.heap.size wa u → u.cell? ⟨g, 0, none⟩ = some (.int .i64 f) ∧ u.cell? ⟨g, 1, none⟩ = some (.int .i64 t) ∧ u.cell? ⟨g, 2, none⟩ = some (.int .i64 s) ∧ u.cell? ⟨w.heap.size, 0, none⟩ = some (.int .i64 x1) ∧ u.cell? ⟨w.heap.size, 1, none⟩ = some (.int .i64 x2) ∧ u.cell? ⟨w.heap.size, 2, none⟩ = some (.int .i64 x3) ∧ u.cell? ⟨w.heap.size, 3, none⟩ = some (.int .i64 x4) ∧ u.cell? ⟨w.heap.size, 4, none⟩ = some (.int .i64 x5) ∧ u.cell? ⟨w.heap.size, 5, none⟩ = some (.bool x6) ∧ u.cell? ⟨w.heap.size, 6, none⟩ = some (.slice a1 n1 c1) ∧ u.cell? ⟨w.heap.size, 7, none⟩ = some (.int .i64 p) ∧ u.cell? ⟨w.heap.size, 8, none⟩ = some (.slice a2 n2 c2)) := fun u hu => by
    have hq := (hu.block _ (lt_of_heap hX)).trans hX
    have hz : Below w.heap.size w u := hba.trans (hu.mono hba.size)
    exact ⟨C0.out u hz, C1.out u hz, C2.out u hz, (cell_of hq).trans rfl, (cell_of hq).trans rfl, (cell_of hq).trans rfl, (cell_of hq).trans rfl, (cell_of hq).trans rfl, (cell_of hq).trans rfl, (cell_of hq).trans rfl, (cell_of hq).trans rfl, (cell_of hq).trans rfl⟩
  have hdr : Below wa.heap.size wa wa.drew := (Below.refl _ _).drew
  have BA := hid hba
  have XA := hid hX
  clear hwa hX hba
  go_region_held (fun u => u.cell? ⟨g, 0, none⟩ = some (.int .i64 f) ∧ u.cell? ⟨g, 1, none⟩ = some (.int .i64 t) ∧ u.cell? ⟨g, 2, none⟩ = some (.int .i64 s) ∧ u.cell? ⟨w.heap.size, 0, none⟩ = some (.int .i64 x1) ∧ u.cell? ⟨w.heap.size, 1, none⟩ = some (.int .i64 x2) ∧ u.cell? ⟨w.heap.size, 2, none⟩ = some (.int .i64 x3) ∧ u.cell? ⟨w.heap.size, 3, none⟩ = some (.int .i64 x4) ∧ u.cell? ⟨w.heap.size, 4, none⟩ = some (.int .i64 x5) ∧ u.cell? ⟨w.heap.size, 5, none⟩ = some (.bool x6) ∧ u.cell? ⟨w.heap.size, 6, none⟩ = some (.slice a1 n1 c1) ∧ u.cell? ⟨w.heap.size, 7, none⟩ = some (.int .i64 p) ∧ u.cell? ⟨w.heap.size, 8, none⟩ = some (.slice a2 n2 c2)) ((refine HELD.out _ ?_; with_reducible assumption)) (first | (go_at_call 35; refine (BE.out _).mono ?_; rintro e w' ⟨rfl, hbw⟩; replace hbw : Below wa.heap.size wa w' := below_undrew hbw))
  obtain ⟨_, _, _, _, _, _, d3, d4, _, _, _, _⟩ := HELD.out _ hbw
  have B1 := hid hbw
  clear hbw hdr
  clear hkn
  have IT := hid (fun u => isTime_any x5 u)
  rw [ht] at IT
  have h1k : ¬ x4 < 1 := by omega
  clear ht
  go_wp2_with (first | (go_at_call 33; refine (IT.out _).mono ?_; rintro e w2 ⟨rfl, rfl⟩))
  have hb2 := BA.out.trans (B1.out.mono BA.out.size)
  refine (KN.out _ hb2).mono ?_
  rintro e w3 ⟨rfl, hb3⟩
  have B3 := hid (hb2.trans (hb3.mono hb2.size))
  have D3 : Hid (w3.cell? ⟨w.heap.size, 3, none⟩ = some (.int .i64 x4)) := (show _ = _ from by rw [hb3.cell (p := ⟨w.heap.size, 3, none⟩) (lt_of_cell d3)]; exact d3)
  have BB3 := hid (B1.out.trans (hb3.mono B1.out.size))
  clear hb2 hb3
  have c3 : w3.cell? ⟨g, 3, none⟩ = some (.int .i64 seq) := C3.out _ B3.out
  have d3' : w3.cell? ⟨w.heap.size, 3, none⟩ = some (.int .i64 x4) := D3.out
  have wr1 : IntKind.i64.wrap (seq + 1) = seq + 1 := wrap_num ⟨by omega, by omega⟩
  have wr2 : IntKind.i64.wrap (x4 - (seq + 1)) = x4 - (seq + 1) := wrap_64 ⟨by have := h64.2; omega, by have := h64.2; omega⟩
  have ge : w3.cell? ⟨3, 0, none⟩ = some ev := by rw [B3.out.cell (p := ⟨3, 0, none⟩) (lt_of_cell hev)]; exact hev
  have EV := hid hev
  have h64' := hid h64
  clear hev h64
  go_wp2_with fail
  go_region
  have ge' : w3.drew.cell? ⟨3, 0, none⟩ = some ev := ge
  go_wp2_with fail
  go_region
  go_wp2_with fail
  go_ret2
  exact ⟨rfl, B3.out.drew.drew⟩
/-- What Hear leaves where the message is new: c come; r' is the copy. -/
def HrNew (w : World) (g mb n : Nat) (f t s seq time k : Int) (M : Int → Option Raw) (m : MsgV) (e : Ending) (w' : World) : Prop := ∃ (v : Value) (c : Nat) (rs : Nat → Raw) (r' : Raw), e = .returned (.tuple #[v, .nilIface]) ∧ w'.ownsRow w.heap.size 37 9 v c (raws (comeR rs c)) ∧ RcvM w' g mb (n + 1) f t s (seq + c) (timeR time rs c) (comeV (updV M k (some r')) seq c) ∧ RawOwn w.heap.size w' r' m ∧ OnlyR g mb w w' ∧ (∀ i, i < c → updV M k (some r') (seq + (i + 1 : Nat)) = some (rs i)) ∧ updV M k (some r') (seq + (c + 1 : Nat)) = none
set_option maxHeartbeats 4000000 in
theorem hear_new_raw (w : World) (g mb n : Nat) (f t s seq time : Int) (M : Int → Option Raw) (r : Raw) (h : RcvM w g mb n f t s seq time M) (m : MsgV) (hat : RawAt w r m) (hL : Light m.c) (hgm : g ≠ mb) (hn : n ≤ 1000) (hbe : bearsB f t s r = true) (hx : 1 ≤ r.x4) (ht : timeB r.x5 = true) (h64 : n64 r.x4) (hkn : ((M r.x4).isSome || decide (r.x4 ≤ seq)) = false) (h0 : 0 ≤ seq) (h1 : seq ≤ 1000) (hne : r.x4 - (seq + 1) ≤ 200) (hcr : ∀ r' : Raw, r'.Nums m → ∃ (c : Nat) (rs : Nat → Raw), seq + c ≤ 1000 ∧ (∀ i, i < c → updV M r.x4 (some r') (seq + (i + 1 : Nat)) = some (rs i) ∧ (rs i).x4 = seq + (i + 1 : Nat)) ∧ updV M r.x4 (some r') (seq + (c + 1 : Nat)) = none) : Calls Tryd.prog 11 #[.pointer (some ⟨g, 0, none⟩), .agg r.cells.toArray] w (HrNew w g mb n f t s seq time r.x4 M m) := by
  have BE := hid (fun u => bears_raw u f t s r)
  have c0 : ∀ u, Below w.heap.size w u → u.cell? ⟨g, 0, none⟩ = some (.int .i64 f) := fun u hu => (cell_of ((hu.block _ (lt_of_heap h.box)).trans h.box)).trans rfl
  have c1' : ∀ u, Below w.heap.size w u → u.cell? ⟨g, 1, none⟩ = some (.int .i64 t) := fun u hu => (cell_of ((hu.block _ (lt_of_heap h.box)).trans h.box)).trans rfl
  have c2' : ∀ u, Below w.heap.size w u → u.cell? ⟨g, 2, none⟩ = some (.int .i64 s) := fun u hu => (cell_of ((hu.block _ (lt_of_heap h.box)).trans h.box)).trans rfl
  have C3 : Hid (∀ u, Below w.heap.size w u → u.cell? ⟨g, 3, none⟩ = some (.int .i64 seq)) := (show ∀ u, Below w.heap.size w u → _ from fun u hu => (cell_of ((hu.block _ (lt_of_heap h.box)).trans h.box)).trans rfl)
  have KN := hid (fun u (hu : Below w.heap.size w u) => knows_raw u g mb n f t s seq time r.x4 M (h.below hu) h64)
  rw [hkn] at KN
  have AT := hid hat
  have HL := hid hL
  have HCR := hid hcr
  clear hat hL hcr
  have HR := hid h
  have C0 := hid c0
  have C1 := hid c1'
  have C2 := hid c2'
  obtain ⟨x1, x2, x3, x4, x5, x6, a1, n1, c1, p, a2, n2, c2⟩ := r
  unfold Raw.cells at BE ⊢
  simp only at BE KN AT HCR hx ht h64 hne ⊢
  obtain ⟨wa, hwa⟩ : ∃ wa, wa = w.alloc (.cells #[.int .i64 x1, .int .i64 x2, .int .i64 x3, .int .i64 x4, .int .i64 x5, .bool x6, .slice a1 n1 c1, .int .i64 p, .slice a2 n2 c2] 37) := ⟨_, rfl⟩
  have hba : Below w.heap.size w wa := by rw [hwa]; exact below_alloc _ _
  clear h c0 c1' c2'
  rw [hbe] at BE
  clear hbe
  go_enter Tryd.func11, Tryd.ntmps11
  go_wp2_with fail
  rw [← hwa]
  have hX : wa.heap[w.heap.size]? = some (.cells #[.int .i64 x1, .int .i64 x2, .int .i64 x3, .int .i64 x4, .int .i64 x5, .bool x6, .slice a1 n1 c1, .int .i64 p, .slice a2 n2 c2] 37 (0, 0)) := by rw [hwa]; exact heap_new _ _
  have HELD : Hid (∀ u, Below wa.heap.size wa u → u.cell? ⟨g, 0, none⟩ = some (.int .i64 f) ∧ u.cell? ⟨g, 1, none⟩ = some (.int .i64 t) ∧ u.cell? ⟨g, 2, none⟩ = some (.int .i64 s) ∧ u.cell? ⟨w.heap.size, 0, none⟩ = some (.int .i64 x1) ∧ u.cell? ⟨w.heap.size, 1, none⟩ = some (.int .i64 x2) ∧ u.cell? ⟨w.heap.size, 2, none⟩ = some (.int .i64 x3) ∧ u.cell? ⟨w.heap.size, 3, none⟩ = some (.int .i64 x4) ∧ u.cell? ⟨w.heap.size, 4, none⟩ = some (.int .i64 x5) ∧ u.cell? ⟨w.heap.size, 5, none⟩ = some (.bool x6) ∧ u.cell? ⟨w.heap.size, 6, none⟩ = some (.slice a1 n1 c1) ∧ u.cell? ⟨w.heap.size, 7, none⟩ = some (.int .i64 p) ∧ u.cell? ⟨w.heap.size, 8, none⟩ = some (.slice a2 n2 c2)) := fun u hu => by
    have hq := (hu.block _ (lt_of_heap hX)).trans hX
    have hz : Below w.heap.size w u := hba.trans (hu.mono hba.size)
    exact ⟨C0.out u hz, C1.out u hz, C2.out u hz, (cell_of hq).trans rfl, (cell_of hq).trans rfl, (cell_of hq).trans rfl, (cell_of hq).trans rfl, (cell_of hq).trans rfl, (cell_of hq).trans rfl, (cell_of hq).trans rfl, (cell_of hq).trans rfl, (cell_of hq).trans rfl⟩
  have hdr : Below wa.heap.size wa wa.drew := (Below.refl _ _).drew
  have BA := hid hba
  have XA := hid hX
  clear hwa hX hba
  go_region_held (fun u => u.cell? ⟨g, 0, none⟩ = some (.int .i64 f) ∧ u.cell? ⟨g, 1, none⟩ = some (.int .i64 t) ∧ u.cell? ⟨g, 2, none⟩ = some (.int .i64 s) ∧ u.cell? ⟨w.heap.size, 0, none⟩ = some (.int .i64 x1) ∧ u.cell? ⟨w.heap.size, 1, none⟩ = some (.int .i64 x2) ∧ u.cell? ⟨w.heap.size, 2, none⟩ = some (.int .i64 x3) ∧ u.cell? ⟨w.heap.size, 3, none⟩ = some (.int .i64 x4) ∧ u.cell? ⟨w.heap.size, 4, none⟩ = some (.int .i64 x5) ∧ u.cell? ⟨w.heap.size, 5, none⟩ = some (.bool x6) ∧ u.cell? ⟨w.heap.size, 6, none⟩ = some (.slice a1 n1 c1) ∧ u.cell? ⟨w.heap.size, 7, none⟩ = some (.int .i64 p) ∧ u.cell? ⟨w.heap.size, 8, none⟩ = some (.slice a2 n2 c2)) ((refine HELD.out _ ?_; with_reducible assumption)) (first | (go_at_call 35; refine (BE.out _).mono ?_; rintro e w' ⟨rfl, hbw⟩; replace hbw : Below wa.heap.size wa w' := below_undrew hbw))
  obtain ⟨_, _, _, _, _, _, d3, d4, _, _, _, _⟩ := HELD.out _ hbw
  have B1 := hid hbw
  clear hbw hdr
  clear hkn
  have IT := hid (fun u => isTime_any x5 u)
  rw [ht] at IT
  have h1k : ¬ x4 < 1 := by omega
  clear ht
  go_wp2_with (first | (go_at_call 33; refine (IT.out _).mono ?_; rintro e w2 ⟨rfl, rfl⟩))
  have hb2 := BA.out.trans (B1.out.mono BA.out.size)
  refine (KN.out _ hb2).mono ?_
  rintro e w3 ⟨rfl, hb3⟩
  have B3 := hid (hb2.trans (hb3.mono hb2.size))
  have D3 : Hid (w3.cell? ⟨w.heap.size, 3, none⟩ = some (.int .i64 x4)) := (show _ = _ from by rw [hb3.cell (p := ⟨w.heap.size, 3, none⟩) (lt_of_cell d3)]; exact d3)
  have BB3 := hid (B1.out.trans (hb3.mono B1.out.size))
  clear hb2 hb3
  have c3 : w3.cell? ⟨g, 3, none⟩ = some (.int .i64 seq) := C3.out _ B3.out
  have d3' : w3.cell? ⟨w.heap.size, 3, none⟩ = some (.int .i64 x4) := D3.out
  have wr1 : IntKind.i64.wrap (seq + 1) = seq + 1 := wrap_num ⟨by omega, by omega⟩
  have wr2 : IntKind.i64.wrap (x4 - (seq + 1)) = x4 - (seq + 1) := wrap_64 ⟨by have := h64.2; omega, by have := h64.2; omega⟩
  have wr3 : ¬ 200 < x4 - (seq + 1) := by omega
  have H64 := hid h64
  clear h64
  go_wp2_with fail
  go_region
  generalize hw4 : World.drew _ = w4
  have B4 : Hid (Below w.heap.size w w4) := (show Below _ _ _ from by rw [← hw4]; exact B3.out.drew)
  have hX4 : w4.heap[w.heap.size]? = some (.cells #[.int .i64 x1, .int .i64 x2, .int .i64 x3, .int .i64 x4, .int .i64 x5, .bool x6, .slice a1 n1 c1, .int .i64 p, .slice a2 n2 c2] 37 (0, 0)) := by
    rw [← hw4]
    exact (BB3.out.block _ (lt_of_heap XA.out)).trans XA.out
  clear hw4 c3 d3'
  have hgl := lt_of_heap HR.out.box
  have hml : mb < w.heap.size := HR.out.mlt
  have hG4 := (B4.out.block _ hgl).trans HR.out.box
  have hsz4 := B4.out.size
  have hl4 := lt_of_heap hX4
  have HELD : Hid (∀ u : World, u.heap[g]? = w4.heap[g]? → u.heap[w.heap.size]? = w4.heap[w.heap.size]? → u.cell? ⟨g, 5, none⟩ = some (.map (some mb)) ∧ u.cell? ⟨w.heap.size, 0, none⟩ = some (.int .i64 x1) ∧ u.cell? ⟨w.heap.size, 1, none⟩ = some (.int .i64 x2) ∧ u.cell? ⟨w.heap.size, 2, none⟩ = some (.int .i64 x3) ∧ u.cell? ⟨w.heap.size, 3, none⟩ = some (.int .i64 x4) ∧ u.cell? ⟨w.heap.size, 4, none⟩ = some (.int .i64 x5) ∧ u.cell? ⟨w.heap.size, 5, none⟩ = some (.bool x6) ∧ u.cell? ⟨w.heap.size, 6, none⟩ = some (.slice a1 n1 c1) ∧ u.cell? ⟨w.heap.size, 7, none⟩ = some (.int .i64 p) ∧ u.cell? ⟨w.heap.size, 8, none⟩ = some (.slice a2 n2 c2)) := (show ∀ u : World, _ from fun u p1 p2 => by
    have hq := p2.trans hX4
    have hg := p1.trans hG4
    exact ⟨(cell_of hg).trans rfl, (cell_of hq).trans rfl, (cell_of hq).trans rfl, (cell_of hq).trans rfl, (cell_of hq).trans rfl, (cell_of hq).trans rfl, (cell_of hq).trans rfl, (cell_of hq).trans rfl, (cell_of hq).trans rfl, (cell_of hq).trans rfl⟩)
  have CB : Hid (∀ u, Below w4.heap.size w4 u → Calls Tryd.prog 37 #[.agg #[.int .i64 x1, .int .i64 x2, .int .i64 x3, .int .i64 x4, .int .i64 x5, .bool x6, .slice a1 n1 c1, .int .i64 p, .slice a2 n2 c2]] u fun e w' => ∃ y1 y2 y3 y4 y5 y6 b1 k1 e1 q b2 k2 e2, e = .returned (.agg #[.int .i64 y1, .int .i64 y2, .int .i64 y3, .int .i64 y4, .int .i64 y5, .bool y6, .slice b1 k1 e1, .int .i64 q, .slice b2 k2 e2]) ∧ Below w4.heap.size w4 w' ∧ Hid (RawOwn w.heap.size w' ⟨y1, y2, y3, y4, y5, y6, b1, k1, e1, q, b2, k2, e2⟩ m)) := (show ∀ u, _ → _ from fun u hu => by
    have hbu := B4.out.trans (hu.mono hsz4)
    refine (copy_raw u ⟨x1, x2, x3, x4, x5, x6, a1, n1, c1, p, a2, n2, c2⟩ m (AT.out.mono hbu (Nat.le_refl _)) HL.out).mono ?_
    rintro e w' ⟨⟨y1, y2, y3, y4, y5, y6, b1, k1, e1, q, b2, k2, e2⟩, rfl, ho, hb⟩
    exact ⟨y1, y2, y3, y4, y5, y6, b1, k1, e1, q, b2, k2, e2, rfl, hu.trans (hb.mono hu.size), ho.base hbu.size⟩)
  have ST : Hid (∀ (u : World) (y1 y2 y3 y4 y5 : Int) (y6 : Bool) (b1 : Option Addr) (k1 e1 : Nat) (q : Int) (b2 : Option Addr) (k2 e2 : Nat), Below w4.heap.size w4 u → ∃ w6, (Instr.mapUpdate 87 (.map (some mb)) (.int .i64 x4) (.agg #[.int .i64 y1, .int .i64 y2, .int .i64 y3, .int .i64 y4, .int .i64 y5, .bool y6, .slice b1 k1 e1, .int .i64 q, .slice b2 k2 e2])).run Tryd.prog u = .ok () w6 ∧ RcvM w6 g mb (n + 1) f t s seq time (updV M x4 (some ⟨y1, y2, y3, y4, y5, y6, b1, k1, e1, q, b2, k2, e2⟩)) ∧ OnlyR g mb w w6 ∧ w6.heap[g]? = w4.heap[g]? ∧ w6.heap[w.heap.size]? = w4.heap[w.heap.size]? ∧ u.heap.size ≤ w6.heap.size ∧ ∀ q, q < u.heap.size → q ≠ mb → w6.heap[q]? = u.heap[q]?) := (show ∀ u, _ from fun u y1 y2 y3 y4 y5 y6 b1 k1 e1 qq b2 k2 e2 hu => by
    have hbu := B4.out.trans (hu.mono hsz4)
    obtain ⟨D, hD, hMB⟩ := (HR.out.moved (hbu.block _ hgl) (hbu.block _ hml)).map
    obtain ⟨w6, r1, r2, r3⟩ := hD.store keyed3 Tryd.underlying87 (by unfold maxLen; omega) (key_64 H64.out) (val := .agg (Raw.cells ⟨y1, y2, y3, y4, y5, y6, b1, k1, e1, qq, b2, k2, e2⟩).toArray) (d := .held (.agg (Raw.cells ⟨y1, y2, y3, y4, y5, y6, b1, k1, e1, qq, b2, k2, e2⟩).toArray)) (ps := []) rfl
    have hgr := r3.grown
    have hus := hu.size
    have hbl : ∀ q, q < u.heap.size → q ≠ mb → w6.heap[q]? = u.heap[q]? := fun q q1 q2 => hgr.block q q1 fun he => q2 (Option.some.inj he)
    have e1 : w6.heap[g]? = w4.heap[g]? := (hbl g (by omega) hgm).trans (hu.block _ (by omega))
    refine ⟨w6, r1, ⟨e1.trans hG4, _, r2, hMB.put hD.isMap x4 _⟩, ⟨hgr.os.trans hbu.os, hgr.tape.trans hbu.tape, hgr.output.trans hbu.output, by have := hgr.size; have := hbu.size; omega, fun q q1 q2 q3 => (hbl q (by omega) q3).trans (hbu.block q q1)⟩, e1, (hbl _ (by omega) (by omega)).trans (hu.block _ hl4), hgr.size, hbl⟩)
  have hb0 : Below w4.heap.size w4 w4.drew := (Below.refl _ _).drew
  clear hX4 hG4 hsz4
  go_wp2_with fail
  go_region_held (fun u => u.cell? ⟨g, 5, none⟩ = some (.map (some mb)) ∧ u.cell? ⟨w.heap.size, 0, none⟩ = some (.int .i64 x1) ∧ u.cell? ⟨w.heap.size, 1, none⟩ = some (.int .i64 x2) ∧ u.cell? ⟨w.heap.size, 2, none⟩ = some (.int .i64 x3) ∧ u.cell? ⟨w.heap.size, 3, none⟩ = some (.int .i64 x4) ∧ u.cell? ⟨w.heap.size, 4, none⟩ = some (.int .i64 x5) ∧ u.cell? ⟨w.heap.size, 5, none⟩ = some (.bool x6) ∧ u.cell? ⟨w.heap.size, 6, none⟩ = some (.slice a1 n1 c1) ∧ u.cell? ⟨w.heap.size, 7, none⟩ = some (.int .i64 p) ∧ u.cell? ⟨w.heap.size, 8, none⟩ = some (.slice a2 n2 c2)) ((refine HELD.out _ ?_ ?_ <;> first | with_reducible assumption | rfl)) (first | (go_at_call 37; refine (CB.out _ (by with_reducible assumption)).mono ?_; rintro e w5 ⟨y1, y2, y3, y4, y5, y6, b1, k1, e1, q, b2, k2, e2, rfl, hb5, HOW⟩; obtain ⟨w6, hrun6, hrc6, hon6, s3, s4, hz6, hbl6⟩ := ST.out w5 y1 y2 y3 y4 y5 y6 b1 k1 e1 q b2 k2 e2 hb5; have s1 : w5.heap[g]? = w4.heap[g]? := hb5.block _ (show g < w4.heap.size by omega); have s2 : w5.heap[w.heap.size]? = w4.heap[w.heap.size]? := hb5.block _ hl4; have RC6 := hid hrc6; have ON6 := hid hon6; have OW6 : Hid (RawOwn w.heap.size w6 ⟨y1, y2, y3, y4, y5, y6, b1, k1, e1, q, b2, k2, e2⟩ m) := ⟨HOW.out.nums, HOW.out.own.at fun gg q1 q2 => hbl6 gg q2 (by omega)⟩; clear hrc6 hon6 hb5 HOW hbl6 hz6))
  clear hrun6 s1 s2 s3 s4
  obtain ⟨c, rs, hc1, hcM, hcz⟩ := HCR.out ⟨y1, y2, y3, y4, y5, y6, b1, k1, e1, q, b2, k2, e2⟩ OW6.out.nums
  have HCM := hid hcM
  have HCZ := hid hcz
  have CO := hid (come_raw w6 g mb (n + 1) c f t s seq time _ rs RC6.out hgm h0 hc1 hcM hcz)
  clear hc1 hcM hcz
  go_wp2_with fail
  refine CO.out.mono ?_
  rintro e w7 ⟨v7, rfl, hr7, hc7, ho7⟩
  have R7 := hid hr7
  have C7 := hid hc7
  have O7 := hid ho7
  clear hr7 hc7 ho7
  go_wp2
  go_ret2
  refine ⟨v7, c, rs, _, rfl, owns_base R7.out ON6.out.size, C7.out, ⟨OW6.out.nums, OW6.out.own.at fun gg q1 q2 => O7.out.block gg q2 (by omega) (by omega)⟩, ⟨O7.out.os.trans ON6.out.os, O7.out.tape.trans ON6.out.tape, O7.out.output.trans ON6.out.output, Nat.le_trans ON6.out.size O7.out.size, fun q q1 q2 q3 => (O7.out.block q (Nat.lt_of_lt_of_le q1 ON6.out.size) q2 q3).trans (ON6.out.block q q1 q2 q3)⟩, fun i hi => (HCM.out i hi).1, HCZ.out⟩
end Go.Proofs.YtcojglkjbbgoaaaDoor
