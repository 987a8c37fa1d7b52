/- Hear: a number that is too far ahead; what is new; A store stands while a block of another kind turns; newKnown; Worlds, rows, ops and commits in memory; The bytes of messages, and their reading: plain mathematics; What is read is what was written, and the other way around: plain mathematics; Words of bits as the model has them, as numbers; The reader's leaves by their contracts. -/
import Derived.Test.YtefpnojanldkeaaGreatDoorJHT
import Derived.Test.YtefpnojanldkeaaGreatDoorJTA
import Derived.Test.YtefpnojanldkeaaGreatDoorJHR
import Derived.Test.YtefpnojanldkeaaGreatDoorJVRefN
import Derived.Test.YtefpnojanldkeaaGreatDoorJWState
import Derived.Test.YtefpnojanldkeaaGreatDoorJTD
import Derived.Test.YtefpnojanldkeaaGreatDoorJSDel
import Derived.Test.YtefpnojanldkeaaGreatDoorJVOwnM
import Derived.Test.YtefpnojanldkeaaGreatDoorJVOp
import Derived.Test.YtefpnojanldkeaaGreatDoorJVVec
import Derived.Test.YtefpnojanldkeaaGreatDoorJVMap
import Derived.Test.YtefpnojanldkeaaGreatDoorJVOnceM
import Derived.Test.YtefpnojanldkeaaGreatDoorJVRow
import Derived.Test.YtefpnojanldkeaaGreatDoorJVStandM
import Derived.Test.YtefpnojanldkeaaGreatDoorJCA
import Derived.Test.YtefpnojanldkeaaGreatDoorJECode
import Derived.Test.YtefpnojanldkeaaGreatDoorJHF
import Derived.Test.YtefpnojanldkeaaGreatDoorJWPutN
import Derived.Test.YtefpnojanldkeaaGreatDoorJSCome
import Derived.Test.YtefpnojanldkeaaGreatDoorJHS
import Derived.Test.YtefpnojanldkeaaGreatDoorJTC2
import Derived.Test.YtefpnojanldkeaaGreatDoorJWMath
import Derived.Test.YtefpnojanldkeaaGreatDoorJWPut
import Derived.Test.YtefpnojanldkeaaGreatDoorProg
import Derived.WalkKit
import Derived.Deep.Draws
import Derived.Handy
import Derived.Deep.QuietTactic
import Derived.BigQuiet
import Derived.Laws.AppendOwnNone
import Derived.WalkLawsBesides
import Derived.WalkSpells
import Derived.Laws.IdiomStrings
namespace Go.Proofs.YtefpnojanldkeaaGreatDoor
open Go.RowKit Go.Maps
set_option maxRecDepth 100000
set_option linter.unusedSectionVars false
variable [Inhabited ComV] [DecidableEq D3] [Inhabited D3] [Inhabited Dd] [Inhabited Dn] [Inhabited OpV]

theorem wrap_64 {k : Int} (h : n64 k) : IntKind.i64.wrap k = k := by
  obtain ⟨h1, h2⟩ := h
  simp [IntKind.wrap, IntKind.bits, IntKind.signed]
  omega
set_option maxHeartbeats 2000000 in
theorem hear_full (w : World) (g mb n : Nat) (f t s seq time : Int) (M : Int → Option Raw) (r : Raw) (h : RcvM w g mb n f t s seq time M) (ev : Value) (hev : w.cell? ⟨5, 0, none⟩ = some ev) (hbe : bearsB f t s r = true) (hx : 1 ≤ r.x4) (ht : timeB r.x5 = true) (h64 : n64 r.x4) (hkn : ((M r.x4).isSome || decide (r.x4 ≤ seq)) = false) (h0 : 0 ≤ seq) (h1 : seq ≤ 1000) (hfar : 200 < r.x4 - (seq + 1)) : Calls Tryz.prog 35 #[.pointer (some ⟨g, 0, none⟩), .agg r.cells.toArray] w fun e w' => e = .returned (.tuple #[.slice none 0 0, ev]) ∧ Below w.heap.size w w' := by
  have BE := hid (fun u => bears_raw u f t s r)
  have c0 : ∀ u, Below w.heap.size w u → u.cell? ⟨g, 0, none⟩ = some (.int .i64 f) := fun u hu => (cell_of ((hu.block _ (lt_of_heap h.box)).trans h.box)).trans rfl
  have c1' : ∀ u, Below w.heap.size w u → u.cell? ⟨g, 1, none⟩ = some (.int .i64 t) := fun u hu => (cell_of ((hu.block _ (lt_of_heap h.box)).trans h.box)).trans rfl
  have c2' : ∀ u, Below w.heap.size w u → u.cell? ⟨g, 2, none⟩ = some (.int .i64 s) := fun u hu => (cell_of ((hu.block _ (lt_of_heap h.box)).trans h.box)).trans rfl
  have C3 : Hid (∀ u, Below w.heap.size w u → u.cell? ⟨g, 3, none⟩ = some (.int .i64 seq)) := (show ∀ u, Below w.heap.size w u → _ from fun u hu => (cell_of ((hu.block _ (lt_of_heap h.box)).trans h.box)).trans rfl)
  have KN := hid (fun u (hu : Below w.heap.size w u) => knows_raw u g mb n f t s seq time r.x4 M (h.below hu) h64)
  rw [hkn] at KN
  have HR := hid h
  have C0 := hid c0
  have C1 := hid c1'
  have C2 := hid c2'
  obtain ⟨x1, x2, x3, x4, x5, x6, a1, n1, c1, p, a2, n2, c2⟩ := r
  unfold Raw.cells at BE ⊢
  simp only at BE KN hx ht h64 hfar ⊢
  obtain ⟨wa, hwa⟩ : ∃ wa, wa = w.alloc (.cells #[.int .i64 x1, .int .i64 x2, .int .i64 x3, .int .i64 x4, .int .i64 x5, .bool x6, .slice a1 n1 c1, .int .i64 p, .slice a2 n2 c2] 44) := ⟨_, rfl⟩
  have hba : Below w.heap.size w wa := by rw [hwa]; exact below_alloc _ _
  clear h c0 c1' c2'
  rw [hbe] at BE
  clear hbe
  go_enter Tryz.func35, Tryz.ntmps35
  go_wp2_with fail
  rw [← hwa]
  have hX : wa.heap[w.heap.size]? = some (.cells #[.int .i64 x1, .int .i64 x2, .int .i64 x3, .int .i64 x4, .int .i64 x5, .bool x6, .slice a1 n1 c1, .int .i64 p, .slice a2 n2 c2] 44 (0, 0)) := by rw [hwa]; exact heap_new _ _
  have HELD : Hid (∀ u, Below wa.heap.size wa u → u.cell? ⟨g, 0, none⟩ = some (.int .i64 f) ∧ u.cell? ⟨g, 1, none⟩ = some (.int .i64 t) ∧ u.cell? ⟨g, 2, none⟩ = some (.int .i64 s) ∧ u.cell? ⟨w.heap.size, 0, none⟩ = some (.int .i64 x1) ∧ u.cell? ⟨w.heap.size, 1, none⟩ = some (.int .i64 x2) ∧ u.cell? ⟨w.heap.size, 2, none⟩ = some (.int .i64 x3) ∧ u.cell? ⟨w.heap.size, 3, none⟩ = some (.int .i64 x4) ∧ u.cell? ⟨w.heap.size, 4, none⟩ = some (.int .i64 x5) ∧ u.cell? ⟨w.heap.size, 5, none⟩ = some (.bool x6) ∧ u.cell? ⟨w.heap.size, 6, none⟩ = some (.slice a1 n1 c1) ∧ u.cell? ⟨w.heap.size, 7, none⟩ = some (.int .i64 p) ∧ u.cell? ⟨w.heap.size, 8, none⟩ = some (.slice a2 n2 c2)) := fun u hu => by
    have hq := (hu.block _ (lt_of_heap hX)).trans hX
    have hz : Below w.heap.size w u := hba.trans (hu.mono hba.size)
    exact ⟨C0.out u hz, C1.out u hz, C2.out u hz, (cell_of hq).trans rfl, (cell_of hq).trans rfl, (cell_of hq).trans rfl, (cell_of hq).trans rfl, (cell_of hq).trans rfl, (cell_of hq).trans rfl, (cell_of hq).trans rfl, (cell_of hq).trans rfl, (cell_of hq).trans rfl⟩
  have hdr : Below wa.heap.size wa wa.drew := (Below.refl _ _).drew
  have BA := hid hba
  have XA := hid hX
  clear hwa hX hba
  go_region_held (fun u => u.cell? ⟨g, 0, none⟩ = some (.int .i64 f) ∧ u.cell? ⟨g, 1, none⟩ = some (.int .i64 t) ∧ u.cell? ⟨g, 2, none⟩ = some (.int .i64 s) ∧ u.cell? ⟨w.heap.size, 0, none⟩ = some (.int .i64 x1) ∧ u.cell? ⟨w.heap.size, 1, none⟩ = some (.int .i64 x2) ∧ u.cell? ⟨w.heap.size, 2, none⟩ = some (.int .i64 x3) ∧ u.cell? ⟨w.heap.size, 3, none⟩ = some (.int .i64 x4) ∧ u.cell? ⟨w.heap.size, 4, none⟩ = some (.int .i64 x5) ∧ u.cell? ⟨w.heap.size, 5, none⟩ = some (.bool x6) ∧ u.cell? ⟨w.heap.size, 6, none⟩ = some (.slice a1 n1 c1) ∧ u.cell? ⟨w.heap.size, 7, none⟩ = some (.int .i64 p) ∧ u.cell? ⟨w.heap.size, 8, none⟩ = some (.slice a2 n2 c2)) ((refine HELD.out _ ?_; with_reducible assumption)) (first | (go_at_call 64; refine (BE.out _).mono ?_; rintro e w' ⟨rfl, hbw⟩; replace hbw : Below wa.heap.size wa w' := below_undrew hbw))
  obtain ⟨_, _, _, _, _, _, d3, d4, _, _, _, _⟩ := HELD.out _ hbw
  have B1 := hid hbw
  clear hbw hdr
  clear hkn
  have IT := hid (fun u => isTime_any x5 u)
  rw [ht] at IT
  have h1k : ¬ x4 < 1 := by omega
  clear ht
  go_wp2_with (first | (go_at_call 60; refine (IT.out _).mono ?_; rintro e w2 ⟨rfl, rfl⟩))
  have hb2 := BA.out.trans (B1.out.mono BA.out.size)
  refine (KN.out _ hb2).mono ?_
  rintro e w3 ⟨rfl, hb3⟩
  have B3 := hid (hb2.trans (hb3.mono hb2.size))
  have D3 : Hid (w3.cell? ⟨w.heap.size, 3, none⟩ = some (.int .i64 x4)) := (show _ = _ from by rw [hb3.cell (p := ⟨w.heap.size, 3, none⟩) (lt_of_cell d3)]; exact d3)
  have BB3 := hid (B1.out.trans (hb3.mono B1.out.size))
  clear hb2 hb3
  have c3 : w3.cell? ⟨g, 3, none⟩ = some (.int .i64 seq) := C3.out _ B3.out
  have d3' : w3.cell? ⟨w.heap.size, 3, none⟩ = some (.int .i64 x4) := D3.out
  have wr1 : IntKind.i64.wrap (seq + 1) = seq + 1 := wrap_num ⟨by omega, by omega⟩
  have wr2 : IntKind.i64.wrap (x4 - (seq + 1)) = x4 - (seq + 1) := wrap_64 ⟨by have := h64.2; omega, by have := h64.2; omega⟩
  have ge : w3.cell? ⟨5, 0, none⟩ = some ev := by rw [B3.out.cell (p := ⟨5, 0, none⟩) (lt_of_cell hev)]; exact hev
  have EV := hid hev
  have h64' := hid h64
  clear hev h64
  go_wp2_with fail
  go_region
  have ge' : w3.drew.cell? ⟨5, 0, none⟩ = some ev := ge
  go_wp2_with fail
  go_region
  go_wp2_with fail
  go_ret2
  exact ⟨rfl, B3.out.drew.drew⟩
/-- What Hear leaves where the message is new: c come; r' is the copy. -/
def HrNew (w : World) (g mb n : Nat) (f t s seq time k : Int) (M : Int → Option Raw) (m : MsgV) (e : Ending) (w' : World) : Prop := ∃ (v : Value) (c : Nat) (rs : Nat → Raw) (r' : Raw), e = .returned (.tuple #[v, .nilIface]) ∧ w'.ownsRow w.heap.size 44 9 v c (raws (comeR rs c)) ∧ RcvM w' g mb (n + 1) f t s (seq + c) (timeR time rs c) (comeV (updV M k (some r')) seq c) ∧ RawOwn w.heap.size w' r' m ∧ OnlyR g mb w w' ∧ (∀ i, i < c → updV M k (some r') (seq + (i + 1 : Nat)) = some (rs i)) ∧ updV M k (some r') (seq + (c + 1 : Nat)) = none
set_option maxHeartbeats 4000000 in
theorem hear_new_raw (w : World) (g mb n : Nat) (f t s seq time : Int) (M : Int → Option Raw) (r : Raw) (h : RcvM w g mb n f t s seq time M) (m : MsgV) (hat : RawAt w r m) (hL : Light m.c) (hgm : g ≠ mb) (hn : n ≤ 1000) (hbe : bearsB f t s r = true) (hx : 1 ≤ r.x4) (ht : timeB r.x5 = true) (h64 : n64 r.x4) (hkn : ((M r.x4).isSome || decide (r.x4 ≤ seq)) = false) (h0 : 0 ≤ seq) (h1 : seq ≤ 1000) (hne : r.x4 - (seq + 1) ≤ 200) (hcr : ∀ r' : Raw, r'.Nums m → ∃ (c : Nat) (rs : Nat → Raw), seq + c ≤ 1000 ∧ (∀ i, i < c → updV M r.x4 (some r') (seq + (i + 1 : Nat)) = some (rs i) ∧ (rs i).x4 = seq + (i + 1 : Nat)) ∧ updV M r.x4 (some r') (seq + (c + 1 : Nat)) = none) : Calls Tryz.prog 35 #[.pointer (some ⟨g, 0, none⟩), .agg r.cells.toArray] w (HrNew w g mb n f t s seq time r.x4 M m) := by
  have BE := hid (fun u => bears_raw u f t s r)
  have c0 : ∀ u, Below w.heap.size w u → u.cell? ⟨g, 0, none⟩ = some (.int .i64 f) := fun u hu => (cell_of ((hu.block _ (lt_of_heap h.box)).trans h.box)).trans rfl
  have c1' : ∀ u, Below w.heap.size w u → u.cell? ⟨g, 1, none⟩ = some (.int .i64 t) := fun u hu => (cell_of ((hu.block _ (lt_of_heap h.box)).trans h.box)).trans rfl
  have c2' : ∀ u, Below w.heap.size w u → u.cell? ⟨g, 2, none⟩ = some (.int .i64 s) := fun u hu => (cell_of ((hu.block _ (lt_of_heap h.box)).trans h.box)).trans rfl
  have C3 : Hid (∀ u, Below w.heap.size w u → u.cell? ⟨g, 3, none⟩ = some (.int .i64 seq)) := (show ∀ u, Below w.heap.size w u → _ from fun u hu => (cell_of ((hu.block _ (lt_of_heap h.box)).trans h.box)).trans rfl)
  have KN := hid (fun u (hu : Below w.heap.size w u) => knows_raw u g mb n f t s seq time r.x4 M (h.below hu) h64)
  rw [hkn] at KN
  have AT := hid hat
  have HL := hid hL
  have HCR := hid hcr
  clear hat hL hcr
  have HR := hid h
  have C0 := hid c0
  have C1 := hid c1'
  have C2 := hid c2'
  obtain ⟨x1, x2, x3, x4, x5, x6, a1, n1, c1, p, a2, n2, c2⟩ := r
  unfold Raw.cells at BE ⊢
  simp only at BE KN AT HCR hx ht h64 hne ⊢
  obtain ⟨wa, hwa⟩ : ∃ wa, wa = w.alloc (.cells #[.int .i64 x1, .int .i64 x2, .int .i64 x3, .int .i64 x4, .int .i64 x5, .bool x6, .slice a1 n1 c1, .int .i64 p, .slice a2 n2 c2] 44) := ⟨_, rfl⟩
  have hba : Below w.heap.size w wa := by rw [hwa]; exact below_alloc _ _
  clear h c0 c1' c2'
  rw [hbe] at BE
  clear hbe
  go_enter Tryz.func35, Tryz.ntmps35
  go_wp2_with fail
  rw [← hwa]
  have hX : wa.heap[w.heap.size]? = some (.cells #[.int .i64 x1, .int .i64 x2, .int .i64 x3, .int .i64 x4, .int .i64 x5, .bool x6, .slice a1 n1 c1, .int .i64 p, .slice a2 n2 c2] 44 (0, 0)) := by rw [hwa]; exact heap_new _ _
  have HELD : Hid (∀ u, Below wa.heap.size wa u → u.cell? ⟨g, 0, none⟩ = some (.int .i64 f) ∧ u.cell? ⟨g, 1, none⟩ = some (.int .i64 t) ∧ u.cell? ⟨g, 2, none⟩ = some (.int .i64 s) ∧ u.cell? ⟨w.heap.size, 0, none⟩ = some (.int .i64 x1) ∧ u.cell? ⟨w.heap.size, 1, none⟩ = some (.int .i64 x2) ∧ u.cell? ⟨w.heap.size, 2, none⟩ = some (.int .i64 x3) ∧ u.cell? ⟨w.heap.size, 3, none⟩ = some (.int .i64 x4) ∧ u.cell? ⟨w.heap.size, 4, none⟩ = some (.int .i64 x5) ∧ u.cell? ⟨w.heap.size, 5, none⟩ = some (.bool x6) ∧ u.cell? ⟨w.heap.size, 6, none⟩ = some (.slice a1 n1 c1) ∧ u.cell? ⟨w.heap.size, 7, none⟩ = some (.int .i64 p) ∧ u.cell? ⟨w.heap.size, 8, none⟩ = some (.slice a2 n2 c2)) := fun u hu => by
    have hq := (hu.block _ (lt_of_heap hX)).trans hX
    have hz : Below w.heap.size w u := hba.trans (hu.mono hba.size)
    exact ⟨C0.out u hz, C1.out u hz, C2.out u hz, (cell_of hq).trans rfl, (cell_of hq).trans rfl, (cell_of hq).trans rfl, (cell_of hq).trans rfl, (cell_of hq).trans rfl, (cell_of hq).trans rfl, (cell_of hq).trans rfl, (cell_of hq).trans rfl, (cell_of hq).trans rfl⟩
  have hdr : Below wa.heap.size wa wa.drew := (Below.refl _ _).drew
  have BA := hid hba
  have XA := hid hX
  clear hwa hX hba
  go_region_held (fun u => u.cell? ⟨g, 0, none⟩ = some (.int .i64 f) ∧ u.cell? ⟨g, 1, none⟩ = some (.int .i64 t) ∧ u.cell? ⟨g, 2, none⟩ = some (.int .i64 s) ∧ u.cell? ⟨w.heap.size, 0, none⟩ = some (.int .i64 x1) ∧ u.cell? ⟨w.heap.size, 1, none⟩ = some (.int .i64 x2) ∧ u.cell? ⟨w.heap.size, 2, none⟩ = some (.int .i64 x3) ∧ u.cell? ⟨w.heap.size, 3, none⟩ = some (.int .i64 x4) ∧ u.cell? ⟨w.heap.size, 4, none⟩ = some (.int .i64 x5) ∧ u.cell? ⟨w.heap.size, 5, none⟩ = some (.bool x6) ∧ u.cell? ⟨w.heap.size, 6, none⟩ = some (.slice a1 n1 c1) ∧ u.cell? ⟨w.heap.size, 7, none⟩ = some (.int .i64 p) ∧ u.cell? ⟨w.heap.size, 8, none⟩ = some (.slice a2 n2 c2)) ((refine HELD.out _ ?_; with_reducible assumption)) (first | (go_at_call 64; refine (BE.out _).mono ?_; rintro e w' ⟨rfl, hbw⟩; replace hbw : Below wa.heap.size wa w' := below_undrew hbw))
  obtain ⟨_, _, _, _, _, _, d3, d4, _, _, _, _⟩ := HELD.out _ hbw
  have B1 := hid hbw
  clear hbw hdr
  clear hkn
  have IT := hid (fun u => isTime_any x5 u)
  rw [ht] at IT
  have h1k : ¬ x4 < 1 := by omega
  clear ht
  go_wp2_with (first | (go_at_call 60; refine (IT.out _).mono ?_; rintro e w2 ⟨rfl, rfl⟩))
  have hb2 := BA.out.trans (B1.out.mono BA.out.size)
  refine (KN.out _ hb2).mono ?_
  rintro e w3 ⟨rfl, hb3⟩
  have B3 := hid (hb2.trans (hb3.mono hb2.size))
  have D3 : Hid (w3.cell? ⟨w.heap.size, 3, none⟩ = some (.int .i64 x4)) := (show _ = _ from by rw [hb3.cell (p := ⟨w.heap.size, 3, none⟩) (lt_of_cell d3)]; exact d3)
  have BB3 := hid (B1.out.trans (hb3.mono B1.out.size))
  clear hb2 hb3
  have c3 : w3.cell? ⟨g, 3, none⟩ = some (.int .i64 seq) := C3.out _ B3.out
  have d3' : w3.cell? ⟨w.heap.size, 3, none⟩ = some (.int .i64 x4) := D3.out
  have wr1 : IntKind.i64.wrap (seq + 1) = seq + 1 := wrap_num ⟨by omega, by omega⟩
  have wr2 : IntKind.i64.wrap (x4 - (seq + 1)) = x4 - (seq + 1) := wrap_64 ⟨by have := h64.2; omega, by have := h64.2; omega⟩
  have wr3 : ¬ 200 < x4 - (seq + 1) := by omega
  have H64 := hid h64
  clear h64
  go_wp2_with fail
  go_region
  generalize hw4 : World.drew _ = w4
  have B4 : Hid (Below w.heap.size w w4) := (show Below _ _ _ from by rw [← hw4]; exact B3.out.drew)
  have hX4 : w4.heap[w.heap.size]? = some (.cells #[.int .i64 x1, .int .i64 x2, .int .i64 x3, .int .i64 x4, .int .i64 x5, .bool x6, .slice a1 n1 c1, .int .i64 p, .slice a2 n2 c2] 44 (0, 0)) := by
    rw [← hw4]
    exact (BB3.out.block _ (lt_of_heap XA.out)).trans XA.out
  clear hw4 c3 d3'
  have hgl := lt_of_heap HR.out.box
  have hml : mb < w.heap.size := HR.out.mlt
  have hG4 := (B4.out.block _ hgl).trans HR.out.box
  have hsz4 := B4.out.size
  have hl4 := lt_of_heap hX4
  have HELD : Hid (∀ u : World, u.heap[g]? = w4.heap[g]? → u.heap[w.heap.size]? = w4.heap[w.heap.size]? → u.cell? ⟨g, 5, none⟩ = some (.map (some mb)) ∧ u.cell? ⟨w.heap.size, 0, none⟩ = some (.int .i64 x1) ∧ u.cell? ⟨w.heap.size, 1, none⟩ = some (.int .i64 x2) ∧ u.cell? ⟨w.heap.size, 2, none⟩ = some (.int .i64 x3) ∧ u.cell? ⟨w.heap.size, 3, none⟩ = some (.int .i64 x4) ∧ u.cell? ⟨w.heap.size, 4, none⟩ = some (.int .i64 x5) ∧ u.cell? ⟨w.heap.size, 5, none⟩ = some (.bool x6) ∧ u.cell? ⟨w.heap.size, 6, none⟩ = some (.slice a1 n1 c1) ∧ u.cell? ⟨w.heap.size, 7, none⟩ = some (.int .i64 p) ∧ u.cell? ⟨w.heap.size, 8, none⟩ = some (.slice a2 n2 c2)) := (show ∀ u : World, _ from fun u p1 p2 => by
    have hq := p2.trans hX4
    have hg := p1.trans hG4
    exact ⟨(cell_of hg).trans rfl, (cell_of hq).trans rfl, (cell_of hq).trans rfl, (cell_of hq).trans rfl, (cell_of hq).trans rfl, (cell_of hq).trans rfl, (cell_of hq).trans rfl, (cell_of hq).trans rfl, (cell_of hq).trans rfl, (cell_of hq).trans rfl⟩)
  have CB : Hid (∀ u, Below w4.heap.size w4 u → Calls Tryz.prog 66 #[.agg #[.int .i64 x1, .int .i64 x2, .int .i64 x3, .int .i64 x4, .int .i64 x5, .bool x6, .slice a1 n1 c1, .int .i64 p, .slice a2 n2 c2]] u fun e w' => ∃ y1 y2 y3 y4 y5 y6 b1 k1 e1 q b2 k2 e2, e = .returned (.agg #[.int .i64 y1, .int .i64 y2, .int .i64 y3, .int .i64 y4, .int .i64 y5, .bool y6, .slice b1 k1 e1, .int .i64 q, .slice b2 k2 e2]) ∧ Below w4.heap.size w4 w' ∧ Hid (RawOwn w.heap.size w' ⟨y1, y2, y3, y4, y5, y6, b1, k1, e1, q, b2, k2, e2⟩ m)) := (show ∀ u, _ → _ from fun u hu => by
    have hbu := B4.out.trans (hu.mono hsz4)
    refine (copy_raw u ⟨x1, x2, x3, x4, x5, x6, a1, n1, c1, p, a2, n2, c2⟩ m (AT.out.mono hbu (Nat.le_refl _)) HL.out).mono ?_
    rintro e w' ⟨⟨y1, y2, y3, y4, y5, y6, b1, k1, e1, q, b2, k2, e2⟩, rfl, ho, hb⟩
    exact ⟨y1, y2, y3, y4, y5, y6, b1, k1, e1, q, b2, k2, e2, rfl, hu.trans (hb.mono hu.size), ho.base hbu.size⟩)
  have ST : Hid (∀ (u : World) (y1 y2 y3 y4 y5 : Int) (y6 : Bool) (b1 : Option Addr) (k1 e1 : Nat) (q : Int) (b2 : Option Addr) (k2 e2 : Nat), Below w4.heap.size w4 u → ∃ w6, (Instr.mapUpdate 127 (.map (some mb)) (.int .i64 x4) (.agg #[.int .i64 y1, .int .i64 y2, .int .i64 y3, .int .i64 y4, .int .i64 y5, .bool y6, .slice b1 k1 e1, .int .i64 q, .slice b2 k2 e2])).run Tryz.prog u = .ok () w6 ∧ RcvM w6 g mb (n + 1) f t s seq time (updV M x4 (some ⟨y1, y2, y3, y4, y5, y6, b1, k1, e1, q, b2, k2, e2⟩)) ∧ OnlyR g mb w w6 ∧ w6.heap[g]? = w4.heap[g]? ∧ w6.heap[w.heap.size]? = w4.heap[w.heap.size]? ∧ u.heap.size ≤ w6.heap.size ∧ ∀ q, q < u.heap.size → q ≠ mb → w6.heap[q]? = u.heap[q]?) := (show ∀ u, _ from fun u y1 y2 y3 y4 y5 y6 b1 k1 e1 qq b2 k2 e2 hu => by
    have hbu := B4.out.trans (hu.mono hsz4)
    obtain ⟨D, hD, hMB⟩ := (HR.out.moved (hbu.block _ hgl) (hbu.block _ hml)).map
    obtain ⟨w6, r1, r2, r3⟩ := hD.store keyed3 Tryz.underlying127 (by unfold maxLen; omega) (key_64 H64.out) (val := .agg (Raw.cells ⟨y1, y2, y3, y4, y5, y6, b1, k1, e1, qq, b2, k2, e2⟩).toArray) (d := .held (.agg (Raw.cells ⟨y1, y2, y3, y4, y5, y6, b1, k1, e1, qq, b2, k2, e2⟩).toArray)) (ps := []) rfl
    have hgr := r3.grown
    have hus := hu.size
    have hbl : ∀ q, q < u.heap.size → q ≠ mb → w6.heap[q]? = u.heap[q]? := fun q q1 q2 => hgr.block q q1 fun he => q2 (Option.some.inj he)
    have e1 : w6.heap[g]? = w4.heap[g]? := (hbl g (by omega) hgm).trans (hu.block _ (by omega))
    refine ⟨w6, r1, ⟨e1.trans hG4, _, r2, hMB.put hD.isMap x4 _⟩, ⟨hgr.os.trans hbu.os, hgr.tape.trans hbu.tape, hgr.output.trans hbu.output, by have := hgr.size; have := hbu.size; omega, fun q q1 q2 q3 => (hbl q (by omega) q3).trans (hbu.block q q1)⟩, e1, (hbl _ (by omega) (by omega)).trans (hu.block _ hl4), hgr.size, hbl⟩)
  have hb0 : Below w4.heap.size w4 w4.drew := (Below.refl _ _).drew
  clear hX4 hG4 hsz4
  go_wp2_with fail
  go_region_held (fun u => u.cell? ⟨g, 5, none⟩ = some (.map (some mb)) ∧ u.cell? ⟨w.heap.size, 0, none⟩ = some (.int .i64 x1) ∧ u.cell? ⟨w.heap.size, 1, none⟩ = some (.int .i64 x2) ∧ u.cell? ⟨w.heap.size, 2, none⟩ = some (.int .i64 x3) ∧ u.cell? ⟨w.heap.size, 3, none⟩ = some (.int .i64 x4) ∧ u.cell? ⟨w.heap.size, 4, none⟩ = some (.int .i64 x5) ∧ u.cell? ⟨w.heap.size, 5, none⟩ = some (.bool x6) ∧ u.cell? ⟨w.heap.size, 6, none⟩ = some (.slice a1 n1 c1) ∧ u.cell? ⟨w.heap.size, 7, none⟩ = some (.int .i64 p) ∧ u.cell? ⟨w.heap.size, 8, none⟩ = some (.slice a2 n2 c2)) ((refine HELD.out _ ?_ ?_ <;> first | with_reducible assumption | rfl)) (first | (go_at_call 66; refine (CB.out _ (by with_reducible assumption)).mono ?_; rintro e w5 ⟨y1, y2, y3, y4, y5, y6, b1, k1, e1, q, b2, k2, e2, rfl, hb5, HOW⟩; obtain ⟨w6, hrun6, hrc6, hon6, s3, s4, hz6, hbl6⟩ := ST.out w5 y1 y2 y3 y4 y5 y6 b1 k1 e1 q b2 k2 e2 hb5; have s1 : w5.heap[g]? = w4.heap[g]? := hb5.block _ (show g < w4.heap.size by omega); have s2 : w5.heap[w.heap.size]? = w4.heap[w.heap.size]? := hb5.block _ hl4; have RC6 := hid hrc6; have ON6 := hid hon6; have OW6 : Hid (RawOwn w.heap.size w6 ⟨y1, y2, y3, y4, y5, y6, b1, k1, e1, q, b2, k2, e2⟩ m) := ⟨HOW.out.nums, HOW.out.own.at fun gg q1 q2 => hbl6 gg q2 (by omega)⟩; clear hrc6 hon6 hb5 HOW hbl6 hz6))
  clear hrun6 s1 s2 s3 s4
  obtain ⟨c, rs, hc1, hcM, hcz⟩ := HCR.out ⟨y1, y2, y3, y4, y5, y6, b1, k1, e1, q, b2, k2, e2⟩ OW6.out.nums
  have HCM := hid hcM
  have HCZ := hid hcz
  have CO := hid (come_raw w6 g mb (n + 1) c f t s seq time _ rs RC6.out hgm h0 hc1 hcM hcz)
  clear hc1 hcM hcz
  go_wp2_with fail
  refine CO.out.mono ?_
  rintro e w7 ⟨v7, rfl, hr7, hc7, ho7⟩
  have R7 := hid hr7
  have C7 := hid hc7
  have O7 := hid ho7
  clear hr7 hc7 ho7
  go_wp2
  go_ret2
  refine ⟨v7, c, rs, _, rfl, owns_base R7.out ON6.out.size, C7.out, ⟨OW6.out.nums, OW6.out.own.at fun gg q1 q2 => O7.out.block gg q2 (by omega) (by omega)⟩, ⟨O7.out.os.trans ON6.out.os, O7.out.tape.trans ON6.out.tape, O7.out.output.trans ON6.out.output, Nat.le_trans ON6.out.size O7.out.size, fun q q1 q2 q3 => (O7.out.block q (Nat.lt_of_lt_of_le q1 ON6.out.size) q2 q3).trans (ON6.out.block q q1 q2 q3)⟩, fun i hi => (HCM.out i hi).1, HCZ.out⟩
end Go.Proofs.YtefpnojanldkeaaGreatDoor
namespace Go.Proofs.YtefpnojanldkeaaGreatDoor
open Go.RowKit Go.Maps
set_option maxRecDepth 100000
set_option linter.unusedSectionVars false
variable [Inhabited ComV] [DecidableEq D3] [Inhabited D3] [Inhabited Dd] [Inhabited Dn] [Inhabited OpV]

theorem own_keep {w w' : World} {base e size n : Nat} {v : Value} {xs : List Value} (h : w.ownsRow base e size v n xs) (hk : ∀ b, v.ownBlock = some b → w'.heap[b]? = w.heap[b]?) : w'.ownsRow base e size v n xs := by
  obtain ⟨h1, h2⟩ := h
  refine ⟨h1, ?_⟩
  rcases h2 with h2 | ⟨b, cap, cur, hv, hg, hh, r⟩
  · exact .inl h2
  · exact .inr ⟨b, cap, cur, hv, hg, by rw [hk b (by rw [hv]; rfl)]; exact hh, r⟩
/-- Only block g, of the type T, turns: the store stands. -/
theorem VerAt.off {w w' : World} {p mb db n : Nat} {f : ByteArray → Value} {s : St} (h : VerAt w p mb db f s n) {g : Nat} {cs : Array Value} {T : TypeId} (hg : w.heap[g]? = some (.cells cs T (0, 0))) (h1 : T ≠ 109) (h2 : T ≠ 36) (h3 : T ≠ 3) (h4 : T ≠ 34) (h5 : T ≠ 90) (ho : ∀ q, q ≠ g → w'.heap[q]? = w.heap[q]?) : VerAt w' p mb db f s n := by
  have hne : ∀ (b : Nat) (ds : Array Value) (t : TypeId), t ≠ T → w.heap[b]? = some (.cells ds t (0, 0)) → w'.heap[b]? = w.heap[b]? := fun b ds t ht hb => ho b fun e => by
    rw [e, hg] at hb
    injection hb with hb
    injection hb with _ hb
    exact ht hb.symm
  have hk : Keep3 w w' := ⟨fun b ds hb => hne b ds _ (Ne.symm h3) hb, fun b ds hb => hne b ds _ (Ne.symm h4) hb, fun b ds hb => hne b ds _ (Ne.symm h5) hb⟩
  have keepm : ∀ {kt b nn R} {D : DataW Unit}, w.ownsMap Tryz.prog kt R b nn D → w'.ownsMap Tryz.prog kt R b nn D := fun {kt b nn R D} hD => by
    obtain ⟨es, clock, hb, F, hs, hD⟩ := hD
    exact ⟨es, clock, (ho b fun e => by rw [e, hg] at hb; cases hb).trans hb, F, hs, hD⟩
  refine ⟨?_, ?_, ?_, fun k => ?_, h.apart, h.ne⟩
  · obtain ⟨bv, q1, q2⟩ := h.box
    exact ⟨bv, (hne _ _ _ (Ne.symm h1) q1).trans q1, intsT_keep q2 hk⟩
  · obtain ⟨D, q1, q2⟩ := h.dots
    exact ⟨D, keepm q1, q2⟩
  · obtain ⟨D, q1, q2⟩ := h.map
    exact ⟨D, keepm q1, q2⟩
  · obtain ⟨rs, q1, q2⟩ := h.rows k
    refine ⟨rs, own_keep q1 fun b hb => ?_, f2_keep q2 hk⟩
    obtain ⟨ds, hcs⟩ := own_type q1 hb
    exact hne b ds _ (Ne.symm h2) hcs
set_option maxHeartbeats 1000000 in
theorem known_ok (w : World) (n : Nat) (h1 : 1 ≤ n) (h6 : n ≤ 6) : Calls Tryz.prog 23 #[.int .i64 n] w fun e w' => ∃ p mb db, e = .returned (.tuple #[.agg #[.pointer (some ⟨p, 0, none⟩)], .nilIface]) ∧ w.heap.size ≤ p ∧ w.heap.size ≤ mb ∧ w.heap.size ≤ db ∧ VerAt w' p mb db (fun _ => .slice none 0 0) ⟨List.replicate n 0, [], []⟩ 0 ∧ Below w.heap.size w w' := by
  obtain ⟨w1, hw1⟩ : ∃ w1, w1 = w.alloc (.cells #[.pointer none] 63) := ⟨_, rfl⟩
  have G1 : w1.heap[w.heap.size]? = some (.cells #[.pointer none] 63 (0, 0)) := by rw [hw1]; exact heap_new _ _
  have s1 : w1.heap.size = w.heap.size + 1 := by rw [hw1]; simp
  have b1 : Below w.heap.size w w1 := by rw [hw1]; exact below_alloc _ _
  have HG1 := hid G1
  have S1 := hid s1
  have B1 := hid b1
  clear G1 s1 b1
  go_enter Tryz.func23, Tryz.ntmps23
  go_wp2_with fail
  rw [← hw1]
  clear hw1
  refine (new_ok w1 n h1 h6).mono ?_
  rintro e w2 ⟨p, mb, db, rfl, hp, hm, hd, hV, hb2⟩
  have G2 : w2.heap[w.heap.size]? = _ := (hb2.block _ (by have := S1.out; omega)).trans HG1.out
  have q0 : w2.cell? ⟨w.heap.size, 0, none⟩ = some (.pointer none) := (cell_of G2).trans rfl
  have z0 : w2.frozen? ⟨w.heap.size, 0, none⟩ = false := free_of G2
  obtain ⟨w3, hw3⟩ : ∃ w3, w3 = w2.setCell ⟨w.heap.size, 0, none⟩ (.pointer (some ⟨p, 0, none⟩)) := ⟨_, rfl⟩
  have G3 : Hid (w3.heap[w.heap.size]? = some (.cells #[.pointer (some ⟨p, 0, none⟩)] 63 (0, 0))) := (show _ = _ from by rw [hw3]; exact (heap_set G2 _).trans rfl)
  have V3 : Hid (VerAt w3 p mb db (fun _ => .slice none 0 0) ⟨List.replicate n 0, [], []⟩ 0) := (show VerAt _ _ _ _ _ _ _ from hV.off G2 (by decide) (by decide) (by decide) (by decide) (by decide) fun q hq => by rw [hw3]; exact Below.heap_setCell _ _ _ _ hq)
  have B3 : Hid (Below w.heap.size w w3) := (show Below _ _ _ from by rw [hw3]; exact (B1.out.trans (hb2.mono (by have := S1.out; omega))).setCell (Nat.le_refl _) _)
  have HP : Hid (w.heap.size ≤ p ∧ w.heap.size ≤ mb ∧ w.heap.size ≤ db) := (show _ ∧ _ from by have := S1.out; omega)
  clear G2 hV hb2 hp hm hd
  go_wp2_with fail
  rw [← hw3]
  clear hw3
  refine bodyPost_ret (ret_cell_tmp (k := 1) Tryz.results23 Tryz.isAgg63 Tryz.sizeOf63 _ _ w.heap.size [.pointer (some ⟨p, 0, none⟩)] .nilIface rfl rfl rfl (cells_heap (t := 63) _ G3.out)) rfl ⟨p, mb, db, rfl, HP.out.1, HP.out.2.1, HP.out.2.2, V3.out, B3.out⟩
end Go.Proofs.YtefpnojanldkeaaGreatDoor
namespace Go.Proofs.YtefpnojanldkeaaGreatDoor
open Go.RowKit
set_option linter.unusedSectionVars false
variable [Inhabited ComV] [DecidableEq D3] [Inhabited D3] [Inhabited Dd] [Inhabited Dn] [Inhabited OpV]

/-- The shape of a slice of ops, and its op j. -/
theorem OpsAt.shapeX {w : World} {v : Value} {os : List OpV} (h : OpsAt w v os) : ∃ ad cap, v = .slice ad os.length cap ∧ (ad = none → cap = 0) ∧ os.length ≤ cap ∧
    (os = [] ∨ ∃ b off, ad = some ⟨b, off, none⟩ ∧ ∀ j o, os[j]? = some o → ∃ dp dc, DotsAt w (.slice dp o.dots.length dc) o.dots ∧
      w.cell? ⟨b, off + j * 7, none⟩ = some (.int .i64 o.at_) ∧ w.cell? ⟨b, off + j * 7 + 1, none⟩ = some (.string o.key) ∧ w.cell? ⟨b, off + j * 7 + 2, none⟩ = some (.int .i64 o.kind) ∧ w.cell? ⟨b, off + j * 7 + 3, none⟩ = some (.string o.text) ∧
      w.cell? ⟨b, off + j * 7 + 4, none⟩ = some (.int .i64 o.n) ∧ w.cell? ⟨b, off + j * 7 + 5, none⟩ = some (.bool o.rem) ∧ w.cell? ⟨b, off + j * 7 + 6, none⟩ = some (.slice dp o.dots.length dc)) := by
  obtain ⟨rows, ⟨ad, cap, rfl, h1, h2, h3⟩, hf⟩ := h
  have hl := f2_len hf
  refine ⟨ad, cap, by rw [hl], h1, by omega, ?_⟩
  rcases h3 with rfl | ⟨b, off, rfl, h3⟩
  · exact .inl (List.eq_nil_of_length_eq_zero hl.symm)
  · refine .inr ⟨b, off, rfl, fun j o hj => ?_⟩
    obtain ⟨r, hr, dv, rfl, hd⟩ := f2_get hf j o hj
    obtain ⟨dp, dc, rfl⟩ := hd.len
    have hc := (h3 j _ hr).2
    exact ⟨dp, dc, hd, hc 0 _ rfl, hc 1 _ rfl, hc 2 _ rfl, hc 3 _ rfl, hc 4 _ rfl, hc 5 _ rfl, hc 6 _ rfl⟩
end Go.Proofs.YtefpnojanldkeaaGreatDoor
namespace Go.Proofs.YtefpnojanldkeaaGreatDoor
set_option maxRecDepth 100000
set_option linter.unusedSectionVars false
variable [Inhabited ComV] [DecidableEq D3] [Inhabited D3] [Inhabited Dd] [Inhabited Dn] [Inhabited OpV]

/-- The whole number of eight bytes, as Go's int has it. -/
def i64 (n : Int) : Int := (n + 9223372036854775808) % 18446744073709551616 - 9223372036854775808
def In64 (n : Int) : Prop := -9223372036854775808 ≤ n ∧ n < 9223372036854775808
theorem i64_of {n : Int} (h : In64 n) : i64 n = n := by unfold In64 at h; unfold i64; omega
/-- A reading: what was read, and what is left. -/
abbrev Pa (α : Type) := List UInt8 → Option (α × List UInt8)
/-! ### what is read is what was written -/
end Go.Proofs.YtefpnojanldkeaaGreatDoor
namespace Go.Proofs.YtefpnojanldkeaaGreatDoor
set_option linter.unusedSectionVars false
variable [Inhabited ComV] [DecidableEq D3] [Inhabited D3] [Inhabited Dd] [Inhabited Dn] [Inhabited OpV]

/-! ### and the other way around -/
theorem step {α β : Type} {p : Pa α} {l : List UInt8} {x : α} {r : List UInt8} {f : α × List UInt8 → Option β} (h : p l = some (x, r)) : (p l).bind f = f (x, r) := by rw [h]; rfl
end Go.Proofs.YtefpnojanldkeaaGreatDoor
namespace Go.Proofs.YtefpnojanldkeaaGreatDoor
open Go.RowKit
set_option linter.unusedSectionVars false
variable [Inhabited ComV] [DecidableEq D3] [Inhabited D3] [Inhabited Dd] [Inhabited Dn] [Inhabited OpV]

theorem wr_u32 (n : Int) : IntKind.u32.wrap n = n % 4294967296 := by simp [IntKind.wrap, IntKind.bits, IntKind.signed]
theorem wr_i64 (n : Int) : IntKind.i64.wrap n = i64 n := by
  unfold i64
  simp [IntKind.wrap, IntKind.bits, IntKind.signed]
  split <;> omega
theorem bv64 (n : Int) : (BitVec.ofInt 64 n).toNat = (n % 18446744073709551616).toNat := by rw [BitVec.toNat_ofInt]; rfl
theorem bv32 (n : Int) : (BitVec.ofInt 32 n).toNat = (n % 4294967296).toNat := by rw [BitVec.toNat_ofInt]; rfl
theorem xor_u32 (a b : Nat) (ha : a < 4294967296) (hb : b < 4294967296) : bits .xor .u32 (a : Int) (b : Int) = ((a ^^^ b : Nat) : Int) := by
  have hx : a ^^^ b < 2 ^ 32 := Nat.xor_lt_two_pow (by omega) (by omega)
  show IntKind.u32.wrap ((BitVec.ofInt 32 (a : Int) ^^^ BitVec.ofInt 32 (b : Int)).toNat : Int) = _
  rw [BitVec.toNat_xor, bv32, bv32, wr_u32, show ((a : Int) % 4294967296).toNat = a by omega, show ((b : Int) % 4294967296).toNat = b by omega]
  omega
theorem xor_i64 (a b : Nat) (ha : a < 4294967296) (hb : b < 4294967296) : bits .xor .i64 (a : Int) (b : Int) = ((a ^^^ b : Nat) : Int) := by
  have hx : a ^^^ b < 2 ^ 32 := Nat.xor_lt_two_pow (by omega) (by omega)
  show IntKind.i64.wrap ((BitVec.ofInt 64 (a : Int) ^^^ BitVec.ofInt 64 (b : Int)).toNat : Int) = _
  rw [BitVec.toNat_xor, bv64, bv64, wr_i64, show ((a : Int) % 18446744073709551616).toNat = a by omega, show ((b : Int) % 18446744073709551616).toNat = b by omega]
  unfold i64
  omega
theorem and_u32 (a : Nat) (ha : a < 4294967296) : bits .and .u32 (a : Int) 1 = ((a % 2 : Nat) : Int) := by
  show IntKind.u32.wrap ((BitVec.ofInt 32 (a : Int) &&& BitVec.ofInt 32 1).toNat : Int) = _
  rw [BitVec.toNat_and, bv32, bv32, wr_u32, show ((a : Int) % 4294967296).toNat = a by omega, show ((1 : Int) % 4294967296).toNat = 1 by decide, Nat.and_one_is_mod]
  omega
/-! ### the sum of a text -/
def crcStep (x : Nat) : Nat := if x % 2 = 1 then (x / 2) ^^^ 3988292384 else x / 2
def crcSteps : Nat → Nat → Nat
  | 0, x => x
  | k + 1, x => crcStep (crcSteps k x)
def crcByte (x : Nat) (c : UInt8) : Nat := crcSteps 8 (x ^^^ c.toNat)
def crcOf (l : List UInt8) : Nat := l.foldl crcByte 4294967295
def sumNX (l : List UInt8) : Nat := crcOf l ^^^ 4294967295
theorem crcStep_lt {x : Nat} (h : x < 4294967296) : crcStep x < 4294967296 := by
  unfold crcStep
  split
  · exact Nat.xor_lt_two_pow (n := 32) (by omega) (by decide)
  · omega
theorem crcSteps_lt {x : Nat} (h : x < 4294967296) : ∀ k, crcSteps k x < 4294967296
  | 0 => h
  | k + 1 => crcStep_lt (crcSteps_lt h k)
theorem crcByte_lt {x : Nat} (h : x < 4294967296) (c : UInt8) : crcByte x c < 4294967296 := crcSteps_lt (Nat.xor_lt_two_pow (n := 32) h (by have := c.toNat_lt; omega)) 8
theorem crc_lt : ∀ (l : List UInt8) (x : Nat), x < 4294967296 → l.foldl crcByte x < 4294967296
  | [], _, h => h
  | c :: l, _, h => crc_lt l _ (crcByte_lt h c)
theorem crcOf_lt (l : List UInt8) : crcOf l < 4294967296 := crc_lt l _ (by decide)
/-- The reference's way: bit by bit. -/
def refStep (c : UInt8) (k x : Nat) : Nat := if (x ^^^ (c.toNat >>> k)) % 2 = 1 then (x / 2) ^^^ 3988292384 else x / 2
def refSteps (c : UInt8) : Nat → Nat → Nat
  | 0, x => x
  | k + 1, x => refStep c k (refSteps c k x)
theorem xor_half (a b : Nat) : (a ^^^ b) / 2 = a / 2 ^^^ b / 2 := by
  have := Nat.shiftRight_xor_distrib (a := a) (b := b) (i := 1)
  simpa [Nat.shiftRight_eq_div_pow] using this
theorem ref_same (c : UInt8) (x : Nat) : ∀ k, crcSteps k (x ^^^ c.toNat) = refSteps c k x ^^^ (c.toNat >>> k)
  | 0 => rfl
  | k + 1 => by
    show crcStep _ = refStep c k _ ^^^ _
    rw [ref_same c x k]
    unfold crcStep refStep
    rw [xor_half, show c.toNat >>> k / 2 = c.toNat >>> (k + 1) from rfl]
    split
    · rw [Nat.xor_assoc, Nat.xor_assoc, Nat.xor_comm 3988292384]
    · rfl
theorem refByte (c : UInt8) (x : Nat) : refSteps c 8 x = crcByte x c := by
  unfold crcByte
  rw [ref_same]
  have : c.toNat >>> 8 = 0 := by rw [Nat.shiftRight_eq_div_pow]; have := c.toNat_lt; omega
  rw [this, Nat.xor_zero]
end Go.Proofs.YtefpnojanldkeaaGreatDoor
namespace Go.Proofs.YtefpnojanldkeaaGreatDoor
open Go.RowKit
set_option maxRecDepth 100000
set_option linter.unusedSectionVars false
variable [Inhabited ComV] [DecidableEq D3] [Inhabited D3] [Inhabited Dd] [Inhabited Dn] [Inhabited OpV]

theorem wrap64_eq (n : Int) : wrap64 n = i64 n := by unfold wrap64 i64; rfl
end Go.Proofs.YtefpnojanldkeaaGreatDoor
