/- Hear: a number that is too far ahead; what is new; gather: what each line tells, by place, then by shard. -/
import Derived.Test.YtepnghacjggkkaaGreatDoorGHS
import Derived.Test.YtepnghacjggkkaaGreatDoorGWPutN
import Derived.BigQuiet
import Derived.Deep.Cut
import Derived.Deep.Draws
import Derived.Deep.Fields
import Derived.Deep.QuietTactic
import Derived.Deep.RegionHeld
import Derived.Deep.RegionLaw
import Derived.Deep.Slices
import Derived.Handy
import Derived.LaidEql
import Derived.LaidHandle
import Derived.LaidLaws
import Derived.LaidSub
import Derived.Laws.AppendOwnNone
import Derived.Laws.ResultCell
import Derived.Maps.AppendAt
import Derived.Maps.OwnSet
import Derived.OpenShut
import Derived.ProofKit
import Derived.RowKitTokens
import Derived.Shelf.SlIter.Nil
import Derived.Shelf.SlicesQ.IndexFunc
import Derived.Sort.Grow
import Derived.Sort.KeysCollected
import Derived.StillTailTactics
import Derived.Stop.Asserts
import Derived.Test.YtepnghacjggkkaaGreatDoorProg
import Derived.Test.YtepnghacjggkkaaGreatDoorRows
import Derived.WalkKit
import Derived.Test.YtepnghacjggkkaaGreatDoorGWState
import Derived.Test.YtepnghacjggkkaaGreatDoorGHF
import Derived.Test.YtepnghacjggkkaaGreatDoorGWPart
import Derived.Deep.CutBlock
import Derived.Deep.DeepCutAuto
import Derived.Deep.RegionHeldLaw
import Derived.Deep.RegionWith
import Derived.Laws.IdiomStrings
import Derived.Maps.RangeWalk
import Derived.WalkLawsBesides
import Derived.WalkSpells
namespace Go.Proofs.YtepnghacjggkkaaGreatDoor
open Go.RowKit Go.Maps
set_option maxRecDepth 100000
set_option linter.unusedSectionVars false
variable [Inhabited ComV] [DecidableEq D3] [Inhabited D3] [Inhabited Dd] [Inhabited Dn] [Inhabited OpV]

theorem wrap_64 {k : Int} (h : n64 k) : IntKind.i64.wrap k = k := by
  obtain ⟨h1, h2⟩ := h
  simp [IntKind.wrap, IntKind.bits, IntKind.signed]
  omega
def HrNew (w : World) (g mb n : Nat) (f t s seq time k : Int) (M : Int → Option Raw) (m : MsgV) (e : Ending) (w' : World) : Prop := ∃ (v : Value) (c : Nat) (rs : Nat → Raw) (r' : Raw), e = .returned (.tuple #[v, .nilIface]) ∧ w'.ownsRow w.heap.size 74 9 v c (raws (comeR rs c)) ∧ RcvM w' g mb (n + 1) f t s (seq + c) (timeR time rs c) (comeV (updV M k (some r')) seq c) ∧ RawOwn w.heap.size w' r' m ∧ OnlyR g mb w w' ∧ (∀ i, i < c → updV M k (some r') (seq + (i + 1 : Nat)) = some (rs i)) ∧ updV M k (some r') (seq + (c + 1 : Nat)) = none
set_option maxHeartbeats 4000000 in
theorem hear_new_raw (w : World) (g mb n : Nat) (f t s seq time : Int) (M : Int → Option Raw) (r : Raw) (h : RcvM w g mb n f t s seq time M) (m : MsgV) (hat : RawAt w r m) (hL : Light m.c) (hgm : g ≠ mb) (hn : n ≤ 1000) (hbe : bearsB f t s r = true) (hx : 1 ≤ r.x4) (ht : timeB r.x5 = true) (h64 : n64 r.x4) (hkn : ((M r.x4).isSome || decide (r.x4 ≤ seq)) = false) (h0 : 0 ≤ seq) (h1 : seq ≤ 1000) (hne : r.x4 - (seq + 1) ≤ 200) (hcr : ∀ r' : Raw, r'.Nums m → ∃ (c : Nat) (rs : Nat → Raw), seq + c ≤ 1000 ∧ (∀ i, i < c → updV M r.x4 (some r') (seq + (i + 1 : Nat)) = some (rs i) ∧ (rs i).x4 = seq + (i + 1 : Nat)) ∧ updV M r.x4 (some r') (seq + (c + 1 : Nat)) = none) : Calls Tryz.prog 42 #[.pointer (some ⟨g, 0, none⟩), .agg r.cells.toArray] w (HrNew w g mb n f t s seq time r.x4 M m) := by
  have BE := hid (fun u => bears_raw u f t s r)
  have c0 : ∀ u, Below w.heap.size w u → u.cell? ⟨g, 0, none⟩ = some (.int .i64 f) := fun u hu => (cell_of ((hu.block _ (lt_of_heap h.box)).trans h.box)).trans rfl
  have c1' : ∀ u, Below w.heap.size w u → u.cell? ⟨g, 1, none⟩ = some (.int .i64 t) := fun u hu => (cell_of ((hu.block _ (lt_of_heap h.box)).trans h.box)).trans rfl
  have c2' : ∀ u, Below w.heap.size w u → u.cell? ⟨g, 2, none⟩ = some (.int .i64 s) := fun u hu => (cell_of ((hu.block _ (lt_of_heap h.box)).trans h.box)).trans rfl
  have C3 : Hid (∀ u, Below w.heap.size w u → u.cell? ⟨g, 3, none⟩ = some (.int .i64 seq)) := (show ∀ u, Below w.heap.size w u → _ from fun u hu => (cell_of ((hu.block _ (lt_of_heap h.box)).trans h.box)).trans rfl)
  have KN := hid (fun u (hu : Below w.heap.size w u) => knows_raw u g mb n f t s seq time r.x4 M (h.below hu) h64)
  rw [hkn] at KN
  have AT := hid hat
  have HL := hid hL
  have HCR := hid hcr
  clear hat hL hcr
  have HR := hid h
  have C0 := hid c0
  have C1 := hid c1'
  have C2 := hid c2'
  obtain ⟨x1, x2, x3, x4, x5, x6, a1, n1, c1, p, a2, n2, c2⟩ := r
  unfold Raw.cells at BE ⊢
  simp only at BE KN AT HCR hx ht h64 hne ⊢
  obtain ⟨wa, hwa⟩ : ∃ wa, wa = w.alloc (.cells #[.int .i64 x1, .int .i64 x2, .int .i64 x3, .int .i64 x4, .int .i64 x5, .bool x6, .slice a1 n1 c1, .int .i64 p, .slice a2 n2 c2] 74) := ⟨_, rfl⟩
  have hba : Below w.heap.size w wa := by rw [hwa]; exact below_alloc _ _
  clear h c0 c1' c2'
  rw [hbe] at BE
  clear hbe
  go_enter Tryz.func42, Tryz.ntmps42
  go_wp2_with fail
  rw [← hwa]
  have hX : wa.heap[w.heap.size]? = some (.cells #[.int .i64 x1, .int .i64 x2, .int .i64 x3, .int .i64 x4, .int .i64 x5, .bool x6, .slice a1 n1 c1, .int .i64 p, .slice a2 n2 c2] 74 (0, 0)) := by rw [hwa]; exact heap_new _ _
  have HELD : Hid (∀ u, Below wa.heap.size wa u → u.cell? ⟨g, 0, none⟩ = some (.int .i64 f) ∧ u.cell? ⟨g, 1, none⟩ = some (.int .i64 t) ∧ u.cell? ⟨g, 2, none⟩ = some (.int .i64 s) ∧ u.cell? ⟨w.heap.size, 0, none⟩ = some (.int .i64 x1) ∧ u.cell? ⟨w.heap.size, 1, none⟩ = some (.int .i64 x2) ∧ u.cell? ⟨w.heap.size, 2, none⟩ = some (.int .i64 x3) ∧ u.cell? ⟨w.heap.size, 3, none⟩ = some (.int .i64 x4) ∧ u.cell? ⟨w.heap.size, 4, none⟩ = some (.int .i64 x5) ∧ u.cell? ⟨w.heap.size, 5, none⟩ = some (.bool x6) ∧ u.cell? ⟨w.heap.size, 6, none⟩ = some (.slice a1 n1 c1) ∧ u.cell? ⟨w.heap.size, 7, none⟩ = some (.int .i64 p) ∧ u.cell? ⟨w.heap.size, 8, none⟩ = some (.slice a2 n2 c2)) := fun u hu => by
    have hq := (hu.block _ (lt_of_heap hX)).trans hX
    have hz : Below w.heap.size w u := hba.trans (hu.mono hba.size)
    exact ⟨C0.out u hz, C1.out u hz, C2.out u hz, (cell_of hq).trans rfl, (cell_of hq).trans rfl, (cell_of hq).trans rfl, (cell_of hq).trans rfl, (cell_of hq).trans rfl, (cell_of hq).trans rfl, (cell_of hq).trans rfl, (cell_of hq).trans rfl, (cell_of hq).trans rfl⟩
  have hdr : Below wa.heap.size wa wa.drew := (Below.refl _ _).drew
  have BA := hid hba
  have XA := hid hX
  clear hwa hX hba
  go_region_held (fun u => u.cell? ⟨g, 0, none⟩ = some (.int .i64 f) ∧ u.cell? ⟨g, 1, none⟩ = some (.int .i64 t) ∧ u.cell? ⟨g, 2, none⟩ = some (.int .i64 s) ∧ u.cell? ⟨w.heap.size, 0, none⟩ = some (.int .i64 x1) ∧ u.cell? ⟨w.heap.size, 1, none⟩ = some (.int .i64 x2) ∧ u.cell? ⟨w.heap.size, 2, none⟩ = some (.int .i64 x3) ∧ u.cell? ⟨w.heap.size, 3, none⟩ = some (.int .i64 x4) ∧ u.cell? ⟨w.heap.size, 4, none⟩ = some (.int .i64 x5) ∧ u.cell? ⟨w.heap.size, 5, none⟩ = some (.bool x6) ∧ u.cell? ⟨w.heap.size, 6, none⟩ = some (.slice a1 n1 c1) ∧ u.cell? ⟨w.heap.size, 7, none⟩ = some (.int .i64 p) ∧ u.cell? ⟨w.heap.size, 8, none⟩ = some (.slice a2 n2 c2)) ((refine HELD.out _ ?_; with_reducible assumption)) (first | (go_at_call 63; refine (BE.out _).mono ?_; rintro e w' ⟨rfl, hbw⟩; replace hbw : Below wa.heap.size wa w' := below_undrew hbw))
  obtain ⟨_, _, _, _, _, _, d3, d4, _, _, _, _⟩ := HELD.out _ hbw
  have B1 := hid hbw
  clear hbw hdr
  clear hkn
  have IT := hid (fun u => isTime_any x5 u)
  rw [ht] at IT
  have h1k : ¬ x4 < 1 := by omega
  clear ht
  go_wp2_with (first | (go_at_call 45; refine (IT.out _).mono ?_; rintro e w2 ⟨rfl, rfl⟩))
  have hb2 := BA.out.trans (B1.out.mono BA.out.size)
  refine (KN.out _ hb2).mono ?_
  rintro e w3 ⟨rfl, hb3⟩
  have B3 := hid (hb2.trans (hb3.mono hb2.size))
  have D3 : Hid (w3.cell? ⟨w.heap.size, 3, none⟩ = some (.int .i64 x4)) := (show _ = _ from by rw [hb3.cell (p := ⟨w.heap.size, 3, none⟩) (lt_of_cell d3)]; exact d3)
  have BB3 := hid (B1.out.trans (hb3.mono B1.out.size))
  clear hb2 hb3
  have c3 : w3.cell? ⟨g, 3, none⟩ = some (.int .i64 seq) := C3.out _ B3.out
  have d3' : w3.cell? ⟨w.heap.size, 3, none⟩ = some (.int .i64 x4) := D3.out
  have wr1 : IntKind.i64.wrap (seq + 1) = seq + 1 := wrap_num ⟨by omega, by omega⟩
  have wr2 : IntKind.i64.wrap (x4 - (seq + 1)) = x4 - (seq + 1) := wrap_64 ⟨by have := h64.2; omega, by have := h64.2; omega⟩
  have wr3 : ¬ 200 < x4 - (seq + 1) := by omega
  have H64 := hid h64
  clear h64
  go_wp2_with fail
  go_region
  generalize hw4 : World.drew _ = w4
  have B4 : Hid (Below w.heap.size w w4) := (show Below _ _ _ from by rw [← hw4]; exact B3.out.drew)
  have hX4 : w4.heap[w.heap.size]? = some (.cells #[.int .i64 x1, .int .i64 x2, .int .i64 x3, .int .i64 x4, .int .i64 x5, .bool x6, .slice a1 n1 c1, .int .i64 p, .slice a2 n2 c2] 74 (0, 0)) := by
    rw [← hw4]
    exact (BB3.out.block _ (lt_of_heap XA.out)).trans XA.out
  clear hw4 c3 d3'
  have hgl := lt_of_heap HR.out.box
  have hml : mb < w.heap.size := HR.out.mlt
  have hG4 := (B4.out.block _ hgl).trans HR.out.box
  have hsz4 := B4.out.size
  have hl4 := lt_of_heap hX4
  have HELD : Hid (∀ u : World, u.heap[g]? = w4.heap[g]? → u.heap[w.heap.size]? = w4.heap[w.heap.size]? → u.cell? ⟨g, 5, none⟩ = some (.map (some mb)) ∧ u.cell? ⟨w.heap.size, 0, none⟩ = some (.int .i64 x1) ∧ u.cell? ⟨w.heap.size, 1, none⟩ = some (.int .i64 x2) ∧ u.cell? ⟨w.heap.size, 2, none⟩ = some (.int .i64 x3) ∧ u.cell? ⟨w.heap.size, 3, none⟩ = some (.int .i64 x4) ∧ u.cell? ⟨w.heap.size, 4, none⟩ = some (.int .i64 x5) ∧ u.cell? ⟨w.heap.size, 5, none⟩ = some (.bool x6) ∧ u.cell? ⟨w.heap.size, 6, none⟩ = some (.slice a1 n1 c1) ∧ u.cell? ⟨w.heap.size, 7, none⟩ = some (.int .i64 p) ∧ u.cell? ⟨w.heap.size, 8, none⟩ = some (.slice a2 n2 c2)) := (show ∀ u : World, _ from fun u p1 p2 => by
    have hq := p2.trans hX4
    have hg := p1.trans hG4
    exact ⟨(cell_of hg).trans rfl, (cell_of hq).trans rfl, (cell_of hq).trans rfl, (cell_of hq).trans rfl, (cell_of hq).trans rfl, (cell_of hq).trans rfl, (cell_of hq).trans rfl, (cell_of hq).trans rfl, (cell_of hq).trans rfl, (cell_of hq).trans rfl⟩)
  have CB : Hid (∀ u, Below w4.heap.size w4 u → Calls Tryz.prog 65 #[.agg #[.int .i64 x1, .int .i64 x2, .int .i64 x3, .int .i64 x4, .int .i64 x5, .bool x6, .slice a1 n1 c1, .int .i64 p, .slice a2 n2 c2]] u fun e w' => ∃ y1 y2 y3 y4 y5 y6 b1 k1 e1 q b2 k2 e2, e = .returned (.agg #[.int .i64 y1, .int .i64 y2, .int .i64 y3, .int .i64 y4, .int .i64 y5, .bool y6, .slice b1 k1 e1, .int .i64 q, .slice b2 k2 e2]) ∧ Below w4.heap.size w4 w' ∧ Hid (RawOwn w.heap.size w' ⟨y1, y2, y3, y4, y5, y6, b1, k1, e1, q, b2, k2, e2⟩ m)) := (show ∀ u, _ → _ from fun u hu => by
    have hbu := B4.out.trans (hu.mono hsz4)
    refine (copy_raw u ⟨x1, x2, x3, x4, x5, x6, a1, n1, c1, p, a2, n2, c2⟩ m (AT.out.mono hbu (Nat.le_refl _)) HL.out).mono ?_
    rintro e w' ⟨⟨y1, y2, y3, y4, y5, y6, b1, k1, e1, q, b2, k2, e2⟩, rfl, ho, hb⟩
    exact ⟨y1, y2, y3, y4, y5, y6, b1, k1, e1, q, b2, k2, e2, rfl, hu.trans (hb.mono hu.size), ho.base hbu.size⟩)
  have ST : Hid (∀ (u : World) (y1 y2 y3 y4 y5 : Int) (y6 : Bool) (b1 : Option Addr) (k1 e1 : Nat) (q : Int) (b2 : Option Addr) (k2 e2 : Nat), Below w4.heap.size w4 u → ∃ w6, (Instr.mapUpdate 136 (.map (some mb)) (.int .i64 x4) (.agg #[.int .i64 y1, .int .i64 y2, .int .i64 y3, .int .i64 y4, .int .i64 y5, .bool y6, .slice b1 k1 e1, .int .i64 q, .slice b2 k2 e2])).run Tryz.prog u = .ok () w6 ∧ RcvM w6 g mb (n + 1) f t s seq time (updV M x4 (some ⟨y1, y2, y3, y4, y5, y6, b1, k1, e1, q, b2, k2, e2⟩)) ∧ OnlyR g mb w w6 ∧ w6.heap[g]? = w4.heap[g]? ∧ w6.heap[w.heap.size]? = w4.heap[w.heap.size]? ∧ u.heap.size ≤ w6.heap.size ∧ ∀ q, q < u.heap.size → q ≠ mb → w6.heap[q]? = u.heap[q]?) := (show ∀ u, _ from fun u y1 y2 y3 y4 y5 y6 b1 k1 e1 qq b2 k2 e2 hu => by
    have hbu := B4.out.trans (hu.mono hsz4)
    obtain ⟨D, hD, hMB⟩ := (HR.out.moved (hbu.block _ hgl) (hbu.block _ hml)).map
    obtain ⟨w6, r1, r2, r3⟩ := hD.store keyed3 Tryz.underlying136 (by unfold maxLen; omega) (key_64 H64.out) (val := .agg (Raw.cells ⟨y1, y2, y3, y4, y5, y6, b1, k1, e1, qq, b2, k2, e2⟩).toArray) (d := .held (.agg (Raw.cells ⟨y1, y2, y3, y4, y5, y6, b1, k1, e1, qq, b2, k2, e2⟩).toArray)) (ps := []) rfl
    have hgr := r3.grown
    have hus := hu.size
    have hbl : ∀ q, q < u.heap.size → q ≠ mb → w6.heap[q]? = u.heap[q]? := fun q q1 q2 => hgr.block q q1 fun he => q2 (Option.some.inj he)
    have e1 : w6.heap[g]? = w4.heap[g]? := (hbl g (by omega) hgm).trans (hu.block _ (by omega))
    refine ⟨w6, r1, ⟨e1.trans hG4, _, r2, hMB.put hD.isMap x4 _⟩, ⟨hgr.os.trans hbu.os, hgr.tape.trans hbu.tape, hgr.output.trans hbu.output, by have := hgr.size; have := hbu.size; omega, fun q q1 q2 q3 => (hbl q (by omega) q3).trans (hbu.block q q1)⟩, e1, (hbl _ (by omega) (by omega)).trans (hu.block _ hl4), hgr.size, hbl⟩)
  have hb0 : Below w4.heap.size w4 w4.drew := (Below.refl _ _).drew
  clear hX4 hG4 hsz4
  go_wp2_with fail
  go_region_held (fun u => u.cell? ⟨g, 5, none⟩ = some (.map (some mb)) ∧ u.cell? ⟨w.heap.size, 0, none⟩ = some (.int .i64 x1) ∧ u.cell? ⟨w.heap.size, 1, none⟩ = some (.int .i64 x2) ∧ u.cell? ⟨w.heap.size, 2, none⟩ = some (.int .i64 x3) ∧ u.cell? ⟨w.heap.size, 3, none⟩ = some (.int .i64 x4) ∧ u.cell? ⟨w.heap.size, 4, none⟩ = some (.int .i64 x5) ∧ u.cell? ⟨w.heap.size, 5, none⟩ = some (.bool x6) ∧ u.cell? ⟨w.heap.size, 6, none⟩ = some (.slice a1 n1 c1) ∧ u.cell? ⟨w.heap.size, 7, none⟩ = some (.int .i64 p) ∧ u.cell? ⟨w.heap.size, 8, none⟩ = some (.slice a2 n2 c2)) ((refine HELD.out _ ?_ ?_ <;> first | with_reducible assumption | rfl)) (first | (go_at_call 65; refine (CB.out _ (by with_reducible assumption)).mono ?_; rintro e w5 ⟨y1, y2, y3, y4, y5, y6, b1, k1, e1, q, b2, k2, e2, rfl, hb5, HOW⟩; obtain ⟨w6, hrun6, hrc6, hon6, s3, s4, hz6, hbl6⟩ := ST.out w5 y1 y2 y3 y4 y5 y6 b1 k1 e1 q b2 k2 e2 hb5; have s1 : w5.heap[g]? = w4.heap[g]? := hb5.block _ (show g < w4.heap.size by omega); have s2 : w5.heap[w.heap.size]? = w4.heap[w.heap.size]? := hb5.block _ hl4; have RC6 := hid hrc6; have ON6 := hid hon6; have OW6 : Hid (RawOwn w.heap.size w6 ⟨y1, y2, y3, y4, y5, y6, b1, k1, e1, q, b2, k2, e2⟩ m) := ⟨HOW.out.nums, HOW.out.own.at fun gg q1 q2 => hbl6 gg q2 (by omega)⟩; clear hrc6 hon6 hb5 HOW hbl6 hz6))
  clear hrun6 s1 s2 s3 s4
  obtain ⟨c, rs, hc1, hcM, hcz⟩ := HCR.out ⟨y1, y2, y3, y4, y5, y6, b1, k1, e1, q, b2, k2, e2⟩ OW6.out.nums
  have HCM := hid hcM
  have HCZ := hid hcz
  have CO := hid (come_raw w6 g mb (n + 1) c f t s seq time _ rs RC6.out hgm h0 hc1 hcM hcz)
  clear hc1 hcM hcz
  go_wp2_with fail
  refine CO.out.mono ?_
  rintro e w7 ⟨v7, rfl, hr7, hc7, ho7⟩
  have R7 := hid hr7
  have C7 := hid hc7
  have O7 := hid ho7
  clear hr7 hc7 ho7
  go_wp2
  go_ret2
  refine ⟨v7, c, rs, _, rfl, owns_base R7.out ON6.out.size, C7.out, ⟨OW6.out.nums, OW6.out.own.at fun gg q1 q2 => O7.out.block gg q2 (by omega) (by omega)⟩, ⟨O7.out.os.trans ON6.out.os, O7.out.tape.trans ON6.out.tape, O7.out.output.trans ON6.out.output, Nat.le_trans ON6.out.size O7.out.size, fun q q1 q2 q3 => (O7.out.block q (Nat.lt_of_lt_of_le q1 ON6.out.size) q2 q3).trans (ON6.out.block q q1 q2 q3)⟩, fun i hi => (HCM.out i hi).1, HCZ.out⟩
end Go.Proofs.YtepnghacjggkkaaGreatDoor
namespace Go.Proofs.YtepnghacjggkkaaGreatDoor
open Go.RowKit Go.Maps
set_option maxRecDepth 100000
set_option linter.unusedSectionVars false
variable [Inhabited ComV] [DecidableEq D3] [Inhabited D3] [Inhabited Dd] [Inhabited Dn] [Inhabited OpV]

structure GaOk (n k id lb : Nat) (b : Nat → Nat) (g gr : Nat → Nat → Nat) (base : Nat) (I : Nat → Nat → List Raw → Option Nat → World → Prop) : Prop where
  n6 : n ≤ 6
  k6 : k ≤ 6
  size : ∀ {j s rs o W}, I j s rs o W → base ≤ W.heap.size
  len : ∀ {j s rs o W}, I j s rs o W → rs.length ≤ 100000
  lines : ∀ {j s rs o W}, I j s rs o W → ∀ j', j' < n → W.cell? ⟨lb, j', none⟩ = some (if j' = id then .slice none 0 0 else .slice (some ⟨b j', 0, none⟩) k k)
  line : ∀ {j s rs o W}, I j s rs o W → ∀ j' s', j' < n → j' ≠ id → s' < k → W.cell? ⟨b j', s' * 2, none⟩ = some (.pointer (some ⟨g j' s', 0, none⟩)) ∧ W.cell? ⟨b j', s' * 2 + 1, none⟩ = some (.pointer (some ⟨gr j' s', 0, none⟩))
  below : ∀ {j s rs o W W'}, I j s rs o W → Below W.heap.size W W' → I j s rs o W'
  grown : ∀ {j s rs o o' W W'}, I j s rs o W → W.grownBy W' o → (∀ q, o = some q → ∃ cs, W.heap[q]? = some (.cells cs 74 (0, 0))) → (o' = o ∨ ∃ q, o' = some q ∧ W.heap.size ≤ q) → (∀ q, o' = some q → q < W'.heap.size) → I j s rs o' W'
  row : ∀ {j rs o W}, j < n → I j (if j = id then 0 else k) rs o W → I (j + 1) 0 rs o W
def GaCall (n k id : Nat) (g gr : Nat → Nat → Nat) (I : Nat → Nat → List Raw → Option Nat → World → Prop) (F : Nat) (cap : Value) : Prop :=
  ∀ j s rs o W, j < n → j ≠ id → s < k → I j s rs o W → Calls Tryz.prog F #[.int .i64 (s : Nat), .agg #[.pointer (some ⟨g j s, 0, none⟩), .pointer (some ⟨gr j s, 0, none⟩)], cap] W (fun e W' => ∃ (a : Option Addr) (c : Nat) (rs' : List Raw), e = .returned (.slice a rs'.length c) ∧ SrcAt W' (.slice a rs'.length c) rs'.length 9 (raws rs') ∧ I j (s + 1) (rs ++ rs') o W' ∧ (∀ q, o = some q → W'.heap[q]? = W.heap[q]?) ∧ W.heap.size ≤ W'.heap.size)
def GaRet (n base : Nat) (I : Nat → Nat → List Raw → Option Nat → World → Prop) (e : Ending) (W' : World) : Prop := ∃ (v : Value) (rs : List Raw), e = .returned v ∧ I n 0 rs v.ownBlock W' ∧ W'.ownsRow base 74 9 v rs.length (raws rs)
theorem oneRs : ∀ l : List Raw, ∀ u ∈ raws l, u.oneCell' = true := fun l u hu => by
  obtain ⟨r, _, h2⟩ := List.mem_flatMap.1 hu
  exact oneR r u h2
theorem raws_app (l m : List Raw) : raws (l ++ m) = raws l ++ raws m := by simp [raws]
set_option maxHeartbeats 4000000 in
theorem gather_30 (w : World) (n k id pb lb : Nat) (b : Nat → Nat) (g gr : Nat → Nat → Nat) (I : Nat → Nat → List Raw → Option Nat → World → Prop) (cap : Value) (hG : GaOk n k id lb b g gr w.heap.size I) (hF : GaCall n k id g gr I 26 cap) (hpb : w.cell? ⟨pb, 4, none⟩ = some (.slice (some ⟨lb, 0, none⟩) n n)) (h0 : I 0 0 [] none w) :
    Calls Tryz.prog 25 #[.pointer (some ⟨pb, 0, none⟩), .func (.func 26) #[] #[cap]] w (GaRet n w.heap.size I) := by
  obtain ⟨i44, hi, hz0, hz1, hz2⟩ := info_parts Tryz.info74
  have HG := hid hG
  have HF := hid hF
  have H0 := hid h0
  have n6 := hG.n6
  have k6 := hG.k6
  clear hG hF h0
  go_enter Tryz.func25, Tryz.ntmps25
  go_wp2
  clear hpb
  go_loopw [5, 15] (fun x i wr => ∃ (m : Nat) (xv : Value) (rs : List Raw), m ≤ n ∧ i = .int .i64 m ∧ x = xv ∧ Hid (wr.ownsRow w.heap.size 74 9 xv rs.length (raws rs)) ∧ Hid (I m 0 rs xv.ownBlock wr)) (fun _ i _ => n - (intOf i).toNat)
  case atStart => exact ⟨0, _, [], Nat.zero_le _, rfl, rfl, World.ownsRow_nil _ _ _ _, H0⟩
  case round =>
    obtain ⟨m, xv, rs, hm, rfl, hxx, HX, HI⟩ := hrel
    obtain rfl := hxx.symm
    by_cases hlt : m < n
    · have hi1 : (m : Int) < (n : Int) := by omega
      have ql := HG.out.lines HI.out m hlt
      by_cases hne : m = id
      · rw [if_pos hne] at ql
        have J : Hid (I (m + 1) 0 rs xv.ownBlock wr) := (show I _ _ _ _ _ from HG.out.row hlt (by rw [if_pos hne]; exact HI.out))
        clear hne
        go_wp2
        refine wp_loop_rounds 1 ?_
        rw [rounds_succ]
        go_wp2
        exact ⟨⟨m + 1, xv, rs, by omega, by go_num, rfl, HX, J⟩, by simp [intOf]; omega⟩
      · rw [if_neg hne] at ql
        go_wp2
        obtain ⟨wq, hwq⟩ : ∃ wq, wq = wr := ⟨_, rfl⟩
        subst hwq
        clear ql
        go_loopw [5, 21] (fun x i wr => ∃ (s : Nat) (xv : Value) (rs : List Raw), s ≤ k ∧ i = .int .i64 s ∧ x = xv ∧ Hid (wr.ownsRow w.heap.size 74 9 xv rs.length (raws rs)) ∧ Hid (I m s rs xv.ownBlock wr)) (fun _ i _ => k - (intOf i).toNat)
        case atStart => exact ⟨0, _, rs, Nat.zero_le _, rfl, rfl, HX, HI⟩
        case round =>
          clear HX HI
          obtain ⟨s, xv', rs', hs, rfl, hxx, HX, HI⟩ := hrel
          obtain rfl := hxx.symm
          by_cases hls : s < k
          · have hi2 : (s : Int) < (k : Int) := by omega
            obtain ⟨q0, q1⟩ := HG.out.line HI.out m s hlt hne hls
            have K := hid (fun o => HF.out m s rs' xv'.ownBlock (wr.alloc o) hlt hne hls (HG.out.below HI.out (below_alloc _ o)))
            obtain ⟨ob, hob⟩ : ∃ ob, ob = xv'.ownBlock := ⟨_, rfl⟩
            rw [← hob] at K
            obtain ⟨xa, xc, hxv⟩ := row_shape HX.out
            subst hxv
            have HOB := hid hob
            have LEN := hid (fun W x => HG.out.len (j := m) (s := s + 1) (rs := rs' ++ x) (o := ob) (W := W))
            have SIZE := hid (HG.out.size HI.out)
            clear hob
            go_wp2_with fail
            refine (K.out _).mono ?_
            rintro e w2 ⟨a, c, r2, rfl, hsrc, hI2, ho2, hs2⟩
            have hlen := LEN.out _ _ hI2
            rw [List.length_append] at hlen
            have X2 : Hid (w2.ownsRow w.heap.size 74 9 (.slice xa rs'.length xc) rs'.length (raws rs')) := (show World.ownsRow _ _ _ _ _ _ _ from own_keep HX.out fun q hq => by
              rw [← HOB.out] at hq
              rw [ho2 q hq]
              exact Below.heap_alloc _ _ _ ((HX.out.lt q (by rw [← HOB.out]; exact hq)).2))
            have SRC := hid hsrc
            have I2 := hid hI2
            have SZ2 : Hid (w.heap.size ≤ w2.heap.size) := (show _ ≤ _ from Nat.le_trans SIZE.out (Nat.le_trans (by show wr.heap.size ≤ (wr.alloc _).heap.size; simp) hs2))
            clear hsrc hI2 ho2 hs2 q0 q1
            go_wp2_with (at_builtin; refine wpList_append_own_srcS rfl _ _ 34 rfl w.heap.size 74 i44 _ 9 104 Tryz.underlying34 hi hz0 hz1 hz2 rfl (by decide) _ _ _ rfl X2.out _ r2.length (raws r2) rfl SRC.out (oneRs r2) ?hm2 ?hm3 SZ2.out ?_; (case hm2 => unfold maxLen; omega); (case hm3 => omega); intro v3 w3 hown3 hgr3 hv3; have I3 : Hid (I m (s + 1) (rs' ++ r2) v3.ownBlock w3) := (show I _ _ _ _ _ from HG.out.grown I2.out (by rw [HOB.out]; exact hgr3) (fun q hq => own_type X2.out (by rw [← HOB.out]; exact hq)) (by rw [HOB.out]; rcases hv3 with h | h; exact .inl h; exact .inr ⟨_, h, Nat.le_refl _⟩) (fun q hq => (hown3.lt q hq).2)); have X3 := hid hown3; clear hown3 hgr3 hv3)
            refine ⟨⟨s + 1, v3, rs' ++ r2, by omega, by go_num, rfl, ?_, I3⟩, by simp [intOf]; omega⟩
            show World.ownsRow _ _ _ _ _ _ _
            rw [raws_app, List.length_append]
            exact X3.out
          · obtain rfl : s = k := by omega
            have J : Hid (I (m + 1) 0 rs' xv'.ownBlock wr) := (show I _ _ _ _ _ from HG.out.row hlt (by rw [if_neg hne]; exact HI.out))
            go_wp2
            exact ⟨⟨m + 1, xv', rs', by omega, by go_num, rfl, HX, J⟩, by simp [intOf]; omega⟩
    · obtain rfl : m = n := by omega
      go_wp2
      go_ret
      exact ⟨xv, rs, rfl, HI.out, HX.out⟩
set_option maxHeartbeats 4000000 in
theorem gather_58 (w : World) (n k id pb lb : Nat) (b : Nat → Nat) (g gr : Nat → Nat → Nat) (I : Nat → Nat → List Raw → Option Nat → World → Prop) (cap : Value) (hG : GaOk n k id lb b g gr w.heap.size I) (hF : GaCall n k id g gr I 118 cap) (hpb : w.cell? ⟨pb, 4, none⟩ = some (.slice (some ⟨lb, 0, none⟩) n n)) (h0 : I 0 0 [] none w) :
    Calls Tryz.prog 25 #[.pointer (some ⟨pb, 0, none⟩), .func (.func 118) #[] #[cap]] w (GaRet n w.heap.size I) := by
  obtain ⟨i44, hi, hz0, hz1, hz2⟩ := info_parts Tryz.info74
  have HG := hid hG
  have HF := hid hF
  have H0 := hid h0
  have n6 := hG.n6
  have k6 := hG.k6
  clear hG hF h0
  go_enter Tryz.func25, Tryz.ntmps25
  go_wp2
  clear hpb
  go_loopw [5, 15] (fun x i wr => ∃ (m : Nat) (xv : Value) (rs : List Raw), m ≤ n ∧ i = .int .i64 m ∧ x = xv ∧ Hid (wr.ownsRow w.heap.size 74 9 xv rs.length (raws rs)) ∧ Hid (I m 0 rs xv.ownBlock wr)) (fun _ i _ => n - (intOf i).toNat)
  case atStart => exact ⟨0, _, [], Nat.zero_le _, rfl, rfl, World.ownsRow_nil _ _ _ _, H0⟩
  case round =>
    obtain ⟨m, xv, rs, hm, rfl, hxx, HX, HI⟩ := hrel
    obtain rfl := hxx.symm
    by_cases hlt : m < n
    · have hi1 : (m : Int) < (n : Int) := by omega
      have ql := HG.out.lines HI.out m hlt
      by_cases hne : m = id
      · rw [if_pos hne] at ql
        have J : Hid (I (m + 1) 0 rs xv.ownBlock wr) := (show I _ _ _ _ _ from HG.out.row hlt (by rw [if_pos hne]; exact HI.out))
        clear hne
        go_wp2
        refine wp_loop_rounds 1 ?_
        rw [rounds_succ]
        go_wp2
        exact ⟨⟨m + 1, xv, rs, by omega, by go_num, rfl, HX, J⟩, by simp [intOf]; omega⟩
      · rw [if_neg hne] at ql
        go_wp2
        obtain ⟨wq, hwq⟩ : ∃ wq, wq = wr := ⟨_, rfl⟩
        subst hwq
        clear ql
        go_loopw [5, 21] (fun x i wr => ∃ (s : Nat) (xv : Value) (rs : List Raw), s ≤ k ∧ i = .int .i64 s ∧ x = xv ∧ Hid (wr.ownsRow w.heap.size 74 9 xv rs.length (raws rs)) ∧ Hid (I m s rs xv.ownBlock wr)) (fun _ i _ => k - (intOf i).toNat)
        case atStart => exact ⟨0, _, rs, Nat.zero_le _, rfl, rfl, HX, HI⟩
        case round =>
          clear HX HI
          obtain ⟨s, xv', rs', hs, rfl, hxx, HX, HI⟩ := hrel
          obtain rfl := hxx.symm
          by_cases hls : s < k
          · have hi2 : (s : Int) < (k : Int) := by omega
            obtain ⟨q0, q1⟩ := HG.out.line HI.out m s hlt hne hls
            have K := hid (fun o => HF.out m s rs' xv'.ownBlock (wr.alloc o) hlt hne hls (HG.out.below HI.out (below_alloc _ o)))
            obtain ⟨ob, hob⟩ : ∃ ob, ob = xv'.ownBlock := ⟨_, rfl⟩
            rw [← hob] at K
            obtain ⟨xa, xc, hxv⟩ := row_shape HX.out
            subst hxv
            have HOB := hid hob
            have LEN := hid (fun W x => HG.out.len (j := m) (s := s + 1) (rs := rs' ++ x) (o := ob) (W := W))
            have SIZE := hid (HG.out.size HI.out)
            clear hob
            go_wp2_with fail
            refine (K.out _).mono ?_
            rintro e w2 ⟨a, c, r2, rfl, hsrc, hI2, ho2, hs2⟩
            have hlen := LEN.out _ _ hI2
            rw [List.length_append] at hlen
            have X2 : Hid (w2.ownsRow w.heap.size 74 9 (.slice xa rs'.length xc) rs'.length (raws rs')) := (show World.ownsRow _ _ _ _ _ _ _ from own_keep HX.out fun q hq => by
              rw [← HOB.out] at hq
              rw [ho2 q hq]
              exact Below.heap_alloc _ _ _ ((HX.out.lt q (by rw [← HOB.out]; exact hq)).2))
            have SRC := hid hsrc
            have I2 := hid hI2
            have SZ2 : Hid (w.heap.size ≤ w2.heap.size) := (show _ ≤ _ from Nat.le_trans SIZE.out (Nat.le_trans (by show wr.heap.size ≤ (wr.alloc _).heap.size; simp) hs2))
            clear hsrc hI2 ho2 hs2 q0 q1
            go_wp2_with (at_builtin; refine wpList_append_own_srcS rfl _ _ 34 rfl w.heap.size 74 i44 _ 9 104 Tryz.underlying34 hi hz0 hz1 hz2 rfl (by decide) _ _ _ rfl X2.out _ r2.length (raws r2) rfl SRC.out (oneRs r2) ?hm2 ?hm3 SZ2.out ?_; (case hm2 => unfold maxLen; omega); (case hm3 => omega); intro v3 w3 hown3 hgr3 hv3; have I3 : Hid (I m (s + 1) (rs' ++ r2) v3.ownBlock w3) := (show I _ _ _ _ _ from HG.out.grown I2.out (by rw [HOB.out]; exact hgr3) (fun q hq => own_type X2.out (by rw [← HOB.out]; exact hq)) (by rw [HOB.out]; rcases hv3 with h | h; exact .inl h; exact .inr ⟨_, h, Nat.le_refl _⟩) (fun q hq => (hown3.lt q hq).2)); have X3 := hid hown3; clear hown3 hgr3 hv3)
            refine ⟨⟨s + 1, v3, rs' ++ r2, by omega, by go_num, rfl, ?_, I3⟩, by simp [intOf]; omega⟩
            show World.ownsRow _ _ _ _ _ _ _
            rw [raws_app, List.length_append]
            exact X3.out
          · obtain rfl : s = k := by omega
            have J : Hid (I (m + 1) 0 rs' xv'.ownBlock wr) := (show I _ _ _ _ _ from HG.out.row hlt (by rw [if_neg hne]; exact HI.out))
            go_wp2
            exact ⟨⟨m + 1, xv', rs', by omega, by go_num, rfl, HX, J⟩, by simp [intOf]; omega⟩
    · obtain rfl : m = n := by omega
      go_wp2
      go_ret
      exact ⟨xv, rs, rfl, HI.out, HX.out⟩
end Go.Proofs.YtepnghacjggkkaaGreatDoor
