/- come: what has its turn, whatever it is; Put: one op more is put; Hear: a number that is too far ahead; what is new. -/
import Derived.Test.YtepnghacjggkkaaGreatDoorJSNext
import Derived.BigQuiet
import Derived.Deep.Cut
import Derived.Deep.Draws
import Derived.Deep.Fields
import Derived.Deep.QuietTactic
import Derived.Deep.RegionHeld
import Derived.Deep.RegionLaw
import Derived.Deep.Slices
import Derived.Handy
import Derived.LaidEql
import Derived.LaidHandle
import Derived.LaidLaws
import Derived.LaidSub
import Derived.Laws.AppendOwnNone
import Derived.Laws.OwnMore
import Derived.Laws.ResultCell
import Derived.Lib.SliceRun
import Derived.Maps.AppendAt
import Derived.Maps.OwnSet
import Derived.OpenShut
import Derived.ProofKit
import Derived.RowKitTokens
import Derived.Shelf.SlIter.Nil
import Derived.Shelf.SlicesQ.IndexFunc
import Derived.Sort.Grow
import Derived.Sort.KeysCollected
import Derived.StillTailTactics
import Derived.Stop.Asserts
import Derived.Test.YtepnghacjggkkaaGreatDoorProg
import Derived.Test.YtepnghacjggkkaaGreatDoorRows
import Derived.WalkKit
import Derived.Test.YtepnghacjggkkaaGreatDoorJWSmall
import Derived.Ground.SlsfProg
import Derived.Laws.MakeOwn
import Derived.Lib.SlKept
import Derived.Shelf.GgSortFunc.RowK
import Derived.Shelf.SlGeneric
import Derived.Shelf.Slices.CompactS
import Derived.Shelf.Slices.In.SortNone
import Derived.Shelf.SlicesE.DeleteFunc
import Derived.Shelf.Sort.Plain
import Derived.Test.YtepnghacjggkkaaGreatDoorJSRcv
namespace Go.Proofs.YtepnghacjggkkaaGreatDoor
open Go.RowKit Go.Maps
set_option maxRecDepth 100000
set_option linter.unusedSectionVars false
variable [Inhabited ComV] [DecidableEq D3] [Inhabited D3] [Inhabited Dd] [Inhabited Dn] [Inhabited OpV]

def comeV (M : Int → Option Raw) (seq : Int) (c : Nat) : Int → Option Raw := fun j => if seq < j ∧ j ≤ seq + c then none else M j
def comeR (rs : Nat → Raw) (c : Nat) : List Raw := (List.range c).map rs
theorem comeR_succ (rs : Nat → Raw) (c : Nat) : comeR rs (c + 1) = comeR rs c ++ [rs c] := by simp [comeR, List.range_succ]
theorem comeV_zero (M : Int → Option Raw) (seq : Int) : comeV M seq 0 = M := by
  funext j
  unfold comeV
  rw [if_neg (by omega)]
theorem comeV_succ (M : Int → Option Raw) (seq : Int) (c : Nat) : updV (comeV M seq c) (seq + (c + 1 : Nat)) none = comeV M seq (c + 1) := by
  funext j
  unfold comeV updV
  by_cases h : j = seq + (c + 1 : Nat)
  · rw [if_pos h, if_pos (by omega)]
  · rw [if_neg h]
    show (if seq < j ∧ j ≤ seq + c then none else M j) = _
    by_cases h2 : seq < j ∧ j ≤ seq + c
    · rw [if_pos h2, if_pos (by omega)]
    · rw [if_neg h2, if_neg (by omega)]
theorem comeV_next (M : Int → Option Raw) (seq : Int) (c : Nat) : comeV M seq c (seq + (c + 1 : Nat)) = M (seq + (c + 1 : Nat)) := by
  unfold comeV
  rw [if_neg (by omega)]
def timeR (time : Int) (rs : Nat → Raw) (c : Nat) : Int := lastT time (fun i => (rs i).x5) c
theorem n64_num {k : Int} (h : num k) : n64 k := ⟨by have := h.1; omega, by have := h.2; omega⟩
set_option maxHeartbeats 2000000 in
theorem come_raw (w : World) (g mb n c : Nat) (f t s seq time : Int) (M : Int → Option Raw) (rs : Nat → Raw) (h : RcvM w g mb n f t s seq time M) (hgm : g ≠ mb) (h0 : 0 ≤ seq) (h1 : seq + c ≤ 1000) (hM : ∀ i, i < c → M (seq + (i + 1 : Nat)) = some (rs i) ∧ (rs i).x4 = seq + (i + 1 : Nat)) (hz : M (seq + (c + 1 : Nat)) = none) :
    Calls Tryz.prog 66 #[.pointer (some ⟨g, 0, none⟩)] w fun e w' => ∃ v, e = .returned v ∧ w'.ownsRow w.heap.size 74 9 v c (raws (comeR rs c)) ∧ RcvM w' g mb n f t s (seq + c) (timeR time rs c) (comeV M seq c) ∧ OnlyR g mb w w' := by
  obtain ⟨i37, hi, hz0, hz1, hz2⟩ := info_parts Tryz.info74
  have H := hid h
  have HM := hid hM
  have HZ := hid hz
  have hgl := lt_of_heap h.box
  have hml : mb < w.heap.size := by obtain ⟨D, hm, _⟩ := h.map; exact hm.lt
  clear h hM hz
  go_enter Tryz.func66, Tryz.ntmps66
  go_wp2
  go_loopw [3] (fun x wr => ∃ (k : Nat) (xv : Value), k ≤ c ∧ x = xv ∧ Hid (wr.ownsRow w.heap.size 74 9 xv k (raws (comeR rs k))) ∧ Hid (RcvM wr g mb n f t s (seq + k) (timeR time rs k) (comeV M seq k)) ∧ Hid (OnlyR g mb w wr)) (fun x _ => c - lenV x)
  case atStart =>
    refine ⟨0, _, Nat.zero_le _, rfl, World.ownsRow_nil _ _ _ _, ?_, OnlyR.refl _ _ _⟩
    show RcvM _ _ _ _ _ _ _ _ _ _
    rw [comeV_zero, show seq + ((0 : Nat) : Int) = seq by omega]
    exact H.out
  case round =>
    obtain ⟨k, xv, hk, rfl, HX, HR, HO⟩ := hrel
    obtain ⟨D, hD, hMB⟩ := HR.out.map
    have c3 : ∀ u : World, u.heap[g]? = wr.heap[g]? → u.cell? ⟨g, 3, none⟩ = some (.int .i64 (seq + k)) := fun u hu => (cell_of (hu.trans HR.out.box)).trans rfl
    have c5 : ∀ u : World, u.heap[g]? = wr.heap[g]? → u.cell? ⟨g, 5, none⟩ = some (.map (some mb)) := fun u hu => (cell_of (hu.trans HR.out.box)).trans rfl
    have hnum : num (seq + k + 1) := ⟨by omega, by omega⟩
    have hnx : comeV M seq k (seq + k + 1) = M (seq + (k + 1 : Nat)) := by
      rw [← comeV_next M seq k]; congr 1; omega
    have hrs : w.heap.size ≤ wr.heap.size := HO.out.size
    have g1 : g ≠ wr.heap.size := by omega
    have g2 : mb ≠ wr.heap.size := by omega
    have g3 : g < wr.heap.size := by omega
    have g4 : mb < wr.heap.size := by omega
    have w1 := wrap_num hnum
    by_cases hlt : k < c
    · obtain ⟨hts, hx4⟩ := HM.out k hlt
      obtain ⟨rr, htm⟩ : ∃ rr, rr = rs k := ⟨_, rfl⟩
      rw [← htm] at hts hx4
      have HTM := hid htm
      clear htm
      have LK := fun u hu => look_raw hD hMB (n64_num hnum) (hnx.trans hts) u hu
      obtain ⟨x1, x2, x3, x4, x5, x6, a1, n1, c1, p, a2, n2, c2⟩ := rr
      simp only at hx4
      rw [show seq + ((k + 1 : Nat) : Int) = seq + k + 1 by omega] at hx4
      subst hx4
      unfold Raw.cells at LK
      simp only at LK
      have HELD : Hid (∀ u : World, u.heap[g]? = wr.heap[g]? → u.heap[mb]? = wr.heap[mb]? → u.cell? ⟨g, 3, none⟩ = some (.int .i64 (seq + k)) ∧ u.cell? ⟨g, 5, none⟩ = some (.map (some mb)) ∧ (Instr.lookup 136 (.map (some mb)) (.int .i64 (seq + k + 1)) true).run Tryz.prog u = .ok (.tuple #[.agg #[.int .i64 x1, .int .i64 x2, .int .i64 x3, .int .i64 (seq + k + 1), .int .i64 x5, .bool x6, .slice a1 n1 c1, .int .i64 p, .slice a2 n2 c2], .bool true]) u) := fun u h1 h2 => ⟨c3 u h1, c5 u h1, LK u h2⟩
      have HD := hid hD
      have HMB := hid hMB
      clear c3 c5 LK hD hMB hnx hts
      go_upto_region 2 with (fail)
      refine joined (p := ?gOne) (fun hp => ?main) ?later
      case main =>
        go_region_held (fun u => u.cell? ⟨g, 3, none⟩ = some (.int .i64 (seq + k)) ∧ u.cell? ⟨g, 5, none⟩ = some (.map (some mb)) ∧ (Instr.lookup 136 (.map (some mb)) (.int .i64 (seq + k + 1)) true).run Tryz.prog u = .ok (.tuple #[.agg #[.int .i64 x1, .int .i64 x2, .int .i64 x3, .int .i64 (seq + k + 1), .int .i64 x5, .bool x6, .slice a1 n1 c1, .int .i64 p, .slice a2 n2 c2], .bool true]) u) ((refine HELD.out _ ?_ ?_ <;> simp [Below.heap_alloc, drew_heap, g3, g4])) (fail)
        all_goals exact hp
      case later =>
        have hba := (below_alloc wr (.cells #[.int .i64 x1, .int .i64 x2, .int .i64 x3, .int .i64 (seq + k + 1), .int .i64 x5, .bool x6, .slice a1 n1 c1, .int .i64 p, .slice a2 n2 c2] 74)).drew
        have hnew := heap_new wr (.cells #[.int .i64 x1, .int .i64 x2, .int .i64 x3, .int .i64 (seq + k + 1), .int .i64 x5, .bool x6, .slice a1 n1 c1, .int .i64 p, .slice a2 n2 c2] 74)
        generalize hwa : World.drew _ = wa
        rw [hwa] at hba
        have hbox : wa.heap[wr.heap.size]? = some (.cells #[.int .i64 x1, .int .i64 x2, .int .i64 x3, .int .i64 (seq + k + 1), .int .i64 x5, .bool x6, .slice a1 n1 c1, .int .i64 p, .slice a2 n2 c2] 74 (0, 0)) := by rw [← hwa]; exact hnew
        clear hwa hnew HELD
        have hDa : wa.drew.ownsMap Tryz.prog 3 elemV mb n D := by
          obtain ⟨es, clock, hb, r⟩ := HD.out
          exact ⟨es, clock, (hba.block _ g4).trans hb, r⟩
        obtain ⟨w5, hrun5, hown5, hturn5⟩ := hDa.drop keyed3 Tryz.underlying136 (key_64 (n64_num hnum)) 0
        have q5 : wa.cell? ⟨g, 5, none⟩ = some (.map (some mb)) := (cell_of ((hba.block _ g3).trans HR.out.box)).trans rfl
        have q3 : wa.cell? ⟨wr.heap.size, 3, none⟩ = some (.int .i64 (seq + k + 1)) := (cell_of hbox).trans rfl
        have BA := hid hba
        have BX := hid hbox
        have OW5 := hid hown5
        have TU5 := hid hturn5
        clear hba hbox hown5 hturn5 hDa
        go_upto_region 5 with (fail)
        go_region
        have hg5 := TU5.out.grown
        have hsz5 : wa.heap.size ≤ w5.heap.size := hg5.size
        have hblk5 : ∀ q, q < wa.heap.size → q ≠ mb → w5.heap[q]? = wa.heap[q]? := fun q h1 h2 => hg5.block q h1 fun he => h2 (Option.some.inj he)
        have hsa : wr.heap.size < wa.heap.size := lt_of_heap BX.out
        have hX5 : w5.heap[wr.heap.size]? = some (.cells #[.int .i64 x1, .int .i64 x2, .int .i64 x3, .int .i64 (seq + k + 1), .int .i64 x5, .bool x6, .slice a1 n1 c1, .int .i64 p, .slice a2 n2 c2] 74 (0, 0)) := (hblk5 _ hsa g2.symm).trans BX.out
        have hG5 : w5.heap[g]? = some (.cells #[.int .i64 f, .int .i64 t, .int .i64 s, .int .i64 (seq + k), .int .i64 (timeR time rs k), .map (some mb)] 138 (0, 0)) := (hblk5 _ (by omega) hgm).trans ((BA.out.block _ g3).trans HR.out.box)
        have hx3 : w5.cell? ⟨wr.heap.size, 3, none⟩ = some (.int .i64 (seq + k + 1)) := (cell_of hX5).trans rfl
        have hx4 : w5.cell? ⟨wr.heap.size, 4, none⟩ = some (.int .i64 x5) := (cell_of hX5).trans rfl
        have y3 : w5.cell? ⟨g, 3, none⟩ = some (.int .i64 (seq + k)) := (cell_of hG5).trans rfl
        have y4 : w5.cell? ⟨g, 4, none⟩ = some (.int .i64 (timeR time rs k)) := (cell_of hG5).trans rfl
        have z3 : w5.frozen? ⟨g, 3, none⟩ = false := free_of hG5
        have z4 : w5.frozen? ⟨g, 4, none⟩ = false := free_of hG5
        have O5 : Hid (OnlyR g mb wr w5) := (show OnlyR _ _ _ _ from ⟨hg5.os.trans BA.out.os, hg5.tape.trans BA.out.tape, hg5.output.trans BA.out.output, by omega, fun q h1 h2 h3 => (hblk5 q (by omega) h3).trans (BA.out.block q h1)⟩)
        have X5 := hid hX5
        have G5 := hid hG5
        clear hg5 hblk5 hX5 hG5 q5 q3 hrun5 TU5
        go_upto_region 6 with (fail)
        go_region
        generalize hw6 : World.drew _ = w6
        have hG6 : w6.heap[g]? = some (.cells #[.int .i64 f, .int .i64 t, .int .i64 s, .int .i64 (seq + k + 1), .int .i64 x5, .map (some mb)] 138 (0, 0)) := by
          rw [← hw6]
          exact heap_set (j := 4) (heap_set (j := 3) G5.out (.int .i64 (seq + k + 1))) (.int .i64 x5)
        have hblk6 : ∀ q, q ≠ g → w6.heap[q]? = w5.heap[q]? := fun q hq => by
          rw [← hw6]
          show ((w5.setCell _ _).setCell _ _).heap[q]? = _
          rw [Below.heap_setCell _ _ _ _ hq, Below.heap_setCell _ _ _ _ hq]
        have hsz6 : w6.heap.size = w5.heap.size := by
          rw [← hw6]
          show ((w5.setCell _ _).setCell _ _).heap.size = _
          rw [size_set, size_set]
        have hos6 : w6.os = w5.os ∧ w6.tape = w5.tape ∧ w6.output = w5.output := by rw [← hw6]; exact ⟨rfl, rfl, rfl⟩
        clear hw6
        have hX6 : w6.heap[wr.heap.size]? = some (.cells #[.int .i64 x1, .int .i64 x2, .int .i64 x3, .int .i64 (seq + k + 1), .int .i64 x5, .bool x6, .slice a1 n1 c1, .int .i64 p, .slice a2 n2 c2] 74 (0, 0)) := (hblk6 _ g1.symm).trans X5.out
        have e0 : w6.cell? ⟨wr.heap.size, 0, none⟩ = some (.int .i64 x1) := (cell_of hX6).trans rfl
        have e1 : w6.cell? ⟨wr.heap.size, 1, none⟩ = some (.int .i64 x2) := (cell_of hX6).trans rfl
        have e2 : w6.cell? ⟨wr.heap.size, 2, none⟩ = some (.int .i64 x3) := (cell_of hX6).trans rfl
        have e3 : w6.cell? ⟨wr.heap.size, 3, none⟩ = some (.int .i64 (seq + k + 1)) := (cell_of hX6).trans rfl
        have e4 : w6.cell? ⟨wr.heap.size, 4, none⟩ = some (.int .i64 x5) := (cell_of hX6).trans rfl
        have e5 : w6.cell? ⟨wr.heap.size, 5, none⟩ = some (.bool x6) := (cell_of hX6).trans rfl
        have e6 : w6.cell? ⟨wr.heap.size, 6, none⟩ = some (.slice a1 n1 c1) := (cell_of hX6).trans rfl
        have e7 : w6.cell? ⟨wr.heap.size, 7, none⟩ = some (.int .i64 p) := (cell_of hX6).trans rfl
        have e8 : w6.cell? ⟨wr.heap.size, 8, none⟩ = some (.slice a2 n2 c2) := (cell_of hX6).trans rfl
        have O6 : Hid (OnlyR g mb wr w6) := (show OnlyR _ _ _ _ from ⟨hos6.1.trans O5.out.os, hos6.2.1.trans O5.out.tape, hos6.2.2.trans O5.out.output, by omega, fun q h1 h2 h3 => (hblk6 q h2).trans (O5.out.block q h1 h2 h3)⟩)
        have M6 : Hid (w6.ownsMap Tryz.prog 3 elemV mb n (D.del (.int .i64 (seq + k + 1)))) := (show World.ownsMap _ _ _ _ _ _ _ from by
          obtain ⟨es, clock, hb, r⟩ := OW5.out
          exact ⟨es, clock, (hblk6 _ hgm.symm).trans hb, r⟩)
        have X8 := hid (owns_at HX.out fun q h1 h2 => O6.out.block q h2 (by omega) (by omega))
        have G6 := hid hG6
        obtain ⟨xa, xc, hxv⟩ := row_shape HX.out
        subst hxv
        have hsr6 : wr.heap.size ≤ w6.heap.size := O6.out.size
        clear hsz6 hG6 hX6 hblk6 hos6 hx3 hx4 y3 y4 z3 z4
        go_wp2_with (at_builtin; refine wpList_append_own _ rfl _ _ 34 rfl w.heap.size 74 i37 _ 9 104 Tryz.underlying34 hi hz0 hz1 hz2 rfl (by decide) _ _ _ rfl (X8.out.alloc _) ⟨w6.heap.size, 0, none⟩ 1 1 [.int .i64 x1, .int .i64 x2, .int .i64 x3, .int .i64 (seq + k + 1), .int .i64 x5, .bool x6, .slice a1 n1 c1, .int .i64 p, .slice a2 n2 c2] rfl rfl (cells3_new _ _ _) (oneR ⟨x1, x2, x3, seq + k + 1, x5, x6, a1, n1, c1, p, a2, n2, c2⟩) ?hm2 ?hm3 ?hm4 ?_; (case hm2 => unfold maxLen; omega); (case hm3 => omega); (case hm4 => simp; omega); intro v9 w9 hown9 hgr9 _; have B9 : Hid (∀ q, q < w.heap.size → w9.heap[q]? = w6.heap[q]?) := (show ∀ q, q < w.heap.size → w9.heap[q]? = w6.heap[q]? from fun q hq => by rw [hgr9.block q (by simp; omega) (fun e => by have := (X8.out.lt q e.symm).1; omega), Below.heap_alloc _ _ _ (by omega)]); have S9 : Hid (w9.os = w6.os ∧ w9.tape = w6.tape ∧ w9.output = w6.output ∧ w6.heap.size ≤ w9.heap.size) := (show _ ∧ _ from ⟨hgr9.os, hgr9.tape, hgr9.output, by have := hgr9.size; simp at *; omega⟩); have X9 := hid hown9; clear hown9 hgr9)
        have hseq : seq + (k : Int) + 1 = seq + ((k + 1 : Nat) : Int) := by omega
        refine ⟨⟨k + 1, _, by omega, rfl, ?_, ?_, ?_⟩, ?_⟩
        · show World.ownsRow _ _ _ _ _ _ _
          rw [comeR_succ, raws_snoc, ← HTM.out]
          exact X9.out
        · show RcvM _ _ _ _ _ _ _ _ _ _
          rw [← comeV_succ, ← hseq]
          refine ⟨?_, _, ?_, HMB.out.del _⟩
          · rw [B9.out g hgl, G6.out]
            have e : timeR time rs (k + 1) = x5 := by
              show (rs k).x5 = x5
              rw [← HTM.out]
            rw [e]
          · obtain ⟨es, clock, hb, r⟩ := M6.out
            exact ⟨es, clock, (B9.out mb hml).trans hb, r⟩
        · show OnlyR _ _ _ _
          exact ⟨S9.out.1.trans (O6.out.os.trans HO.out.os), S9.out.2.1.trans (O6.out.tape.trans HO.out.tape), S9.out.2.2.1.trans (O6.out.output.trans HO.out.output), by have := S9.out.2.2.2; omega, fun q h1 h2 h3 => by rw [B9.out q h1, O6.out.block q (by omega) h2 h3]; exact HO.out.block q h1 h2 h3⟩
        · obtain ⟨ya, yc, hyv⟩ := row_shape X9.out
          rw [hyv]
          show c - (k + 1) < c - k
          omega
    · obtain rfl : k = c := by omega
      have LK := fun u hu => look_raw_none hD hMB (n64_num hnum) (hnx.trans HZ.out) u hu
      have HELD : Hid (∀ u : World, u.heap[g]? = wr.heap[g]? → u.heap[mb]? = wr.heap[mb]? → u.cell? ⟨g, 3, none⟩ = some (.int .i64 (seq + k)) ∧ u.cell? ⟨g, 5, none⟩ = some (.map (some mb)) ∧ (Instr.lookup 136 (.map (some mb)) (.int .i64 (seq + k + 1)) true).run Tryz.prog u = .ok (.tuple #[.agg #[.int .i64 0, .int .i64 0, .int .i64 0, .int .i64 0, .int .i64 0, .bool false, .slice none 0 0, .int .i64 0, .slice none 0 0], .bool false]) u) := fun u h1 h2 => ⟨c3 u h1, c5 u h1, LK u h2⟩
      clear c3 c5 LK hD hMB hnx
      go_upto_region 2 with (fail)
      go_region_held (fun u => u.cell? ⟨g, 3, none⟩ = some (.int .i64 (seq + k)) ∧ u.cell? ⟨g, 5, none⟩ = some (.map (some mb)) ∧ (Instr.lookup 136 (.map (some mb)) (.int .i64 (seq + k + 1)) true).run Tryz.prog u = .ok (.tuple #[.agg #[.int .i64 0, .int .i64 0, .int .i64 0, .int .i64 0, .int .i64 0, .bool false, .slice none 0 0, .int .i64 0, .slice none 0 0], .bool false]) u) ((refine HELD.out _ ?_ ?_ <;> simp [Below.heap_alloc, drew_heap, g3, g4])) (fail)
      all_goals go_wp2
      all_goals go_ret
      all_goals
        have hb := (below_alloc wr (.cells #[.int .i64 0, .int .i64 0, .int .i64 0, .int .i64 0, .int .i64 0, .bool false, .slice none 0 0, .int .i64 0, .slice none 0 0] 74)).drew
        exact ⟨_, rfl, owns_at HX.out fun q _ h2 => hb.block q h2, HR.out.moved (hb.block _ g3) (hb.block _ g4), HO.out.below hb⟩
end Go.Proofs.YtepnghacjggkkaaGreatDoor
namespace Go.Proofs.YtepnghacjggkkaaGreatDoor
open Go.RowKit Go.Sort Go.Maps
set_option maxRecDepth 100000
set_option linter.unusedSectionVars false
variable [Inhabited ComV] [DecidableEq D3] [Inhabited D3] [Inhabited Dd] [Inhabited Dn] [Inhabited OpV]

theorem below_undrew {B : Nat} {w w' : World} (h : Below B w.drew w') : Below B w w' := ⟨h.os, h.tape, h.output, h.size, h.block⟩
theorem PutInv.next {s : St} {c : ComV} {p mb db n : Nat} {f : ByteArray → Value} {w : World} {t : Nat} {wr : World} {ft : ByteArray → Value} (TI : PutInv s c p mb db n f w t wr ft) {w5 w6 w8 w9 w10 : World} {x2 : ByteArray} {fv v9 : Value} {S' : St} {C' : ComV} {n5 : Nat} {D5 : DataW Unit} {R : Value → Option (DataW Unit × List MemPlace)} {kt : Nat}
    (hb5 : Below wr.heap.size wr w5) (hD5 : w5.ownsMap Tryz.prog kt R db n5 D5) (hg6 : w5.grownBy w6 (some db)) (hb68 : Below w6.heap.size w6 w8) (hfv : fv = ft x2) (hg9 : w8.grownBy w9 fv.ownBlock) (hat : v9.ownBlock = fv.ownBlock ∨ v9.ownBlock = some w8.heap.size)
    (hst : Stepped w8 p mb db (n + 2 * t + 1) ft S' C' fv v9 w9 w10) (hkey : keyOfC C' = x2) (hS : (⟨S'.base, S'.parts ++ [C'], S'.dots⟩ : St) = putTo s c (t + 1)) : PutInv s c p mb db n f w (t + 1) w10 (updF ft x2 v9) := by
  subst hkey
  have h1 := hb5.size
  have h2 := hg6.size
  have h3 := hb68.size
  have h4 := hg9.size
  have h5 := hst.grown.size
  have h6 := TI.size
  refine ⟨?_, ?_, (((TI.keep.trans (Keep3.of_below hb5 (Nat.le_refl _))).trans (keep3_map hD5 hg6)).trans (Keep3.of_below hb68 (Nat.le_refl _))).trans hst.keep, fun k e => ?_, by omega⟩
  · have hv := hst.ver
    rw [hS, show n + 2 * t + 1 + 1 = n + 2 * (t + 1) by omega] at hv
    exact hv
  · have T5 := TI.turn.below hb5
    have T6 := T5.grown hg6 (fun b _ _ h3 _ e => h3 (Option.some.inj e))
    have T8 := T6.below hb68
    have T9 := T8.grown hg9 (fun b k1 _ _ k4 e => by
      rcases TI.turn.fresh (keyOfC C') b (by rw [← hfv]; exact e.symm) with ⟨k', hk⟩ | hge
      · exact k4 k' hk
      · omega)
    have T10 := T9.grown hst.grown (fun b _ h2 _ _ e => h2 (Option.some.inj e))
    exact T10.upd (wx := w8) (by rw [← hfv]; exact hat) (by omega)
  · unfold updF at e
    split at e
    · rcases hat with h | h
      · rw [h, hfv] at e
        exact TI.off _ e
      · rw [h] at e
        have := Option.some.inj e
        omega
    · exact TI.off k e
end Go.Proofs.YtepnghacjggkkaaGreatDoor
namespace Go.Proofs.YtepnghacjggkkaaGreatDoor
open Go.RowKit Go.Maps
set_option maxRecDepth 100000
set_option linter.unusedSectionVars false
variable [Inhabited ComV] [DecidableEq D3] [Inhabited D3] [Inhabited Dd] [Inhabited Dn] [Inhabited OpV]

theorem wrap_64 {k : Int} (h : n64 k) : IntKind.i64.wrap k = k := by
  obtain ⟨h1, h2⟩ := h
  simp [IntKind.wrap, IntKind.bits, IntKind.signed]
  omega
def HrNew (w : World) (g mb n : Nat) (f t s seq time k : Int) (M : Int → Option Raw) (m : MsgV) (e : Ending) (w' : World) : Prop := ∃ (v : Value) (c : Nat) (rs : Nat → Raw) (r' : Raw), e = .returned (.tuple #[v, .nilIface]) ∧ w'.ownsRow w.heap.size 74 9 v c (raws (comeR rs c)) ∧ RcvM w' g mb (n + 1) f t s (seq + c) (timeR time rs c) (comeV (updV M k (some r')) seq c) ∧ RawOwn w.heap.size w' r' m ∧ OnlyR g mb w w' ∧ (∀ i, i < c → updV M k (some r') (seq + (i + 1 : Nat)) = some (rs i)) ∧ updV M k (some r') (seq + (c + 1 : Nat)) = none
set_option maxHeartbeats 4000000 in
theorem hear_new_raw (w : World) (g mb n : Nat) (f t s seq time : Int) (M : Int → Option Raw) (r : Raw) (h : RcvM w g mb n f t s seq time M) (m : MsgV) (hat : RawAt w r m) (hL : Light m.c) (hgm : g ≠ mb) (hn : n ≤ 1000) (hbe : bearsB f t s r = true) (hx : 1 ≤ r.x4) (ht : timeB r.x5 = true) (h64 : n64 r.x4) (hkn : ((M r.x4).isSome || decide (r.x4 ≤ seq)) = false) (h0 : 0 ≤ seq) (h1 : seq ≤ 1000) (hne : r.x4 - (seq + 1) ≤ 200) (hcr : ∀ r' : Raw, r'.Nums m → ∃ (c : Nat) (rs : Nat → Raw), seq + c ≤ 1000 ∧ (∀ i, i < c → updV M r.x4 (some r') (seq + (i + 1 : Nat)) = some (rs i) ∧ (rs i).x4 = seq + (i + 1 : Nat)) ∧ updV M r.x4 (some r') (seq + (c + 1 : Nat)) = none) : Calls Tryz.prog 42 #[.pointer (some ⟨g, 0, none⟩), .agg r.cells.toArray] w (HrNew w g mb n f t s seq time r.x4 M m) := by
  have BE := hid (fun u => bears_raw u f t s r)
  have c0 : ∀ u, Below w.heap.size w u → u.cell? ⟨g, 0, none⟩ = some (.int .i64 f) := fun u hu => (cell_of ((hu.block _ (lt_of_heap h.box)).trans h.box)).trans rfl
  have c1' : ∀ u, Below w.heap.size w u → u.cell? ⟨g, 1, none⟩ = some (.int .i64 t) := fun u hu => (cell_of ((hu.block _ (lt_of_heap h.box)).trans h.box)).trans rfl
  have c2' : ∀ u, Below w.heap.size w u → u.cell? ⟨g, 2, none⟩ = some (.int .i64 s) := fun u hu => (cell_of ((hu.block _ (lt_of_heap h.box)).trans h.box)).trans rfl
  have C3 : Hid (∀ u, Below w.heap.size w u → u.cell? ⟨g, 3, none⟩ = some (.int .i64 seq)) := (show ∀ u, Below w.heap.size w u → _ from fun u hu => (cell_of ((hu.block _ (lt_of_heap h.box)).trans h.box)).trans rfl)
  have KN := hid (fun u (hu : Below w.heap.size w u) => knows_raw u g mb n f t s seq time r.x4 M (h.below hu) h64)
  rw [hkn] at KN
  have AT := hid hat
  have HL := hid hL
  have HCR := hid hcr
  clear hat hL hcr
  have HR := hid h
  have C0 := hid c0
  have C1 := hid c1'
  have C2 := hid c2'
  obtain ⟨x1, x2, x3, x4, x5, x6, a1, n1, c1, p, a2, n2, c2⟩ := r
  unfold Raw.cells at BE ⊢
  simp only at BE KN AT HCR hx ht h64 hne ⊢
  obtain ⟨wa, hwa⟩ : ∃ wa, wa = w.alloc (.cells #[.int .i64 x1, .int .i64 x2, .int .i64 x3, .int .i64 x4, .int .i64 x5, .bool x6, .slice a1 n1 c1, .int .i64 p, .slice a2 n2 c2] 74) := ⟨_, rfl⟩
  have hba : Below w.heap.size w wa := by rw [hwa]; exact below_alloc _ _
  clear h c0 c1' c2'
  rw [hbe] at BE
  clear hbe
  go_enter Tryz.func42, Tryz.ntmps42
  go_wp2_with fail
  rw [← hwa]
  have hX : wa.heap[w.heap.size]? = some (.cells #[.int .i64 x1, .int .i64 x2, .int .i64 x3, .int .i64 x4, .int .i64 x5, .bool x6, .slice a1 n1 c1, .int .i64 p, .slice a2 n2 c2] 74 (0, 0)) := by rw [hwa]; exact heap_new _ _
  have HELD : Hid (∀ u, Below wa.heap.size wa u → u.cell? ⟨g, 0, none⟩ = some (.int .i64 f) ∧ u.cell? ⟨g, 1, none⟩ = some (.int .i64 t) ∧ u.cell? ⟨g, 2, none⟩ = some (.int .i64 s) ∧ u.cell? ⟨w.heap.size, 0, none⟩ = some (.int .i64 x1) ∧ u.cell? ⟨w.heap.size, 1, none⟩ = some (.int .i64 x2) ∧ u.cell? ⟨w.heap.size, 2, none⟩ = some (.int .i64 x3) ∧ u.cell? ⟨w.heap.size, 3, none⟩ = some (.int .i64 x4) ∧ u.cell? ⟨w.heap.size, 4, none⟩ = some (.int .i64 x5) ∧ u.cell? ⟨w.heap.size, 5, none⟩ = some (.bool x6) ∧ u.cell? ⟨w.heap.size, 6, none⟩ = some (.slice a1 n1 c1) ∧ u.cell? ⟨w.heap.size, 7, none⟩ = some (.int .i64 p) ∧ u.cell? ⟨w.heap.size, 8, none⟩ = some (.slice a2 n2 c2)) := fun u hu => by
    have hq := (hu.block _ (lt_of_heap hX)).trans hX
    have hz : Below w.heap.size w u := hba.trans (hu.mono hba.size)
    exact ⟨C0.out u hz, C1.out u hz, C2.out u hz, (cell_of hq).trans rfl, (cell_of hq).trans rfl, (cell_of hq).trans rfl, (cell_of hq).trans rfl, (cell_of hq).trans rfl, (cell_of hq).trans rfl, (cell_of hq).trans rfl, (cell_of hq).trans rfl, (cell_of hq).trans rfl⟩
  have hdr : Below wa.heap.size wa wa.drew := (Below.refl _ _).drew
  have BA := hid hba
  have XA := hid hX
  clear hwa hX hba
  go_region_held (fun u => u.cell? ⟨g, 0, none⟩ = some (.int .i64 f) ∧ u.cell? ⟨g, 1, none⟩ = some (.int .i64 t) ∧ u.cell? ⟨g, 2, none⟩ = some (.int .i64 s) ∧ u.cell? ⟨w.heap.size, 0, none⟩ = some (.int .i64 x1) ∧ u.cell? ⟨w.heap.size, 1, none⟩ = some (.int .i64 x2) ∧ u.cell? ⟨w.heap.size, 2, none⟩ = some (.int .i64 x3) ∧ u.cell? ⟨w.heap.size, 3, none⟩ = some (.int .i64 x4) ∧ u.cell? ⟨w.heap.size, 4, none⟩ = some (.int .i64 x5) ∧ u.cell? ⟨w.heap.size, 5, none⟩ = some (.bool x6) ∧ u.cell? ⟨w.heap.size, 6, none⟩ = some (.slice a1 n1 c1) ∧ u.cell? ⟨w.heap.size, 7, none⟩ = some (.int .i64 p) ∧ u.cell? ⟨w.heap.size, 8, none⟩ = some (.slice a2 n2 c2)) ((refine HELD.out _ ?_; with_reducible assumption)) (first | (go_at_call 63; refine (BE.out _).mono ?_; rintro e w' ⟨rfl, hbw⟩; replace hbw : Below wa.heap.size wa w' := below_undrew hbw))
  obtain ⟨_, _, _, _, _, _, d3, d4, _, _, _, _⟩ := HELD.out _ hbw
  have B1 := hid hbw
  clear hbw hdr
  clear hkn
  have IT := hid (fun u => isTime_any x5 u)
  rw [ht] at IT
  have h1k : ¬ x4 < 1 := by omega
  clear ht
  go_wp2_with (first | (go_at_call 45; refine (IT.out _).mono ?_; rintro e w2 ⟨rfl, rfl⟩))
  have hb2 := BA.out.trans (B1.out.mono BA.out.size)
  refine (KN.out _ hb2).mono ?_
  rintro e w3 ⟨rfl, hb3⟩
  have B3 := hid (hb2.trans (hb3.mono hb2.size))
  have D3 : Hid (w3.cell? ⟨w.heap.size, 3, none⟩ = some (.int .i64 x4)) := (show _ = _ from by rw [hb3.cell (p := ⟨w.heap.size, 3, none⟩) (lt_of_cell d3)]; exact d3)
  have BB3 := hid (B1.out.trans (hb3.mono B1.out.size))
  clear hb2 hb3
  have c3 : w3.cell? ⟨g, 3, none⟩ = some (.int .i64 seq) := C3.out _ B3.out
  have d3' : w3.cell? ⟨w.heap.size, 3, none⟩ = some (.int .i64 x4) := D3.out
  have wr1 : IntKind.i64.wrap (seq + 1) = seq + 1 := wrap_num ⟨by omega, by omega⟩
  have wr2 : IntKind.i64.wrap (x4 - (seq + 1)) = x4 - (seq + 1) := wrap_64 ⟨by have := h64.2; omega, by have := h64.2; omega⟩
  have wr3 : ¬ 200 < x4 - (seq + 1) := by omega
  have H64 := hid h64
  clear h64
  go_wp2_with fail
  go_region
  generalize hw4 : World.drew _ = w4
  have B4 : Hid (Below w.heap.size w w4) := (show Below _ _ _ from by rw [← hw4]; exact B3.out.drew)
  have hX4 : w4.heap[w.heap.size]? = some (.cells #[.int .i64 x1, .int .i64 x2, .int .i64 x3, .int .i64 x4, .int .i64 x5, .bool x6, .slice a1 n1 c1, .int .i64 p, .slice a2 n2 c2] 74 (0, 0)) := by
    rw [← hw4]
    exact (BB3.out.block _ (lt_of_heap XA.out)).trans XA.out
  clear hw4 c3 d3'
  have hgl := lt_of_heap HR.out.box
  have hml : mb < w.heap.size := HR.out.mlt
  have hG4 := (B4.out.block _ hgl).trans HR.out.box
  have hsz4 := B4.out.size
  have hl4 := lt_of_heap hX4
  have HELD : Hid (∀ u : World, u.heap[g]? = w4.heap[g]? → u.heap[w.heap.size]? = w4.heap[w.heap.size]? → u.cell? ⟨g, 5, none⟩ = some (.map (some mb)) ∧ u.cell? ⟨w.heap.size, 0, none⟩ = some (.int .i64 x1) ∧ u.cell? ⟨w.heap.size, 1, none⟩ = some (.int .i64 x2) ∧ u.cell? ⟨w.heap.size, 2, none⟩ = some (.int .i64 x3) ∧ u.cell? ⟨w.heap.size, 3, none⟩ = some (.int .i64 x4) ∧ u.cell? ⟨w.heap.size, 4, none⟩ = some (.int .i64 x5) ∧ u.cell? ⟨w.heap.size, 5, none⟩ = some (.bool x6) ∧ u.cell? ⟨w.heap.size, 6, none⟩ = some (.slice a1 n1 c1) ∧ u.cell? ⟨w.heap.size, 7, none⟩ = some (.int .i64 p) ∧ u.cell? ⟨w.heap.size, 8, none⟩ = some (.slice a2 n2 c2)) := (show ∀ u : World, _ from fun u p1 p2 => by
    have hq := p2.trans hX4
    have hg := p1.trans hG4
    exact ⟨(cell_of hg).trans rfl, (cell_of hq).trans rfl, (cell_of hq).trans rfl, (cell_of hq).trans rfl, (cell_of hq).trans rfl, (cell_of hq).trans rfl, (cell_of hq).trans rfl, (cell_of hq).trans rfl, (cell_of hq).trans rfl, (cell_of hq).trans rfl⟩)
  have CB : Hid (∀ u, Below w4.heap.size w4 u → Calls Tryz.prog 65 #[.agg #[.int .i64 x1, .int .i64 x2, .int .i64 x3, .int .i64 x4, .int .i64 x5, .bool x6, .slice a1 n1 c1, .int .i64 p, .slice a2 n2 c2]] u fun e w' => ∃ y1 y2 y3 y4 y5 y6 b1 k1 e1 q b2 k2 e2, e = .returned (.agg #[.int .i64 y1, .int .i64 y2, .int .i64 y3, .int .i64 y4, .int .i64 y5, .bool y6, .slice b1 k1 e1, .int .i64 q, .slice b2 k2 e2]) ∧ Below w4.heap.size w4 w' ∧ Hid (RawOwn w.heap.size w' ⟨y1, y2, y3, y4, y5, y6, b1, k1, e1, q, b2, k2, e2⟩ m)) := (show ∀ u, _ → _ from fun u hu => by
    have hbu := B4.out.trans (hu.mono hsz4)
    refine (copy_raw u ⟨x1, x2, x3, x4, x5, x6, a1, n1, c1, p, a2, n2, c2⟩ m (AT.out.mono hbu (Nat.le_refl _)) HL.out).mono ?_
    rintro e w' ⟨⟨y1, y2, y3, y4, y5, y6, b1, k1, e1, q, b2, k2, e2⟩, rfl, ho, hb⟩
    exact ⟨y1, y2, y3, y4, y5, y6, b1, k1, e1, q, b2, k2, e2, rfl, hu.trans (hb.mono hu.size), ho.base hbu.size⟩)
  have ST : Hid (∀ (u : World) (y1 y2 y3 y4 y5 : Int) (y6 : Bool) (b1 : Option Addr) (k1 e1 : Nat) (q : Int) (b2 : Option Addr) (k2 e2 : Nat), Below w4.heap.size w4 u → ∃ w6, (Instr.mapUpdate 136 (.map (some mb)) (.int .i64 x4) (.agg #[.int .i64 y1, .int .i64 y2, .int .i64 y3, .int .i64 y4, .int .i64 y5, .bool y6, .slice b1 k1 e1, .int .i64 q, .slice b2 k2 e2])).run Tryz.prog u = .ok () w6 ∧ RcvM w6 g mb (n + 1) f t s seq time (updV M x4 (some ⟨y1, y2, y3, y4, y5, y6, b1, k1, e1, q, b2, k2, e2⟩)) ∧ OnlyR g mb w w6 ∧ w6.heap[g]? = w4.heap[g]? ∧ w6.heap[w.heap.size]? = w4.heap[w.heap.size]? ∧ u.heap.size ≤ w6.heap.size ∧ ∀ q, q < u.heap.size → q ≠ mb → w6.heap[q]? = u.heap[q]?) := (show ∀ u, _ from fun u y1 y2 y3 y4 y5 y6 b1 k1 e1 qq b2 k2 e2 hu => by
    have hbu := B4.out.trans (hu.mono hsz4)
    obtain ⟨D, hD, hMB⟩ := (HR.out.moved (hbu.block _ hgl) (hbu.block _ hml)).map
    obtain ⟨w6, r1, r2, r3⟩ := hD.store keyed3 Tryz.underlying136 (by unfold maxLen; omega) (key_64 H64.out) (val := .agg (Raw.cells ⟨y1, y2, y3, y4, y5, y6, b1, k1, e1, qq, b2, k2, e2⟩).toArray) (d := .held (.agg (Raw.cells ⟨y1, y2, y3, y4, y5, y6, b1, k1, e1, qq, b2, k2, e2⟩).toArray)) (ps := []) rfl
    have hgr := r3.grown
    have hus := hu.size
    have hbl : ∀ q, q < u.heap.size → q ≠ mb → w6.heap[q]? = u.heap[q]? := fun q q1 q2 => hgr.block q q1 fun he => q2 (Option.some.inj he)
    have e1 : w6.heap[g]? = w4.heap[g]? := (hbl g (by omega) hgm).trans (hu.block _ (by omega))
    refine ⟨w6, r1, ⟨e1.trans hG4, _, r2, hMB.put hD.isMap x4 _⟩, ⟨hgr.os.trans hbu.os, hgr.tape.trans hbu.tape, hgr.output.trans hbu.output, by have := hgr.size; have := hbu.size; omega, fun q q1 q2 q3 => (hbl q (by omega) q3).trans (hbu.block q q1)⟩, e1, (hbl _ (by omega) (by omega)).trans (hu.block _ hl4), hgr.size, hbl⟩)
  have hb0 : Below w4.heap.size w4 w4.drew := (Below.refl _ _).drew
  clear hX4 hG4 hsz4
  go_wp2_with fail
  go_region_held (fun u => u.cell? ⟨g, 5, none⟩ = some (.map (some mb)) ∧ u.cell? ⟨w.heap.size, 0, none⟩ = some (.int .i64 x1) ∧ u.cell? ⟨w.heap.size, 1, none⟩ = some (.int .i64 x2) ∧ u.cell? ⟨w.heap.size, 2, none⟩ = some (.int .i64 x3) ∧ u.cell? ⟨w.heap.size, 3, none⟩ = some (.int .i64 x4) ∧ u.cell? ⟨w.heap.size, 4, none⟩ = some (.int .i64 x5) ∧ u.cell? ⟨w.heap.size, 5, none⟩ = some (.bool x6) ∧ u.cell? ⟨w.heap.size, 6, none⟩ = some (.slice a1 n1 c1) ∧ u.cell? ⟨w.heap.size, 7, none⟩ = some (.int .i64 p) ∧ u.cell? ⟨w.heap.size, 8, none⟩ = some (.slice a2 n2 c2)) ((refine HELD.out _ ?_ ?_ <;> first | with_reducible assumption | rfl)) (first | (go_at_call 65; refine (CB.out _ (by with_reducible assumption)).mono ?_; rintro e w5 ⟨y1, y2, y3, y4, y5, y6, b1, k1, e1, q, b2, k2, e2, rfl, hb5, HOW⟩; obtain ⟨w6, hrun6, hrc6, hon6, s3, s4, hz6, hbl6⟩ := ST.out w5 y1 y2 y3 y4 y5 y6 b1 k1 e1 q b2 k2 e2 hb5; have s1 : w5.heap[g]? = w4.heap[g]? := hb5.block _ (show g < w4.heap.size by omega); have s2 : w5.heap[w.heap.size]? = w4.heap[w.heap.size]? := hb5.block _ hl4; have RC6 := hid hrc6; have ON6 := hid hon6; have OW6 : Hid (RawOwn w.heap.size w6 ⟨y1, y2, y3, y4, y5, y6, b1, k1, e1, q, b2, k2, e2⟩ m) := ⟨HOW.out.nums, HOW.out.own.at fun gg q1 q2 => hbl6 gg q2 (by omega)⟩; clear hrc6 hon6 hb5 HOW hbl6 hz6))
  clear hrun6 s1 s2 s3 s4
  obtain ⟨c, rs, hc1, hcM, hcz⟩ := HCR.out ⟨y1, y2, y3, y4, y5, y6, b1, k1, e1, q, b2, k2, e2⟩ OW6.out.nums
  have HCM := hid hcM
  have HCZ := hid hcz
  have CO := hid (come_raw w6 g mb (n + 1) c f t s seq time _ rs RC6.out hgm h0 hc1 hcM hcz)
  clear hc1 hcM hcz
  go_wp2_with fail
  refine CO.out.mono ?_
  rintro e w7 ⟨v7, rfl, hr7, hc7, ho7⟩
  have R7 := hid hr7
  have C7 := hid hc7
  have O7 := hid ho7
  clear hr7 hc7 ho7
  go_wp2
  go_ret2
  refine ⟨v7, c, rs, _, rfl, owns_base R7.out ON6.out.size, C7.out, ⟨OW6.out.nums, OW6.out.own.at fun gg q1 q2 => O7.out.block gg q2 (by omega) (by omega)⟩, ⟨O7.out.os.trans ON6.out.os, O7.out.tape.trans ON6.out.tape, O7.out.output.trans ON6.out.output, Nat.le_trans ON6.out.size O7.out.size, fun q q1 q2 q3 => (O7.out.block q (Nat.lt_of_lt_of_le q1 ON6.out.size) q2 q3).trans (ON6.out.block q q1 q2 q3)⟩, fun i hi => (HCM.out i hi).1, HCZ.out⟩
end Go.Proofs.YtepnghacjggkkaaGreatDoor
