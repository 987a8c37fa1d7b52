/- come: what has its turn, whatever it is. -/
import Derived.Test.YtefpnojanldkeaaGreatDoorJHR
import Derived.Test.YtefpnojanldkeaaGreatDoorJSCome
import Derived.Test.YtefpnojanldkeaaGreatDoorJTD
import Derived.Test.YtefpnojanldkeaaGreatDoorJVRefN
import Derived.Test.YtefpnojanldkeaaGreatDoorJWState
import Derived.Test.YtefpnojanldkeaaGreatDoorJVOwnM
import Derived.Test.YtefpnojanldkeaaGreatDoorJWPutN
import Derived.Test.YtefpnojanldkeaaGreatDoorJSDel
import Derived.Test.YtefpnojanldkeaaGreatDoorJVStandM
import Derived.Test.YtefpnojanldkeaaGreatDoorJHF
import Derived.Test.YtefpnojanldkeaaGreatDoorJVOp
import Derived.Test.YtefpnojanldkeaaGreatDoorJCA
import Derived.Test.YtefpnojanldkeaaGreatDoorJTC2
import Derived.Test.YtefpnojanldkeaaGreatDoorJVOnceM
import Derived.Deep.RegionHeld
namespace Go.Proofs.YtefpnojanldkeaaGreatDoor
open Go.RowKit Go.Maps
set_option maxRecDepth 100000
set_option linter.unusedSectionVars false
variable [Inhabited ComV] [DecidableEq D3] [Inhabited D3] [Inhabited Dd] [Inhabited Dn] [Inhabited OpV]

/-- What is kept once c of them have come. -/
def comeV (M : Int → Option Raw) (seq : Int) (c : Nat) : Int → Option Raw := fun j => if seq < j ∧ j ≤ seq + c then none else M j
/-- What comes. -/
def comeR (rs : Nat → Raw) (c : Nat) : List Raw := (List.range c).map rs
theorem comeR_succ (rs : Nat → Raw) (c : Nat) : comeR rs (c + 1) = comeR rs c ++ [rs c] := by simp [comeR, List.range_succ]
theorem comeV_zero (M : Int → Option Raw) (seq : Int) : comeV M seq 0 = M := by
  funext j
  unfold comeV
  rw [if_neg (by omega)]
theorem comeV_succ (M : Int → Option Raw) (seq : Int) (c : Nat) : updV (comeV M seq c) (seq + (c + 1 : Nat)) none = comeV M seq (c + 1) := by
  funext j
  unfold comeV updV
  by_cases h : j = seq + (c + 1 : Nat)
  · rw [if_pos h, if_pos (by omega)]
  · rw [if_neg h]
    show (if seq < j ∧ j ≤ seq + c then none else M j) = _
    by_cases h2 : seq < j ∧ j ≤ seq + c
    · rw [if_pos h2, if_pos (by omega)]
    · rw [if_neg h2, if_neg (by omega)]
theorem comeV_next (M : Int → Option Raw) (seq : Int) (c : Nat) : comeV M seq c (seq + (c + 1 : Nat)) = M (seq + (c + 1 : Nat)) := by
  unfold comeV
  rw [if_neg (by omega)]
def timeR (time : Int) (rs : Nat → Raw) (c : Nat) : Int := lastT time (fun i => (rs i).x5) c
theorem n64_num {k : Int} (h : num k) : n64 k := ⟨by have := h.1; omega, by have := h.2; omega⟩
set_option maxHeartbeats 2000000 in
theorem come_raw (w : World) (g mb n c : Nat) (f t s seq time : Int) (M : Int → Option Raw) (rs : Nat → Raw) (h : RcvM w g mb n f t s seq time M) (hgm : g ≠ mb) (h0 : 0 ≤ seq) (h1 : seq + c ≤ 1000) (hM : ∀ i, i < c → M (seq + (i + 1 : Nat)) = some (rs i) ∧ (rs i).x4 = seq + (i + 1 : Nat)) (hz : M (seq + (c + 1 : Nat)) = none) :
    Calls Tryz.prog 67 #[.pointer (some ⟨g, 0, none⟩)] w fun e w' => ∃ v, e = .returned v ∧ w'.ownsRow w.heap.size 44 9 v c (raws (comeR rs c)) ∧ RcvM w' g mb n f t s (seq + c) (timeR time rs c) (comeV M seq c) ∧ OnlyR g mb w w' := by
  obtain ⟨i37, hi, hz0, hz1, hz2⟩ := info_parts Tryz.info44
  have H := hid h
  have HM := hid hM
  have HZ := hid hz
  have hgl := lt_of_heap h.box
  have hml : mb < w.heap.size := by obtain ⟨D, hm, _⟩ := h.map; exact hm.lt
  clear h hM hz
  go_enter Tryz.func67, Tryz.ntmps67
  go_wp2
  go_loopw [3] (fun x wr => ∃ (k : Nat) (xv : Value), k ≤ c ∧ x = xv ∧ Hid (wr.ownsRow w.heap.size 44 9 xv k (raws (comeR rs k))) ∧ Hid (RcvM wr g mb n f t s (seq + k) (timeR time rs k) (comeV M seq k)) ∧ Hid (OnlyR g mb w wr)) (fun x _ => c - lenV x)
  case atStart =>
    refine ⟨0, _, Nat.zero_le _, rfl, World.ownsRow_nil _ _ _ _, ?_, OnlyR.refl _ _ _⟩
    show RcvM _ _ _ _ _ _ _ _ _ _
    rw [comeV_zero, show seq + ((0 : Nat) : Int) = seq by omega]
    exact H.out
  case round =>
    obtain ⟨k, xv, hk, rfl, HX, HR, HO⟩ := hrel
    obtain ⟨D, hD, hMB⟩ := HR.out.map
    have c3 : ∀ u : World, u.heap[g]? = wr.heap[g]? → u.cell? ⟨g, 3, none⟩ = some (.int .i64 (seq + k)) := fun u hu => (cell_of (hu.trans HR.out.box)).trans rfl
    have c5 : ∀ u : World, u.heap[g]? = wr.heap[g]? → u.cell? ⟨g, 5, none⟩ = some (.map (some mb)) := fun u hu => (cell_of (hu.trans HR.out.box)).trans rfl
    have hnum : num (seq + k + 1) := ⟨by omega, by omega⟩
    have hnx : comeV M seq k (seq + k + 1) = M (seq + (k + 1 : Nat)) := by
      rw [← comeV_next M seq k]; congr 1; omega
    have hrs : w.heap.size ≤ wr.heap.size := HO.out.size
    have g1 : g ≠ wr.heap.size := by omega
    have g2 : mb ≠ wr.heap.size := by omega
    have g3 : g < wr.heap.size := by omega
    have g4 : mb < wr.heap.size := by omega
    have w1 := wrap_num hnum
    by_cases hlt : k < c
    · obtain ⟨hts, hx4⟩ := HM.out k hlt
      obtain ⟨rr, htm⟩ : ∃ rr, rr = rs k := ⟨_, rfl⟩
      rw [← htm] at hts hx4
      have HTM := hid htm
      clear htm
      have LK := fun u hu => look_raw hD hMB (n64_num hnum) (hnx.trans hts) u hu
      obtain ⟨x1, x2, x3, x4, x5, x6, a1, n1, c1, p, a2, n2, c2⟩ := rr
      simp only at hx4
      rw [show seq + ((k + 1 : Nat) : Int) = seq + k + 1 by omega] at hx4
      subst hx4
      unfold Raw.cells at LK
      simp only at LK
      have HELD : Hid (∀ u : World, u.heap[g]? = wr.heap[g]? → u.heap[mb]? = wr.heap[mb]? → u.cell? ⟨g, 3, none⟩ = some (.int .i64 (seq + k)) ∧ u.cell? ⟨g, 5, none⟩ = some (.map (some mb)) ∧ (Instr.lookup 127 (.map (some mb)) (.int .i64 (seq + k + 1)) true).run Tryz.prog u = .ok (.tuple #[.agg #[.int .i64 x1, .int .i64 x2, .int .i64 x3, .int .i64 (seq + k + 1), .int .i64 x5, .bool x6, .slice a1 n1 c1, .int .i64 p, .slice a2 n2 c2], .bool true]) u) := fun u h1 h2 => ⟨c3 u h1, c5 u h1, LK u h2⟩
      have HD := hid hD
      have HMB := hid hMB
      clear c3 c5 LK hD hMB hnx hts
      go_upto_region 2 with (fail)
      refine joined (p := ?gOne) (fun hp => ?main) ?later
      case main =>
        go_region_held (fun u => u.cell? ⟨g, 3, none⟩ = some (.int .i64 (seq + k)) ∧ u.cell? ⟨g, 5, none⟩ = some (.map (some mb)) ∧ (Instr.lookup 127 (.map (some mb)) (.int .i64 (seq + k + 1)) true).run Tryz.prog u = .ok (.tuple #[.agg #[.int .i64 x1, .int .i64 x2, .int .i64 x3, .int .i64 (seq + k + 1), .int .i64 x5, .bool x6, .slice a1 n1 c1, .int .i64 p, .slice a2 n2 c2], .bool true]) u) ((refine HELD.out _ ?_ ?_ <;> simp [Below.heap_alloc, drew_heap, g3, g4])) (fail)
        all_goals exact hp
      case later =>
        have hba := (below_alloc wr (.cells #[.int .i64 x1, .int .i64 x2, .int .i64 x3, .int .i64 (seq + k + 1), .int .i64 x5, .bool x6, .slice a1 n1 c1, .int .i64 p, .slice a2 n2 c2] 44)).drew
        have hnew := heap_new wr (.cells #[.int .i64 x1, .int .i64 x2, .int .i64 x3, .int .i64 (seq + k + 1), .int .i64 x5, .bool x6, .slice a1 n1 c1, .int .i64 p, .slice a2 n2 c2] 44)
        generalize hwa : World.drew _ = wa
        rw [hwa] at hba
        have hbox : wa.heap[wr.heap.size]? = some (.cells #[.int .i64 x1, .int .i64 x2, .int .i64 x3, .int .i64 (seq + k + 1), .int .i64 x5, .bool x6, .slice a1 n1 c1, .int .i64 p, .slice a2 n2 c2] 44 (0, 0)) := by rw [← hwa]; exact hnew
        clear hwa hnew HELD
        have hDa : wa.drew.ownsMap Tryz.prog 3 elemV mb n D := by
          obtain ⟨es, clock, hb, r⟩ := HD.out
          exact ⟨es, clock, (hba.block _ g4).trans hb, r⟩
        obtain ⟨w5, hrun5, hown5, hturn5⟩ := hDa.drop keyed3 Tryz.underlying127 (key_64 (n64_num hnum)) 0
        have q5 : wa.cell? ⟨g, 5, none⟩ = some (.map (some mb)) := (cell_of ((hba.block _ g3).trans HR.out.box)).trans rfl
        have q3 : wa.cell? ⟨wr.heap.size, 3, none⟩ = some (.int .i64 (seq + k + 1)) := (cell_of hbox).trans rfl
        have BA := hid hba
        have BX := hid hbox
        have OW5 := hid hown5
        have TU5 := hid hturn5
        clear hba hbox hown5 hturn5 hDa
        go_upto_region 5 with (fail)
        go_region
        have hg5 := TU5.out.grown
        have hsz5 : wa.heap.size ≤ w5.heap.size := hg5.size
        have hblk5 : ∀ q, q < wa.heap.size → q ≠ mb → w5.heap[q]? = wa.heap[q]? := fun q h1 h2 => hg5.block q h1 fun he => h2 (Option.some.inj he)
        have hsa : wr.heap.size < wa.heap.size := lt_of_heap BX.out
        have hX5 : w5.heap[wr.heap.size]? = some (.cells #[.int .i64 x1, .int .i64 x2, .int .i64 x3, .int .i64 (seq + k + 1), .int .i64 x5, .bool x6, .slice a1 n1 c1, .int .i64 p, .slice a2 n2 c2] 44 (0, 0)) := (hblk5 _ hsa g2.symm).trans BX.out
        have hG5 : w5.heap[g]? = some (.cells #[.int .i64 f, .int .i64 t, .int .i64 s, .int .i64 (seq + k), .int .i64 (timeR time rs k), .map (some mb)] 129 (0, 0)) := (hblk5 _ (by omega) hgm).trans ((BA.out.block _ g3).trans HR.out.box)
        have hx3 : w5.cell? ⟨wr.heap.size, 3, none⟩ = some (.int .i64 (seq + k + 1)) := (cell_of hX5).trans rfl
        have hx4 : w5.cell? ⟨wr.heap.size, 4, none⟩ = some (.int .i64 x5) := (cell_of hX5).trans rfl
        have y3 : w5.cell? ⟨g, 3, none⟩ = some (.int .i64 (seq + k)) := (cell_of hG5).trans rfl
        have y4 : w5.cell? ⟨g, 4, none⟩ = some (.int .i64 (timeR time rs k)) := (cell_of hG5).trans rfl
        have z3 : w5.frozen? ⟨g, 3, none⟩ = false := free_of hG5
        have z4 : w5.frozen? ⟨g, 4, none⟩ = false := free_of hG5
        have O5 : Hid (OnlyR g mb wr w5) := (show OnlyR _ _ _ _ from ⟨hg5.os.trans BA.out.os, hg5.tape.trans BA.out.tape, hg5.output.trans BA.out.output, by omega, fun q h1 h2 h3 => (hblk5 q (by omega) h3).trans (BA.out.block q h1)⟩)
        have X5 := hid hX5
        have G5 := hid hG5
        clear hg5 hblk5 hX5 hG5 q5 q3 hrun5 TU5
        go_upto_region 6 with (fail)
        go_region
        generalize hw6 : World.drew _ = w6
        have hG6 : w6.heap[g]? = some (.cells #[.int .i64 f, .int .i64 t, .int .i64 s, .int .i64 (seq + k + 1), .int .i64 x5, .map (some mb)] 129 (0, 0)) := by
          rw [← hw6]
          exact heap_set (j := 4) (heap_set (j := 3) G5.out (.int .i64 (seq + k + 1))) (.int .i64 x5)
        have hblk6 : ∀ q, q ≠ g → w6.heap[q]? = w5.heap[q]? := fun q hq => by
          rw [← hw6]
          show ((w5.setCell _ _).setCell _ _).heap[q]? = _
          rw [Below.heap_setCell _ _ _ _ hq, Below.heap_setCell _ _ _ _ hq]
        have hsz6 : w6.heap.size = w5.heap.size := by
          rw [← hw6]
          show ((w5.setCell _ _).setCell _ _).heap.size = _
          rw [size_set, size_set]
        have hos6 : w6.os = w5.os ∧ w6.tape = w5.tape ∧ w6.output = w5.output := by rw [← hw6]; exact ⟨rfl, rfl, rfl⟩
        clear hw6
        have hX6 : w6.heap[wr.heap.size]? = some (.cells #[.int .i64 x1, .int .i64 x2, .int .i64 x3, .int .i64 (seq + k + 1), .int .i64 x5, .bool x6, .slice a1 n1 c1, .int .i64 p, .slice a2 n2 c2] 44 (0, 0)) := (hblk6 _ g1.symm).trans X5.out
        have e0 : w6.cell? ⟨wr.heap.size, 0, none⟩ = some (.int .i64 x1) := (cell_of hX6).trans rfl
        have e1 : w6.cell? ⟨wr.heap.size, 1, none⟩ = some (.int .i64 x2) := (cell_of hX6).trans rfl
        have e2 : w6.cell? ⟨wr.heap.size, 2, none⟩ = some (.int .i64 x3) := (cell_of hX6).trans rfl
        have e3 : w6.cell? ⟨wr.heap.size, 3, none⟩ = some (.int .i64 (seq + k + 1)) := (cell_of hX6).trans rfl
        have e4 : w6.cell? ⟨wr.heap.size, 4, none⟩ = some (.int .i64 x5) := (cell_of hX6).trans rfl
        have e5 : w6.cell? ⟨wr.heap.size, 5, none⟩ = some (.bool x6) := (cell_of hX6).trans rfl
        have e6 : w6.cell? ⟨wr.heap.size, 6, none⟩ = some (.slice a1 n1 c1) := (cell_of hX6).trans rfl
        have e7 : w6.cell? ⟨wr.heap.size, 7, none⟩ = some (.int .i64 p) := (cell_of hX6).trans rfl
        have e8 : w6.cell? ⟨wr.heap.size, 8, none⟩ = some (.slice a2 n2 c2) := (cell_of hX6).trans rfl
        have O6 : Hid (OnlyR g mb wr w6) := (show OnlyR _ _ _ _ from ⟨hos6.1.trans O5.out.os, hos6.2.1.trans O5.out.tape, hos6.2.2.trans O5.out.output, by omega, fun q h1 h2 h3 => (hblk6 q h2).trans (O5.out.block q h1 h2 h3)⟩)
        have M6 : Hid (w6.ownsMap Tryz.prog 3 elemV mb n (D.del (.int .i64 (seq + k + 1)))) := (show World.ownsMap _ _ _ _ _ _ _ from by
          obtain ⟨es, clock, hb, r⟩ := OW5.out
          exact ⟨es, clock, (hblk6 _ hgm.symm).trans hb, r⟩)
        have X8 := hid (owns_at HX.out fun q h1 h2 => O6.out.block q h2 (by omega) (by omega))
        have G6 := hid hG6
        obtain ⟨xa, xc, hxv⟩ := row_shape HX.out
        subst hxv
        have hsr6 : wr.heap.size ≤ w6.heap.size := O6.out.size
        clear hsz6 hG6 hX6 hblk6 hos6 hx3 hx4 y3 y4 z3 z4
        go_wp2_with (at_builtin; refine wpList_append_own _ rfl _ _ 37 rfl w.heap.size 44 i37 _ 9 104 Tryz.underlying37 hi hz0 hz1 hz2 rfl (by decide) _ _ _ rfl (X8.out.alloc _) ⟨w6.heap.size, 0, none⟩ 1 1 [.int .i64 x1, .int .i64 x2, .int .i64 x3, .int .i64 (seq + k + 1), .int .i64 x5, .bool x6, .slice a1 n1 c1, .int .i64 p, .slice a2 n2 c2] rfl rfl (cells3_new _ _ _) (oneR ⟨x1, x2, x3, seq + k + 1, x5, x6, a1, n1, c1, p, a2, n2, c2⟩) ?hm2 ?hm3 ?hm4 ?_; (case hm2 => unfold maxLen; omega); (case hm3 => omega); (case hm4 => simp; omega); intro v9 w9 hown9 hgr9 _; have B9 : Hid (∀ q, q < w.heap.size → w9.heap[q]? = w6.heap[q]?) := (show ∀ q, q < w.heap.size → w9.heap[q]? = w6.heap[q]? from fun q hq => by rw [hgr9.block q (by simp; omega) (fun e => by have := (X8.out.lt q e.symm).1; omega), Below.heap_alloc _ _ _ (by omega)]); have S9 : Hid (w9.os = w6.os ∧ w9.tape = w6.tape ∧ w9.output = w6.output ∧ w6.heap.size ≤ w9.heap.size) := (show _ ∧ _ from ⟨hgr9.os, hgr9.tape, hgr9.output, by have := hgr9.size; simp at *; omega⟩); have X9 := hid hown9; clear hown9 hgr9)
        have hseq : seq + (k : Int) + 1 = seq + ((k + 1 : Nat) : Int) := by omega
        refine ⟨⟨k + 1, _, by omega, rfl, ?_, ?_, ?_⟩, ?_⟩
        · show World.ownsRow _ _ _ _ _ _ _
          rw [comeR_succ, raws_snoc, ← HTM.out]
          exact X9.out
        · show RcvM _ _ _ _ _ _ _ _ _ _
          rw [← comeV_succ, ← hseq]
          refine ⟨?_, _, ?_, HMB.out.del _⟩
          · rw [B9.out g hgl, G6.out]
            have e : timeR time rs (k + 1) = x5 := by
              show (rs k).x5 = x5
              rw [← HTM.out]
            rw [e]
          · obtain ⟨es, clock, hb, r⟩ := M6.out
            exact ⟨es, clock, (B9.out mb hml).trans hb, r⟩
        · show OnlyR _ _ _ _
          exact ⟨S9.out.1.trans (O6.out.os.trans HO.out.os), S9.out.2.1.trans (O6.out.tape.trans HO.out.tape), S9.out.2.2.1.trans (O6.out.output.trans HO.out.output), by have := S9.out.2.2.2; omega, fun q h1 h2 h3 => by rw [B9.out q h1, O6.out.block q (by omega) h2 h3]; exact HO.out.block q h1 h2 h3⟩
        · obtain ⟨ya, yc, hyv⟩ := row_shape X9.out
          rw [hyv]
          show c - (k + 1) < c - k
          omega
    · obtain rfl : k = c := by omega
      have LK := fun u hu => look_raw_none hD hMB (n64_num hnum) (hnx.trans HZ.out) u hu
      have HELD : Hid (∀ u : World, u.heap[g]? = wr.heap[g]? → u.heap[mb]? = wr.heap[mb]? → u.cell? ⟨g, 3, none⟩ = some (.int .i64 (seq + k)) ∧ u.cell? ⟨g, 5, none⟩ = some (.map (some mb)) ∧ (Instr.lookup 127 (.map (some mb)) (.int .i64 (seq + k + 1)) true).run Tryz.prog u = .ok (.tuple #[.agg #[.int .i64 0, .int .i64 0, .int .i64 0, .int .i64 0, .int .i64 0, .bool false, .slice none 0 0, .int .i64 0, .slice none 0 0], .bool false]) u) := fun u h1 h2 => ⟨c3 u h1, c5 u h1, LK u h2⟩
      clear c3 c5 LK hD hMB hnx
      go_upto_region 2 with (fail)
      go_region_held (fun u => u.cell? ⟨g, 3, none⟩ = some (.int .i64 (seq + k)) ∧ u.cell? ⟨g, 5, none⟩ = some (.map (some mb)) ∧ (Instr.lookup 127 (.map (some mb)) (.int .i64 (seq + k + 1)) true).run Tryz.prog u = .ok (.tuple #[.agg #[.int .i64 0, .int .i64 0, .int .i64 0, .int .i64 0, .int .i64 0, .bool false, .slice none 0 0, .int .i64 0, .slice none 0 0], .bool false]) u) ((refine HELD.out _ ?_ ?_ <;> simp [Below.heap_alloc, drew_heap, g3, g4])) (fail)
      all_goals go_wp2
      all_goals go_ret
      all_goals
        have hb := (below_alloc wr (.cells #[.int .i64 0, .int .i64 0, .int .i64 0, .int .i64 0, .int .i64 0, .bool false, .slice none 0 0, .int .i64 0, .slice none 0 0] 44)).drew
        exact ⟨_, rfl, owns_at HX.out fun q _ h2 => hb.block q h2, HR.out.moved (hb.block _ g3) (hb.block _ g4), HO.out.below hb⟩
end Go.Proofs.YtefpnojanldkeaaGreatDoor
