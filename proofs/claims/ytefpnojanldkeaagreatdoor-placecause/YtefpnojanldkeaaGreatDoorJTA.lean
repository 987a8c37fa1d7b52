/- A message copied: the walk; The sender's Again, any messages. -/
import Derived.Test.YtefpnojanldkeaaGreatDoorJHF
import Derived.Test.YtefpnojanldkeaaGreatDoorJVOp
import Derived.Test.YtefpnojanldkeaaGreatDoorJTD
import Derived.Test.YtefpnojanldkeaaGreatDoorJVRefN
import Derived.Test.YtefpnojanldkeaaGreatDoorJSDel
import Derived.Test.YtefpnojanldkeaaGreatDoorJWState
import Derived.Test.YtefpnojanldkeaaGreatDoorJVOnceM
import Derived.Test.YtefpnojanldkeaaGreatDoorJVStandM
import Derived.Test.YtefpnojanldkeaaGreatDoorJVMap
import Derived.Test.YtefpnojanldkeaaGreatDoorJVOwnM
import Derived.Test.YtefpnojanldkeaaGreatDoorJVVec
import Derived.Test.YtefpnojanldkeaaGreatDoorJVRow
import Derived.Test.YtefpnojanldkeaaGreatDoorJWPutN
import Derived.Test.YtefpnojanldkeaaGreatDoorJSCome
import Derived.Test.YtefpnojanldkeaaGreatDoorJVErr2
import Derived.Test.YtefpnojanldkeaaGreatDoorJWPart
import Derived.Deep.RegionHeld
namespace Go.Proofs.YtefpnojanldkeaaGreatDoor
open Go.RowKit
set_option maxRecDepth 100000
set_option linter.unusedSectionVars false
variable [Inhabited ComV] [DecidableEq D3] [Inhabited D3] [Inhabited Dd] [Inhabited Dn] [Inhabited OpV]

/-- What Copy leaves: the same message in rows of its own. -/
def CpRet (m : MsgV) (w : World) (e : Ending) (w' : World) : Prop := ∃ r : Raw, e = .returned (.agg r.cells.toArray) ∧ RawOwn w.heap.size w' r m ∧ Below w.heap.size w w'
theorem cp_start {w w1 w2 w3 w4 : World} {p : Int} {ws : List Int} {os : List OpV} {n1 n2 : Nat} {a1 a2 a1' a2' : Option Addr} {c1 c2 c1' c2' : Nat} {rows : List (List Value)}
    (h1 : w1 = (w.alloc (.cells #[.slice a1 n1 c1, .int .i64 p, .slice a2 n2 c2] 36)).alloc (.cells #[.slice none 0 0, .int .i64 0, .slice none 0 0] 36))
    (b2 : Below w1.heap.size w1 w2) (o2 : w2.ownsRow w1.heap.size 3 1 (.slice a1' n1 c1') n1 (ws.map (Value.int .i64))) (h3 : w3 = w2.setCell ⟨w.heap.size, 0, none⟩ (.slice a1' n1 c1'))
    (b4 : Below w3.heap.size w3 w4) (o4 : w4.ownsRow w3.heap.size 34 7 (.slice a2' n2 c2') n2 rows.flatten) (hf : F2 (OpRow w) rows os) :
    CpI w p ws os n1 n2 a1' c1' a2' c2' 0 (w4.setCell ⟨w.heap.size, 2, none⟩ (.slice a2' n2 c2')) := by
  have s1 : w1.heap.size = w.heap.size + 2 := by rw [h1]; simp
  have s3 : w3.heap.size = w2.heap.size := by rw [h3]; simp
  have g2 := b2.size
  have g4 := b4.size
  have e1 : w1.heap[w.heap.size]? = some (.cells #[.slice a1 n1 c1, .int .i64 p, .slice a2 n2 c2] 36 (0, 0)) := by rw [h1]; exact heap_old (heap_new _ _) _
  have f1 : w1.heap[w.heap.size + 1]? = some (.cells #[.slice none 0 0, .int .i64 0, .slice none 0 0] 36 (0, 0)) := by rw [h1]; exact heap_new2 _ _ _
  have e2 : w2.heap[w.heap.size]? = _ := (b2.block _ (by omega)).trans e1
  have e3 : w3.heap[w.heap.size]? = some (.cells #[.slice a1' n1 c1', .int .i64 p, .slice a2 n2 c2] 36 (0, 0)) := by rw [h3, heap_set e2]; rfl
  have e4 : w4.heap[w.heap.size]? = _ := (b4.block _ (by omega)).trans e3
  have low : ∀ q, q ≠ w.heap.size → q < w2.heap.size → (w4.setCell ⟨w.heap.size, 2, none⟩ (.slice a2' n2 c2')).heap[q]? = w2.heap[q]? := fun q hq hl => by
    rw [Below.heap_setCell _ _ _ _ hq, b4.block q (by omega), h3, Below.heap_setCell _ _ _ _ hq]
  refine ⟨⟨?_, ?_, ?_, ?_, fun q hq => ?_⟩, by rw [heap_set e4]; rfl, ?_, ?_, [], rows, ?_, trivial, hf⟩
  · have := b4.os; rw [h3] at this; have t2 := b2.os; rw [h1] at t2; exact this.trans t2
  · have := b4.tape; rw [h3] at this; have t2 := b2.tape; rw [h1] at t2; exact this.trans t2
  · have := b4.output; rw [h3] at this; have t2 := b2.output; rw [h1] at t2; exact this.trans t2
  · rw [show (w4.setCell ⟨w.heap.size, 2, none⟩ (.slice a2' n2 c2')).heap.size = w4.heap.size by simp]; omega
  · rw [low q (by omega) (by omega), b2.block q (by omega), h1, Below.heap_alloc _ _ _ (by simp; omega), Below.heap_alloc _ _ _ hq]
  · rw [low _ (by omega) (by omega), b2.block _ (by omega)]; exact f1
  · exact owns_base (owns_at o2 fun g q1 q2 => low g (by omega) q2) (by omega)
  · exact owns_base (owns_at o4 fun g q1 q2 => Below.heap_setCell _ _ _ _ (by show g ≠ w.heap.size; omega)) (by omega)
set_option maxHeartbeats 4000000 in
theorem copyCommit_raw (w : World) (a1 : Option Addr) (n1 c1 : Nat) (p : Int) (a2 : Option Addr) (n2 c2 : Nat) (ws : List Int) (os : List OpV) (hw : IntsAt w (.slice a1 n1 c1) ws) (ho : OpsAt w (.slice a2 n2 c2) os) (hL : Light ⟨ws, p, os⟩) :
    Calls Tryz.prog 82 #[.agg #[.slice a1 n1 c1, .int .i64 p, .slice a2 n2 c2]] w fun e w' => ∃ b1 d1 b2 d2, e = .returned (.agg #[.slice b1 n1 d1, .int .i64 p, .slice b2 n2 d2]) ∧ ComOwn w.heap.size w' (.slice b1 n1 d1) (.slice b2 n2 d2) ⟨ws, p, os⟩ ∧ Below w.heap.size w w' := by
  have hln : n1 = ws.length := by obtain ⟨_, _, hv, _⟩ := hw; injection hv
  have hlm : n2 = os.length := by obtain ⟨_, _, hv⟩ := ho.len; injection hv
  have hl1 := hL.when_
  have hl2 := hL.ops
  have HLE := hid hL.each
  simp only at hl1 hl2
  obtain ⟨rows, hro, hrf⟩ := ho
  have h7 := rows7 hrf
  have hrl := f2_len hrf
  have SW := hid (src_ints hw)
  have SO := hid (src_ops hro h7)
  rw [← hln] at SW hl1
  rw [hrl, ← hlm] at SO
  rw [← hlm] at hl2
  have O1 := hid (ints_one ws)
  have O2 := hid (rows7_one hrf)
  have HRF := hid hrf
  have HLN := hid hln
  have HLM := hid hlm
  clear hw hro hrf h7 hrl hln hlm hL
  obtain ⟨w1, hw1⟩ : ∃ w1, w1 = (w.alloc (.cells #[.slice a1 n1 c1, .int .i64 p, .slice a2 n2 c2] 36)).alloc (.cells #[.slice none 0 0, .int .i64 0, .slice none 0 0] 36) := ⟨_, rfl⟩
  have s1 : w1.heap.size = w.heap.size + 2 := by rw [hw1]; simp
  have G1 : w1.heap[w.heap.size]? = some (.cells #[.slice a1 n1 c1, .int .i64 p, .slice a2 n2 c2] 36 (0, 0)) := by rw [hw1]; exact heap_old (heap_new _ _) _
  have bw1 : Below w.heap.size w w1 := by rw [hw1]; exact below2S _ _ _
  have KA := hid (clone48 w1 a1 n1 c1 _ (SW.out.moved fun a u hc => by rw [bw1.cell (p := a) (lt_of_cell hc)]; exact hc) O1.out (by omega))
  have p6 : w1.cell? ⟨w.heap.size, 0, none⟩ = some (.slice a1 n1 c1) := (cell_of G1).trans rfl
  have HG1 := hid G1
  have HW1 := hid hw1
  have BW1 := hid bw1
  clear G1 bw1
  go_enter Tryz.func82, Tryz.ntmps82
  go_wp2_with fail
  rw [← hw1]
  clear hw1
  refine KA.out.mono ?_
  rintro e w2 ⟨b1, d1, rfl, ho2, hb2⟩
  have G2 : w2.heap[w.heap.size]? = _ := (hb2.block _ (by omega)).trans HG1.out
  have q6 : w2.cell? ⟨w.heap.size, 0, none⟩ = some (.slice a1 n1 c1) := (cell_of G2).trans rfl
  have z6 : w2.frozen? ⟨w.heap.size, 0, none⟩ = false := free_of G2
  obtain ⟨w3, hw3⟩ : ∃ w3, w3 = w2.setCell ⟨w.heap.size, 0, none⟩ (.slice b1 n1 d1) := ⟨_, rfl⟩
  have G3 : w3.heap[w.heap.size]? = some (.cells #[.slice b1 n1 d1, .int .i64 p, .slice a2 n2 c2] 36 (0, 0)) := by rw [hw3, heap_set G2]; rfl
  have bw3 : Below w.heap.size w w3 := by rw [hw3]; exact (BW1.out.trans (hb2.mono (by omega))).setCell (Nat.le_refl _) _
  have p8 : w3.cell? ⟨w.heap.size, 2, none⟩ = some (.slice a2 n2 c2) := (cell_of G3).trans rfl
  have KB := hid (clone49 w3 a2 n2 c2 _ (SO.out.moved fun a u hc => by rw [bw3.cell (p := a) (lt_of_cell hc)]; exact hc) O2.out (by omega))
  have HW3 := hid hw3
  have O2' := hid ho2
  have B2 := hid hb2
  have HG3 := hid G3
  have hs3 : w.heap.size < w3.heap.size := lt_of_heap G3
  clear G2 G3 ho2 hb2 bw3 p6
  go_upto_region 2 with (fail)
  rw [← hw3]
  clear hw3 q6 z6
  go_wp2_with fail
  refine KB.out.mono ?_
  rintro e w4 ⟨b2, d2, rfl, ho4, hb4⟩
  have G4 : w4.heap[w.heap.size]? = _ := (hb4.block _ hs3).trans HG3.out
  have q8 : w4.cell? ⟨w.heap.size, 2, none⟩ = some (.slice a2 n2 c2) := (cell_of G4).trans rfl
  have z8 : w4.frozen? ⟨w.heap.size, 2, none⟩ = false := free_of G4
  have I0 := hid (cp_start HW1.out B2.out O2'.out HW3.out hb4 ho4 HRF.out)
  obtain ⟨w5, hw5⟩ : ∃ w5, w5 = w4.setCell ⟨w.heap.size, 2, none⟩ (.slice b2 n2 d2) := ⟨_, rfl⟩
  rw [← hw5] at I0
  have v8 : w5.cell? ⟨w.heap.size, 2, none⟩ = some (.slice b2 n2 d2) := (cell_of I0.out.box).trans rfl
  clear G4 ho4 hb4 hs3 p8
  go_upto_region 3 with (fail)
  rw [← hw5]
  clear hw5 q8 z8
  go_upto_region 4 with (fail)
  clear v8
  go_loopw [16] (fun i wr => ∃ k : Nat, k ≤ n2 ∧ i = .int .i64 k ∧ Hid (CpI w p ws os n1 n2 b1 d1 b2 d2 k wr)) (fun i _ => n2 - (intOf i).toNat)
  case atStart => exact ⟨0, Nat.zero_le _, rfl, I0.out⟩
  case round =>
    obtain ⟨k, hk, rfl, HI⟩ := hrel
    by_cases hlt : k < n2
    · obtain ⟨o, hok⟩ : ∃ o, os[k]? = some o := ⟨_, List.getElem?_eq_getElem (by have := HLM.out; omega)⟩
      obtain ⟨b, dp, dc, rfl, hc6, hu6, hdd, hb1, hb2, hnext⟩ := HI.out.next hok
      have hdl := (HLE.out o (List.mem_of_getElem? hok)).2.2
      have r8 : wr.cell? ⟨w.heap.size, 2, none⟩ = some (.slice (some ⟨b, 0, none⟩) n2 d2) := (cell_of HI.out.box).trans rfl
      have KD := hid (clone50 wr dp o.dots.length dc _ (src_dots (hdd.mono HI.out.below (Nat.le_refl _))) (all_dots_one _) (by omega))
      have NX := hid hnext
      have HU := hid hu6
      obtain ⟨nd, hnd⟩ : ∃ nd, nd = o.dots.length := ⟨_, rfl⟩
      rw [← hnd] at KD NX HU hc6
      have hi1 : (k : Int) < (n2 : Int) := by omega
      clear hok hdd hnext hu6 hnd
      go_wp2_with fail
      refine KD.out.mono ?_
      rintro e w6 ⟨b5, d5, rfl, ho6, hb6⟩
      obtain ⟨t6, tz6⟩ := HU.out w6 (hb6.block _ hb2)
      have I7 := hid (NX.out w6 b5 d5 hb6 ho6)
      clear ho6 hb6
      go_wp2_with fail
      exact ⟨⟨k + 1, by omega, by go_num, I7.out⟩, by simp [intOf]; omega⟩
    · obtain rfl : k = n2 := by omega
      have BX := hid HI.out.box
      have r0 : wr.cell? ⟨w.heap.size, 0, none⟩ = some (.slice b1 n1 d1) := (cell_of BX.out).trans rfl
      have r1 : wr.cell? ⟨w.heap.size, 1, none⟩ = some (.int .i64 p) := (cell_of BX.out).trans rfl
      have r2 : wr.cell? ⟨w.heap.size, 2, none⟩ = some (.slice b2 k d2) := (cell_of BX.out).trans rfl
      obtain ⟨wz, STORE, HZ⟩ := store_row HI.out.res [.slice b1 n1 d1, .int .i64 p, .slice b2 k d2] rfl rfl 36 3 rfl Tryz.sizeOf36
      go_wp2_with (refine STORE _ _ _ _ _ (.tmp 2) (.tmp 32) rfl rfl rfl rfl ?_)
      refine bodyPost_ret (ret_cell (k := 3) Tryz.results82 Tryz.isAgg36 Tryz.sizeOf36 _ _ (w.heap.size + 1) [.slice b1 n1 d1, .int .i64 p, .slice b2 k d2] rfl rfl HZ.out.1) rfl ⟨b1, d1, b2, d2, rfl, ?_, by rw [HZ.out.2]; exact below_setCells (by omega) _ _ HI.out.below⟩
      obtain ⟨A, B, q1, q2, q3⟩ := HI.out.ops
      rw [HLM.out, List.drop_length] at q3
      rw [HLM.out, List.take_length] at q2
      obtain rfl : B = [] := List.eq_nil_of_length_eq_zero (f2_len q3)
      rw [List.append_nil] at q1
      have hsf : ∀ g, w.heap.size + 2 ≤ g → g < wr.heap.size → wz.heap[g]? = wr.heap[g]? := fun g g1 _ => by rw [HZ.out.2]; exact setCells_other _ _ _ _ _ (by omega)
      refine ComOwn.base (base := w.heap.size + 2) ⟨?_, A, ?_, ?_⟩ (by omega)
      · show World.ownsRow _ _ _ _ _ _ _
        rw [← HLN.out]
        exact owns_at HI.out.when_ hsf
      · show World.ownsRow _ _ _ _ _ _ _
        rw [← HLM.out]
        exact owns_at q1 hsf
      · exact f2_mono (fun _ _ q => q.at hsf) q2
set_option maxHeartbeats 4000000 in
theorem copy_raw (w : World) (r : Raw) (m : MsgV) (h : RawAt w r m) (hL : Light m.c) : Calls Tryz.prog 66 #[.agg r.cells.toArray] w (CpRet m w) := by
  obtain ⟨x1, x2, x3, x4, x5, x6, a1, n1, c1, p, a2, n2, c2⟩ := r
  obtain ⟨⟨e1, e2, e3, e4, e5, e6, ep⟩, hw, ho⟩ := h
  obtain ⟨y1, y2, y3, y4, y5, y6, ⟨ws, pl, os⟩⟩ := m
  simp only at e1 e2 e3 e4 e5 e6 ep hw ho
  subst e1 e2 e3 e4 e5 e6 ep
  obtain ⟨w1, hw1⟩ : ∃ w1, w1 = (w.alloc (.cells #[.int .i64 x1, .int .i64 x2, .int .i64 x3, .int .i64 x4, .int .i64 x5, .bool x6, .slice a1 n1 c1, .int .i64 p, .slice a2 n2 c2] 44)).alloc (.cells #[.int .i64 0, .int .i64 0, .int .i64 0, .int .i64 0, .int .i64 0, .bool false, .slice none 0 0, .int .i64 0, .slice none 0 0] 44) := ⟨_, rfl⟩
  have s1 : w1.heap.size = w.heap.size + 2 := by rw [hw1]; simp
  have G1 : w1.heap[w.heap.size]? = some (.cells #[.int .i64 x1, .int .i64 x2, .int .i64 x3, .int .i64 x4, .int .i64 x5, .bool x6, .slice a1 n1 c1, .int .i64 p, .slice a2 n2 c2] 44 (0, 0)) := by rw [hw1]; exact heap_old (heap_new _ _) _
  have F1 : w1.heap[w.heap.size + 1]? = some (.cells #[.int .i64 0, .int .i64 0, .int .i64 0, .int .i64 0, .int .i64 0, .bool false, .slice none 0 0, .int .i64 0, .slice none 0 0] 44 (0, 0)) := by rw [hw1]; exact heap_new2 _ _ _
  have bw1 : Below w.heap.size w w1 := by rw [hw1]; exact below2S _ _ _
  have KA := hid (copyCommit_raw w1 a1 n1 c1 p a2 n2 c2 ws os (hw.mono bw1 (Nat.le_refl _)) (ho.mono bw1 (Nat.le_refl _)) hL)
  have HG1 := hid G1
  have HF1 := hid F1
  have BW1 := hid bw1
  have S1 := hid s1
  have p6 : w1.cell? ⟨w.heap.size, 6, none⟩ = some (.slice a1 n1 c1) := (cell_of G1).trans rfl
  have p7 : w1.cell? ⟨w.heap.size, 7, none⟩ = some (.int .i64 p) := (cell_of G1).trans rfl
  have p8 : w1.cell? ⟨w.heap.size, 8, none⟩ = some (.slice a2 n2 c2) := (cell_of G1).trans rfl
  unfold Raw.cells
  simp only
  clear G1 F1 bw1 hw ho hL s1
  go_enter Tryz.func66, Tryz.ntmps66
  go_wp2_with fail
  rw [← hw1]
  clear hw1
  refine KA.out.mono ?_
  rintro e w2 ⟨b1, d1, b2, d2, rfl, ho2, hb2⟩
  have G2 : w2.heap[w.heap.size]? = _ := (hb2.block _ (by have := S1.out; omega)).trans HG1.out
  have F2 : w2.heap[w.heap.size + 1]? = _ := (hb2.block _ (by have := S1.out; omega)).trans HF1.out
  have q6 : w2.cell? ⟨w.heap.size, 6, none⟩ = some (.slice a1 n1 c1) := (cell_of G2).trans rfl
  have q7 : w2.cell? ⟨w.heap.size, 7, none⟩ = some (.int .i64 p) := (cell_of G2).trans rfl
  have q8 : w2.cell? ⟨w.heap.size, 8, none⟩ = some (.slice a2 n2 c2) := (cell_of G2).trans rfl
  have z6 : w2.frozen? ⟨w.heap.size, 6, none⟩ = false := free_of G2
  have z7 : w2.frozen? ⟨w.heap.size, 7, none⟩ = false := free_of G2
  have z8 : w2.frozen? ⟨w.heap.size, 8, none⟩ = false := free_of G2
  obtain ⟨w3, hw3⟩ : ∃ w3, w3 = ((w2.setCell ⟨w.heap.size, 6, none⟩ (.slice b1 n1 d1)).setCell ⟨w.heap.size, 7, none⟩ (.int .i64 p)).setCell ⟨w.heap.size, 8, none⟩ (.slice b2 n2 d2) := ⟨_, rfl⟩
  have G3 : w3.heap[w.heap.size]? = some (.cells #[.int .i64 x1, .int .i64 x2, .int .i64 x3, .int .i64 x4, .int .i64 x5, .bool x6, .slice b1 n1 d1, .int .i64 p, .slice b2 n2 d2] 44 (0, 0)) := by rw [hw3]; exact (heap_set (heap_set (heap_set G2 _) _) _).trans rfl
  have low : ∀ q, q ≠ w.heap.size → w3.heap[q]? = w2.heap[q]? := fun q hq => by rw [hw3, Below.heap_setCell _ _ _ _ hq, Below.heap_setCell _ _ _ _ hq, Below.heap_setCell _ _ _ _ hq]
  have bw3 : Below w.heap.size w w3 := by rw [hw3]; exact (((BW1.out.trans (hb2.mono (by have := S1.out; omega))).setCell (Nat.le_refl _) _).setCell (Nat.le_refl _) _).setCell (Nat.le_refl _) _
  have own3 := hid (ho2.at fun g h1 _ => low g (by have := S1.out; omega))
  have F3 := hid ((low (w.heap.size + 1) (by omega)).trans F2)
  have HG3 := hid G3
  have BW3 := hid bw3
  clear G2 F2 G3 ho2 hb2 bw3 p6 p7 p8 low KA
  go_upto_region 2 with (fail)
  rw [← hw3]
  clear hw3 q6 q7 q8 z6 z7 z8
  have r0 : w3.cell? ⟨w.heap.size, 0, none⟩ = some (.int .i64 x1) := (cell_of HG3.out).trans rfl
  have r1 : w3.cell? ⟨w.heap.size, 1, none⟩ = some (.int .i64 x2) := (cell_of HG3.out).trans rfl
  have r2 : w3.cell? ⟨w.heap.size, 2, none⟩ = some (.int .i64 x3) := (cell_of HG3.out).trans rfl
  have r3 : w3.cell? ⟨w.heap.size, 3, none⟩ = some (.int .i64 x4) := (cell_of HG3.out).trans rfl
  have r4 : w3.cell? ⟨w.heap.size, 4, none⟩ = some (.int .i64 x5) := (cell_of HG3.out).trans rfl
  have r5 : w3.cell? ⟨w.heap.size, 5, none⟩ = some (.bool x6) := (cell_of HG3.out).trans rfl
  have r6 : w3.cell? ⟨w.heap.size, 6, none⟩ = some (.slice b1 n1 d1) := (cell_of HG3.out).trans rfl
  have r7 : w3.cell? ⟨w.heap.size, 7, none⟩ = some (.int .i64 p) := (cell_of HG3.out).trans rfl
  have r8 : w3.cell? ⟨w.heap.size, 8, none⟩ = some (.slice b2 n2 d2) := (cell_of HG3.out).trans rfl
  obtain ⟨wz, STORE, HZ⟩ := store_row F3.out [.int .i64 x1, .int .i64 x2, .int .i64 x3, .int .i64 x4, .int .i64 x5, .bool x6, .slice b1 n1 d1, .int .i64 p, .slice b2 n2 d2] rfl rfl 44 9 rfl Tryz.sizeOf44
  go_wp2_with (refine STORE _ _ _ _ _ (.tmp 2) (.tmp 7) rfl rfl rfl rfl ?_)
  refine bodyPost_ret (ret_cell (k := 9) Tryz.results66 Tryz.isAgg44 Tryz.sizeOf44 _ _ (w.heap.size + 1) [.int .i64 x1, .int .i64 x2, .int .i64 x3, .int .i64 x4, .int .i64 x5, .bool x6, .slice b1 n1 d1, .int .i64 p, .slice b2 n2 d2] rfl rfl HZ.out.1) rfl ⟨⟨x1, x2, x3, x4, x5, x6, b1, n1, d1, p, b2, n2, d2⟩, rfl, ⟨⟨rfl, rfl, rfl, rfl, rfl, rfl, rfl⟩, ?_⟩, by rw [HZ.out.2]; exact below_setCells (by omega) _ _ BW3.out⟩
  refine ComOwn.base (base := w1.heap.size) ?_ (by have := S1.out; omega)
  exact own3.out.at fun g g1 _ => by rw [HZ.out.2]; exact setCells_other _ _ _ _ _ (by have := S1.out; omega)
end Go.Proofs.YtefpnojanldkeaaGreatDoor
namespace Go.Proofs.YtefpnojanldkeaaGreatDoor
open Go.RowKit
set_option maxRecDepth 100000
set_option linter.unusedSectionVars false
variable [Inhabited ComV] [DecidableEq D3] [Inhabited D3] [Inhabited Dd] [Inhabited Dn] [Inhabited OpV]

theorem f2_snoc {α β : Type} {R : α → β → Prop} {l : List α} {m : List β} {a : α} {b : β} (h : F2 R l m) (hr : R a b) : F2 R (l ++ [a]) (m ++ [b]) := f2_append h hr
/-- What Again leaves: copies of all. -/
def AgRet (w : World) (ms : List MsgV) (e : Ending) (w' : World) : Prop := ∃ (v' : Value) (rs : List Raw), e = .returned v' ∧ w'.ownsRow w.heap.size 44 9 v' ms.length (raws rs) ∧ F2 (RawOwn w.heap.size w') rs ms ∧ Below w.heap.size w w'
set_option maxHeartbeats 4000000 in
theorem againFirst_raw (w : World) (g : Nat) (f t s seq time : Int) (v : Value) (l : List Raw) (ms : List MsgV) (N : Int) (hN : (l.length : Int) ≤ N) (h : SndR w g f t s seq time v l) (hl : l.length ≤ 1000) (hm : F2 (RawOwn 0 w) l ms) (hL : ∀ m ∈ ms, Light m.c) :
    Calls Tryz.prog 73 #[.pointer (some ⟨g, 0, none⟩), .int .i64 N] w (AgRet w ms) := by
  obtain ⟨i37, hi, hz0, hz1, hz2⟩ := info_parts Tryz.info44
  have H := hid h
  have HF := hid hm
  have HLL := hid hL
  obtain ⟨av, cv, rfl, hcv⟩ := row_room h.row
  have c5 : w.cell? ⟨g, 5, none⟩ = some (.slice av l.length cv) := (cell_of h.box).trans rfl
  obtain ⟨n, hn⟩ : ∃ n, n = l.length := ⟨_, rfl⟩
  rw [← hn] at c5 hl hN hcv
  have HN := hid hn
  have HM : Hid (n = ms.length) := hn.trans (f2_len hm)
  clear h hn hm hL
  have hn0 : (0 : Int) ≤ (n : Int) := by omega
  have hx1 : max N 0 = N := by omega
  have hx2 : min N (n : Int) = (n : Int) := by omega
  go_enter Tryz.func73, Tryz.ntmps73
  go_upto_region 4 with (fail)
  go_region_held (fun u => u.cell? ⟨g, 5, none⟩ = some (.slice av n cv)) (go_keep) (fail)
  go_wp2
  go_loopw [5, 24] (fun x i wr => ∃ (k : Nat) (xv : Value) (rs : List Raw), k ≤ n ∧ i = .int .i64 k ∧ x = xv ∧ Hid (wr.ownsRow w.heap.size 44 9 xv k (raws rs)) ∧ Hid (F2 (RawOwn w.heap.size wr) rs (ms.take k)) ∧ Hid (Below w.heap.size w wr)) (fun _ i _ => n - (intOf i).toNat)
  case atStart => exact ⟨0, _, [], Nat.zero_le _, rfl, rfl, World.ownsRow_nil _ _ _ _, trivial, (Below.refl _ _).drew⟩
  case round =>
    obtain ⟨k, xv, rs, hk, rfl, rfl, HX, HRS, HR⟩ := hrel
    by_cases hlt : k < n
    · obtain ⟨r, hr⟩ : ∃ r, l[k]? = some r := ⟨_, List.getElem?_eq_getElem (by rw [← HN.out]; exact hlt)⟩
      obtain ⟨m, hmk⟩ : ∃ m, ms[k]? = some m := ⟨_, List.getElem?_eq_getElem (by rw [← HM.out]; exact hlt)⟩
      obtain ⟨b, rfl, _, hcell⟩ := row_raw H.out.row rfl hr
      have hrm : RawOwn 0 w r m := by
        obtain ⟨r', h1, h2⟩ := f2_get HF.out k m hmk
        rw [hr] at h1
        obtain rfl := Option.some.inj h1
        exact h2
      have HT : Hid (ms.take (k + 1) = ms.take k ++ [m]) := by
        show _ = _
        obtain ⟨hk1, hk2⟩ := List.getElem?_eq_some_iff.1 hmk
        rw [List.take_succ_eq_append_getElem hk1, hk2]
      have HAT := hid (hrm.at_.mono HR.out (Nat.le_refl _))
      have HLM := hid (HLL.out m (List.mem_of_getElem? hmk))
      obtain ⟨x1, x2, x3, x4, x5, x6, a1, n1, c1, p, a2, n2, c2⟩ := r
      have up : ∀ j u, (Raw.cells ⟨x1, x2, x3, x4, x5, x6, a1, n1, c1, p, a2, n2, c2⟩)[j]? = some u → wr.cell? ⟨b, k * 9 + j, none⟩ = some u := fun j u hu => by
        have e := hcell j u hu
        rw [HR.out.cell (p := ⟨b, k * 9 + j, none⟩) (lt_of_cell e)]; exact e
      have e0 : wr.cell? ⟨b, k * 9, none⟩ = some (.int .i64 x1) := up 0 _ rfl
      have e1 := up 1 (.int .i64 x2) rfl
      have e2 := up 2 (.int .i64 x3) rfl
      have e3 := up 3 (.int .i64 x4) rfl
      have e4 := up 4 (.int .i64 x5) rfl
      have e5 := up 5 (.bool x6) rfl
      have e6 := up 6 (.slice a1 n1 c1) rfl
      have e7 := up 7 (.int .i64 p) rfl
      have e8 := up 8 (.slice a2 n2 c2) rfl
      obtain ⟨xa, xc, hxv⟩ := row_shape HX.out
      subst hxv
      have hi1 : (k : Int) < (n : Int) := by omega
      clear up hcell hr hmk hrm
      obtain ⟨w5, hw5⟩ : ∃ w5, w5 = wr.alloc (.cells #[.int .i64 x1, .int .i64 x2, .int .i64 x3, .int .i64 x4, .int .i64 x5, .bool x6, .slice a1 n1 c1, .int .i64 p, .slice a2 n2 c2] 44) := ⟨_, rfl⟩
      have hb5 : Below wr.heap.size wr w5 := by rw [hw5]; exact below_alloc _ _
      have KC := hid (copy_raw w5 ⟨x1, x2, x3, x4, x5, x6, a1, n1, c1, p, a2, n2, c2⟩ m (HAT.out.mono hb5 (Nat.le_refl _)) HLM.out)
      unfold Raw.cells at KC
      simp only at KC
      go_wp2_with fail
      rw [← hw5]
      refine KC.out.mono ?_
      rintro e w8 ⟨⟨y1, y2, y3, y4, y5, y6, b1, k1, d1, pp, b2, k2, d2⟩, rfl, how, hb8⟩
      have hbr : Below wr.heap.size wr w8 := hb5.trans (hb8.mono hb5.size)
      have X8 := hid (owns_at HX.out fun q _ h2 => hbr.block q h2)
      have B8 := hid (HR.out.trans (hbr.mono HR.out.size))
      have RS8 := hid (f2_mono (fun _ _ hq => (⟨hq.nums, hq.own.at fun q _ h2 => hbr.block q h2⟩ : RawOwn _ _ _ _)) HRS.out)
      have OW8 := hid (how.base (Nat.le_trans HR.out.size hb5.size))
      clear hw5 KC hb5 hb8 hbr e0 e1 e2 e3 e4 e5 e6 e7 e8 how
      unfold Raw.cells
      simp only
      go_wp2_with (at_builtin; refine wpList_append_own _ rfl _ _ 37 rfl w.heap.size 44 i37 _ 9 104 Tryz.underlying37 hi hz0 hz1 hz2 rfl (by decide) _ _ _ rfl (X8.out.alloc _) ⟨w8.heap.size, 0, none⟩ 1 1 [.int .i64 y1, .int .i64 y2, .int .i64 y3, .int .i64 y4, .int .i64 y5, .bool y6, .slice b1 k1 d1, .int .i64 pp, .slice b2 k2 d2] rfl rfl (cells3_new _ _ _) (oneR ⟨y1, y2, y3, y4, y5, y6, b1, k1, d1, pp, b2, k2, d2⟩) ?hm2 ?hm3 ?hm4 ?_; (case hm2 => unfold maxLen; omega); (case hm3 => omega); (case hm4 => have := B8.out.size; simp; omega); intro v9 w9 hown9 hgr9 _; have B9 : Hid (Below w.heap.size w w9) := (show Below _ _ _ from ⟨hgr9.os.trans B8.out.os, hgr9.tape.trans B8.out.tape, hgr9.output.trans B8.out.output, by have := hgr9.size; have := B8.out.size; simp at *; omega, fun q hq => by rw [hgr9.block q (by have := B8.out.size; simp; omega) (fun e => by have := (X8.out.lt q e.symm).1; omega), Below.heap_alloc _ _ _ (by have := B8.out.size; omega)]; exact B8.out.block q hq⟩); have KP : Hid (Keeps w8 w9) := (show Keeps _ _ from fun tt htt bb cc hcc => grown_ne X8.out hgr9 bb cc tt (by rcases htt with e | e | e <;> (rw [e]; decide)) hcc); have X9 := hid hown9; clear hown9 hgr9)
      refine ⟨⟨k + 1, _, rs ++ [⟨y1, y2, y3, y4, y5, y6, b1, k1, d1, pp, b2, k2, d2⟩], by omega, by go_num, rfl, ?_, ?_, B9.out⟩, by simp [intOf]; omega⟩
      · show World.ownsRow _ _ _ _ _ _ _
        rw [raws_snoc]
        exact X9.out
      · show F2 _ _ _
        rw [HT.out]
        exact f2_snoc (f2_mono (fun _ _ hq => hq.kept KP.out) RS8.out) (OW8.out.kept KP.out)
    · obtain rfl : k = n := by omega
      have HT : Hid (ms.take k = ms) := List.take_of_length_le (by rw [← HM.out]; omega)
      rw [HT.out] at HRS
      go_wp2
      go_ret
      exact ⟨_, rs, rfl, by rw [← HM.out]; exact HX.out, HRS.out, HR.out⟩
end Go.Proofs.YtefpnojanldkeaaGreatDoor
