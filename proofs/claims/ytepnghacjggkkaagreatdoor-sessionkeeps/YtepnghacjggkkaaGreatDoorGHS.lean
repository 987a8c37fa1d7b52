/- A message copied: the walk; come: what has its turn; come: what has its turn, whatever it is. -/
import Derived.Test.YtepnghacjggkkaaGreatDoorGHF
import Derived.Test.YtepnghacjggkkaaGreatDoorGWState
import Derived.Test.YtepnghacjggkkaaGreatDoorGWPart
import Derived.Deep.Cut
import Derived.Deep.Fields
import Derived.Deep.RegionHeld
import Derived.Deep.RegionHeldLaw
import Derived.Deep.RegionLaw
import Derived.Deep.Slices
import Derived.DeepKeys5
import Derived.Ground.SlsfProg
import Derived.LaidEql
import Derived.LaidHandle
import Derived.LaidLaws
import Derived.LaidSub
import Derived.Laws.AppendOwnNone
import Derived.Laws.MakeOwn
import Derived.Laws.ResultCell
import Derived.Lib.SliceRun
import Derived.Maps.AppendAt
import Derived.Maps.OwnSet
import Derived.OpenShut
import Derived.ProofKit
import Derived.RowKitTokens
import Derived.Shelf.SlGeneric
import Derived.Shelf.SlIter.Nil
import Derived.Shelf.Slices.CompactS
import Derived.Shelf.Slices.In.SortNone
import Derived.Shelf.SlicesE.DeleteFunc
import Derived.Shelf.Sort.Plain
import Derived.Sort.KeysCollected
import Derived.Stop.Asserts
import Derived.Test.YtepnghacjggkkaaGreatDoorChecked
import Derived.Test.YtepnghacjggkkaaGreatDoorProg
import Derived.Test.YtepnghacjggkkaaGreatDoorRows
import Derived.WalkKit
import Derived.Test.YtepnghacjggkkaaGreatDoorGWNew
import Derived.BigQuiet
import Derived.Deep.Draws
import Derived.Deep.QuietTactic
import Derived.Handy
import Derived.Laws.OwnMore
import Derived.Shelf.SlicesQ.IndexFunc
import Derived.Sort.Grow
import Derived.StillTailTactics
namespace Go.Proofs.YtepnghacjggkkaaGreatDoor
open Go.RowKit
set_option maxRecDepth 100000
set_option linter.unusedSectionVars false
variable [Inhabited ComV] [DecidableEq D3] [Inhabited D3] [Inhabited Dd] [Inhabited Dn] [Inhabited OpV]

def CpRet (m : MsgV) (w : World) (e : Ending) (w' : World) : Prop := ∃ r : Raw, e = .returned (.agg r.cells.toArray) ∧ RawOwn w.heap.size w' r m ∧ Below w.heap.size w w'
theorem cp_start {w w1 w2 w3 w4 : World} {p : Int} {ws : List Int} {os : List OpV} {n1 n2 : Nat} {a1 a2 a1' a2' : Option Addr} {c1 c2 c1' c2' : Nat} {rows : List (List Value)}
    (h1 : w1 = (w.alloc (.cells #[.slice a1 n1 c1, .int .i64 p, .slice a2 n2 c2] 47)).alloc (.cells #[.slice none 0 0, .int .i64 0, .slice none 0 0] 47))
    (b2 : Below w1.heap.size w1 w2) (o2 : w2.ownsRow w1.heap.size 3 1 (.slice a1' n1 c1') n1 (ws.map (Value.int .i64))) (h3 : w3 = w2.setCell ⟨w.heap.size, 0, none⟩ (.slice a1' n1 c1'))
    (b4 : Below w3.heap.size w3 w4) (o4 : w4.ownsRow w3.heap.size 97 7 (.slice a2' n2 c2') n2 rows.flatten) (hf : F2 (OpRow w) rows os) :
    CpI w p ws os n1 n2 a1' c1' a2' c2' 0 (w4.setCell ⟨w.heap.size, 2, none⟩ (.slice a2' n2 c2')) := by
  have s1 : w1.heap.size = w.heap.size + 2 := by rw [h1]; simp
  have s3 : w3.heap.size = w2.heap.size := by rw [h3]; simp
  have g2 := b2.size
  have g4 := b4.size
  have e1 : w1.heap[w.heap.size]? = some (.cells #[.slice a1 n1 c1, .int .i64 p, .slice a2 n2 c2] 47 (0, 0)) := by rw [h1]; exact heap_old (heap_new _ _) _
  have f1 : w1.heap[w.heap.size + 1]? = some (.cells #[.slice none 0 0, .int .i64 0, .slice none 0 0] 47 (0, 0)) := by rw [h1]; exact heap_new2 _ _ _
  have e2 : w2.heap[w.heap.size]? = _ := (b2.block _ (by omega)).trans e1
  have e3 : w3.heap[w.heap.size]? = some (.cells #[.slice a1' n1 c1', .int .i64 p, .slice a2 n2 c2] 47 (0, 0)) := by rw [h3, heap_set e2]; rfl
  have e4 : w4.heap[w.heap.size]? = _ := (b4.block _ (by omega)).trans e3
  have low : ∀ q, q ≠ w.heap.size → q < w2.heap.size → (w4.setCell ⟨w.heap.size, 2, none⟩ (.slice a2' n2 c2')).heap[q]? = w2.heap[q]? := fun q hq hl => by
    rw [Below.heap_setCell _ _ _ _ hq, b4.block q (by omega), h3, Below.heap_setCell _ _ _ _ hq]
  refine ⟨⟨?_, ?_, ?_, ?_, fun q hq => ?_⟩, by rw [heap_set e4]; rfl, ?_, ?_, [], rows, ?_, trivial, hf⟩
  · have := b4.os; rw [h3] at this; have t2 := b2.os; rw [h1] at t2; exact this.trans t2
  · have := b4.tape; rw [h3] at this; have t2 := b2.tape; rw [h1] at t2; exact this.trans t2
  · have := b4.output; rw [h3] at this; have t2 := b2.output; rw [h1] at t2; exact this.trans t2
  · rw [show (w4.setCell ⟨w.heap.size, 2, none⟩ (.slice a2' n2 c2')).heap.size = w4.heap.size by simp]; omega
  · rw [low q (by omega) (by omega), b2.block q (by omega), h1, Below.heap_alloc _ _ _ (by simp; omega), Below.heap_alloc _ _ _ hq]
  · rw [low _ (by omega) (by omega), b2.block _ (by omega)]; exact f1
  · exact owns_base (owns_at o2 fun g q1 q2 => low g (by omega) q2) (by omega)
  · exact owns_base (owns_at o4 fun g q1 q2 => Below.heap_setCell _ _ _ _ (by show g ≠ w.heap.size; omega)) (by omega)
set_option maxHeartbeats 4000000 in
theorem copyCommit_raw (w : World) (a1 : Option Addr) (n1 c1 : Nat) (p : Int) (a2 : Option Addr) (n2 c2 : Nat) (ws : List Int) (os : List OpV) (hw : IntsAt w (.slice a1 n1 c1) ws) (ho : OpsAt w (.slice a2 n2 c2) os) (hL : Light ⟨ws, p, os⟩) :
    Calls Tryz.prog 91 #[.agg #[.slice a1 n1 c1, .int .i64 p, .slice a2 n2 c2]] w fun e w' => ∃ b1 d1 b2 d2, e = .returned (.agg #[.slice b1 n1 d1, .int .i64 p, .slice b2 n2 d2]) ∧ ComOwn w.heap.size w' (.slice b1 n1 d1) (.slice b2 n2 d2) ⟨ws, p, os⟩ ∧ Below w.heap.size w w' := by
  have hln : n1 = ws.length := by obtain ⟨_, _, hv, _⟩ := hw; injection hv
  have hlm : n2 = os.length := by obtain ⟨_, _, hv⟩ := ho.len; injection hv
  have hl1 := hL.when_
  have hl2 := hL.ops
  have HLE := hid hL.each
  simp only at hl1 hl2
  obtain ⟨rows, hro, hrf⟩ := ho
  have h7 := rows7 hrf
  have hrl := f2_len hrf
  have SW := hid (src_ints hw)
  have SO := hid (src_ops hro h7)
  rw [← hln] at SW hl1
  rw [hrl, ← hlm] at SO
  rw [← hlm] at hl2
  have O1 := hid (ints_one ws)
  have O2 := hid (rows7_one hrf)
  have HRF := hid hrf
  have HLN := hid hln
  have HLM := hid hlm
  clear hw hro hrf h7 hrl hln hlm hL
  obtain ⟨w1, hw1⟩ : ∃ w1, w1 = (w.alloc (.cells #[.slice a1 n1 c1, .int .i64 p, .slice a2 n2 c2] 47)).alloc (.cells #[.slice none 0 0, .int .i64 0, .slice none 0 0] 47) := ⟨_, rfl⟩
  have s1 : w1.heap.size = w.heap.size + 2 := by rw [hw1]; simp
  have G1 : w1.heap[w.heap.size]? = some (.cells #[.slice a1 n1 c1, .int .i64 p, .slice a2 n2 c2] 47 (0, 0)) := by rw [hw1]; exact heap_old (heap_new _ _) _
  have bw1 : Below w.heap.size w w1 := by rw [hw1]; exact below2S _ _ _
  have KA := hid (clone48 w1 a1 n1 c1 _ (SW.out.moved fun a u hc => by rw [bw1.cell (p := a) (lt_of_cell hc)]; exact hc) O1.out (by omega))
  have p6 : w1.cell? ⟨w.heap.size, 0, none⟩ = some (.slice a1 n1 c1) := (cell_of G1).trans rfl
  have HG1 := hid G1
  have HW1 := hid hw1
  have BW1 := hid bw1
  clear G1 bw1
  go_enter Tryz.func91, Tryz.ntmps91
  go_wp2_with fail
  rw [← hw1]
  clear hw1
  refine KA.out.mono ?_
  rintro e w2 ⟨b1, d1, rfl, ho2, hb2⟩
  have G2 : w2.heap[w.heap.size]? = _ := (hb2.block _ (by omega)).trans HG1.out
  have q6 : w2.cell? ⟨w.heap.size, 0, none⟩ = some (.slice a1 n1 c1) := (cell_of G2).trans rfl
  have z6 : w2.frozen? ⟨w.heap.size, 0, none⟩ = false := free_of G2
  obtain ⟨w3, hw3⟩ : ∃ w3, w3 = w2.setCell ⟨w.heap.size, 0, none⟩ (.slice b1 n1 d1) := ⟨_, rfl⟩
  have G3 : w3.heap[w.heap.size]? = some (.cells #[.slice b1 n1 d1, .int .i64 p, .slice a2 n2 c2] 47 (0, 0)) := by rw [hw3, heap_set G2]; rfl
  have bw3 : Below w.heap.size w w3 := by rw [hw3]; exact (BW1.out.trans (hb2.mono (by omega))).setCell (Nat.le_refl _) _
  have p8 : w3.cell? ⟨w.heap.size, 2, none⟩ = some (.slice a2 n2 c2) := (cell_of G3).trans rfl
  have KB := hid (clone49 w3 a2 n2 c2 _ (SO.out.moved fun a u hc => by rw [bw3.cell (p := a) (lt_of_cell hc)]; exact hc) O2.out (by omega))
  have HW3 := hid hw3
  have O2' := hid ho2
  have B2 := hid hb2
  have HG3 := hid G3
  have hs3 : w.heap.size < w3.heap.size := lt_of_heap G3
  clear G2 G3 ho2 hb2 bw3 p6
  go_upto_region 2 with (fail)
  rw [← hw3]
  clear hw3 q6 z6
  go_wp2_with fail
  refine KB.out.mono ?_
  rintro e w4 ⟨b2, d2, rfl, ho4, hb4⟩
  have G4 : w4.heap[w.heap.size]? = _ := (hb4.block _ hs3).trans HG3.out
  have q8 : w4.cell? ⟨w.heap.size, 2, none⟩ = some (.slice a2 n2 c2) := (cell_of G4).trans rfl
  have z8 : w4.frozen? ⟨w.heap.size, 2, none⟩ = false := free_of G4
  have I0 := hid (cp_start HW1.out B2.out O2'.out HW3.out hb4 ho4 HRF.out)
  obtain ⟨w5, hw5⟩ : ∃ w5, w5 = w4.setCell ⟨w.heap.size, 2, none⟩ (.slice b2 n2 d2) := ⟨_, rfl⟩
  rw [← hw5] at I0
  have v8 : w5.cell? ⟨w.heap.size, 2, none⟩ = some (.slice b2 n2 d2) := (cell_of I0.out.box).trans rfl
  clear G4 ho4 hb4 hs3 p8
  go_upto_region 3 with (fail)
  rw [← hw5]
  clear hw5 q8 z8
  go_upto_region 4 with (fail)
  clear v8
  go_loopw [16] (fun i wr => ∃ k : Nat, k ≤ n2 ∧ i = .int .i64 k ∧ Hid (CpI w p ws os n1 n2 b1 d1 b2 d2 k wr)) (fun i _ => n2 - (intOf i).toNat)
  case atStart => exact ⟨0, Nat.zero_le _, rfl, I0.out⟩
  case round =>
    obtain ⟨k, hk, rfl, HI⟩ := hrel
    by_cases hlt : k < n2
    · obtain ⟨o, hok⟩ : ∃ o, os[k]? = some o := ⟨_, List.getElem?_eq_getElem (by have := HLM.out; omega)⟩
      obtain ⟨b, dp, dc, rfl, hc6, hu6, hdd, hb1, hb2, hnext⟩ := HI.out.next hok
      have hdl := (HLE.out o (List.mem_of_getElem? hok)).2.2
      have r8 : wr.cell? ⟨w.heap.size, 2, none⟩ = some (.slice (some ⟨b, 0, none⟩) n2 d2) := (cell_of HI.out.box).trans rfl
      have KD := hid (clone50 wr dp o.dots.length dc _ (src_dots (hdd.mono HI.out.below (Nat.le_refl _))) (all_dots_one _) (by omega))
      have NX := hid hnext
      have HU := hid hu6
      obtain ⟨nd, hnd⟩ : ∃ nd, nd = o.dots.length := ⟨_, rfl⟩
      rw [← hnd] at KD NX HU hc6
      have hi1 : (k : Int) < (n2 : Int) := by omega
      clear hok hdd hnext hu6 hnd
      go_wp2_with fail
      refine KD.out.mono ?_
      rintro e w6 ⟨b5, d5, rfl, ho6, hb6⟩
      obtain ⟨t6, tz6⟩ := HU.out w6 (hb6.block _ hb2)
      have I7 := hid (NX.out w6 b5 d5 hb6 ho6)
      clear ho6 hb6
      go_wp2_with fail
      exact ⟨⟨k + 1, by omega, by go_num, I7.out⟩, by simp [intOf]; omega⟩
    · obtain rfl : k = n2 := by omega
      have BX := hid HI.out.box
      have r0 : wr.cell? ⟨w.heap.size, 0, none⟩ = some (.slice b1 n1 d1) := (cell_of BX.out).trans rfl
      have r1 : wr.cell? ⟨w.heap.size, 1, none⟩ = some (.int .i64 p) := (cell_of BX.out).trans rfl
      have r2 : wr.cell? ⟨w.heap.size, 2, none⟩ = some (.slice b2 k d2) := (cell_of BX.out).trans rfl
      obtain ⟨wz, STORE, HZ⟩ := store_row HI.out.res [.slice b1 n1 d1, .int .i64 p, .slice b2 k d2] rfl rfl 47 3 rfl Tryz.sizeOf47
      go_wp2_with (refine STORE _ _ _ _ _ (.tmp 2) (.tmp 32) rfl rfl rfl rfl ?_)
      refine bodyPost_ret (ret_cell (k := 3) Tryz.results91 Tryz.isAgg47 Tryz.sizeOf47 _ _ (w.heap.size + 1) [.slice b1 n1 d1, .int .i64 p, .slice b2 k d2] rfl rfl HZ.out.1) rfl ⟨b1, d1, b2, d2, rfl, ?_, by rw [HZ.out.2]; exact below_setCells (by omega) _ _ HI.out.below⟩
      obtain ⟨A, B, q1, q2, q3⟩ := HI.out.ops
      rw [HLM.out, List.drop_length] at q3
      rw [HLM.out, List.take_length] at q2
      obtain rfl : B = [] := List.eq_nil_of_length_eq_zero (f2_len q3)
      rw [List.append_nil] at q1
      have hsf : ∀ g, w.heap.size + 2 ≤ g → g < wr.heap.size → wz.heap[g]? = wr.heap[g]? := fun g g1 _ => by rw [HZ.out.2]; exact setCells_other _ _ _ _ _ (by omega)
      refine ComOwn.base (base := w.heap.size + 2) ⟨?_, A, ?_, ?_⟩ (by omega)
      · show World.ownsRow _ _ _ _ _ _ _
        rw [← HLN.out]
        exact owns_at HI.out.when_ hsf
      · show World.ownsRow _ _ _ _ _ _ _
        rw [← HLM.out]
        exact owns_at q1 hsf
      · exact f2_mono (fun _ _ q => q.at hsf) q2
set_option maxHeartbeats 4000000 in
theorem copy_raw (w : World) (r : Raw) (m : MsgV) (h : RawAt w r m) (hL : Light m.c) : Calls Tryz.prog 65 #[.agg r.cells.toArray] w (CpRet m w) := by
  obtain ⟨x1, x2, x3, x4, x5, x6, a1, n1, c1, p, a2, n2, c2⟩ := r
  obtain ⟨⟨e1, e2, e3, e4, e5, e6, ep⟩, hw, ho⟩ := h
  obtain ⟨y1, y2, y3, y4, y5, y6, ⟨ws, pl, os⟩⟩ := m
  simp only at e1 e2 e3 e4 e5 e6 ep hw ho
  subst e1 e2 e3 e4 e5 e6 ep
  obtain ⟨w1, hw1⟩ : ∃ w1, w1 = (w.alloc (.cells #[.int .i64 x1, .int .i64 x2, .int .i64 x3, .int .i64 x4, .int .i64 x5, .bool x6, .slice a1 n1 c1, .int .i64 p, .slice a2 n2 c2] 74)).alloc (.cells #[.int .i64 0, .int .i64 0, .int .i64 0, .int .i64 0, .int .i64 0, .bool false, .slice none 0 0, .int .i64 0, .slice none 0 0] 74) := ⟨_, rfl⟩
  have s1 : w1.heap.size = w.heap.size + 2 := by rw [hw1]; simp
  have G1 : w1.heap[w.heap.size]? = some (.cells #[.int .i64 x1, .int .i64 x2, .int .i64 x3, .int .i64 x4, .int .i64 x5, .bool x6, .slice a1 n1 c1, .int .i64 p, .slice a2 n2 c2] 74 (0, 0)) := by rw [hw1]; exact heap_old (heap_new _ _) _
  have F1 : w1.heap[w.heap.size + 1]? = some (.cells #[.int .i64 0, .int .i64 0, .int .i64 0, .int .i64 0, .int .i64 0, .bool false, .slice none 0 0, .int .i64 0, .slice none 0 0] 74 (0, 0)) := by rw [hw1]; exact heap_new2 _ _ _
  have bw1 : Below w.heap.size w w1 := by rw [hw1]; exact below2S _ _ _
  have KA := hid (copyCommit_raw w1 a1 n1 c1 p a2 n2 c2 ws os (hw.mono bw1 (Nat.le_refl _)) (ho.mono bw1 (Nat.le_refl _)) hL)
  have HG1 := hid G1
  have HF1 := hid F1
  have BW1 := hid bw1
  have S1 := hid s1
  have p6 : w1.cell? ⟨w.heap.size, 6, none⟩ = some (.slice a1 n1 c1) := (cell_of G1).trans rfl
  have p7 : w1.cell? ⟨w.heap.size, 7, none⟩ = some (.int .i64 p) := (cell_of G1).trans rfl
  have p8 : w1.cell? ⟨w.heap.size, 8, none⟩ = some (.slice a2 n2 c2) := (cell_of G1).trans rfl
  unfold Raw.cells
  simp only
  clear G1 F1 bw1 hw ho hL s1
  go_enter Tryz.func65, Tryz.ntmps65
  go_wp2_with fail
  rw [← hw1]
  clear hw1
  refine KA.out.mono ?_
  rintro e w2 ⟨b1, d1, b2, d2, rfl, ho2, hb2⟩
  have G2 : w2.heap[w.heap.size]? = _ := (hb2.block _ (by have := S1.out; omega)).trans HG1.out
  have F2 : w2.heap[w.heap.size + 1]? = _ := (hb2.block _ (by have := S1.out; omega)).trans HF1.out
  have q6 : w2.cell? ⟨w.heap.size, 6, none⟩ = some (.slice a1 n1 c1) := (cell_of G2).trans rfl
  have q7 : w2.cell? ⟨w.heap.size, 7, none⟩ = some (.int .i64 p) := (cell_of G2).trans rfl
  have q8 : w2.cell? ⟨w.heap.size, 8, none⟩ = some (.slice a2 n2 c2) := (cell_of G2).trans rfl
  have z6 : w2.frozen? ⟨w.heap.size, 6, none⟩ = false := free_of G2
  have z7 : w2.frozen? ⟨w.heap.size, 7, none⟩ = false := free_of G2
  have z8 : w2.frozen? ⟨w.heap.size, 8, none⟩ = false := free_of G2
  obtain ⟨w3, hw3⟩ : ∃ w3, w3 = ((w2.setCell ⟨w.heap.size, 6, none⟩ (.slice b1 n1 d1)).setCell ⟨w.heap.size, 7, none⟩ (.int .i64 p)).setCell ⟨w.heap.size, 8, none⟩ (.slice b2 n2 d2) := ⟨_, rfl⟩
  have G3 : w3.heap[w.heap.size]? = some (.cells #[.int .i64 x1, .int .i64 x2, .int .i64 x3, .int .i64 x4, .int .i64 x5, .bool x6, .slice b1 n1 d1, .int .i64 p, .slice b2 n2 d2] 74 (0, 0)) := by rw [hw3]; exact (heap_set (heap_set (heap_set G2 _) _) _).trans rfl
  have low : ∀ q, q ≠ w.heap.size → w3.heap[q]? = w2.heap[q]? := fun q hq => by rw [hw3, Below.heap_setCell _ _ _ _ hq, Below.heap_setCell _ _ _ _ hq, Below.heap_setCell _ _ _ _ hq]
  have bw3 : Below w.heap.size w w3 := by rw [hw3]; exact (((BW1.out.trans (hb2.mono (by have := S1.out; omega))).setCell (Nat.le_refl _) _).setCell (Nat.le_refl _) _).setCell (Nat.le_refl _) _
  have own3 := hid (ho2.at fun g h1 _ => low g (by have := S1.out; omega))
  have F3 := hid ((low (w.heap.size + 1) (by omega)).trans F2)
  have HG3 := hid G3
  have BW3 := hid bw3
  clear G2 F2 G3 ho2 hb2 bw3 p6 p7 p8 low KA
  go_upto_region 2 with (fail)
  rw [← hw3]
  clear hw3 q6 q7 q8 z6 z7 z8
  have r0 : w3.cell? ⟨w.heap.size, 0, none⟩ = some (.int .i64 x1) := (cell_of HG3.out).trans rfl
  have r1 : w3.cell? ⟨w.heap.size, 1, none⟩ = some (.int .i64 x2) := (cell_of HG3.out).trans rfl
  have r2 : w3.cell? ⟨w.heap.size, 2, none⟩ = some (.int .i64 x3) := (cell_of HG3.out).trans rfl
  have r3 : w3.cell? ⟨w.heap.size, 3, none⟩ = some (.int .i64 x4) := (cell_of HG3.out).trans rfl
  have r4 : w3.cell? ⟨w.heap.size, 4, none⟩ = some (.int .i64 x5) := (cell_of HG3.out).trans rfl
  have r5 : w3.cell? ⟨w.heap.size, 5, none⟩ = some (.bool x6) := (cell_of HG3.out).trans rfl
  have r6 : w3.cell? ⟨w.heap.size, 6, none⟩ = some (.slice b1 n1 d1) := (cell_of HG3.out).trans rfl
  have r7 : w3.cell? ⟨w.heap.size, 7, none⟩ = some (.int .i64 p) := (cell_of HG3.out).trans rfl
  have r8 : w3.cell? ⟨w.heap.size, 8, none⟩ = some (.slice b2 n2 d2) := (cell_of HG3.out).trans rfl
  obtain ⟨wz, STORE, HZ⟩ := store_row F3.out [.int .i64 x1, .int .i64 x2, .int .i64 x3, .int .i64 x4, .int .i64 x5, .bool x6, .slice b1 n1 d1, .int .i64 p, .slice b2 n2 d2] rfl rfl 74 9 rfl Tryz.sizeOf74
  go_wp2_with (refine STORE _ _ _ _ _ (.tmp 2) (.tmp 7) rfl rfl rfl rfl ?_)
  refine bodyPost_ret (ret_cell (k := 9) Tryz.results65 Tryz.isAgg74 Tryz.sizeOf74 _ _ (w.heap.size + 1) [.int .i64 x1, .int .i64 x2, .int .i64 x3, .int .i64 x4, .int .i64 x5, .bool x6, .slice b1 n1 d1, .int .i64 p, .slice b2 n2 d2] rfl rfl HZ.out.1) rfl ⟨⟨x1, x2, x3, x4, x5, x6, b1, n1, d1, p, b2, n2, d2⟩, rfl, ⟨⟨rfl, rfl, rfl, rfl, rfl, rfl, rfl⟩, ?_⟩, by rw [HZ.out.2]; exact below_setCells (by omega) _ _ BW3.out⟩
  refine ComOwn.base (base := w1.heap.size) ?_ (by have := S1.out; omega)
  exact own3.out.at fun g g1 _ => by rw [HZ.out.2]; exact setCells_other _ _ _ _ _ (by have := S1.out; omega)
end Go.Proofs.YtepnghacjggkkaaGreatDoor
namespace Go.Proofs.YtepnghacjggkkaaGreatDoor
open Go.RowKit Go.Maps
set_option maxRecDepth 100000
set_option linter.unusedSectionVars false
variable [Inhabited ComV] [DecidableEq D3] [Inhabited D3] [Inhabited Dd] [Inhabited Dn] [Inhabited OpV]

theorem wrap_num {k : Int} (h : num k) : IntKind.i64.wrap k = k := by
  obtain ⟨h1, h2⟩ := h
  simp [IntKind.wrap, IntKind.bits, IntKind.signed]
  omega
theorem joined {p q : Prop} (h : p → q) (hp : p) : q := h hp
def lastT (time : Int) (ts : Nat → Int) : Nat → Int
  | 0 => time
  | c + 1 => ts c
structure OnlyR (g m : Nat) (w w' : World) : Prop where
  os : w'.os = w.os
  tape : w'.tape = w.tape
  output : w'.output = w.output
  size : w.heap.size ≤ w'.heap.size
  block : ∀ k, k < w.heap.size → k ≠ g → k ≠ m → w'.heap[k]? = w.heap[k]?
theorem OnlyR.refl (g m : Nat) (w : World) : OnlyR g m w w := ⟨rfl, rfl, rfl, Nat.le_refl _, fun _ _ _ _ => rfl⟩
theorem OnlyR.below {g m : Nat} {w w1 w2 : World} (h : OnlyR g m w w1) (hb : Below w1.heap.size w1 w2) : OnlyR g m w w2 := ⟨hb.os.trans h.os, hb.tape.trans h.tape, hb.output.trans h.output, Nat.le_trans h.size hb.size, fun k h1 h2 h3 => by rw [hb.block k (Nat.lt_of_lt_of_le h1 h.size)]; exact h.block k h1 h2 h3⟩
def lenV : Value → Nat
  | .slice _ n _ => n
  | _ => 0
end Go.Proofs.YtepnghacjggkkaaGreatDoor
namespace Go.Proofs.YtepnghacjggkkaaGreatDoor
open Go.RowKit Go.Maps
set_option maxRecDepth 100000
set_option linter.unusedSectionVars false
variable [Inhabited ComV] [DecidableEq D3] [Inhabited D3] [Inhabited Dd] [Inhabited Dn] [Inhabited OpV]

def comeV (M : Int → Option Raw) (seq : Int) (c : Nat) : Int → Option Raw := fun j => if seq < j ∧ j ≤ seq + c then none else M j
def comeR (rs : Nat → Raw) (c : Nat) : List Raw := (List.range c).map rs
theorem comeR_succ (rs : Nat → Raw) (c : Nat) : comeR rs (c + 1) = comeR rs c ++ [rs c] := by simp [comeR, List.range_succ]
theorem comeV_zero (M : Int → Option Raw) (seq : Int) : comeV M seq 0 = M := by
  funext j
  unfold comeV
  rw [if_neg (by omega)]
theorem comeV_succ (M : Int → Option Raw) (seq : Int) (c : Nat) : updV (comeV M seq c) (seq + (c + 1 : Nat)) none = comeV M seq (c + 1) := by
  funext j
  unfold comeV updV
  by_cases h : j = seq + (c + 1 : Nat)
  · rw [if_pos h, if_pos (by omega)]
  · rw [if_neg h]
    show (if seq < j ∧ j ≤ seq + c then none else M j) = _
    by_cases h2 : seq < j ∧ j ≤ seq + c
    · rw [if_pos h2, if_pos (by omega)]
    · rw [if_neg h2, if_neg (by omega)]
theorem comeV_next (M : Int → Option Raw) (seq : Int) (c : Nat) : comeV M seq c (seq + (c + 1 : Nat)) = M (seq + (c + 1 : Nat)) := by
  unfold comeV
  rw [if_neg (by omega)]
def timeR (time : Int) (rs : Nat → Raw) (c : Nat) : Int := lastT time (fun i => (rs i).x5) c
theorem n64_num {k : Int} (h : num k) : n64 k := ⟨by have := h.1; omega, by have := h.2; omega⟩
set_option maxHeartbeats 2000000 in
theorem come_raw (w : World) (g mb n c : Nat) (f t s seq time : Int) (M : Int → Option Raw) (rs : Nat → Raw) (h : RcvM w g mb n f t s seq time M) (hgm : g ≠ mb) (h0 : 0 ≤ seq) (h1 : seq + c ≤ 1000) (hM : ∀ i, i < c → M (seq + (i + 1 : Nat)) = some (rs i) ∧ (rs i).x4 = seq + (i + 1 : Nat)) (hz : M (seq + (c + 1 : Nat)) = none) :
    Calls Tryz.prog 66 #[.pointer (some ⟨g, 0, none⟩)] w fun e w' => ∃ v, e = .returned v ∧ w'.ownsRow w.heap.size 74 9 v c (raws (comeR rs c)) ∧ RcvM w' g mb n f t s (seq + c) (timeR time rs c) (comeV M seq c) ∧ OnlyR g mb w w' := by
  obtain ⟨i37, hi, hz0, hz1, hz2⟩ := info_parts Tryz.info74
  have H := hid h
  have HM := hid hM
  have HZ := hid hz
  have hgl := lt_of_heap h.box
  have hml : mb < w.heap.size := by obtain ⟨D, hm, _⟩ := h.map; exact hm.lt
  clear h hM hz
  go_enter Tryz.func66, Tryz.ntmps66
  go_wp2
  go_loopw [3] (fun x wr => ∃ (k : Nat) (xv : Value), k ≤ c ∧ x = xv ∧ Hid (wr.ownsRow w.heap.size 74 9 xv k (raws (comeR rs k))) ∧ Hid (RcvM wr g mb n f t s (seq + k) (timeR time rs k) (comeV M seq k)) ∧ Hid (OnlyR g mb w wr)) (fun x _ => c - lenV x)
  case atStart =>
    refine ⟨0, _, Nat.zero_le _, rfl, World.ownsRow_nil _ _ _ _, ?_, OnlyR.refl _ _ _⟩
    show RcvM _ _ _ _ _ _ _ _ _ _
    rw [comeV_zero, show seq + ((0 : Nat) : Int) = seq by omega]
    exact H.out
  case round =>
    obtain ⟨k, xv, hk, rfl, HX, HR, HO⟩ := hrel
    obtain ⟨D, hD, hMB⟩ := HR.out.map
    have c3 : ∀ u : World, u.heap[g]? = wr.heap[g]? → u.cell? ⟨g, 3, none⟩ = some (.int .i64 (seq + k)) := fun u hu => (cell_of (hu.trans HR.out.box)).trans rfl
    have c5 : ∀ u : World, u.heap[g]? = wr.heap[g]? → u.cell? ⟨g, 5, none⟩ = some (.map (some mb)) := fun u hu => (cell_of (hu.trans HR.out.box)).trans rfl
    have hnum : num (seq + k + 1) := ⟨by omega, by omega⟩
    have hnx : comeV M seq k (seq + k + 1) = M (seq + (k + 1 : Nat)) := by
      rw [← comeV_next M seq k]; congr 1; omega
    have hrs : w.heap.size ≤ wr.heap.size := HO.out.size
    have g1 : g ≠ wr.heap.size := by omega
    have g2 : mb ≠ wr.heap.size := by omega
    have g3 : g < wr.heap.size := by omega
    have g4 : mb < wr.heap.size := by omega
    have w1 := wrap_num hnum
    by_cases hlt : k < c
    · obtain ⟨hts, hx4⟩ := HM.out k hlt
      obtain ⟨rr, htm⟩ : ∃ rr, rr = rs k := ⟨_, rfl⟩
      rw [← htm] at hts hx4
      have HTM := hid htm
      clear htm
      have LK := fun u hu => look_raw hD hMB (n64_num hnum) (hnx.trans hts) u hu
      obtain ⟨x1, x2, x3, x4, x5, x6, a1, n1, c1, p, a2, n2, c2⟩ := rr
      simp only at hx4
      rw [show seq + ((k + 1 : Nat) : Int) = seq + k + 1 by omega] at hx4
      subst hx4
      unfold Raw.cells at LK
      simp only at LK
      have HELD : Hid (∀ u : World, u.heap[g]? = wr.heap[g]? → u.heap[mb]? = wr.heap[mb]? → u.cell? ⟨g, 3, none⟩ = some (.int .i64 (seq + k)) ∧ u.cell? ⟨g, 5, none⟩ = some (.map (some mb)) ∧ (Instr.lookup 136 (.map (some mb)) (.int .i64 (seq + k + 1)) true).run Tryz.prog u = .ok (.tuple #[.agg #[.int .i64 x1, .int .i64 x2, .int .i64 x3, .int .i64 (seq + k + 1), .int .i64 x5, .bool x6, .slice a1 n1 c1, .int .i64 p, .slice a2 n2 c2], .bool true]) u) := fun u h1 h2 => ⟨c3 u h1, c5 u h1, LK u h2⟩
      have HD := hid hD
      have HMB := hid hMB
      clear c3 c5 LK hD hMB hnx hts
      go_upto_region 2 with (fail)
      refine joined (p := ?gOne) (fun hp => ?main) ?later
      case main =>
        go_region_held (fun u => u.cell? ⟨g, 3, none⟩ = some (.int .i64 (seq + k)) ∧ u.cell? ⟨g, 5, none⟩ = some (.map (some mb)) ∧ (Instr.lookup 136 (.map (some mb)) (.int .i64 (seq + k + 1)) true).run Tryz.prog u = .ok (.tuple #[.agg #[.int .i64 x1, .int .i64 x2, .int .i64 x3, .int .i64 (seq + k + 1), .int .i64 x5, .bool x6, .slice a1 n1 c1, .int .i64 p, .slice a2 n2 c2], .bool true]) u) ((refine HELD.out _ ?_ ?_ <;> simp [Below.heap_alloc, drew_heap, g3, g4])) (fail)
        all_goals exact hp
      case later =>
        have hba := (below_alloc wr (.cells #[.int .i64 x1, .int .i64 x2, .int .i64 x3, .int .i64 (seq + k + 1), .int .i64 x5, .bool x6, .slice a1 n1 c1, .int .i64 p, .slice a2 n2 c2] 74)).drew
        have hnew := heap_new wr (.cells #[.int .i64 x1, .int .i64 x2, .int .i64 x3, .int .i64 (seq + k + 1), .int .i64 x5, .bool x6, .slice a1 n1 c1, .int .i64 p, .slice a2 n2 c2] 74)
        generalize hwa : World.drew _ = wa
        rw [hwa] at hba
        have hbox : wa.heap[wr.heap.size]? = some (.cells #[.int .i64 x1, .int .i64 x2, .int .i64 x3, .int .i64 (seq + k + 1), .int .i64 x5, .bool x6, .slice a1 n1 c1, .int .i64 p, .slice a2 n2 c2] 74 (0, 0)) := by rw [← hwa]; exact hnew
        clear hwa hnew HELD
        have hDa : wa.drew.ownsMap Tryz.prog 3 elemV mb n D := by
          obtain ⟨es, clock, hb, r⟩ := HD.out
          exact ⟨es, clock, (hba.block _ g4).trans hb, r⟩
        obtain ⟨w5, hrun5, hown5, hturn5⟩ := hDa.drop keyed3 Tryz.underlying136 (key_64 (n64_num hnum)) 0
        have q5 : wa.cell? ⟨g, 5, none⟩ = some (.map (some mb)) := (cell_of ((hba.block _ g3).trans HR.out.box)).trans rfl
        have q3 : wa.cell? ⟨wr.heap.size, 3, none⟩ = some (.int .i64 (seq + k + 1)) := (cell_of hbox).trans rfl
        have BA := hid hba
        have BX := hid hbox
        have OW5 := hid hown5
        have TU5 := hid hturn5
        clear hba hbox hown5 hturn5 hDa
        go_upto_region 5 with (fail)
        go_region
        have hg5 := TU5.out.grown
        have hsz5 : wa.heap.size ≤ w5.heap.size := hg5.size
        have hblk5 : ∀ q, q < wa.heap.size → q ≠ mb → w5.heap[q]? = wa.heap[q]? := fun q h1 h2 => hg5.block q h1 fun he => h2 (Option.some.inj he)
        have hsa : wr.heap.size < wa.heap.size := lt_of_heap BX.out
        have hX5 : w5.heap[wr.heap.size]? = some (.cells #[.int .i64 x1, .int .i64 x2, .int .i64 x3, .int .i64 (seq + k + 1), .int .i64 x5, .bool x6, .slice a1 n1 c1, .int .i64 p, .slice a2 n2 c2] 74 (0, 0)) := (hblk5 _ hsa g2.symm).trans BX.out
        have hG5 : w5.heap[g]? = some (.cells #[.int .i64 f, .int .i64 t, .int .i64 s, .int .i64 (seq + k), .int .i64 (timeR time rs k), .map (some mb)] 138 (0, 0)) := (hblk5 _ (by omega) hgm).trans ((BA.out.block _ g3).trans HR.out.box)
        have hx3 : w5.cell? ⟨wr.heap.size, 3, none⟩ = some (.int .i64 (seq + k + 1)) := (cell_of hX5).trans rfl
        have hx4 : w5.cell? ⟨wr.heap.size, 4, none⟩ = some (.int .i64 x5) := (cell_of hX5).trans rfl
        have y3 : w5.cell? ⟨g, 3, none⟩ = some (.int .i64 (seq + k)) := (cell_of hG5).trans rfl
        have y4 : w5.cell? ⟨g, 4, none⟩ = some (.int .i64 (timeR time rs k)) := (cell_of hG5).trans rfl
        have z3 : w5.frozen? ⟨g, 3, none⟩ = false := free_of hG5
        have z4 : w5.frozen? ⟨g, 4, none⟩ = false := free_of hG5
        have O5 : Hid (OnlyR g mb wr w5) := (show OnlyR _ _ _ _ from ⟨hg5.os.trans BA.out.os, hg5.tape.trans BA.out.tape, hg5.output.trans BA.out.output, by omega, fun q h1 h2 h3 => (hblk5 q (by omega) h3).trans (BA.out.block q h1)⟩)
        have X5 := hid hX5
        have G5 := hid hG5
        clear hg5 hblk5 hX5 hG5 q5 q3 hrun5 TU5
        go_upto_region 6 with (fail)
        go_region
        generalize hw6 : World.drew _ = w6
        have hG6 : w6.heap[g]? = some (.cells #[.int .i64 f, .int .i64 t, .int .i64 s, .int .i64 (seq + k + 1), .int .i64 x5, .map (some mb)] 138 (0, 0)) := by
          rw [← hw6]
          exact heap_set (j := 4) (heap_set (j := 3) G5.out (.int .i64 (seq + k + 1))) (.int .i64 x5)
        have hblk6 : ∀ q, q ≠ g → w6.heap[q]? = w5.heap[q]? := fun q hq => by
          rw [← hw6]
          show ((w5.setCell _ _).setCell _ _).heap[q]? = _
          rw [Below.heap_setCell _ _ _ _ hq, Below.heap_setCell _ _ _ _ hq]
        have hsz6 : w6.heap.size = w5.heap.size := by
          rw [← hw6]
          show ((w5.setCell _ _).setCell _ _).heap.size = _
          rw [size_set, size_set]
        have hos6 : w6.os = w5.os ∧ w6.tape = w5.tape ∧ w6.output = w5.output := by rw [← hw6]; exact ⟨rfl, rfl, rfl⟩
        clear hw6
        have hX6 : w6.heap[wr.heap.size]? = some (.cells #[.int .i64 x1, .int .i64 x2, .int .i64 x3, .int .i64 (seq + k + 1), .int .i64 x5, .bool x6, .slice a1 n1 c1, .int .i64 p, .slice a2 n2 c2] 74 (0, 0)) := (hblk6 _ g1.symm).trans X5.out
        have e0 : w6.cell? ⟨wr.heap.size, 0, none⟩ = some (.int .i64 x1) := (cell_of hX6).trans rfl
        have e1 : w6.cell? ⟨wr.heap.size, 1, none⟩ = some (.int .i64 x2) := (cell_of hX6).trans rfl
        have e2 : w6.cell? ⟨wr.heap.size, 2, none⟩ = some (.int .i64 x3) := (cell_of hX6).trans rfl
        have e3 : w6.cell? ⟨wr.heap.size, 3, none⟩ = some (.int .i64 (seq + k + 1)) := (cell_of hX6).trans rfl
        have e4 : w6.cell? ⟨wr.heap.size, 4, none⟩ = some (.int .i64 x5) := (cell_of hX6).trans rfl
        have e5 : w6.cell? ⟨wr.heap.size, 5, none⟩ = some (.bool x6) := (cell_of hX6).trans rfl
        have e6 : w6.cell? ⟨wr.heap.size, 6, none⟩ = some (.slice a1 n1 c1) := (cell_of hX6).trans rfl
        have e7 : w6.cell? ⟨wr.heap.size, 7, none⟩ = some (.int .i64 p) := (cell_of hX6).trans rfl
        have e8 : w6.cell? ⟨wr.heap.size, 8, none⟩ = some (.slice a2 n2 c2) := (cell_of hX6).trans rfl
        have O6 : Hid (OnlyR g mb wr w6) := (show OnlyR _ _ _ _ from ⟨hos6.1.trans O5.out.os, hos6.2.1.trans O5.out.tape, hos6.2.2.trans O5.out.output, by omega, fun q h1 h2 h3 => (hblk6 q h2).trans (O5.out.block q h1 h2 h3)⟩)
        have M6 : Hid (w6.ownsMap Tryz.prog 3 elemV mb n (D.del (.int .i64 (seq + k + 1)))) := (show World.ownsMap _ _ _ _ _ _ _ from by
          obtain ⟨es, clock, hb, r⟩ := OW5.out
          exact ⟨es, clock, (hblk6 _ hgm.symm).trans hb, r⟩)
        have X8 := hid (owns_at HX.out fun q h1 h2 => O6.out.block q h2 (by omega) (by omega))
        have G6 := hid hG6
        obtain ⟨xa, xc, hxv⟩ := row_shape HX.out
        subst hxv
        have hsr6 : wr.heap.size ≤ w6.heap.size := O6.out.size
        clear hsz6 hG6 hX6 hblk6 hos6 hx3 hx4 y3 y4 z3 z4
        go_wp2_with (at_builtin; refine wpList_append_own _ rfl _ _ 34 rfl w.heap.size 74 i37 _ 9 104 Tryz.underlying34 hi hz0 hz1 hz2 rfl (by decide) _ _ _ rfl (X8.out.alloc _) ⟨w6.heap.size, 0, none⟩ 1 1 [.int .i64 x1, .int .i64 x2, .int .i64 x3, .int .i64 (seq + k + 1), .int .i64 x5, .bool x6, .slice a1 n1 c1, .int .i64 p, .slice a2 n2 c2] rfl rfl (cells3_new _ _ _) (oneR ⟨x1, x2, x3, seq + k + 1, x5, x6, a1, n1, c1, p, a2, n2, c2⟩) ?hm2 ?hm3 ?hm4 ?_; (case hm2 => unfold maxLen; omega); (case hm3 => omega); (case hm4 => simp; omega); intro v9 w9 hown9 hgr9 _; have B9 : Hid (∀ q, q < w.heap.size → w9.heap[q]? = w6.heap[q]?) := (show ∀ q, q < w.heap.size → w9.heap[q]? = w6.heap[q]? from fun q hq => by rw [hgr9.block q (by simp; omega) (fun e => by have := (X8.out.lt q e.symm).1; omega), Below.heap_alloc _ _ _ (by omega)]); have S9 : Hid (w9.os = w6.os ∧ w9.tape = w6.tape ∧ w9.output = w6.output ∧ w6.heap.size ≤ w9.heap.size) := (show _ ∧ _ from ⟨hgr9.os, hgr9.tape, hgr9.output, by have := hgr9.size; simp at *; omega⟩); have X9 := hid hown9; clear hown9 hgr9)
        have hseq : seq + (k : Int) + 1 = seq + ((k + 1 : Nat) : Int) := by omega
        refine ⟨⟨k + 1, _, by omega, rfl, ?_, ?_, ?_⟩, ?_⟩
        · show World.ownsRow _ _ _ _ _ _ _
          rw [comeR_succ, raws_snoc, ← HTM.out]
          exact X9.out
        · show RcvM _ _ _ _ _ _ _ _ _ _
          rw [← comeV_succ, ← hseq]
          refine ⟨?_, _, ?_, HMB.out.del _⟩
          · rw [B9.out g hgl, G6.out]
            have e : timeR time rs (k + 1) = x5 := by
              show (rs k).x5 = x5
              rw [← HTM.out]
            rw [e]
          · obtain ⟨es, clock, hb, r⟩ := M6.out
            exact ⟨es, clock, (B9.out mb hml).trans hb, r⟩
        · show OnlyR _ _ _ _
          exact ⟨S9.out.1.trans (O6.out.os.trans HO.out.os), S9.out.2.1.trans (O6.out.tape.trans HO.out.tape), S9.out.2.2.1.trans (O6.out.output.trans HO.out.output), by have := S9.out.2.2.2; omega, fun q h1 h2 h3 => by rw [B9.out q h1, O6.out.block q (by omega) h2 h3]; exact HO.out.block q h1 h2 h3⟩
        · obtain ⟨ya, yc, hyv⟩ := row_shape X9.out
          rw [hyv]
          show c - (k + 1) < c - k
          omega
    · obtain rfl : k = c := by omega
      have LK := fun u hu => look_raw_none hD hMB (n64_num hnum) (hnx.trans HZ.out) u hu
      have HELD : Hid (∀ u : World, u.heap[g]? = wr.heap[g]? → u.heap[mb]? = wr.heap[mb]? → u.cell? ⟨g, 3, none⟩ = some (.int .i64 (seq + k)) ∧ u.cell? ⟨g, 5, none⟩ = some (.map (some mb)) ∧ (Instr.lookup 136 (.map (some mb)) (.int .i64 (seq + k + 1)) true).run Tryz.prog u = .ok (.tuple #[.agg #[.int .i64 0, .int .i64 0, .int .i64 0, .int .i64 0, .int .i64 0, .bool false, .slice none 0 0, .int .i64 0, .slice none 0 0], .bool false]) u) := fun u h1 h2 => ⟨c3 u h1, c5 u h1, LK u h2⟩
      clear c3 c5 LK hD hMB hnx
      go_upto_region 2 with (fail)
      go_region_held (fun u => u.cell? ⟨g, 3, none⟩ = some (.int .i64 (seq + k)) ∧ u.cell? ⟨g, 5, none⟩ = some (.map (some mb)) ∧ (Instr.lookup 136 (.map (some mb)) (.int .i64 (seq + k + 1)) true).run Tryz.prog u = .ok (.tuple #[.agg #[.int .i64 0, .int .i64 0, .int .i64 0, .int .i64 0, .int .i64 0, .bool false, .slice none 0 0, .int .i64 0, .slice none 0 0], .bool false]) u) ((refine HELD.out _ ?_ ?_ <;> simp [Below.heap_alloc, drew_heap, g3, g4])) (fail)
      all_goals go_wp2
      all_goals go_ret
      all_goals
        have hb := (below_alloc wr (.cells #[.int .i64 0, .int .i64 0, .int .i64 0, .int .i64 0, .int .i64 0, .bool false, .slice none 0 0, .int .i64 0, .slice none 0 0] 74)).drew
        exact ⟨_, rfl, owns_at HX.out fun q _ h2 => hb.block q h2, HR.out.moved (hb.block _ g3) (hb.block _ g4), HO.out.below hb⟩
end Go.Proofs.YtepnghacjggkkaaGreatDoor
