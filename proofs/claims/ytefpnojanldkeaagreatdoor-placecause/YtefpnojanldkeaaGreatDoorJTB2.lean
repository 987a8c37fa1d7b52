/- The sender's Beat, any message kept; The sender's Beat: what is turned away. -/
import Derived.Test.YtefpnojanldkeaaGreatDoorJHR
import Derived.Test.YtefpnojanldkeaaGreatDoorJTD
import Derived.Test.YtefpnojanldkeaaGreatDoorJVOp
import Derived.Test.YtefpnojanldkeaaGreatDoorJHF
import Derived.Test.YtefpnojanldkeaaGreatDoorJSDel
import Derived.Test.YtefpnojanldkeaaGreatDoorJVRefN
import Derived.Test.YtefpnojanldkeaaGreatDoorJVOwnM
import Derived.Test.YtefpnojanldkeaaGreatDoorJWState
import Derived.Test.YtefpnojanldkeaaGreatDoorJWPutN
import Derived.Test.YtefpnojanldkeaaGreatDoorJVVec
import Derived.Test.YtefpnojanldkeaaGreatDoorJVMap
import Derived.Test.YtefpnojanldkeaaGreatDoorJVOnceM
import Derived.Test.YtefpnojanldkeaaGreatDoorJVRow
import Derived.Test.YtefpnojanldkeaaGreatDoorJVStandM
import Derived.Test.YtefpnojanldkeaaGreatDoorJSCome
import Derived.Test.YtefpnojanldkeaaGreatDoorJWMath
namespace Go.Proofs.YtefpnojanldkeaaGreatDoor
open Go.RowKit
set_option maxRecDepth 100000
set_option linter.unusedSectionVars false
variable [Inhabited ComV] [DecidableEq D3] [Inhabited D3] [Inhabited Dd] [Inhabited Dn] [Inhabited OpV]

/-- What Beat and Commit leave: one copy is kept, another one answered. -/
def BtRet (w : World) (g : Nat) (f t s seq time : Int) (v : Value) (l : List Raw) (m : MsgV) (e : Ending) (w' : World) : Prop := ∃ (v' : Value) (r2 r3 : Raw), e = .returned (.tuple #[.agg r3.cells.toArray, .nilIface]) ∧ SndR w' g f t s seq time v' (l ++ [r2]) ∧ RawOwn w.heap.size w' r2 m ∧ RawOwn w.heap.size w' r3 m ∧ OnlyS g v w w' ∧ (v'.ownBlock = v.ownBlock ∨ ∃ b, v'.ownBlock = some b ∧ w.heap.size ≤ b) ∧ Keeps w w'
theorem comOwn_nil (base : Nat) (w : World) (p : Int) : ComOwn base w (.slice none 0 0) (.slice none 0 0) ⟨[], p, []⟩ := ⟨World.ownsRow_nil _ _ _ _, [], World.ownsRow_nil _ _ _ _, trivial⟩
theorem light_nil (p : Int) : Light ⟨[], p, []⟩ := ⟨by simp, by simp, fun o ho => by simp at ho⟩
def beatM (f t s seq time : Int) : MsgV := ⟨f, t, s, seq, time, true, ⟨[], 0, []⟩⟩
set_option maxHeartbeats 4000000 in
theorem beat_raw (w : World) (g : Nat) (f t s seq time nt : Int) (v : Value) (l : List Raw) (h : SndR w g f t s seq time v l) (hl : l.length ≤ 1000) (h0 : 0 ≤ seq) (h1 : seq ≤ 1000) (ht0 : 0 ≤ nt) (ht1 : nt ≤ 1099511627776) (ht2 : time ≤ nt) :
    Calls Tryz.prog 32 #[.pointer (some ⟨g, 0, none⟩), .int .i64 nt] w (BtRet w g f t s (seq + 1) nt v l (beatM f t s (seq + 1) nt)) := by
  obtain ⟨w0, hw0⟩ : ∃ w0, w0 = w.alloc (.cells #[.int .i64 0, .int .i64 0, .int .i64 0, .int .i64 0, .int .i64 0, .bool false, .slice none 0 0, .int .i64 0, .slice none 0 0] 44) := ⟨_, rfl⟩
  have hb0 : Below w.heap.size w w0 := by rw [hw0]; exact below_alloc _ _
  have G0 : Hid (w0.heap[w.heap.size]? = some (.cells #[.int .i64 0, .int .i64 0, .int .i64 0, .int .i64 0, .int .i64 0, .bool false, .slice none 0 0, .int .i64 0, .slice none 0 0] 44 (0, 0))) := by show w0.heap[w.heap.size]? = _; rw [hw0]; exact heap_new _ _
  have H0 := hid (h.moved hb0)
  have hg := lt_of_heap h.box
  have HV : Hid (∀ b, v.ownBlock = some b → b < w.heap.size) := fun b hb => (h.row.lt b hb).2
  have B0 := hid hb0
  have c4 : w0.cell? ⟨g, 4, none⟩ = some (.int .i64 time) := (cell_of H0.out.box).trans rfl
  have K33 := hid (fun W => isTime_yes nt W ht0 ht1)
  have K34 := hid (next_raw w0 g f t s seq time 0 0 0 0 nt 0 true none none 0 0 0 0 v l (beatM f t s (seq + 1) nt) H0.out hl h0 h1 ⟨⟨rfl, rfl, rfl, rfl, rfl, rfl, rfl⟩, comOwn_nil _ _ _⟩ (light_nil _))
  have hnt : ¬ nt < time := by omega
  clear h hb0
  go_enter Tryz.func32, Tryz.ntmps32
  go_wp2_with fail
  rw [← hw0]
  clear hw0
  refine (K33.out _).mono ?_
  rintro e w1 ⟨rfl, hww⟩
  rw [hww]
  clear hww
  go_wp2_with fail
  refine K34.out.mono ?_
  rintro e w2 ⟨v', r2, ⟨q1, q2, q3, q4, q5, q6, e1, j1, f1, qq, e2, j2, f2⟩, rfl, hs2, hr2, hr3, ho2, hv2, hkp2⟩
  have hG2 : w2.heap[w.heap.size]? = some (.cells #[.int .i64 0, .int .i64 0, .int .i64 0, .int .i64 0, .int .i64 0, .bool false, .slice none 0 0, .int .i64 0, .slice none 0 0] 44 (0, 0)) := ho2.box G0.out (by omega) fun e => by have := HV.out _ e; omega
  obtain ⟨wz, STORE, HZ⟩ := store_row hG2 [.int .i64 q1, .int .i64 q2, .int .i64 q3, .int .i64 q4, .int .i64 q5, .bool q6, .slice e1 j1 f1, .int .i64 qq, .slice e2 j2 f2] rfl rfl 44 9 rfl Tryz.sizeOf44
  have S2 := hid hs2
  have O2 := hid ho2
  have V2 := hid hv2
  have R2 := hid hr2
  have R3 := hid hr3
  have KP2 := hid hkp2
  have HG2 := hid hG2
  clear hs2 ho2 hv2 hG2 hr2 hr3 hkp2
  unfold Raw.cells
  simp only
  go_wp2_with (refine STORE _ _ _ _ _ (.tmp 4) (.tmp 29) rfl rfl rfl rfl ?_)
  have hso : ∀ k, k ≠ w.heap.size → wz.heap[k]? = w2.heap[k]? := fun k hk => by rw [HZ.out.2]; exact setCells_other _ _ _ _ _ hk
  have hbz := below_setCells (B := 0) (b := w.heap.size) (a := w2) (Nat.zero_le _) [.int .i64 q1, .int .i64 q2, .int .i64 q3, .int .i64 q4, .int .i64 q5, .bool q6, .slice e1 j1 f1, .int .i64 qq, .slice e2 j2 f2] 0 (Below.refl _ _)
  have hs0 : w0.heap.size ≤ w2.heap.size := O2.out.size
  have hsw := B0.out.size
  have kz : Keeps w2 wz := fun tt htt b cs hc => hso b fun e => by
    rw [e, HG2.out] at hc
    injection hc with hc
    injection hc with _ hc
    rcases htt with e | e | e <;> (rw [e] at hc; exact absurd hc (by decide))
  refine bodyPost_ret (ret_cell_tmp (k := 9) Tryz.results32 Tryz.isAgg44 Tryz.sizeOf44 _ _ (w.heap.size) [.int .i64 q1, .int .i64 q2, .int .i64 q3, .int .i64 q4, .int .i64 q5, .bool q6, .slice e1 j1 f1, .int .i64 qq, .slice e2 j2 f2] _ rfl rfl rfl HZ.out.1) rfl ⟨v', r2, ⟨q1, q2, q3, q4, q5, q6, e1, j1, f1, qq, e2, j2, f2⟩, rfl, ⟨?_, ?_⟩, (R2.out.kept kz).base hsw, (R3.out.kept kz).base hsw, ⟨?_, ?_, ?_, ?_, ?_⟩, ?_, ?_⟩
  · rw [hso g (by omega)]; exact S2.out.box
  · refine owns_own S2.out.row fun b hb => hso b fun e => ?_
    have hl0 := lt_of_heap G0.out
    rcases V2.out with h | ⟨b', h, hb'⟩
    · have := HV.out b (by rw [← h]; exact hb); omega
    · have h3 := Option.some.inj (hb.symm.trans h)
      omega
  · rw [HZ.out.2]; exact hbz.os.trans (O2.out.os.trans B0.out.os)
  · rw [HZ.out.2]; exact hbz.tape.trans (O2.out.tape.trans B0.out.tape)
  · rw [HZ.out.2]; exact hbz.output.trans (O2.out.output.trans B0.out.output)
  · rw [HZ.out.2, setCells_size]; omega
  · exact fun k hk hkg hkv => by rw [hso k (by omega), O2.out.block k (by omega) hkg hkv]; exact B0.out.block k hk
  · rcases V2.out with h | ⟨b', h, hb'⟩
    · exact .inl h
    · exact .inr ⟨b', h, by omega⟩
  · exact ((Keeps.bel B0.out).trans KP2.out).trans kz
end Go.Proofs.YtefpnojanldkeaaGreatDoor
namespace Go.Proofs.YtefpnojanldkeaaGreatDoor
open Go.RowKit
set_option maxRecDepth 100000
set_option linter.unusedSectionVars false
variable [Inhabited ComV] [DecidableEq D3] [Inhabited D3] [Inhabited Dd] [Inhabited Dn] [Inhabited OpV]

set_option maxHeartbeats 8000000 in
theorem beat_bound (w : World) (g : Nat) (nt : Int) (ev : Value) (hev : w.cell? ⟨0, 0, none⟩ = some ev) (hn : timeB nt = false) :
    Calls Tryz.prog 32 #[.pointer (some ⟨g, 0, none⟩), .int .i64 nt] w fun e w' => e = .returned (.tuple #[.agg #[.int .i64 0, .int .i64 0, .int .i64 0, .int .i64 0, .int .i64 0, .bool false, .slice none 0 0, .int .i64 0, .slice none 0 0], ev]) ∧ Below w.heap.size w w' := by
  obtain ⟨w0, hw0⟩ : ∃ w0, w0 = w.alloc (.cells #[.int .i64 0, .int .i64 0, .int .i64 0, .int .i64 0, .int .i64 0, .bool false, .slice none 0 0, .int .i64 0, .slice none 0 0] 44) := ⟨_, rfl⟩
  have hb0 : Below w.heap.size w w0 := by rw [hw0]; exact below_alloc _ _
  have G0 : w0.heap[w.heap.size]? = some (.cells #[.int .i64 0, .int .i64 0, .int .i64 0, .int .i64 0, .int .i64 0, .bool false, .slice none 0 0, .int .i64 0, .slice none 0 0] 44 (0, 0)) := by rw [hw0]; exact heap_new _ _
  have g0 : w0.cell? ⟨0, 0, none⟩ = some ev := by rw [hb0.cell (p := ⟨0, 0, none⟩) (lt_of_cell hev)]; exact hev
  have gS : (w0.setCell ⟨w.heap.size, 0, none⟩ (.int .i64 0)).cell? ⟨0, 0, none⟩ = some ev := by
    rw [World.cell?_of_block (w := w0) (a := ⟨0, 0, none⟩) (Below.heap_setCell _ _ _ _ (by have := lt_of_cell hev; simp only at this ⊢; omega))]; exact g0
  have HG := hid G0
  have B0 := hid hb0
  have K33 := hid (fun W => isTime_any nt W)
  rw [hn] at K33
  clear hn
  clear hb0 hev G0
  have r0 := fun j => (show ∀ j, w0.frozen? ⟨w.heap.size, j, none⟩ = false from fun j => free_of HG.out) j
  have k0 : w0.cell? ⟨w.heap.size, 0, none⟩ = some (.int .i64 0) := (cell_of HG.out).trans rfl
  have k1 : w0.cell? ⟨w.heap.size, 1, none⟩ = some (.int .i64 0) := (cell_of HG.out).trans rfl
  have k2 : w0.cell? ⟨w.heap.size, 2, none⟩ = some (.int .i64 0) := (cell_of HG.out).trans rfl
  have k3 : w0.cell? ⟨w.heap.size, 3, none⟩ = some (.int .i64 0) := (cell_of HG.out).trans rfl
  have k4 : w0.cell? ⟨w.heap.size, 4, none⟩ = some (.int .i64 0) := (cell_of HG.out).trans rfl
  have k5 : w0.cell? ⟨w.heap.size, 5, none⟩ = some (.bool false) := (cell_of HG.out).trans rfl
  have k6 : w0.cell? ⟨w.heap.size, 6, none⟩ = some (.slice none 0 0) := (cell_of HG.out).trans rfl
  have k7 : w0.cell? ⟨w.heap.size, 7, none⟩ = some (.int .i64 0) := (cell_of HG.out).trans rfl
  have k8 : w0.cell? ⟨w.heap.size, 8, none⟩ = some (.slice none 0 0) := (cell_of HG.out).trans rfl
  go_enter Tryz.func32, Tryz.ntmps32
  go_wp2_with fail
  rw [← hw0]
  refine (K33.out _).mono ?_
  rintro e w1 ⟨rfl, hww⟩
  rw [hww]
  clear hww hw0
  go_wp2_with fail
  go_region
  obtain ⟨wz, hwz⟩ : ∃ wz, wz = (((((((((w0.setCell ⟨w.heap.size, 0, none⟩ (.int .i64 0)).setCell ⟨w.heap.size, 1, none⟩ (.int .i64 0)).setCell ⟨w.heap.size, 2, none⟩ (.int .i64 0)).setCell ⟨w.heap.size, 3, none⟩ (.int .i64 0)).setCell ⟨w.heap.size, 4, none⟩ (.int .i64 0)).setCell ⟨w.heap.size, 5, none⟩ (.bool false)).setCell ⟨w.heap.size, 6, none⟩ (.slice none 0 0)).setCell ⟨w.heap.size, 7, none⟩ (.int .i64 0)).setCell ⟨w.heap.size, 8, none⟩ (.slice none 0 0)).drew := ⟨_, rfl⟩
  rw [← hwz]
  have HZ : Hid (wz.heap[w.heap.size]? = some (.cells #[.int .i64 0, .int .i64 0, .int .i64 0, .int .i64 0, .int .i64 0, .bool false, .slice none 0 0, .int .i64 0, .slice none 0 0] 44 (0, 0))) := by
    show wz.heap[w.heap.size]? = _
    rw [hwz, drew_heap]
    exact fill9n HG.out _ _ _ _ _ _ _ _ _
  have BZ : Hid (Below w.heap.size w wz) := by
    show Below _ _ _
    rw [hwz]
    refine Below.drew ?_
    exact below9 B0.out (Nat.le_refl _) _ _ _ _ _ _ _ _ _
  clear hwz k0 k1 k2 k3 k4 k5 k6 k7 k8 r0 g0 gS
  go_wp2_with fail
  refine bodyPost_ret (ret_cell_tmp (k := 9) Tryz.results32 Tryz.isAgg44 Tryz.sizeOf44 _ _ w.heap.size [.int .i64 0, .int .i64 0, .int .i64 0, .int .i64 0, .int .i64 0, .bool false, .slice none 0 0, .int .i64 0, .slice none 0 0] _ rfl rfl rfl (cells_heap (t := 44) _ HZ.out)) rfl ⟨rfl, BZ.out⟩
set_option maxHeartbeats 8000000 in
theorem beat_old (w : World) (g : Nat) (f t s seq time nt : Int) (v : Value) (l : List Raw) (h : SndR w g f t s seq time v l) (ev : Value) (hev : w.cell? ⟨3, 0, none⟩ = some ev) (ht0 : 0 ≤ nt) (ht1 : nt ≤ 1099511627776) (hn : nt < time) :
    Calls Tryz.prog 32 #[.pointer (some ⟨g, 0, none⟩), .int .i64 nt] w fun e w' => e = .returned (.tuple #[.agg #[.int .i64 0, .int .i64 0, .int .i64 0, .int .i64 0, .int .i64 0, .bool false, .slice none 0 0, .int .i64 0, .slice none 0 0], ev]) ∧ Below w.heap.size w w' := by
  obtain ⟨w0, hw0⟩ : ∃ w0, w0 = w.alloc (.cells #[.int .i64 0, .int .i64 0, .int .i64 0, .int .i64 0, .int .i64 0, .bool false, .slice none 0 0, .int .i64 0, .slice none 0 0] 44) := ⟨_, rfl⟩
  have hb0 : Below w.heap.size w w0 := by rw [hw0]; exact below_alloc _ _
  have G0 : w0.heap[w.heap.size]? = some (.cells #[.int .i64 0, .int .i64 0, .int .i64 0, .int .i64 0, .int .i64 0, .bool false, .slice none 0 0, .int .i64 0, .slice none 0 0] 44 (0, 0)) := by rw [hw0]; exact heap_new _ _
  have g0 : w0.cell? ⟨3, 0, none⟩ = some ev := by rw [hb0.cell (p := ⟨3, 0, none⟩) (lt_of_cell hev)]; exact hev
  have gS : (w0.setCell ⟨w.heap.size, 0, none⟩ (.int .i64 0)).cell? ⟨3, 0, none⟩ = some ev := by
    rw [World.cell?_of_block (w := w0) (a := ⟨3, 0, none⟩) (Below.heap_setCell _ _ _ _ (by have := lt_of_cell hev; simp only at this ⊢; omega))]; exact g0
  have HG := hid G0
  have B0 := hid hb0
  have K33 := hid (fun W => isTime_yes nt W ht0 ht1)
  have c4 : w0.cell? ⟨g, 4, none⟩ = some (.int .i64 time) := (cell_of ((hb0.block _ (lt_of_heap h.box)).trans h.box)).trans rfl
  clear h hb0 hev G0
  have r0 := fun j => (show ∀ j, w0.frozen? ⟨w.heap.size, j, none⟩ = false from fun j => free_of HG.out) j
  have k0 : w0.cell? ⟨w.heap.size, 0, none⟩ = some (.int .i64 0) := (cell_of HG.out).trans rfl
  have k1 : w0.cell? ⟨w.heap.size, 1, none⟩ = some (.int .i64 0) := (cell_of HG.out).trans rfl
  have k2 : w0.cell? ⟨w.heap.size, 2, none⟩ = some (.int .i64 0) := (cell_of HG.out).trans rfl
  have k3 : w0.cell? ⟨w.heap.size, 3, none⟩ = some (.int .i64 0) := (cell_of HG.out).trans rfl
  have k4 : w0.cell? ⟨w.heap.size, 4, none⟩ = some (.int .i64 0) := (cell_of HG.out).trans rfl
  have k5 : w0.cell? ⟨w.heap.size, 5, none⟩ = some (.bool false) := (cell_of HG.out).trans rfl
  have k6 : w0.cell? ⟨w.heap.size, 6, none⟩ = some (.slice none 0 0) := (cell_of HG.out).trans rfl
  have k7 : w0.cell? ⟨w.heap.size, 7, none⟩ = some (.int .i64 0) := (cell_of HG.out).trans rfl
  have k8 : w0.cell? ⟨w.heap.size, 8, none⟩ = some (.slice none 0 0) := (cell_of HG.out).trans rfl
  go_enter Tryz.func32, Tryz.ntmps32
  go_wp2_with fail
  rw [← hw0]
  refine (K33.out _).mono ?_
  rintro e w1 ⟨rfl, hww⟩
  rw [hww]
  clear hww hw0
  go_wp2_with fail
  go_region
  obtain ⟨wz, hwz⟩ : ∃ wz, wz = (((((((((w0.setCell ⟨w.heap.size, 0, none⟩ (.int .i64 0)).setCell ⟨w.heap.size, 1, none⟩ (.int .i64 0)).setCell ⟨w.heap.size, 2, none⟩ (.int .i64 0)).setCell ⟨w.heap.size, 3, none⟩ (.int .i64 0)).setCell ⟨w.heap.size, 4, none⟩ (.int .i64 0)).setCell ⟨w.heap.size, 5, none⟩ (.bool false)).setCell ⟨w.heap.size, 6, none⟩ (.slice none 0 0)).setCell ⟨w.heap.size, 7, none⟩ (.int .i64 0)).setCell ⟨w.heap.size, 8, none⟩ (.slice none 0 0)).drew := ⟨_, rfl⟩
  rw [← hwz]
  have HZ : Hid (wz.heap[w.heap.size]? = some (.cells #[.int .i64 0, .int .i64 0, .int .i64 0, .int .i64 0, .int .i64 0, .bool false, .slice none 0 0, .int .i64 0, .slice none 0 0] 44 (0, 0))) := by
    show wz.heap[w.heap.size]? = _
    rw [hwz, drew_heap]
    exact fill9n HG.out _ _ _ _ _ _ _ _ _
  have BZ : Hid (Below w.heap.size w wz) := by
    show Below _ _ _
    rw [hwz]
    refine Below.drew ?_
    exact below9 B0.out (Nat.le_refl _) _ _ _ _ _ _ _ _ _
  clear hwz k0 k1 k2 k3 k4 k5 k6 k7 k8 r0 g0 gS
  go_wp2_with fail
  refine bodyPost_ret (ret_cell_tmp (k := 9) Tryz.results32 Tryz.isAgg44 Tryz.sizeOf44 _ _ w.heap.size [.int .i64 0, .int .i64 0, .int .i64 0, .int .i64 0, .int .i64 0, .bool false, .slice none 0 0, .int .i64 0, .slice none 0 0] _ rfl rfl rfl (cells_heap (t := 44) _ HZ.out)) rfl ⟨rfl, BZ.out⟩
end Go.Proofs.YtefpnojanldkeaaGreatDoor
