/- The sender's next, any message; The receiver with any messages: its box and its map; NewReceiver, Seq, Time, bears, knows. -/
import Derived.Test.YtefpnojanldkeaaGreatDoorJTA
import Derived.Test.YtefpnojanldkeaaGreatDoorJVOp
import Derived.Test.YtefpnojanldkeaaGreatDoorJTD
import Derived.Test.YtefpnojanldkeaaGreatDoorJHF
import Derived.Test.YtefpnojanldkeaaGreatDoorJSDel
import Derived.Test.YtefpnojanldkeaaGreatDoorJVRefN
import Derived.Test.YtefpnojanldkeaaGreatDoorJVOwnM
import Derived.Test.YtefpnojanldkeaaGreatDoorJWState
import Derived.Test.YtefpnojanldkeaaGreatDoorJSCome
import Derived.Test.YtefpnojanldkeaaGreatDoorJVStandM
import Derived.Test.YtefpnojanldkeaaGreatDoorJWPutN
import Derived.Test.YtefpnojanldkeaaGreatDoorJVOnceM
import Derived.Test.YtefpnojanldkeaaGreatDoorJWPut
import Derived.Test.YtefpnojanldkeaaGreatDoorJVVec
import Derived.Test.YtefpnojanldkeaaGreatDoorJVMap
import Derived.Test.YtefpnojanldkeaaGreatDoorJVRow
import Derived.Test.YtefpnojanldkeaaGreatDoorJWPart
import Derived.Deep.RegionLaw
import Derived.Maps.AppendAt
import Derived.Deep.Cut
import Derived.Test.YtefpnojanldkeaaGreatDoorJWMath
namespace Go.Proofs.YtefpnojanldkeaaGreatDoor
open Go.RowKit
set_option maxRecDepth 100000
set_option linter.unusedSectionVars false
variable [Inhabited ComV] [DecidableEq D3] [Inhabited D3] [Inhabited Dd] [Inhabited Dn] [Inhabited OpV]

/-- Inside next: the sender, the message's box and the result's. -/
structure NxR (w : World) (g : Nat) (f t s seq time : Int) (v0 v : Value) (l : List Raw) (r : Raw) (w' : World) : Prop where
  snd : SndR w' g f t s seq time v l
  mbox : w'.heap[w.heap.size]? = some (.cells r.cells.toArray 44 (0, 0))
  rbox : w'.heap[w.heap.size + 1]? = some (.cells #[.int .i64 0, .int .i64 0, .int .i64 0, .int .i64 0, .int .i64 0, .bool false, .slice none 0 0, .int .i64 0, .slice none 0 0] 44 (0, 0))
  only : OnlyS g v0 w w'
theorem NxR.size {w w' : World} {g : Nat} {f t s seq time : Int} {v0 v : Value} {l : List Raw} {r : Raw} (h : NxR w g f t s seq time v0 v l r w') : w.heap.size + 2 ≤ w'.heap.size := lt_of_heap h.rbox
theorem NxR.moved {w w1 w2 : World} {g : Nat} {f t s seq time : Int} {v0 v : Value} {l : List Raw} {r : Raw} (h : NxR w g f t s seq time v0 v l r w1) (hb : Below w1.heap.size w1 w2) : NxR w g f t s seq time v0 v l r w2 := by
  have hs := h.size
  exact ⟨h.snd.moved hb, by rw [hb.block _ (by omega)]; exact h.mbox, by rw [hb.block _ (by omega)]; exact h.rbox, h.only.then hb⟩
theorem NxR.start {w : World} {g : Nat} {f t s seq time x5 p : Int} {x6 : Bool} {a1 a2 : Option Addr} {n1 c1 n2 c2 : Nat} {v : Value} {l : List Raw} (h : SndR w g f t s seq time v l) :
    NxR w g f t s (seq + 1) x5 v v l ⟨f, t, s, seq + 1, x5, x6, a1, n1, c1, p, a2, n2, c2⟩ ((((w.setCell ⟨g, 3, none⟩ (.int .i64 (seq + 1))).setCell ⟨g, 4, none⟩ (.int .i64 x5)).alloc (.cells #[.int .i64 f, .int .i64 t, .int .i64 s, .int .i64 (seq + 1), .int .i64 x5, .bool x6, .slice a1 n1 c1, .int .i64 p, .slice a2 n2 c2] 44)).alloc (.cells #[.int .i64 0, .int .i64 0, .int .i64 0, .int .i64 0, .int .i64 0, .bool false, .slice none 0 0, .int .i64 0, .slice none 0 0] 44)).drew ∧ Keeps w ((((w.setCell ⟨g, 3, none⟩ (.int .i64 (seq + 1))).setCell ⟨g, 4, none⟩ (.int .i64 x5)).alloc (.cells #[.int .i64 f, .int .i64 t, .int .i64 s, .int .i64 (seq + 1), .int .i64 x5, .bool x6, .slice a1 n1 c1, .int .i64 p, .slice a2 n2 c2] 44)).alloc (.cells #[.int .i64 0, .int .i64 0, .int .i64 0, .int .i64 0, .int .i64 0, .bool false, .slice none 0 0, .int .i64 0, .slice none 0 0] 44)).drew := by
  have hg := lt_of_heap h.box
  have e0 : ((w.setCell ⟨g, 3, none⟩ (.int .i64 (seq + 1))).setCell ⟨g, 4, none⟩ (.int .i64 x5)).heap[g]? = some (.cells #[.int .i64 f, .int .i64 t, .int .i64 s, .int .i64 (seq + 1), .int .i64 x5, v] 123 (0, 0)) := by
    rw [heap_set (heap_set h.box _)]; rfl
  have hsz : ((w.setCell ⟨g, 3, none⟩ (.int .i64 (seq + 1))).setCell ⟨g, 4, none⟩ (.int .i64 x5)).heap.size = w.heap.size := by rw [size_set, size_set]
  have keep : ∀ k, k < w.heap.size → k ≠ g → ((((w.setCell ⟨g, 3, none⟩ (.int .i64 (seq + 1))).setCell ⟨g, 4, none⟩ (.int .i64 x5)).alloc (.cells #[.int .i64 f, .int .i64 t, .int .i64 s, .int .i64 (seq + 1), .int .i64 x5, .bool x6, .slice a1 n1 c1, .int .i64 p, .slice a2 n2 c2] 44)).alloc (.cells #[.int .i64 0, .int .i64 0, .int .i64 0, .int .i64 0, .int .i64 0, .bool false, .slice none 0 0, .int .i64 0, .slice none 0 0] 44)).drew.heap[k]? = w.heap[k]? := fun k hk hkg => by
    rw [drew_heap, Below.heap_alloc _ _ _ (by rw [World.size_alloc, hsz]; omega), Below.heap_alloc _ _ _ (by rw [hsz]; omega), Below.heap_setCell _ _ _ _ hkg, Below.heap_setCell _ _ _ _ hkg]
  refine ⟨⟨⟨?_, owns_at h.row fun k h1 h2 => keep k h2 (by omega)⟩, ?_, ?_, ⟨rfl, rfl, rfl, ?_, fun k hk hkg _ => keep k hk hkg⟩⟩, fun tt htt b cs hc => keep b (lt_of_heap hc) fun e => ?_⟩
  · rw [drew_heap]
    exact heap_old (heap_old e0 _) _
  · rw [drew_heap]
    have := heap_new ((w.setCell ⟨g, 3, none⟩ (.int .i64 (seq + 1))).setCell ⟨g, 4, none⟩ (.int .i64 x5)) (.cells #[.int .i64 f, .int .i64 t, .int .i64 s, .int .i64 (seq + 1), .int .i64 x5, .bool x6, .slice a1 n1 c1, .int .i64 p, .slice a2 n2 c2] 44)
    rw [hsz] at this
    exact heap_old this _
  · rw [drew_heap]
    have := heap_new2 ((w.setCell ⟨g, 3, none⟩ (.int .i64 (seq + 1))).setCell ⟨g, 4, none⟩ (.int .i64 x5)) (.cells #[.int .i64 f, .int .i64 t, .int .i64 s, .int .i64 (seq + 1), .int .i64 x5, .bool x6, .slice a1 n1 c1, .int .i64 p, .slice a2 n2 c2] 44) (.cells #[.int .i64 0, .int .i64 0, .int .i64 0, .int .i64 0, .int .i64 0, .bool false, .slice none 0 0, .int .i64 0, .slice none 0 0] 44)
    rwa [hsz] at this
  · rw [drew_heap, World.size_alloc, World.size_alloc, hsz]; omega
  · subst e
    rw [h.box] at hc
    injection hc with hc
    injection hc with _ hc
    rcases htt with e | e | e <;> (rw [e] at hc; exact absurd hc (by decide))
/-- The copy is put behind the others. -/
theorem NxR.more {w w1 w2 : World} {g : Nat} {f t s seq time : Int} {v v' : Value} {l : List Raw} {r q : Raw} (h : NxR w g f t s seq time v v l r w1) (hg : g < w.heap.size) {o' : Obj} (hn : w2.ownsRow (g + 1) 44 9 v' (l.length + 1) (raws l ++ q.cells)) (hgr : (w1.alloc o').grownBy w2 v.ownBlock) (hv : ∀ b, v.ownBlock = some b → b < w.heap.size) (hat : v'.ownBlock = v.ownBlock ∨ v'.ownBlock = some (w1.alloc o').heap.size) :
    (w2.cell? ⟨g, 5, none⟩ = some v ∧ w2.frozen? ⟨g, 5, none⟩ = false) ∧ NxR w g f t s seq time v v' (l ++ [q]) r (w2.setCell ⟨g, 5, none⟩ v') ∧ (v'.ownBlock = v.ownBlock ∨ ∃ b, v'.ownBlock = some b ∧ w.heap.size + 2 ≤ b) ∧ Keeps w1 (w2.setCell ⟨g, 5, none⟩ v') := by
  have hs := h.size
  have keep : ∀ k, k < w1.heap.size → v.ownBlock ≠ some k → w2.heap[k]? = w1.heap[k]? := fun k hk hkv => by
    rw [hgr.block k (by simp; omega) hkv.symm, Below.heap_alloc _ _ _ hk]
  have hgv : v.ownBlock ≠ some g := fun e => by have := (h.snd.row.lt g e).1; omega
  have e0 := (keep g (by omega) hgv).trans h.snd.box
  have hm : v.ownBlock ≠ some w.heap.size := fun e => by have := hv _ e; omega
  have hr : v.ownBlock ≠ some (w.heap.size + 1) := fun e => by have := hv _ e; omega
  refine ⟨⟨(cell_of e0).trans rfl, free_of e0⟩, ⟨⟨by rw [heap_set e0]; rfl, ?_⟩, ?_, ?_, ?_⟩, ?_, ?_⟩
  · rw [raws_snoc, List.length_append]
    exact owns_at hn fun k h1 _ => Below.heap_setCell _ _ _ _ (by show k ≠ g; omega)
  · rw [Below.heap_setCell _ _ _ _ (by show w.heap.size ≠ g; omega), keep _ (by omega) hm]; exact h.mbox
  · rw [Below.heap_setCell _ _ _ _ (by show w.heap.size + 1 ≠ g; omega), keep _ (by omega) hr]; exact h.rbox
  · exact ⟨hgr.os.trans h.only.os, hgr.tape.trans h.only.tape, hgr.output.trans h.only.output, by have := hgr.size; have := h.only.size; rw [size_set]; simp at *; omega, fun k hk hkg hkv => by
      rw [Below.heap_setCell _ _ _ _ hkg, keep k (by omega) hkv]; exact h.only.block k hk hkg hkv⟩
  · rcases hat with h | h
    · exact .inl h
    · exact .inr ⟨_, h, by simp; omega⟩
  · intro tt htt b cs hc
    rw [Below.heap_setCell _ _ _ _ fun e => ?_]
    · exact grown_ne h.snd.row hgr b cs tt (by rcases htt with e | e | e <;> (rw [e]; decide)) hc
    · have e' : b = g := e
      rw [e', h.snd.box] at hc
      injection hc with hc
      injection hc with _ hc
      rcases htt with e | e | e <;> (rw [e] at hc; exact absurd hc (by decide))
/-- What next leaves: one copy is kept, another one answered. -/
def NtRet (w : World) (g : Nat) (f t s seq time : Int) (v : Value) (l : List Raw) (m : MsgV) (e : Ending) (w' : World) : Prop := ∃ (v' : Value) (r2 r3 : Raw), e = .returned (.agg r3.cells.toArray) ∧ SndR w' g f t s seq time v' (l ++ [r2]) ∧ RawOwn w.heap.size w' r2 m ∧ RawOwn w.heap.size w' r3 m ∧ OnlyS g v w w' ∧ (v'.ownBlock = v.ownBlock ∨ ∃ b, v'.ownBlock = some b ∧ w.heap.size ≤ b) ∧ Keeps w w'
set_option maxHeartbeats 4000000 in
theorem next_raw (w : World) (g : Nat) (f t s seq time x1 x2 x3 x4 x5 p : Int) (x6 : Bool) (a1 a2 : Option Addr) (n1 c1 n2 c2 : Nat) (v : Value) (l : List Raw) (m : MsgV) (h : SndR w g f t s seq time v l) (hl : l.length ≤ 1000) (h0 : 0 ≤ seq) (h1 : seq ≤ 1000) (hr : RawOwn 0 w ⟨f, t, s, seq + 1, x5, x6, a1, n1, c1, p, a2, n2, c2⟩ m) (hL : Light m.c) :
    Calls Tryz.prog 61 #[.pointer (some ⟨g, 0, none⟩), .agg #[.int .i64 x1, .int .i64 x2, .int .i64 x3, .int .i64 x4, .int .i64 x5, .bool x6, .slice a1 n1 c1, .int .i64 p, .slice a2 n2 c2]] w (NtRet w g f t s (seq + 1) x5 v l m) := by
  obtain ⟨i37, hi, hz0, hz1, hz2⟩ := info_parts Tryz.info44
  have hg := lt_of_heap h.box
  have H := hid h
  have HRO := hid hr
  have HL := hid hL
  have HV : Hid (∀ b, v.ownBlock = some b → b < w.heap.size) := fun b hb => (h.row.lt b hb).2
  obtain ⟨av, cv, rfl⟩ := row_shape h.row
  have c0 := (cell_of (j := 0) h.box).trans rfl
  have c1' := (cell_of (j := 1) h.box).trans rfl
  have c2' := (cell_of (j := 2) h.box).trans rfl
  have c3 := (cell_of (j := 3) h.box).trans rfl
  have c4 := (cell_of (j := 4) h.box).trans rfl
  have c5 := (cell_of (j := 5) h.box).trans rfl
  have fz := fun j => free_of (j := j) h.box
  clear h hr hL
  go_enter Tryz.func61, Tryz.ntmps61
  go_upto_region 3 with (fail)
  go_region
  obtain ⟨w3, hw3⟩ : ∃ w3, w3 = ((((w.setCell ⟨g, 3, none⟩ (.int .i64 (seq + 1))).setCell ⟨g, 4, none⟩ (.int .i64 x5)).alloc (.cells #[.int .i64 f, .int .i64 t, .int .i64 s, .int .i64 (seq + 1), .int .i64 x5, .bool x6, .slice a1 n1 c1, .int .i64 p, .slice a2 n2 c2] 44)).alloc (.cells #[.int .i64 0, .int .i64 0, .int .i64 0, .int .i64 0, .int .i64 0, .bool false, .slice none 0 0, .int .i64 0, .slice none 0 0] 44)).drew := ⟨_, rfl⟩
  rw [← hw3]
  have hst := NxR.start (x5 := x5) (p := p) (x6 := x6) (a1 := a1) (a2 := a2) (n1 := n1) (c1 := c1) (n2 := n2) (c2 := c2) H.out
  rw [← hw3] at hst
  have N3 := hid hst.1
  have KP3 := hid hst.2
  clear hw3 hst c0 c1' c2' c3 c4 c5 fz
  have p5 : w3.cell? ⟨g, 5, none⟩ = some (.slice av l.length cv) := (cell_of N3.out.snd.box).trans rfl
  have m0 : w3.cell? ⟨w.heap.size, 0, none⟩ = some (.int .i64 f) := (cell_of N3.out.mbox).trans rfl
  have m1 : w3.cell? ⟨w.heap.size, 1, none⟩ = some (.int .i64 t) := (cell_of N3.out.mbox).trans rfl
  have m2 : w3.cell? ⟨w.heap.size, 2, none⟩ = some (.int .i64 s) := (cell_of N3.out.mbox).trans rfl
  have m3 : w3.cell? ⟨w.heap.size, 3, none⟩ = some (.int .i64 (seq + 1)) := (cell_of N3.out.mbox).trans rfl
  have m4 : w3.cell? ⟨w.heap.size, 4, none⟩ = some (.int .i64 x5) := (cell_of N3.out.mbox).trans rfl
  have m5 : w3.cell? ⟨w.heap.size, 5, none⟩ = some (.bool x6) := (cell_of N3.out.mbox).trans rfl
  have m6 : w3.cell? ⟨w.heap.size, 6, none⟩ = some (.slice a1 n1 c1) := (cell_of N3.out.mbox).trans rfl
  have m7 : w3.cell? ⟨w.heap.size, 7, none⟩ = some (.int .i64 p) := (cell_of N3.out.mbox).trans rfl
  have m8 : w3.cell? ⟨w.heap.size, 8, none⟩ = some (.slice a2 n2 c2) := (cell_of N3.out.mbox).trans rfl
  have R3 := hid (HRO.out.kept KP3.out)
  have KC : Hid (Calls Tryz.prog 66 #[.agg #[.int .i64 f, .int .i64 t, .int .i64 s, .int .i64 (seq + 1), .int .i64 x5, .bool x6, .slice a1 n1 c1, .int .i64 p, .slice a2 n2 c2]] w3.drew (CpRet m w3.drew)) := copy_raw w3.drew ⟨f, t, s, seq + 1, x5, x6, a1, n1, c1, p, a2, n2, c2⟩ m (R3.out.at_.mono (Below.refl _ _).drew (Nat.le_refl _)) HL.out
  have hk2 : l.length + 1 ≤ maxLen := by unfold maxLen; omega
  have hk3 : (l.length + 1) * 104 ≤ 140737488355328 := by omega
  have hsz3 := N3.out.size
  go_upto_region 4 with (fail)
  go_region_law (first
    | (refine step_append_at rfl _ _ 37 rfl (g + 1) 44 i37 _ 9 104 Tryz.underlying37 hi hz0 hz1 hz2 rfl (by decide) (.slice av l.length cv) l.length (raws l) rfl (N8.out.snd.row.alloc _) _ 1 1 [.int .i64 y1, .int .i64 y2, .int .i64 y3, .int .i64 y4, .int .i64 y5, .bool y6, .slice b1 k1 d1, .int .i64 pp, .slice b2 k2 d2] rfl rfl (cells3_new _ _ _) (oneR ⟨y1, y2, y3, y4, y5, y6, b1, k1, d1, pp, b2, k2, d2⟩) hk2 hk3 (hb8 _) ?_; intro v' w9 hrow hgr hat; obtain ⟨a9, cc9, hv9⟩ := row_shape hrow; subst hv9; obtain ⟨⟨c9, z9⟩, h9, hor, hkp9⟩ := N8.out.more (q := ⟨y1, y2, y3, y4, y5, y6, b1, k1, d1, pp, b2, k2, d2⟩) hg hrow hgr HV.out hat; have N9 := hid h9; have HOR := hid hor; have KP9 := hid hkp9; clear hrow hgr h9 hor hat hkp9)
    | (go_simp; refine KC.out.mono ?_; rintro e w8 ⟨⟨y1, y2, y3, y4, y5, y6, b1, k1, d1, pp, b2, k2, d2⟩, rfl, how8, hb8'⟩; have N8 := hid (N3.out.moved (below_undrew hb8')); have OW8 := hid how8; have BW8 := hid (below_undrew hb8'); have q8 : w8.cell? ⟨g, 5, none⟩ = some (.slice av l.length cv) := (cell_of N8.out.snd.box).trans rfl; have q8a := (fun o => cell_alloc q8 o); have hb8 : ∀ o, g + 1 ≤ (w8.alloc o).heap.size := (fun o => by have := lt_of_heap N8.out.snd.box; simp; omega); clear hb8' how8; unfold Raw.cells; simp only))
  all_goals
    obtain ⟨wX, hX⟩ : ∃ wX, wX = w9.setCell ⟨g, 5, none⟩ (.slice a9 (l.length + 1) cc9) := ⟨_, rfl⟩
    rw [← hX] at N9 KP9 ⊢
    clear hX KC m0 m1 m2 m3 m4 m5 m6 m7 m8 p5 q8 q8a c9 z9
    have OWX := hid (OW8.out.kept KP9.out)
    have RX := hid ((R3.out.kept (Keeps.bel BW8.out)).kept KP9.out)
    have m0 : wX.cell? ⟨w.heap.size, 0, none⟩ = some (.int .i64 f) := (cell_of N9.out.mbox).trans rfl
    have m1 : wX.cell? ⟨w.heap.size, 1, none⟩ = some (.int .i64 t) := (cell_of N9.out.mbox).trans rfl
    have m2 : wX.cell? ⟨w.heap.size, 2, none⟩ = some (.int .i64 s) := (cell_of N9.out.mbox).trans rfl
    have m3 : wX.cell? ⟨w.heap.size, 3, none⟩ = some (.int .i64 (seq + 1)) := (cell_of N9.out.mbox).trans rfl
    have m4 : wX.cell? ⟨w.heap.size, 4, none⟩ = some (.int .i64 x5) := (cell_of N9.out.mbox).trans rfl
    have m5 : wX.cell? ⟨w.heap.size, 5, none⟩ = some (.bool x6) := (cell_of N9.out.mbox).trans rfl
    have m6 : wX.cell? ⟨w.heap.size, 6, none⟩ = some (.slice a1 n1 c1) := (cell_of N9.out.mbox).trans rfl
    have m7 : wX.cell? ⟨w.heap.size, 7, none⟩ = some (.int .i64 p) := (cell_of N9.out.mbox).trans rfl
    have m8 : wX.cell? ⟨w.heap.size, 8, none⟩ = some (.slice a2 n2 c2) := (cell_of N9.out.mbox).trans rfl
    have KD : Hid (Calls Tryz.prog 66 #[.agg #[.int .i64 f, .int .i64 t, .int .i64 s, .int .i64 (seq + 1), .int .i64 x5, .bool x6, .slice a1 n1 c1, .int .i64 p, .slice a2 n2 c2]] wX (CpRet m wX)) := copy_raw wX ⟨f, t, s, seq + 1, x5, x6, a1, n1, c1, p, a2, n2, c2⟩ m RX.out.at_ HL.out
    have hsX := N9.out.size
    go_wp2_with fail
    refine KD.out.mono ?_
    rintro e w11 ⟨⟨q1, q2, q3, q4, q5, q6, e1, j1, f1, qq, e2, j2, f2⟩, rfl, how11, hb11⟩
    have N11 := hid (N9.out.moved hb11)
    have OW11 := hid how11
    have OX11 := hid (OWX.out.kept (Keeps.bel hb11))
    have K11 : Hid (Keeps w w11) := (KP3.out.trans ((Keeps.bel BW8.out).trans KP9.out)).trans (Keeps.bel hb11)
    obtain ⟨wz, STORE, HZ⟩ := store_row N11.out.rbox [.int .i64 q1, .int .i64 q2, .int .i64 q3, .int .i64 q4, .int .i64 q5, .bool q6, .slice e1 j1 f1, .int .i64 qq, .slice e2 j2 f2] rfl rfl 44 9 rfl Tryz.sizeOf44
    clear hb11 how11
    unfold Raw.cells
    simp only
    go_wp2_with (refine STORE _ _ _ _ _ (.tmp 4) (.tmp 52) rfl rfl rfl rfl ?_)
    have hso : ∀ k, k ≠ w.heap.size + 1 → wz.heap[k]? = w11.heap[k]? := fun k hk => by rw [HZ.out.2]; exact setCells_other _ _ _ _ _ hk
    have kz : Keeps w11 wz := fun tt htt b cs hc => hso b fun e => by
      rw [e, N11.out.rbox] at hc
      injection hc with hc
      injection hc with _ hc
      rcases htt with e | e | e <;> (rw [e] at hc; exact absurd hc (by decide))
    refine bodyPost_ret (ret_cell (k := 9) Tryz.results61 Tryz.isAgg44 Tryz.sizeOf44 _ _ (w.heap.size + 1) [.int .i64 q1, .int .i64 q2, .int .i64 q3, .int .i64 q4, .int .i64 q5, .bool q6, .slice e1 j1 f1, .int .i64 qq, .slice e2 j2 f2] rfl rfl HZ.out.1) rfl ⟨.slice a9 (l.length + 1) cc9, ⟨y1, y2, y3, y4, y5, y6, b1, k1, d1, pp, b2, k2, d2⟩, ⟨q1, q2, q3, q4, q5, q6, e1, j1, f1, qq, e2, j2, f2⟩, rfl, ⟨?_, ?_⟩, ?_, ?_, ⟨?_, ?_, ?_, ?_, ?_⟩, ?_, K11.out.trans kz⟩
    · rw [hso g (by omega)]; exact N11.out.snd.box
    · refine owns_own N11.out.snd.row fun b hb => hso b fun e => ?_
      rcases HOR.out with h | ⟨b', h, hb'⟩
      · have := HV.out b (by rw [← h]; exact hb); omega
      · have h2 := hb.symm.trans h
        have h3 := Option.some.inj h2
        omega
    · exact (OX11.out.kept kz).base (by show w.heap.size ≤ w3.heap.size; omega)
    · exact (OW11.out.kept kz).base (by omega)
    · have := below_setCells (B := 0) (b := w.heap.size + 1) (a := w11) (Nat.zero_le _) [.int .i64 q1, .int .i64 q2, .int .i64 q3, .int .i64 q4, .int .i64 q5, .bool q6, .slice e1 j1 f1, .int .i64 qq, .slice e2 j2 f2] 0 (Below.refl _ _)
      rw [HZ.out.2]; exact this.os.trans N11.out.only.os
    · have := below_setCells (B := 0) (b := w.heap.size + 1) (a := w11) (Nat.zero_le _) [.int .i64 q1, .int .i64 q2, .int .i64 q3, .int .i64 q4, .int .i64 q5, .bool q6, .slice e1 j1 f1, .int .i64 qq, .slice e2 j2 f2] 0 (Below.refl _ _)
      rw [HZ.out.2]; exact this.tape.trans N11.out.only.tape
    · have := below_setCells (B := 0) (b := w.heap.size + 1) (a := w11) (Nat.zero_le _) [.int .i64 q1, .int .i64 q2, .int .i64 q3, .int .i64 q4, .int .i64 q5, .bool q6, .slice e1 j1 f1, .int .i64 qq, .slice e2 j2 f2] 0 (Below.refl _ _)
      rw [HZ.out.2]; exact this.output.trans N11.out.only.output
    · rw [HZ.out.2, setCells_size]; exact N11.out.only.size
    · exact fun k hk hkg hkv => by rw [hso k (by omega)]; exact N11.out.only.block k hk hkg hkv
    · rcases HOR.out with h | ⟨b', h, hb'⟩
      · exact .inl h
      · exact .inr ⟨b', h, by omega⟩
end Go.Proofs.YtefpnojanldkeaaGreatDoor
namespace Go.Proofs.YtefpnojanldkeaaGreatDoor
open Go.RowKit Go.Maps
set_option maxRecDepth 100000
set_option linter.unusedSectionVars false
variable [Inhabited ComV] [DecidableEq D3] [Inhabited D3] [Inhabited Dd] [Inhabited Dn] [Inhabited OpV]

/-- A value of the map, as it is. -/
def elemV : Value → Option (DataW Value × List MemPlace) := fun v => some (.held v, [])
/-- A Go int. -/
def n64 (k : Int) : Prop := -9223372036854775808 ≤ k ∧ k ≤ 9223372036854775807
theorem n64_wf {k : Int} (h : n64 k) : (Lit.int .i64 k).wf = true := by
  obtain ⟨h1, h2⟩ := h
  have e1 : IntKind.i64.min = -9223372036854775808 := rfl
  have e2 : IntKind.i64.max = 9223372036854775807 := rfl
  simp [Lit.wf, e1, e2]
  omega
theorem key_64 {k : Int} (h : n64 k) : keyOf Tryz.prog 3 (.int .i64 k) = some (.int .i64 k) := keyOf_int_mk Tryz.underlying3 (n64_wf h)
/-- What is kept, by number. -/
def MapV (D : DataW Value) (M : Int → Option Raw) : Prop := ∀ k, n64 k → Maps.has D (.int .i64 k) = (M k).isSome ∧ ∀ z, D.atKey (.int .i64 k) z = ((M k).map fun r => .held (.agg r.cells.toArray)).getD z
def updV (M : Int → Option Raw) (k : Int) (x : Option Raw) : Int → Option Raw := fun j => if j = k then x else M j
theorem MapV.start : MapV (.map []) fun _ => none := fun _ _ => ⟨rfl, fun _ => rfl⟩
theorem MapV.put {D : DataW Value} {M : Int → Option Raw} (h : MapV D M) (hD : IsMap D) (k : Int) (r : Raw) : MapV (D.put (.int .i64 k) (.held (.agg r.cells.toArray))) (updV M k (some r)) := fun j hj => by
  unfold updV
  by_cases q : j = k
  · subst q
    rw [if_pos rfl, has_put_same hD (key_lit _)]
    exact ⟨rfl, fun z => atKey_put_same hD (key_lit _) _ z⟩
  · rw [if_neg q, has_put_other (fun x => q (lit_inj x))]
    exact ⟨(h j hj).1, fun z => by rw [atKey_put_other (fun x => q (lit_inj x))]; exact (h j hj).2 z⟩
theorem MapV.del {D : DataW Value} {M : Int → Option Raw} (h : MapV D M) (k : Int) : MapV (D.del (.int .i64 k)) (updV M k none) := fun j hj => by
  unfold updV
  by_cases q : j = k
  · subst q
    rw [if_pos rfl, has_del_same]
    exact ⟨rfl, fun z => atKey_del_same z⟩
  · rw [if_neg q, has_del_other (fun x => q (lit_inj x))]
    exact ⟨(h j hj).1, fun z => by rw [atKey_del_other (fun x => q (lit_inj x))]; exact (h j hj).2 z⟩
/-- A receiver: its box g, its map mb, what is kept. -/
structure RcvM (w : World) (g mb n : Nat) (f t s seq time : Int) (M : Int → Option Raw) : Prop where
  box : w.heap[g]? = some (.cells #[.int .i64 f, .int .i64 t, .int .i64 s, .int .i64 seq, .int .i64 time, .map (some mb)] 129 (0, 0))
  map : ∃ D : DataW Value, w.ownsMap Tryz.prog 3 elemV mb n D ∧ MapV D M
theorem RcvM.mlt {w : World} {g mb n : Nat} {f t s seq time : Int} {M : Int → Option Raw} (h : RcvM w g mb n f t s seq time M) : mb < w.heap.size := by obtain ⟨D, hm, _⟩ := h.map; exact hm.lt
theorem RcvM.moved {w u : World} {g mb n : Nat} {f t s seq time : Int} {M : Int → Option Raw} (h : RcvM w g mb n f t s seq time M) (hg : u.heap[g]? = w.heap[g]?) (hm : u.heap[mb]? = w.heap[mb]?) : RcvM u g mb n f t s seq time M := by
  obtain ⟨D, ⟨es, clock, hb, r⟩, hM⟩ := h.map
  exact ⟨hg.trans h.box, D, ⟨es, clock, hm.trans hb, r⟩, hM⟩
theorem RcvM.below {w u : World} {g mb n : Nat} {f t s seq time : Int} {M : Int → Option Raw} (h : RcvM w g mb n f t s seq time M) (hb : Below w.heap.size w u) : RcvM u g mb n f t s seq time M := h.moved (hb.block _ (lt_of_heap h.box)) (hb.block _ h.mlt)
/-- The look-up, in whatever world that has the map as it is. -/
theorem look_raw {wr : World} {mb n : Nat} {D : DataW Value} {M : Int → Option Raw} (hm : wr.ownsMap Tryz.prog 3 elemV mb n D) (hM : MapV D M) {k : Int} (hk : n64 k) {r : Raw} (hs : M k = some r) (u : World) (hu : u.heap[mb]? = wr.heap[mb]?) :
    (Instr.lookup 127 (.map (some mb)) (.int .i64 k) true).run Tryz.prog u = .ok (.tuple #[.agg r.cells.toArray, .bool true]) u := by
  have hm' : u.ownsMap Tryz.prog 3 elemV mb n D := by
    obtain ⟨es, clock, hb, r⟩ := hm
    exact ⟨es, clock, by rw [hu]; exact hb, r⟩
  obtain ⟨v, ps, hrun, hv⟩ := hm'.look_ok keyed3 Tryz.underlying127 (zero37 _) (zd := .held (.agg #[.int .i64 0, .int .i64 0, .int .i64 0, .int .i64 0, .int .i64 0, .bool false, .slice none 0 0, .int .i64 0, .slice none 0 0])) (zp := []) rfl (key_64 hk)
  have h2 := (hM k hk).2 (.held (.agg #[.int .i64 0, .int .i64 0, .int .i64 0, .int .i64 0, .int .i64 0, .bool false, .slice none 0 0, .int .i64 0, .slice none 0 0]))
  rw [hs] at h2
  unfold elemV at hv
  have h3 := (congrArg Prod.fst (Option.some.inj hv)).trans h2
  injection h3 with h3
  rw [hrun, (hM k hk).1, hs, h3]
  rfl
theorem look_raw_none {wr : World} {mb n : Nat} {D : DataW Value} {M : Int → Option Raw} (hm : wr.ownsMap Tryz.prog 3 elemV mb n D) (hM : MapV D M) {k : Int} (hk : n64 k) (hs : M k = none) (u : World) (hu : u.heap[mb]? = wr.heap[mb]?) :
    (Instr.lookup 127 (.map (some mb)) (.int .i64 k) true).run Tryz.prog u = .ok (.tuple #[.agg #[.int .i64 0, .int .i64 0, .int .i64 0, .int .i64 0, .int .i64 0, .bool false, .slice none 0 0, .int .i64 0, .slice none 0 0], .bool false]) u := by
  have hm' : u.ownsMap Tryz.prog 3 elemV mb n D := by
    obtain ⟨es, clock, hb, r⟩ := hm
    exact ⟨es, clock, by rw [hu]; exact hb, r⟩
  obtain ⟨v, ps, hrun, hv⟩ := hm'.look_ok keyed3 Tryz.underlying127 (zero37 _) (zd := .held (.agg #[.int .i64 0, .int .i64 0, .int .i64 0, .int .i64 0, .int .i64 0, .bool false, .slice none 0 0, .int .i64 0, .slice none 0 0])) (zp := []) rfl (key_64 hk)
  have h2 := (hM k hk).2 (.held (.agg #[.int .i64 0, .int .i64 0, .int .i64 0, .int .i64 0, .int .i64 0, .bool false, .slice none 0 0, .int .i64 0, .slice none 0 0]))
  rw [hs] at h2
  unfold elemV at hv
  have h3 := (congrArg Prod.fst (Option.some.inj hv)).trans h2
  injection h3 with h3
  rw [hrun, (hM k hk).1, hs, h3]
  rfl
set_option maxHeartbeats 1000000 in
theorem newReceiver_raw (f t s : Int) (w : World) (h : WayOk f t s) : Calls Tryz.prog 47 #[.int .i64 f, .int .i64 t, .int .i64 s] w fun e w' => ∃ g mb, w.heap.size ≤ g ∧ w.heap.size ≤ mb ∧ g ≠ mb ∧ e = .returned (.tuple #[.pointer (some ⟨g, 0, none⟩), .nilIface]) ∧ RcvM w' g mb 0 f t s 0 0 (fun _ => none) ∧ Below w.heap.size w w' := by
  have K := hid (newWay_ok f t s w h)
  clear h
  have hmm := @run_makeMap Tryz.prog
  go_enter Tryz.func47, Tryz.ntmps47
  go_wp2_with fail
  refine K.out.mono ?_
  rintro e w1 ⟨rfl, hb1⟩
  have B1 := hid hb1
  clear hb1
  go_wp2
  go_ret2
  have hs := B1.out.size
  refine ⟨w1.heap.size + 1 + 1, w1.heap.size + 1, by omega, by omega, by omega, rfl, ⟨?_, .map [], ?_, MapV.start⟩, ?_⟩
  · have := heap_new ((w1.alloc (.cells #[.int .i64 f, .int .i64 t, .int .i64 s] 121)).alloc (.map #[] 0)) (.cells #[.int .i64 f, .int .i64 t, .int .i64 s, .int .i64 0, .int .i64 0, .map (some (w1.heap.size + 1))] 129)
    rwa [World.size_alloc, World.size_alloc] at this
  · have := (World.ownsMap_made (w1.alloc (.cells #[.int .i64 f, .int .i64 t, .int .i64 s] 121)) Tryz.prog 3 elemV).alloc (.cells #[.int .i64 f, .int .i64 t, .int .i64 s, .int .i64 0, .int .i64 0, .map (some (w1.heap.size + 1))] 129)
    rwa [World.size_alloc] at this
  · exact ((B1.out.alloc B1.out.size _).alloc (by simp; omega) _).alloc (by simp; omega) _
theorem rtime_raw (w : World) (g mb n : Nat) (f t s seq time : Int) (M : Int → Option Raw) (h : RcvM w g mb n f t s seq time M) : Calls Tryz.prog 68 #[.pointer (some ⟨g, 0, none⟩)] w fun e w' => e = .returned (.int .i64 time) ∧ w' = w := by
  have c3 : w.cell? ⟨g, 4, none⟩ = some (.int .i64 time) := (cell_of h.box).trans rfl
  clear h
  go_enter Tryz.func68, Tryz.ntmps68
  go_wp2
  go_ret
  exact ⟨rfl, rfl⟩
def bearsB (f t s : Int) (r : Raw) : Bool := decide (r.x1 = f) && (decide (r.x2 = t) && decide (r.x3 = s))
set_option maxHeartbeats 1000000 in
theorem bears_raw (w : World) (f t s : Int) (r : Raw) : Calls Tryz.prog 64 #[.agg #[.int .i64 f, .int .i64 t, .int .i64 s], .agg r.cells.toArray] w fun e w' => e = .returned (.bool (bearsB f t s r)) ∧ Below w.heap.size w w' := by
  obtain ⟨x1, x2, x3, x4, x5, x6, a1, n1, c1, p, a2, n2, c2⟩ := r
  unfold Raw.cells bearsB
  simp only
  by_cases h1 : x1 = f
  · subst h1
    by_cases h2 : x2 = t
    · subst h2
      by_cases h3 : x3 = s
      · subst h3
        go_enter Tryz.func64, Tryz.ntmps64
        go_wp2
        go_ret
        exact ⟨ret_bool (by simp), below2S _ _ _⟩
      · have h3b : (x3 == s) = false := beq_eq_false_iff_ne.2 h3
        have h3d : decide (x3 = s) = false := decide_eq_false h3
        clear h3
        go_enter Tryz.func64, Tryz.ntmps64
        go_wp2
        go_ret
        exact ⟨ret_bool (by simp [h3d]), below2S _ _ _⟩
    · have h3b : (x2 == t) = false := beq_eq_false_iff_ne.2 h2
      have h3d : decide (x2 = t) = false := decide_eq_false h2
      clear h2
      go_enter Tryz.func64, Tryz.ntmps64
      go_wp2
      go_ret
      exact ⟨ret_bool (by simp [h3d]), below2S _ _ _⟩
  · have h3b : (x1 == f) = false := beq_eq_false_iff_ne.2 h1
    have h3d : decide (x1 = f) = false := decide_eq_false h1
    clear h1
    go_enter Tryz.func64, Tryz.ntmps64
    go_wp2
    go_ret
    exact ⟨ret_bool (by simp [h3d]), below2S _ _ _⟩
def timeB (t : Int) : Bool := decide (0 ≤ t) && decide (t ≤ 1099511627776)
theorem isTime_any (t : Int) (w : World) : Calls Tryz.prog 60 #[.int .i64 t] w fun e w' => e = .returned (.bool (timeB t)) ∧ w' = w := by
  unfold timeB
  by_cases h0 : 0 ≤ t
  · by_cases h1 : t ≤ 1099511627776
    · go_enter Tryz.func60, Tryz.ntmps60
      go_wp2
      go_ret
      exact ⟨ret_bool (by simp [h0, h1]), rfl⟩
    · go_enter Tryz.func60, Tryz.ntmps60
      go_wp2
      go_ret
      exact ⟨ret_bool (by simp [h1]), rfl⟩
  · go_enter Tryz.func60, Tryz.ntmps60
    go_wp2
    go_ret
    exact ⟨ret_bool (by simp; intro; omega), rfl⟩
set_option maxHeartbeats 1000000 in
theorem knows_raw (w : World) (g mb n : Nat) (f t s seq time k : Int) (M : Int → Option Raw) (h : RcvM w g mb n f t s seq time M) (hk : n64 k) : Calls Tryz.prog 65 #[.pointer (some ⟨g, 0, none⟩), .int .i64 k] w fun e w' => e = .returned (.bool ((M k).isSome || decide (k ≤ seq))) ∧ Below w.heap.size w w' := by
  have c3 : w.cell? ⟨g, 3, none⟩ = some (.int .i64 seq) := (cell_of h.box).trans rfl
  have c5 : w.cell? ⟨g, 5, none⟩ = some (.map (some mb)) := (cell_of h.box).trans rfl
  obtain ⟨D, hm, hM⟩ := h.map
  have hca := fun o => cell_alloc c3 o
  cases hM' : M k with
  | none =>
    have hrun := look_raw_none hm hM hk hM' w rfl
    clear h hm hM hM'
    go_enter Tryz.func65, Tryz.ntmps65
    go_wp2
    go_ret
    exact ⟨ret_bool (by simp), below_alloc _ _⟩
  | some r =>
    have hrun := look_raw hm hM hk hM' w rfl
    obtain ⟨x1, x2, x3, x4, x5, x6, a1, n1, c1, p, a2, n2, c2⟩ := r
    unfold Raw.cells at hrun
    simp only at hrun
    clear h hm hM hM'
    go_enter Tryz.func65, Tryz.ntmps65
    go_wp2
    go_ret
    exact ⟨rfl, below_alloc _ _⟩
end Go.Proofs.YtefpnojanldkeaaGreatDoor
