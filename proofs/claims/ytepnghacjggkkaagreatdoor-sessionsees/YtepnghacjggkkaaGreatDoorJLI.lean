/- The sender's next, any message; The sender's Beat, any message kept; A place beats. -/
import Derived.Test.YtepnghacjggkkaaGreatDoorJSRcv
import Derived.Test.YtepnghacjggkkaaGreatDoorJXSum
import Derived.Deep.Cut
import Derived.Deep.RegionHeld
import Derived.Deep.RegionLaw
import Derived.LaidEql
import Derived.LaidHandle
import Derived.LaidLaws
import Derived.LaidSub
import Derived.Maps.AppendAt
import Derived.Maps.OwnSet
import Derived.OpenShut
import Derived.ProofKit
import Derived.RowKitTokens
import Derived.Stop.Asserts
import Derived.Test.YtepnghacjggkkaaGreatDoorProg
import Derived.Test.YtepnghacjggkkaaGreatDoorRows
import Derived.WalkKit
import Derived.Test.YtepnghacjggkkaaGreatDoorJSBeat
import Derived.Test.YtepnghacjggkkaaGreatDoorJLM
import Derived.BigQuiet
import Derived.Deep.Draws
import Derived.Deep.QuietTactic
import Derived.Handy
import Derived.Laws.ResultCell
import Derived.Shelf.SlicesQ.IndexFunc
import Derived.Sort.Grow
import Derived.StillTailTactics
namespace Go.Proofs.YtepnghacjggkkaaGreatDoor
open Go.RowKit
set_option maxRecDepth 100000
set_option linter.unusedSectionVars false
variable [Inhabited ComV] [DecidableEq D3] [Inhabited D3] [Inhabited Dd] [Inhabited Dn] [Inhabited OpV]

structure NxR (w : World) (g : Nat) (f t s seq time : Int) (v0 v : Value) (l : List Raw) (r : Raw) (w' : World) : Prop where
  snd : SndR w' g f t s seq time v l
  mbox : w'.heap[w.heap.size]? = some (.cells r.cells.toArray 74 (0, 0))
  rbox : w'.heap[w.heap.size + 1]? = some (.cells #[.int .i64 0, .int .i64 0, .int .i64 0, .int .i64 0, .int .i64 0, .bool false, .slice none 0 0, .int .i64 0, .slice none 0 0] 74 (0, 0))
  only : OnlyS g v0 w w'
theorem NxR.size {w w' : World} {g : Nat} {f t s seq time : Int} {v0 v : Value} {l : List Raw} {r : Raw} (h : NxR w g f t s seq time v0 v l r w') : w.heap.size + 2 ≤ w'.heap.size := lt_of_heap h.rbox
theorem NxR.moved {w w1 w2 : World} {g : Nat} {f t s seq time : Int} {v0 v : Value} {l : List Raw} {r : Raw} (h : NxR w g f t s seq time v0 v l r w1) (hb : Below w1.heap.size w1 w2) : NxR w g f t s seq time v0 v l r w2 := by
  have hs := h.size
  exact ⟨h.snd.moved hb, by rw [hb.block _ (by omega)]; exact h.mbox, by rw [hb.block _ (by omega)]; exact h.rbox, h.only.then hb⟩
theorem NxR.start {w : World} {g : Nat} {f t s seq time x5 p : Int} {x6 : Bool} {a1 a2 : Option Addr} {n1 c1 n2 c2 : Nat} {v : Value} {l : List Raw} (h : SndR w g f t s seq time v l) :
    NxR w g f t s (seq + 1) x5 v v l ⟨f, t, s, seq + 1, x5, x6, a1, n1, c1, p, a2, n2, c2⟩ ((((w.setCell ⟨g, 3, none⟩ (.int .i64 (seq + 1))).setCell ⟨g, 4, none⟩ (.int .i64 x5)).alloc (.cells #[.int .i64 f, .int .i64 t, .int .i64 s, .int .i64 (seq + 1), .int .i64 x5, .bool x6, .slice a1 n1 c1, .int .i64 p, .slice a2 n2 c2] 74)).alloc (.cells #[.int .i64 0, .int .i64 0, .int .i64 0, .int .i64 0, .int .i64 0, .bool false, .slice none 0 0, .int .i64 0, .slice none 0 0] 74)).drew ∧ Keeps w ((((w.setCell ⟨g, 3, none⟩ (.int .i64 (seq + 1))).setCell ⟨g, 4, none⟩ (.int .i64 x5)).alloc (.cells #[.int .i64 f, .int .i64 t, .int .i64 s, .int .i64 (seq + 1), .int .i64 x5, .bool x6, .slice a1 n1 c1, .int .i64 p, .slice a2 n2 c2] 74)).alloc (.cells #[.int .i64 0, .int .i64 0, .int .i64 0, .int .i64 0, .int .i64 0, .bool false, .slice none 0 0, .int .i64 0, .slice none 0 0] 74)).drew := by
  have hg := lt_of_heap h.box
  have e0 : ((w.setCell ⟨g, 3, none⟩ (.int .i64 (seq + 1))).setCell ⟨g, 4, none⟩ (.int .i64 x5)).heap[g]? = some (.cells #[.int .i64 f, .int .i64 t, .int .i64 s, .int .i64 (seq + 1), .int .i64 x5, v] 111 (0, 0)) := by
    rw [heap_set (heap_set h.box _)]; rfl
  have hsz : ((w.setCell ⟨g, 3, none⟩ (.int .i64 (seq + 1))).setCell ⟨g, 4, none⟩ (.int .i64 x5)).heap.size = w.heap.size := by rw [size_set, size_set]
  have keep : ∀ k, k < w.heap.size → k ≠ g → ((((w.setCell ⟨g, 3, none⟩ (.int .i64 (seq + 1))).setCell ⟨g, 4, none⟩ (.int .i64 x5)).alloc (.cells #[.int .i64 f, .int .i64 t, .int .i64 s, .int .i64 (seq + 1), .int .i64 x5, .bool x6, .slice a1 n1 c1, .int .i64 p, .slice a2 n2 c2] 74)).alloc (.cells #[.int .i64 0, .int .i64 0, .int .i64 0, .int .i64 0, .int .i64 0, .bool false, .slice none 0 0, .int .i64 0, .slice none 0 0] 74)).drew.heap[k]? = w.heap[k]? := fun k hk hkg => by
    rw [drew_heap, Below.heap_alloc _ _ _ (by rw [World.size_alloc, hsz]; omega), Below.heap_alloc _ _ _ (by rw [hsz]; omega), Below.heap_setCell _ _ _ _ hkg, Below.heap_setCell _ _ _ _ hkg]
  refine ⟨⟨⟨?_, owns_at h.row fun k h1 h2 => keep k h2 (by omega)⟩, ?_, ?_, ⟨rfl, rfl, rfl, ?_, fun k hk hkg _ => keep k hk hkg⟩⟩, fun tt htt b cs hc => keep b (lt_of_heap hc) fun e => ?_⟩
  · rw [drew_heap]
    exact heap_old (heap_old e0 _) _
  · rw [drew_heap]
    have := heap_new ((w.setCell ⟨g, 3, none⟩ (.int .i64 (seq + 1))).setCell ⟨g, 4, none⟩ (.int .i64 x5)) (.cells #[.int .i64 f, .int .i64 t, .int .i64 s, .int .i64 (seq + 1), .int .i64 x5, .bool x6, .slice a1 n1 c1, .int .i64 p, .slice a2 n2 c2] 74)
    rw [hsz] at this
    exact heap_old this _
  · rw [drew_heap]
    have := heap_new2 ((w.setCell ⟨g, 3, none⟩ (.int .i64 (seq + 1))).setCell ⟨g, 4, none⟩ (.int .i64 x5)) (.cells #[.int .i64 f, .int .i64 t, .int .i64 s, .int .i64 (seq + 1), .int .i64 x5, .bool x6, .slice a1 n1 c1, .int .i64 p, .slice a2 n2 c2] 74) (.cells #[.int .i64 0, .int .i64 0, .int .i64 0, .int .i64 0, .int .i64 0, .bool false, .slice none 0 0, .int .i64 0, .slice none 0 0] 74)
    rwa [hsz] at this
  · rw [drew_heap, World.size_alloc, World.size_alloc, hsz]; omega
  · subst e
    rw [h.box] at hc
    injection hc with hc
    injection hc with _ hc
    rcases htt with e | e | e <;> (rw [e] at hc; exact absurd hc (by decide))
theorem NxR.more {w w1 w2 : World} {g : Nat} {f t s seq time : Int} {v v' : Value} {l : List Raw} {r q : Raw} (h : NxR w g f t s seq time v v l r w1) (hg : g < w.heap.size) {o' : Obj} (hn : w2.ownsRow (g + 1) 74 9 v' (l.length + 1) (raws l ++ q.cells)) (hgr : (w1.alloc o').grownBy w2 v.ownBlock) (hv : ∀ b, v.ownBlock = some b → b < w.heap.size) (hat : v'.ownBlock = v.ownBlock ∨ v'.ownBlock = some (w1.alloc o').heap.size) :
    (w2.cell? ⟨g, 5, none⟩ = some v ∧ w2.frozen? ⟨g, 5, none⟩ = false) ∧ NxR w g f t s seq time v v' (l ++ [q]) r (w2.setCell ⟨g, 5, none⟩ v') ∧ (v'.ownBlock = v.ownBlock ∨ ∃ b, v'.ownBlock = some b ∧ w.heap.size + 2 ≤ b) ∧ Keeps w1 (w2.setCell ⟨g, 5, none⟩ v') := by
  have hs := h.size
  have keep : ∀ k, k < w1.heap.size → v.ownBlock ≠ some k → w2.heap[k]? = w1.heap[k]? := fun k hk hkv => by
    rw [hgr.block k (by simp; omega) hkv.symm, Below.heap_alloc _ _ _ hk]
  have hgv : v.ownBlock ≠ some g := fun e => by have := (h.snd.row.lt g e).1; omega
  have e0 := (keep g (by omega) hgv).trans h.snd.box
  have hm : v.ownBlock ≠ some w.heap.size := fun e => by have := hv _ e; omega
  have hr : v.ownBlock ≠ some (w.heap.size + 1) := fun e => by have := hv _ e; omega
  refine ⟨⟨(cell_of e0).trans rfl, free_of e0⟩, ⟨⟨by rw [heap_set e0]; rfl, ?_⟩, ?_, ?_, ?_⟩, ?_, ?_⟩
  · rw [raws_snoc, List.length_append]
    exact owns_at hn fun k h1 _ => Below.heap_setCell _ _ _ _ (by show k ≠ g; omega)
  · rw [Below.heap_setCell _ _ _ _ (by show w.heap.size ≠ g; omega), keep _ (by omega) hm]; exact h.mbox
  · rw [Below.heap_setCell _ _ _ _ (by show w.heap.size + 1 ≠ g; omega), keep _ (by omega) hr]; exact h.rbox
  · exact ⟨hgr.os.trans h.only.os, hgr.tape.trans h.only.tape, hgr.output.trans h.only.output, by have := hgr.size; have := h.only.size; rw [size_set]; simp at *; omega, fun k hk hkg hkv => by
      rw [Below.heap_setCell _ _ _ _ hkg, keep k (by omega) hkv]; exact h.only.block k hk hkg hkv⟩
  · rcases hat with h | h
    · exact .inl h
    · exact .inr ⟨_, h, by simp; omega⟩
  · intro tt htt b cs hc
    rw [Below.heap_setCell _ _ _ _ fun e => ?_]
    · exact grown_ne h.snd.row hgr b cs tt (by rcases htt with e | e | e <;> (rw [e]; decide)) hc
    · have e' : b = g := e
      rw [e', h.snd.box] at hc
      injection hc with hc
      injection hc with _ hc
      rcases htt with e | e | e <;> (rw [e] at hc; exact absurd hc (by decide))
def NtRet (w : World) (g : Nat) (f t s seq time : Int) (v : Value) (l : List Raw) (m : MsgV) (e : Ending) (w' : World) : Prop := ∃ (v' : Value) (r2 r3 : Raw), e = .returned (.agg r3.cells.toArray) ∧ SndR w' g f t s seq time v' (l ++ [r2]) ∧ RawOwn w.heap.size w' r2 m ∧ RawOwn w.heap.size w' r3 m ∧ OnlyS g v w w' ∧ (v'.ownBlock = v.ownBlock ∨ ∃ b, v'.ownBlock = some b ∧ w.heap.size ≤ b) ∧ Keeps w w'
set_option maxHeartbeats 4000000 in
theorem next_raw (w : World) (g : Nat) (f t s seq time x1 x2 x3 x4 x5 p : Int) (x6 : Bool) (a1 a2 : Option Addr) (n1 c1 n2 c2 : Nat) (v : Value) (l : List Raw) (m : MsgV) (h : SndR w g f t s seq time v l) (hl : l.length ≤ 1000) (h0 : 0 ≤ seq) (h1 : seq ≤ 1000) (hr : RawOwn 0 w ⟨f, t, s, seq + 1, x5, x6, a1, n1, c1, p, a2, n2, c2⟩ m) (hL : Light m.c) :
    Calls Tryz.prog 46 #[.pointer (some ⟨g, 0, none⟩), .agg #[.int .i64 x1, .int .i64 x2, .int .i64 x3, .int .i64 x4, .int .i64 x5, .bool x6, .slice a1 n1 c1, .int .i64 p, .slice a2 n2 c2]] w (NtRet w g f t s (seq + 1) x5 v l m) := by
  obtain ⟨i37, hi, hz0, hz1, hz2⟩ := info_parts Tryz.info74
  have hg := lt_of_heap h.box
  have H := hid h
  have HRO := hid hr
  have HL := hid hL
  have HV : Hid (∀ b, v.ownBlock = some b → b < w.heap.size) := fun b hb => (h.row.lt b hb).2
  obtain ⟨av, cv, rfl⟩ := row_shape h.row
  have c0 := (cell_of (j := 0) h.box).trans rfl
  have c1' := (cell_of (j := 1) h.box).trans rfl
  have c2' := (cell_of (j := 2) h.box).trans rfl
  have c3 := (cell_of (j := 3) h.box).trans rfl
  have c4 := (cell_of (j := 4) h.box).trans rfl
  have c5 := (cell_of (j := 5) h.box).trans rfl
  have fz := fun j => free_of (j := j) h.box
  clear h hr hL
  go_enter Tryz.func46, Tryz.ntmps46
  go_upto_region 3 with (fail)
  go_region
  obtain ⟨w3, hw3⟩ : ∃ w3, w3 = ((((w.setCell ⟨g, 3, none⟩ (.int .i64 (seq + 1))).setCell ⟨g, 4, none⟩ (.int .i64 x5)).alloc (.cells #[.int .i64 f, .int .i64 t, .int .i64 s, .int .i64 (seq + 1), .int .i64 x5, .bool x6, .slice a1 n1 c1, .int .i64 p, .slice a2 n2 c2] 74)).alloc (.cells #[.int .i64 0, .int .i64 0, .int .i64 0, .int .i64 0, .int .i64 0, .bool false, .slice none 0 0, .int .i64 0, .slice none 0 0] 74)).drew := ⟨_, rfl⟩
  rw [← hw3]
  have hst := NxR.start (x5 := x5) (p := p) (x6 := x6) (a1 := a1) (a2 := a2) (n1 := n1) (c1 := c1) (n2 := n2) (c2 := c2) H.out
  rw [← hw3] at hst
  have N3 := hid hst.1
  have KP3 := hid hst.2
  clear hw3 hst c0 c1' c2' c3 c4 c5 fz
  have p5 : w3.cell? ⟨g, 5, none⟩ = some (.slice av l.length cv) := (cell_of N3.out.snd.box).trans rfl
  have m0 : w3.cell? ⟨w.heap.size, 0, none⟩ = some (.int .i64 f) := (cell_of N3.out.mbox).trans rfl
  have m1 : w3.cell? ⟨w.heap.size, 1, none⟩ = some (.int .i64 t) := (cell_of N3.out.mbox).trans rfl
  have m2 : w3.cell? ⟨w.heap.size, 2, none⟩ = some (.int .i64 s) := (cell_of N3.out.mbox).trans rfl
  have m3 : w3.cell? ⟨w.heap.size, 3, none⟩ = some (.int .i64 (seq + 1)) := (cell_of N3.out.mbox).trans rfl
  have m4 : w3.cell? ⟨w.heap.size, 4, none⟩ = some (.int .i64 x5) := (cell_of N3.out.mbox).trans rfl
  have m5 : w3.cell? ⟨w.heap.size, 5, none⟩ = some (.bool x6) := (cell_of N3.out.mbox).trans rfl
  have m6 : w3.cell? ⟨w.heap.size, 6, none⟩ = some (.slice a1 n1 c1) := (cell_of N3.out.mbox).trans rfl
  have m7 : w3.cell? ⟨w.heap.size, 7, none⟩ = some (.int .i64 p) := (cell_of N3.out.mbox).trans rfl
  have m8 : w3.cell? ⟨w.heap.size, 8, none⟩ = some (.slice a2 n2 c2) := (cell_of N3.out.mbox).trans rfl
  have R3 := hid (HRO.out.kept KP3.out)
  have KC : Hid (Calls Tryz.prog 65 #[.agg #[.int .i64 f, .int .i64 t, .int .i64 s, .int .i64 (seq + 1), .int .i64 x5, .bool x6, .slice a1 n1 c1, .int .i64 p, .slice a2 n2 c2]] w3.drew (CpRet m w3.drew)) := copy_raw w3.drew ⟨f, t, s, seq + 1, x5, x6, a1, n1, c1, p, a2, n2, c2⟩ m (R3.out.at_.mono (Below.refl _ _).drew (Nat.le_refl _)) HL.out
  have hk2 : l.length + 1 ≤ maxLen := by unfold maxLen; omega
  have hk3 : (l.length + 1) * 104 ≤ 140737488355328 := by omega
  have hsz3 := N3.out.size
  go_upto_region 4 with (fail)
  go_region_law (first
    | (refine step_append_at rfl _ _ 34 rfl (g + 1) 74 i37 _ 9 104 Tryz.underlying34 hi hz0 hz1 hz2 rfl (by decide) (.slice av l.length cv) l.length (raws l) rfl (N8.out.snd.row.alloc _) _ 1 1 [.int .i64 y1, .int .i64 y2, .int .i64 y3, .int .i64 y4, .int .i64 y5, .bool y6, .slice b1 k1 d1, .int .i64 pp, .slice b2 k2 d2] rfl rfl (cells3_new _ _ _) (oneR ⟨y1, y2, y3, y4, y5, y6, b1, k1, d1, pp, b2, k2, d2⟩) hk2 hk3 (hb8 _) ?_; intro v' w9 hrow hgr hat; obtain ⟨a9, cc9, hv9⟩ := row_shape hrow; subst hv9; obtain ⟨⟨c9, z9⟩, h9, hor, hkp9⟩ := N8.out.more (q := ⟨y1, y2, y3, y4, y5, y6, b1, k1, d1, pp, b2, k2, d2⟩) hg hrow hgr HV.out hat; have N9 := hid h9; have HOR := hid hor; have KP9 := hid hkp9; clear hrow hgr h9 hor hat hkp9)
    | (go_simp; refine KC.out.mono ?_; rintro e w8 ⟨⟨y1, y2, y3, y4, y5, y6, b1, k1, d1, pp, b2, k2, d2⟩, rfl, how8, hb8'⟩; have N8 := hid (N3.out.moved (below_undrew hb8')); have OW8 := hid how8; have BW8 := hid (below_undrew hb8'); have q8 : w8.cell? ⟨g, 5, none⟩ = some (.slice av l.length cv) := (cell_of N8.out.snd.box).trans rfl; have q8a := (fun o => cell_alloc q8 o); have hb8 : ∀ o, g + 1 ≤ (w8.alloc o).heap.size := (fun o => by have := lt_of_heap N8.out.snd.box; simp; omega); clear hb8' how8; unfold Raw.cells; simp only))
  all_goals
    obtain ⟨wX, hX⟩ : ∃ wX, wX = w9.setCell ⟨g, 5, none⟩ (.slice a9 (l.length + 1) cc9) := ⟨_, rfl⟩
    rw [← hX] at N9 KP9 ⊢
    clear hX KC m0 m1 m2 m3 m4 m5 m6 m7 m8 p5 q8 q8a c9 z9
    have OWX := hid (OW8.out.kept KP9.out)
    have RX := hid ((R3.out.kept (Keeps.bel BW8.out)).kept KP9.out)
    have m0 : wX.cell? ⟨w.heap.size, 0, none⟩ = some (.int .i64 f) := (cell_of N9.out.mbox).trans rfl
    have m1 : wX.cell? ⟨w.heap.size, 1, none⟩ = some (.int .i64 t) := (cell_of N9.out.mbox).trans rfl
    have m2 : wX.cell? ⟨w.heap.size, 2, none⟩ = some (.int .i64 s) := (cell_of N9.out.mbox).trans rfl
    have m3 : wX.cell? ⟨w.heap.size, 3, none⟩ = some (.int .i64 (seq + 1)) := (cell_of N9.out.mbox).trans rfl
    have m4 : wX.cell? ⟨w.heap.size, 4, none⟩ = some (.int .i64 x5) := (cell_of N9.out.mbox).trans rfl
    have m5 : wX.cell? ⟨w.heap.size, 5, none⟩ = some (.bool x6) := (cell_of N9.out.mbox).trans rfl
    have m6 : wX.cell? ⟨w.heap.size, 6, none⟩ = some (.slice a1 n1 c1) := (cell_of N9.out.mbox).trans rfl
    have m7 : wX.cell? ⟨w.heap.size, 7, none⟩ = some (.int .i64 p) := (cell_of N9.out.mbox).trans rfl
    have m8 : wX.cell? ⟨w.heap.size, 8, none⟩ = some (.slice a2 n2 c2) := (cell_of N9.out.mbox).trans rfl
    have KD : Hid (Calls Tryz.prog 65 #[.agg #[.int .i64 f, .int .i64 t, .int .i64 s, .int .i64 (seq + 1), .int .i64 x5, .bool x6, .slice a1 n1 c1, .int .i64 p, .slice a2 n2 c2]] wX (CpRet m wX)) := copy_raw wX ⟨f, t, s, seq + 1, x5, x6, a1, n1, c1, p, a2, n2, c2⟩ m RX.out.at_ HL.out
    have hsX := N9.out.size
    go_wp2_with fail
    refine KD.out.mono ?_
    rintro e w11 ⟨⟨q1, q2, q3, q4, q5, q6, e1, j1, f1, qq, e2, j2, f2⟩, rfl, how11, hb11⟩
    have N11 := hid (N9.out.moved hb11)
    have OW11 := hid how11
    have OX11 := hid (OWX.out.kept (Keeps.bel hb11))
    have K11 : Hid (Keeps w w11) := (KP3.out.trans ((Keeps.bel BW8.out).trans KP9.out)).trans (Keeps.bel hb11)
    obtain ⟨wz, STORE, HZ⟩ := store_row N11.out.rbox [.int .i64 q1, .int .i64 q2, .int .i64 q3, .int .i64 q4, .int .i64 q5, .bool q6, .slice e1 j1 f1, .int .i64 qq, .slice e2 j2 f2] rfl rfl 74 9 rfl Tryz.sizeOf74
    clear hb11 how11
    unfold Raw.cells
    simp only
    go_wp2_with (refine STORE _ _ _ _ _ (.tmp 4) (.tmp 52) rfl rfl rfl rfl ?_)
    have hso : ∀ k, k ≠ w.heap.size + 1 → wz.heap[k]? = w11.heap[k]? := fun k hk => by rw [HZ.out.2]; exact setCells_other _ _ _ _ _ hk
    have kz : Keeps w11 wz := fun tt htt b cs hc => hso b fun e => by
      rw [e, N11.out.rbox] at hc
      injection hc with hc
      injection hc with _ hc
      rcases htt with e | e | e <;> (rw [e] at hc; exact absurd hc (by decide))
    refine bodyPost_ret (ret_cell (k := 9) Tryz.results46 Tryz.isAgg74 Tryz.sizeOf74 _ _ (w.heap.size + 1) [.int .i64 q1, .int .i64 q2, .int .i64 q3, .int .i64 q4, .int .i64 q5, .bool q6, .slice e1 j1 f1, .int .i64 qq, .slice e2 j2 f2] rfl rfl HZ.out.1) rfl ⟨.slice a9 (l.length + 1) cc9, ⟨y1, y2, y3, y4, y5, y6, b1, k1, d1, pp, b2, k2, d2⟩, ⟨q1, q2, q3, q4, q5, q6, e1, j1, f1, qq, e2, j2, f2⟩, rfl, ⟨?_, ?_⟩, ?_, ?_, ⟨?_, ?_, ?_, ?_, ?_⟩, ?_, K11.out.trans kz⟩
    · rw [hso g (by omega)]; exact N11.out.snd.box
    · refine owns_own N11.out.snd.row fun b hb => hso b fun e => ?_
      rcases HOR.out with h | ⟨b', h, hb'⟩
      · have := HV.out b (by rw [← h]; exact hb); omega
      · have h2 := hb.symm.trans h
        have h3 := Option.some.inj h2
        omega
    · exact (OX11.out.kept kz).base (by show w.heap.size ≤ w3.heap.size; omega)
    · exact (OW11.out.kept kz).base (by omega)
    · have := below_setCells (B := 0) (b := w.heap.size + 1) (a := w11) (Nat.zero_le _) [.int .i64 q1, .int .i64 q2, .int .i64 q3, .int .i64 q4, .int .i64 q5, .bool q6, .slice e1 j1 f1, .int .i64 qq, .slice e2 j2 f2] 0 (Below.refl _ _)
      rw [HZ.out.2]; exact this.os.trans N11.out.only.os
    · have := below_setCells (B := 0) (b := w.heap.size + 1) (a := w11) (Nat.zero_le _) [.int .i64 q1, .int .i64 q2, .int .i64 q3, .int .i64 q4, .int .i64 q5, .bool q6, .slice e1 j1 f1, .int .i64 qq, .slice e2 j2 f2] 0 (Below.refl _ _)
      rw [HZ.out.2]; exact this.tape.trans N11.out.only.tape
    · have := below_setCells (B := 0) (b := w.heap.size + 1) (a := w11) (Nat.zero_le _) [.int .i64 q1, .int .i64 q2, .int .i64 q3, .int .i64 q4, .int .i64 q5, .bool q6, .slice e1 j1 f1, .int .i64 qq, .slice e2 j2 f2] 0 (Below.refl _ _)
      rw [HZ.out.2]; exact this.output.trans N11.out.only.output
    · rw [HZ.out.2, setCells_size]; exact N11.out.only.size
    · exact fun k hk hkg hkv => by rw [hso k (by omega)]; exact N11.out.only.block k hk hkg hkv
    · rcases HOR.out with h | ⟨b', h, hb'⟩
      · exact .inl h
      · exact .inr ⟨b', h, by omega⟩
end Go.Proofs.YtepnghacjggkkaaGreatDoor
namespace Go.Proofs.YtepnghacjggkkaaGreatDoor
open Go.RowKit
set_option maxRecDepth 100000
set_option linter.unusedSectionVars false
variable [Inhabited ComV] [DecidableEq D3] [Inhabited D3] [Inhabited Dd] [Inhabited Dn] [Inhabited OpV]

def BtRet (w : World) (g : Nat) (f t s seq time : Int) (v : Value) (l : List Raw) (m : MsgV) (e : Ending) (w' : World) : Prop := ∃ (v' : Value) (r2 r3 : Raw), e = .returned (.tuple #[.agg r3.cells.toArray, .nilIface]) ∧ SndR w' g f t s seq time v' (l ++ [r2]) ∧ RawOwn w.heap.size w' r2 m ∧ RawOwn w.heap.size w' r3 m ∧ OnlyS g v w w' ∧ (v'.ownBlock = v.ownBlock ∨ ∃ b, v'.ownBlock = some b ∧ w.heap.size ≤ b) ∧ Keeps w w'
theorem comOwn_nil (base : Nat) (w : World) (p : Int) : ComOwn base w (.slice none 0 0) (.slice none 0 0) ⟨[], p, []⟩ := ⟨World.ownsRow_nil _ _ _ _, [], World.ownsRow_nil _ _ _ _, trivial⟩
theorem light_nil (p : Int) : Light ⟨[], p, []⟩ := ⟨by simp, by simp, fun o ho => by simp at ho⟩
def beatM (f t s seq time : Int) : MsgV := ⟨f, t, s, seq, time, true, ⟨[], 0, []⟩⟩
set_option maxHeartbeats 4000000 in
theorem beat_raw (w : World) (g : Nat) (f t s seq time nt : Int) (v : Value) (l : List Raw) (h : SndR w g f t s seq time v l) (hl : l.length ≤ 1000) (h0 : 0 ≤ seq) (h1 : seq ≤ 1000) (ht0 : 0 ≤ nt) (ht1 : nt ≤ 1099511627776) (ht2 : time ≤ nt) :
    Calls Tryz.prog 28 #[.pointer (some ⟨g, 0, none⟩), .int .i64 nt] w (BtRet w g f t s (seq + 1) nt v l (beatM f t s (seq + 1) nt)) := by
  obtain ⟨w0, hw0⟩ : ∃ w0, w0 = w.alloc (.cells #[.int .i64 0, .int .i64 0, .int .i64 0, .int .i64 0, .int .i64 0, .bool false, .slice none 0 0, .int .i64 0, .slice none 0 0] 74) := ⟨_, rfl⟩
  have hb0 : Below w.heap.size w w0 := by rw [hw0]; exact below_alloc _ _
  have G0 : Hid (w0.heap[w.heap.size]? = some (.cells #[.int .i64 0, .int .i64 0, .int .i64 0, .int .i64 0, .int .i64 0, .bool false, .slice none 0 0, .int .i64 0, .slice none 0 0] 74 (0, 0))) := by show w0.heap[w.heap.size]? = _; rw [hw0]; exact heap_new _ _
  have H0 := hid (h.moved hb0)
  have hg := lt_of_heap h.box
  have HV : Hid (∀ b, v.ownBlock = some b → b < w.heap.size) := fun b hb => (h.row.lt b hb).2
  have B0 := hid hb0
  have c4 : w0.cell? ⟨g, 4, none⟩ = some (.int .i64 time) := (cell_of H0.out.box).trans rfl
  have K33 := hid (fun W => isTime_yes nt W ht0 ht1)
  have K34 := hid (next_raw w0 g f t s seq time 0 0 0 0 nt 0 true none none 0 0 0 0 v l (beatM f t s (seq + 1) nt) H0.out hl h0 h1 ⟨⟨rfl, rfl, rfl, rfl, rfl, rfl, rfl⟩, comOwn_nil _ _ _⟩ (light_nil _))
  have hnt : ¬ nt < time := by omega
  clear h hb0
  go_enter Tryz.func28, Tryz.ntmps28
  go_wp2_with fail
  rw [← hw0]
  clear hw0
  refine (K33.out _).mono ?_
  rintro e w1 ⟨rfl, hww⟩
  rw [hww]
  clear hww
  go_wp2_with fail
  refine K34.out.mono ?_
  rintro e w2 ⟨v', r2, ⟨q1, q2, q3, q4, q5, q6, e1, j1, f1, qq, e2, j2, f2⟩, rfl, hs2, hr2, hr3, ho2, hv2, hkp2⟩
  have hG2 : w2.heap[w.heap.size]? = some (.cells #[.int .i64 0, .int .i64 0, .int .i64 0, .int .i64 0, .int .i64 0, .bool false, .slice none 0 0, .int .i64 0, .slice none 0 0] 74 (0, 0)) := ho2.box G0.out (by omega) fun e => by have := HV.out _ e; omega
  obtain ⟨wz, STORE, HZ⟩ := store_row hG2 [.int .i64 q1, .int .i64 q2, .int .i64 q3, .int .i64 q4, .int .i64 q5, .bool q6, .slice e1 j1 f1, .int .i64 qq, .slice e2 j2 f2] rfl rfl 74 9 rfl Tryz.sizeOf74
  have S2 := hid hs2
  have O2 := hid ho2
  have V2 := hid hv2
  have R2 := hid hr2
  have R3 := hid hr3
  have KP2 := hid hkp2
  have HG2 := hid hG2
  clear hs2 ho2 hv2 hG2 hr2 hr3 hkp2
  unfold Raw.cells
  simp only
  go_wp2_with (refine STORE _ _ _ _ _ (.tmp 4) (.tmp 29) rfl rfl rfl rfl ?_)
  have hso : ∀ k, k ≠ w.heap.size → wz.heap[k]? = w2.heap[k]? := fun k hk => by rw [HZ.out.2]; exact setCells_other _ _ _ _ _ hk
  have hbz := below_setCells (B := 0) (b := w.heap.size) (a := w2) (Nat.zero_le _) [.int .i64 q1, .int .i64 q2, .int .i64 q3, .int .i64 q4, .int .i64 q5, .bool q6, .slice e1 j1 f1, .int .i64 qq, .slice e2 j2 f2] 0 (Below.refl _ _)
  have hs0 : w0.heap.size ≤ w2.heap.size := O2.out.size
  have hsw := B0.out.size
  have kz : Keeps w2 wz := fun tt htt b cs hc => hso b fun e => by
    rw [e, HG2.out] at hc
    injection hc with hc
    injection hc with _ hc
    rcases htt with e | e | e <;> (rw [e] at hc; exact absurd hc (by decide))
  refine bodyPost_ret (ret_cell_tmp (k := 9) Tryz.results28 Tryz.isAgg74 Tryz.sizeOf74 _ _ (w.heap.size) [.int .i64 q1, .int .i64 q2, .int .i64 q3, .int .i64 q4, .int .i64 q5, .bool q6, .slice e1 j1 f1, .int .i64 qq, .slice e2 j2 f2] _ rfl rfl rfl HZ.out.1) rfl ⟨v', r2, ⟨q1, q2, q3, q4, q5, q6, e1, j1, f1, qq, e2, j2, f2⟩, rfl, ⟨?_, ?_⟩, (R2.out.kept kz).base hsw, (R3.out.kept kz).base hsw, ⟨?_, ?_, ?_, ?_, ?_⟩, ?_, ?_⟩
  · rw [hso g (by omega)]; exact S2.out.box
  · refine owns_own S2.out.row fun b hb => hso b fun e => ?_
    have hl0 := lt_of_heap G0.out
    rcases V2.out with h | ⟨b', h, hb'⟩
    · have := HV.out b (by rw [← h]; exact hb); omega
    · have h3 := Option.some.inj (hb.symm.trans h)
      omega
  · rw [HZ.out.2]; exact hbz.os.trans (O2.out.os.trans B0.out.os)
  · rw [HZ.out.2]; exact hbz.tape.trans (O2.out.tape.trans B0.out.tape)
  · rw [HZ.out.2]; exact hbz.output.trans (O2.out.output.trans B0.out.output)
  · rw [HZ.out.2, setCells_size]; omega
  · exact fun k hk hkg hkv => by rw [hso k (by omega), O2.out.block k (by omega) hkg hkv]; exact B0.out.block k hk
  · rcases V2.out with h | ⟨b', h, hb'⟩
    · exact .inl h
    · exact .inr ⟨b', h, by omega⟩
  · exact ((Keeps.bel B0.out).trans KP2.out).trans kz
end Go.Proofs.YtepnghacjggkkaaGreatDoor
namespace Go.Proofs.YtepnghacjggkkaaGreatDoor
open Go.RowKit Go.Maps
set_option maxRecDepth 100000
set_option linter.unusedSectionVars false
variable [Inhabited ComV] [DecidableEq D3] [Inhabited D3] [Inhabited Dd] [Inhabited Dn] [Inhabited OpV]

theorem sent_any (w : World) (r : Raw) : Calls Tryz.prog 27 #[.agg r.cells.toArray, .nilIface] w fun e w' => e = .returned (.slice (some ⟨w.heap.size + 1, 0, none⟩) 1 1) ∧ w'.heap[w.heap.size + 1]? = some (.cells r.cells.toArray 74 (0, 0)) ∧ Below w.heap.size w w' := by
  obtain ⟨x1, x2, x3, x4, x5, x6, a1, n1, c1, p, a2, n2, c2⟩ := r
  unfold Raw.cells
  simp only
  go_enter Tryz.func27, Tryz.ntmps27
  go_wp2
  go_ret
  exact ⟨rfl, heap_new2 _ _ _, below2 _ _ _⟩
def beatY (v : PlV) (j s : Nat) : LnV := { v.Y j s with sq := (v.Y j s).sq + 1, st := v.ck, ms := (v.Y j s).ms ++ [beatM v.id j s ((v.Y j s).sq + 1) v.ck] }
def beatT (v : PlV) (j s : Nat) : List MsgV := [beatM v.id j s ((v.Y j s).sq + 1) v.ck]
structure PvOk (v : PlV) : Prop where
  ck0 : 0 ≤ v.ck
  ck1 : v.ck ≤ 1000
  sq0 : ∀ j s, v.line j s → 0 ≤ (v.Y j s).sq
  sq1 : ∀ j s, v.line j s → (v.Y j s).sq ≤ 900
  ms1 : ∀ j s, v.line j s → (v.Y j s).ms.length ≤ 900
  st0 : ∀ j s, v.line j s → 0 ≤ (v.Y j s).st
  st1 : ∀ j s, v.line j s → (v.Y j s).st ≤ v.ck
  rt0 : ∀ j s, v.line j s → 0 ≤ (v.Y j s).rt
  rt1 : ∀ j s, v.line j s → (v.Y j s).rt ≤ 1000
theorem LnAt.sent {w w' : World} {i j s : Int} {x : Ln} {y : LnV} (h : LnAt w i j s x y) {sq st : Int} {v' : Value} {r : Raw} {m : MsgV} (hS : SndR w' x.g i j s sq st v' (x.l ++ [r])) (hr : RawOwn w.heap.size w' r m) (hO : OnlyS x.g x.v w w') (hk : Keeps w w') : LnAt w' i j s { x with v := v', l := x.l ++ [r] } { y with sq := sq, st := st, ms := y.ms ++ [m] } := by
  obtain ⟨t1, t2, t3, t4⟩ := h.ty
  have n1 : x.gr ≠ x.g := fun e => by rw [e] at t2; omega
  have n2 : x.gm ≠ x.g := fun e => by rw [e] at t3; omega
  have n3 : x.v.ownBlock ≠ some x.gr := fun e => by have := t4 _ e; omega
  have n4 : x.v.ownBlock ≠ some x.gm := fun e => by have := t4 _ e; omega
  exact ⟨hS, f2_snoc (f2_mono (fun _ _ q => q.kept hk) h.own) (hr.base (Nat.zero_le _)), h.rcv.moved (hO.block _ (lt_of_heap h.rcv.box) n1 n3) (hO.block _ h.rcv.mlt n2 n4), fun q => (h.maps q).mono fun _ _ p => p.kept hk⟩
theorem src_one {W : World} {m : Nat} {r : Raw} (h : W.heap[m]? = some (.cells r.cells.toArray 74 (0, 0))) : SrcAt W (.slice (some ⟨m, 0, none⟩) 1 1) 1 9 (raws [r]) :=
  .inr ⟨_, _, rfl, by simp [raws, Raw.cells], fun j u hj => by rw [Addr.add_lit, Nat.zero_add, cell_of h]; simpa [raws] using hj⟩
def BeatP (pb cb : Nat) (ck : Int) (W : World) : Prop := W.heap[cb]? = some (.cells #[.pointer (some ⟨pb, 0, none⟩)] 30 (0, 0)) ∧ ∃ cs, W.heap[pb]? = some (.cells cs 69 (0, 0)) ∧ cs[2]? = some (.int .i64 ck)
set_option maxHeartbeats 4000000 in
theorem beat1_tell (v0 : PlV) (hok : PvOk v0) (pb cb : Nat) : LineTell 26 (.pointer (some ⟨cb, 0, none⟩)) v0 (beatT v0) (beatY v0) (BeatP pb cb v0.ck) := by
  rintro W x j s q hl ⟨c0, cs, c2, c3⟩
  obtain ⟨w1, hw1⟩ : ∃ w1, w1 = W.alloc (.cells #[.pointer (some ⟨x.g, 0, none⟩), .pointer (some ⟨x.gr, 0, none⟩)] 81) := ⟨_, rfl⟩
  have b1 : Below W.heap.size W w1 := by rw [hw1]; exact below_alloc _ _
  have g1 : w1.heap[W.heap.size]? = some (.cells #[.pointer (some ⟨x.g, 0, none⟩), .pointer (some ⟨x.gr, 0, none⟩)] 81 (0, 0)) := by rw [hw1]; exact heap_new _ _
  have c0' : w1.heap[cb]? = _ := (b1.block _ (lt_of_heap c0)).trans c0
  have c2' : w1.heap[pb]? = _ := (b1.block _ (lt_of_heap c2)).trans c2
  have L1 : LnAt w1.drew v0.id j s x (v0.Y j s) := hl.keep (fun b hb => b1.block b (hl.lt hb)) (Keeps.bel b1.drew)
  have e0 : w1.cell? ⟨W.heap.size, 0, none⟩ = some (.pointer (some ⟨x.g, 0, none⟩)) := (cell_of g1).trans rfl
  have e1 : w1.cell? ⟨cb, 0, none⟩ = some (.pointer (some ⟨pb, 0, none⟩)) := (cell_of c0').trans rfl
  have e2 : w1.cell? ⟨pb, 2, none⟩ = some (.int .i64 v0.ck) := (cell_of c2').trans c3
  have K32 := hid (beat_raw w1.drew x.g v0.id j s (v0.Y j s).sq (v0.Y j s).st v0.ck x.v x.l L1.snd (by rw [f2_len L1.own]; have := hok.ms1 j s q; omega) (hok.sq0 j s q) (by have := hok.sq1 j s q; omega) hok.ck0 (by have := hok.ck1; omega) (hok.st1 j s q))
  obtain ⟨t1, t2, t3, t4⟩ := L1.ty
  have off : ∀ {b : Nat} {ds : Array Value} {t : TypeId}, w1.heap[b]? = some (.cells ds t (0, 0)) → t ≠ 111 → t ≠ 74 → b ≠ x.g ∧ x.v.ownBlock ≠ some b := fun {b ds t} hb h1 h2 => by
    have tb : tyAt w1.drew b = t + 1 := tyAt_cells hb
    exact ⟨fun e => h1 (by rw [e, t1] at tb; exact Nat.succ.inj tb.symm), fun e => h2 (by rw [t4 _ e] at tb; exact Nat.succ.inj tb.symm)⟩
  have HN : Hid ((W.heap.size ≠ x.g ∧ x.v.ownBlock ≠ some W.heap.size) ∧ (cb ≠ x.g ∧ x.v.ownBlock ≠ some cb) ∧ (pb ≠ x.g ∧ x.v.ownBlock ≠ some pb)) := (show _ ∧ _ from ⟨off g1 (by decide) (by decide), off c0' (by decide) (by decide), off c2' (by decide) (by decide)⟩)
  have HL := hid L1
  have B1 := hid b1
  have HLT := hid (show ∀ b, x.foot b → b < W.heap.size from fun b hb => hl.lt hb)
  have hy : Hid (beatY v0 j s = { v0.Y j s with sq := (v0.Y j s).sq + 1, st := v0.ck, ms := (v0.Y j s).ms ++ [beatM v0.id j s ((v0.Y j s).sq + 1) v0.ck] } ∧ beatT v0 j s = [beatM v0.id j s ((v0.Y j s).sq + 1) v0.ck]) := (show _ ∧ _ from ⟨rfl, rfl⟩)
  clear c0 c2 c3 c0' c2' g1 hl b1 L1 t1 t2 t3 t4 off
  go_enter Tryz.func26, Tryz.ntmps26
  go_upto_region 1 with (fail)
  rw [← hw1]
  clear hw1
  go_region_held (fun u => u.cell? ⟨W.heap.size, 0, none⟩ = some (.pointer (some ⟨x.g, 0, none⟩)) ∧ u.cell? ⟨cb, 0, none⟩ = some (.pointer (some ⟨pb, 0, none⟩)) ∧ u.cell? ⟨pb, 2, none⟩ = some (.int .i64 v0.ck)) (first | go_keep | exact ⟨u0, u1, u2⟩ | exact ⟨(hb3.cell (lt_of_cell u0)).trans u0, (hb3.cell (lt_of_cell u1)).trans u1, (hb3.cell (lt_of_cell u2)).trans u2⟩) (first | (go_at_call 28; refine K32.out.mono ?_; rintro e w2 ⟨v', r2, r3, rfl, hS2, h2, h3, hO, hv', hk⟩; have u0 : w2.cell? ⟨W.heap.size, 0, none⟩ = some (.pointer (some ⟨x.g, 0, none⟩)) := ((World.cell?_of_block (hO.block _ (lt_of_cell e0) HN.out.1.1 HN.out.1.2)).trans e0); have u1 : w2.cell? ⟨cb, 0, none⟩ = some (.pointer (some ⟨pb, 0, none⟩)) := ((World.cell?_of_block (hO.block _ (lt_of_cell e1) HN.out.2.1.1 HN.out.2.1.2)).trans e1); have u2 : w2.cell? ⟨pb, 2, none⟩ = some (.int .i64 v0.ck) := ((World.cell?_of_block (hO.block _ (lt_of_cell e2) HN.out.2.2.1 HN.out.2.2.2)).trans e2); have L2 := hid (HL.out.sent hS2 h2 hO hk); have HO := hid hO; have HV := hid hv'; have HK := hid hk; have H3 := hid h3; clear hS2 h2 h3 hO hv' hk) | (go_at_call 27; refine (sent_any _ r3).mono ?_; rintro e w3 ⟨rfl, hm3, hb3⟩))
  have lt2 : ∀ b, b < W.heap.size → b < w1.drew.heap.size := fun b hb => Nat.lt_of_lt_of_le hb B1.out.size
  have E : Hid (SrcAt w3 (.slice (some ⟨w2.heap.size + 1, 0, none⟩) 1 1) 1 9 (raws [r3]) ∧ F2 (RawOwn 0 w3) [r3] (beatT v0 j s) ∧ LnAt w3 v0.id j s { x with v := v', l := x.l ++ [r2] } (beatY v0 j s) ∧ (v'.ownBlock = x.v.ownBlock ∨ ∃ c, v'.ownBlock = some c ∧ W.heap.size ≤ c) ∧ (∀ b, b < W.heap.size → ¬ x.foot b → w3.heap[b]? = W.heap[b]?) ∧ Keeps W w3 ∧ w3.os = W.os ∧ w3.tape = W.tape ∧ w3.output = W.output ∧ W.heap.size ≤ w3.heap.size) := (show _ ∧ _ from by
    have k2 := Keeps.bel hb3
    refine ⟨src_one hm3, ?_, ?_, ?_, fun b hb hf => ?_, ((Keeps.bel B1.out.drew).trans HK.out).trans k2, hb3.os.trans (HO.out.os.trans B1.out.os), hb3.tape.trans (HO.out.tape.trans B1.out.tape), hb3.output.trans (HO.out.output.trans B1.out.output), Nat.le_trans B1.out.size (Nat.le_trans HO.out.size hb3.size)⟩
    · rw [hy.out.2]
      exact ⟨(H3.out.base (Nat.zero_le _)).kept k2, trivial⟩
    · rw [hy.out.1]
      exact L2.out.keep (fun b hb => hb3.block b (L2.out.lt hb)) k2
    · rcases HV.out with h | ⟨c, h, hc⟩
      · exact .inl h
      · exact .inr ⟨c, h, Nat.le_trans B1.out.size hc⟩
    · rw [hb3.block b (Nat.lt_of_lt_of_le (lt2 b hb) HO.out.size), HO.out.block b (lt2 b hb) (fun e => hf (.inl e)) (fun e => hf (.inr (.inl e)))]
      exact B1.out.block b hb)
  clear u0 u1 u2 e0 e1 e2 hm3 hb3 lt2
  go_wp2
  go_ret
  exact ⟨_, _, [r3], { x with v := v', l := x.l ++ [r2] }, rfl, E.out.1, E.out.2.1, E.out.2.2.1, rfl, rfl, rfl, rfl, E.out.2.2.2⟩
theorem PlG.ahead {w w1 W : World} {h0 h : PlH} {v0 v : PlV} {o : Option Nat} (hb : Below w.heap.size w w1) (g : PlG w1 h0 v0 o h v W) : PlG w h0 v0 o h v W :=
  ⟨g.here, g.mov.ahead hb, g.pb, g.lb, g.b, g.gs, g.id, g.n, g.k, fun q hq => ⟨(g.free q hq).1, Nat.le_trans hb.size (g.free q hq).2⟩, g.xn⟩
theorem PlG.recast {w0 W : World} {h0 h : PlH} {v0 v v' : PlV} {o : Option Nat} (g : PlG w0 h0 v0 o h v W) (e1 : v'.id = v.id) (e2 : v'.n = v.n) (e3 : v'.k = v.k) (e4 : v'.ck = v.ck) (e5 : v'.st = v.st) (hY : ∀ j s, v'.line j s → v'.Y j s = v.Y j s) : PlG w0 h0 v0 o h v' W := by
  obtain ⟨id, n, k, ck, Y, st⟩ := v
  obtain ⟨id', n', k', ck', Y', st'⟩ := v'
  simp only at e1 e2 e3 e4 e5 hY
  subst e1 e2 e3 e4 e5
  refine ⟨⟨g.here.idn, g.here.n6, g.here.k1, g.here.k6, g.here.box, g.here.lines, g.here.line, fun j s q => ?_, g.here.apart, g.here.mapne, g.here.store⟩, ⟨g.mov.os, g.mov.tape, g.mov.output, g.mov.size, g.mov.block, g.mov.foot, g.mov.keeps⟩, g.pb, g.lb, g.b, g.gs, g.id, g.n, g.k, g.free, g.xn⟩
  show LnAt W _ j s (h.X j s) (Y' j s)
  rw [hY j s q]
  exact g.here.each j s q
theorem GaS.done {w0 W : World} {h0 : PlH} {v0 : PlV} {tell : Nat → Nat → List MsgV} {Y' : Nat → Nat → LnV} {rs : List Raw} {o : Option Nat} (i : GaS w0 h0 v0 tell Y' v0.n 0 rs o W) : (∃ h, PlG w0 h0 v0 o h { v0 with Y := Y' } W ∧ h.p = h0.p ∧ h.mb = h0.mb ∧ h.db = h0.db ∧ h.f = h0.f ∧ h.nn = h0.nn) ∧ F2 (RawOwn 0 W) rs (allMs tell v0.id v0.k v0.n) := by
  obtain ⟨h, v, g, r1, r2, r3, r4, r5, r6, r7, r8⟩ := i.at_
  refine ⟨⟨h, g.recast g.id.symm g.n.symm g.k.symm r6.symm r7.symm (fun j s q => ?_), r1, r2, r3, r4, r5⟩, by have := i.own; simpa [rowMs] using this⟩
  show Y' j s = _
  rw [r8 j s q]
  exact (if_pos ⟨.inl q.1, q.2.1⟩).symm
end Go.Proofs.YtepnghacjggkkaaGreatDoor
