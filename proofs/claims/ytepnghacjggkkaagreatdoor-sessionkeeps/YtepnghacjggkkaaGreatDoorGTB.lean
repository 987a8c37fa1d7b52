/- PlaceWhole: two places side by side; what the law goes on; The least of times 0 and 1; what may be read then; The sender's Again, any messages; The sender's Beat; The sender's next, any message; The sender's Beat, any message kept. -/
import Derived.Test.YtepnghacjggkkaaGreatDoorGWMath2
import Derived.BigQuiet
import Derived.Deep.Cut
import Derived.Deep.Draws
import Derived.Deep.Fields
import Derived.Deep.QuietTactic
import Derived.Deep.RegionHeld
import Derived.Deep.RegionHeldLaw
import Derived.Deep.RegionLaw
import Derived.Deep.RegionWith
import Derived.Deep.Slices
import Derived.Handy
import Derived.LaidEql
import Derived.LaidHandle
import Derived.LaidLaws
import Derived.LaidSub
import Derived.Laws.AppendOwnNone
import Derived.Laws.OwnMore
import Derived.Laws.ResultCell
import Derived.Lib.SliceRun
import Derived.Maps.AppendAt
import Derived.Maps.RangeWalk
import Derived.OpenShut
import Derived.ProofKit
import Derived.RowKitTokens
import Derived.Shelf.SlicesQ.IndexFunc
import Derived.Sort.Grow
import Derived.StillTailTactics
import Derived.Stop.Asserts
import Derived.Test.YtepnghacjggkkaaGreatDoorProg
import Derived.Test.YtepnghacjggkkaaGreatDoorRows
import Derived.WalkKit
import Derived.WalkLawsBesides
import Derived.WalkSpells
import Derived.Test.YtepnghacjggkkaaGreatDoorGLM
import Derived.Test.YtepnghacjggkkaaGreatDoorGYH
import Derived.Test.YtepnghacjggkkaaGreatDoorGHS
import Derived.Test.YtepnghacjggkkaaGreatDoorGLJ
import Derived.Maps.OwnSet
import Derived.Test.YtepnghacjggkkaaGreatDoorGWPart
namespace Go.Proofs.YtepnghacjggkkaaGreatDoor
open Go.RowKit Go.Maps
set_option maxRecDepth 10000
set_option linter.unusedSectionVars false
variable [Inhabited ComV] [DecidableEq D3] [Inhabited D3] [Inhabited Dd] [Inhabited Dn] [Inhabited OpV]

theorem PlAt.other {W W' : World} {ha ha' hb : PlH} {va va' vb : PlV} (b : PlAt W hb vb) (m : PlMoves W W' ha va ha' va') (dis : ∀ q, ha.foot va q → ¬ hb.foot vb q) : PlAt W' hb vb ∧ ∀ q, ha'.foot va' q → ¬ hb.foot vb q :=
  ⟨b.keep (fun q hq => m.block q (b.lt hq) fun e => dis q e hq) m.keeps, fun q hq e => by
    rcases m.foot q hq with h | h
    · exact dis q h e
    · have := b.lt e; omega⟩
theorem low_moves {W W' : World} {h h' : PlH} {v v' : PlV} {B : Nat} (l : ∀ q, h.foot v q → B ≤ q) (m : PlMoves W W' h v h' v') (hB : B ≤ W.heap.size) : ∀ q, h'.foot v' q → B ≤ q := fun q hq => by
  rcases m.foot q hq with e | e
  · exact l q e
  · omega
theorem below_moves {w W W' : World} {h h' : PlH} {v v' : PlV} (b : Below w.heap.size w W) (l : ∀ q, h.foot v q → w.heap.size ≤ q) (m : PlMoves W W' h v h' v') : Below w.heap.size w W' :=
  ⟨m.os.trans b.os, m.tape.trans b.tape, m.output.trans b.output, Nat.le_trans b.size m.size, fun q hq => (m.block q (Nat.lt_of_lt_of_le hq b.size) fun e => by have := l q e; omega).trans (b.block q hq)⟩
end Go.Proofs.YtepnghacjggkkaaGreatDoor
namespace Go.Proofs.YtepnghacjggkkaaGreatDoor
set_option maxRecDepth 10000
set_option linter.unusedSectionVars false
variable [Inhabited ComV] [DecidableEq D3] [Inhabited D3] [Inhabited Dd] [Inhabited Dn] [Inhabited OpV]

theorem least_ge {rt : Nat → Int} {x : Int} (hx : x ≤ 1099511627776) : ∀ {k : Nat}, (∀ s, s < k → x ≤ rt s) → x ≤ leastT rt k
  | 0, _ => hx
  | k + 1, h => by
    have h1 := least_ge hx (k := k) fun s hs => h s (by omega)
    have h2 := h k (by omega)
    show x ≤ min (leastT rt k) (rt k)
    omega
theorem least_le {rt : Nat → Int} : ∀ {k s : Nat}, s < k → leastT rt k ≤ rt s
  | k + 1, s, h => by
    show min (leastT rt k) (rt k) ≤ rt s
    by_cases e : s = k
    · subst e; omega
    · have := least_le (rt := rt) (k := k) (s := s) (by omega)
      omega
theorem isOps_nil {key : ByteArray} {ds : List Dn} (h : IsOps key [] ds) : ds = [] := by
  obtain ⟨ys, ⟨h1, _⟩, rfl⟩ := h
  have : ys = [] := List.Perm.eq_nil (by simpa [onceA] using h1)
  rw [this]
  rfl
theorem isOps_two {key : ByteArray} {l : List ComV} {ds : List Dn} (h : IsOps key l ds) (h1 : OneDot l) (hne : flatA l ≠ []) (hk : ∀ d ∈ flatA l, d.o.key = key ∧ d.o.kind = 2) : ds ≠ [] ∧ (∀ d ∈ ds, d.o.kind = 2) ∧ ds.Perm (onceA l) := by
  obtain ⟨ys, ⟨hp, _⟩, rfl⟩ := h
  have e : ((onceA l).filter fun x => decide (x.o.key = key)) = onceA l := List.filter_eq_self.2 fun d hd => decide_eq_true (hk d ((mem_onceA h1 d).1 hd)).1
  rw [e] at hp
  have hy : ∀ d ∈ ys, d.o.kind = 2 := fun d hd => (hk d ((mem_onceA h1 d).1 (hp.mem_iff.1 hd))).2
  have hy0 : ys ≠ [] := fun e0 => by
    obtain ⟨d, hd⟩ := List.exists_mem_of_ne_nil _ hne
    have := hp.mem_iff.2 ((mem_onceA h1 d).2 hd)
    rw [e0] at this
    simp at this
  have e0 : ofKind ys = ys := List.filter_eq_self.2 fun d hd => by
    have h0 : 0 < ys.length := List.length_pos_iff.2 hy0
    have : ys[0]!.o.kind = 2 := by rw [getElem!_pos ys 0 h0]; exact hy _ (List.getElem_mem _)
    rw [this, hy d hd]
    decide
  rw [e0]
  exact ⟨hy0, hy, hp⟩
theorem valA_two {ds : List Dn} (h0 : ds ≠ []) (h : ∀ d ∈ ds, d.o.kind = 2) : (valA ds).kind = 2 ∧ (valA ds).n = sumN ds := by
  have hl : 0 < ds.length := List.length_pos_iff.2 h0
  have e : ds[0]!.o.kind = 2 := by rw [getElem!_pos ds 0 hl]; exact h _ (List.getElem_mem _)
  unfold valA
  rw [if_neg h0, e]
  exact ⟨rfl, rfl⟩
end Go.Proofs.YtepnghacjggkkaaGreatDoor
namespace Go.Proofs.YtepnghacjggkkaaGreatDoor
open Go.RowKit
set_option maxRecDepth 100000
set_option linter.unusedSectionVars false
variable [Inhabited ComV] [DecidableEq D3] [Inhabited D3] [Inhabited Dd] [Inhabited Dn] [Inhabited OpV]

theorem f2_snoc {α β : Type} {R : α → β → Prop} {l : List α} {m : List β} {a : α} {b : β} (h : F2 R l m) (hr : R a b) : F2 R (l ++ [a]) (m ++ [b]) := f2_append h hr
end Go.Proofs.YtepnghacjggkkaaGreatDoor
namespace Go.Proofs.YtepnghacjggkkaaGreatDoor
open Go.RowKit
set_option maxRecDepth 100000
set_option linter.unusedSectionVars false
variable [Inhabited ComV] [DecidableEq D3] [Inhabited D3] [Inhabited Dd] [Inhabited Dn] [Inhabited OpV]

theorem OnlyS.box {g : Nat} {v : Value} {w w' : World} (h : OnlyS g v w w') {k : Nat} {o : Obj} (hk : w.heap[k]? = some o) (hg : k ≠ g) (hv : v.ownBlock ≠ some k) : w'.heap[k]? = some o := by rw [h.block k (lt_of_heap hk) hg hv]; exact hk
end Go.Proofs.YtepnghacjggkkaaGreatDoor
namespace Go.Proofs.YtepnghacjggkkaaGreatDoor
open Go.RowKit
set_option maxRecDepth 100000
set_option linter.unusedSectionVars false
variable [Inhabited ComV] [DecidableEq D3] [Inhabited D3] [Inhabited Dd] [Inhabited Dn] [Inhabited OpV]

structure NxR (w : World) (g : Nat) (f t s seq time : Int) (v0 v : Value) (l : List Raw) (r : Raw) (w' : World) : Prop where
  snd : SndR w' g f t s seq time v l
  mbox : w'.heap[w.heap.size]? = some (.cells r.cells.toArray 74 (0, 0))
  rbox : w'.heap[w.heap.size + 1]? = some (.cells #[.int .i64 0, .int .i64 0, .int .i64 0, .int .i64 0, .int .i64 0, .bool false, .slice none 0 0, .int .i64 0, .slice none 0 0] 74 (0, 0))
  only : OnlyS g v0 w w'
theorem NxR.size {w w' : World} {g : Nat} {f t s seq time : Int} {v0 v : Value} {l : List Raw} {r : Raw} (h : NxR w g f t s seq time v0 v l r w') : w.heap.size + 2 ≤ w'.heap.size := lt_of_heap h.rbox
theorem NxR.moved {w w1 w2 : World} {g : Nat} {f t s seq time : Int} {v0 v : Value} {l : List Raw} {r : Raw} (h : NxR w g f t s seq time v0 v l r w1) (hb : Below w1.heap.size w1 w2) : NxR w g f t s seq time v0 v l r w2 := by
  have hs := h.size
  exact ⟨h.snd.moved hb, by rw [hb.block _ (by omega)]; exact h.mbox, by rw [hb.block _ (by omega)]; exact h.rbox, h.only.then hb⟩
theorem NxR.start {w : World} {g : Nat} {f t s seq time x5 p : Int} {x6 : Bool} {a1 a2 : Option Addr} {n1 c1 n2 c2 : Nat} {v : Value} {l : List Raw} (h : SndR w g f t s seq time v l) :
    NxR w g f t s (seq + 1) x5 v v l ⟨f, t, s, seq + 1, x5, x6, a1, n1, c1, p, a2, n2, c2⟩ ((((w.setCell ⟨g, 3, none⟩ (.int .i64 (seq + 1))).setCell ⟨g, 4, none⟩ (.int .i64 x5)).alloc (.cells #[.int .i64 f, .int .i64 t, .int .i64 s, .int .i64 (seq + 1), .int .i64 x5, .bool x6, .slice a1 n1 c1, .int .i64 p, .slice a2 n2 c2] 74)).alloc (.cells #[.int .i64 0, .int .i64 0, .int .i64 0, .int .i64 0, .int .i64 0, .bool false, .slice none 0 0, .int .i64 0, .slice none 0 0] 74)).drew ∧ Keeps w ((((w.setCell ⟨g, 3, none⟩ (.int .i64 (seq + 1))).setCell ⟨g, 4, none⟩ (.int .i64 x5)).alloc (.cells #[.int .i64 f, .int .i64 t, .int .i64 s, .int .i64 (seq + 1), .int .i64 x5, .bool x6, .slice a1 n1 c1, .int .i64 p, .slice a2 n2 c2] 74)).alloc (.cells #[.int .i64 0, .int .i64 0, .int .i64 0, .int .i64 0, .int .i64 0, .bool false, .slice none 0 0, .int .i64 0, .slice none 0 0] 74)).drew := by
  have hg := lt_of_heap h.box
  have e0 : ((w.setCell ⟨g, 3, none⟩ (.int .i64 (seq + 1))).setCell ⟨g, 4, none⟩ (.int .i64 x5)).heap[g]? = some (.cells #[.int .i64 f, .int .i64 t, .int .i64 s, .int .i64 (seq + 1), .int .i64 x5, v] 111 (0, 0)) := by
    rw [heap_set (heap_set h.box _)]; rfl
  have hsz : ((w.setCell ⟨g, 3, none⟩ (.int .i64 (seq + 1))).setCell ⟨g, 4, none⟩ (.int .i64 x5)).heap.size = w.heap.size := by rw [size_set, size_set]
  have keep : ∀ k, k < w.heap.size → k ≠ g → ((((w.setCell ⟨g, 3, none⟩ (.int .i64 (seq + 1))).setCell ⟨g, 4, none⟩ (.int .i64 x5)).alloc (.cells #[.int .i64 f, .int .i64 t, .int .i64 s, .int .i64 (seq + 1), .int .i64 x5, .bool x6, .slice a1 n1 c1, .int .i64 p, .slice a2 n2 c2] 74)).alloc (.cells #[.int .i64 0, .int .i64 0, .int .i64 0, .int .i64 0, .int .i64 0, .bool false, .slice none 0 0, .int .i64 0, .slice none 0 0] 74)).drew.heap[k]? = w.heap[k]? := fun k hk hkg => by
    rw [drew_heap, Below.heap_alloc _ _ _ (by rw [World.size_alloc, hsz]; omega), Below.heap_alloc _ _ _ (by rw [hsz]; omega), Below.heap_setCell _ _ _ _ hkg, Below.heap_setCell _ _ _ _ hkg]
  refine ⟨⟨⟨?_, owns_at h.row fun k h1 h2 => keep k h2 (by omega)⟩, ?_, ?_, ⟨rfl, rfl, rfl, ?_, fun k hk hkg _ => keep k hk hkg⟩⟩, fun tt htt b cs hc => keep b (lt_of_heap hc) fun e => ?_⟩
  · rw [drew_heap]
    exact heap_old (heap_old e0 _) _
  · rw [drew_heap]
    have := heap_new ((w.setCell ⟨g, 3, none⟩ (.int .i64 (seq + 1))).setCell ⟨g, 4, none⟩ (.int .i64 x5)) (.cells #[.int .i64 f, .int .i64 t, .int .i64 s, .int .i64 (seq + 1), .int .i64 x5, .bool x6, .slice a1 n1 c1, .int .i64 p, .slice a2 n2 c2] 74)
    rw [hsz] at this
    exact heap_old this _
  · rw [drew_heap]
    have := heap_new2 ((w.setCell ⟨g, 3, none⟩ (.int .i64 (seq + 1))).setCell ⟨g, 4, none⟩ (.int .i64 x5)) (.cells #[.int .i64 f, .int .i64 t, .int .i64 s, .int .i64 (seq + 1), .int .i64 x5, .bool x6, .slice a1 n1 c1, .int .i64 p, .slice a2 n2 c2] 74) (.cells #[.int .i64 0, .int .i64 0, .int .i64 0, .int .i64 0, .int .i64 0, .bool false, .slice none 0 0, .int .i64 0, .slice none 0 0] 74)
    rwa [hsz] at this
  · rw [drew_heap, World.size_alloc, World.size_alloc, hsz]; omega
  · subst e
    rw [h.box] at hc
    injection hc with hc
    injection hc with _ hc
    rcases htt with e | e | e <;> (rw [e] at hc; exact absurd hc (by decide))
theorem NxR.more {w w1 w2 : World} {g : Nat} {f t s seq time : Int} {v v' : Value} {l : List Raw} {r q : Raw} (h : NxR w g f t s seq time v v l r w1) (hg : g < w.heap.size) {o' : Obj} (hn : w2.ownsRow (g + 1) 74 9 v' (l.length + 1) (raws l ++ q.cells)) (hgr : (w1.alloc o').grownBy w2 v.ownBlock) (hv : ∀ b, v.ownBlock = some b → b < w.heap.size) (hat : v'.ownBlock = v.ownBlock ∨ v'.ownBlock = some (w1.alloc o').heap.size) :
    (w2.cell? ⟨g, 5, none⟩ = some v ∧ w2.frozen? ⟨g, 5, none⟩ = false) ∧ NxR w g f t s seq time v v' (l ++ [q]) r (w2.setCell ⟨g, 5, none⟩ v') ∧ (v'.ownBlock = v.ownBlock ∨ ∃ b, v'.ownBlock = some b ∧ w.heap.size + 2 ≤ b) ∧ Keeps w1 (w2.setCell ⟨g, 5, none⟩ v') := by
  have hs := h.size
  have keep : ∀ k, k < w1.heap.size → v.ownBlock ≠ some k → w2.heap[k]? = w1.heap[k]? := fun k hk hkv => by
    rw [hgr.block k (by simp; omega) hkv.symm, Below.heap_alloc _ _ _ hk]
  have hgv : v.ownBlock ≠ some g := fun e => by have := (h.snd.row.lt g e).1; omega
  have e0 := (keep g (by omega) hgv).trans h.snd.box
  have hm : v.ownBlock ≠ some w.heap.size := fun e => by have := hv _ e; omega
  have hr : v.ownBlock ≠ some (w.heap.size + 1) := fun e => by have := hv _ e; omega
  refine ⟨⟨(cell_of e0).trans rfl, free_of e0⟩, ⟨⟨by rw [heap_set e0]; rfl, ?_⟩, ?_, ?_, ?_⟩, ?_, ?_⟩
  · rw [raws_snoc, List.length_append]
    exact owns_at hn fun k h1 _ => Below.heap_setCell _ _ _ _ (by show k ≠ g; omega)
  · rw [Below.heap_setCell _ _ _ _ (by show w.heap.size ≠ g; omega), keep _ (by omega) hm]; exact h.mbox
  · rw [Below.heap_setCell _ _ _ _ (by show w.heap.size + 1 ≠ g; omega), keep _ (by omega) hr]; exact h.rbox
  · exact ⟨hgr.os.trans h.only.os, hgr.tape.trans h.only.tape, hgr.output.trans h.only.output, by have := hgr.size; have := h.only.size; rw [size_set]; simp at *; omega, fun k hk hkg hkv => by
      rw [Below.heap_setCell _ _ _ _ hkg, keep k (by omega) hkv]; exact h.only.block k hk hkg hkv⟩
  · rcases hat with h | h
    · exact .inl h
    · exact .inr ⟨_, h, by simp; omega⟩
  · intro tt htt b cs hc
    rw [Below.heap_setCell _ _ _ _ fun e => ?_]
    · exact grown_ne h.snd.row hgr b cs tt (by rcases htt with e | e | e <;> (rw [e]; decide)) hc
    · have e' : b = g := e
      rw [e', h.snd.box] at hc
      injection hc with hc
      injection hc with _ hc
      rcases htt with e | e | e <;> (rw [e] at hc; exact absurd hc (by decide))
def NtRet (w : World) (g : Nat) (f t s seq time : Int) (v : Value) (l : List Raw) (m : MsgV) (e : Ending) (w' : World) : Prop := ∃ (v' : Value) (r2 r3 : Raw), e = .returned (.agg r3.cells.toArray) ∧ SndR w' g f t s seq time v' (l ++ [r2]) ∧ RawOwn w.heap.size w' r2 m ∧ RawOwn w.heap.size w' r3 m ∧ OnlyS g v w w' ∧ (v'.ownBlock = v.ownBlock ∨ ∃ b, v'.ownBlock = some b ∧ w.heap.size ≤ b) ∧ Keeps w w'
set_option maxHeartbeats 4000000 in
theorem next_raw (w : World) (g : Nat) (f t s seq time x1 x2 x3 x4 x5 p : Int) (x6 : Bool) (a1 a2 : Option Addr) (n1 c1 n2 c2 : Nat) (v : Value) (l : List Raw) (m : MsgV) (h : SndR w g f t s seq time v l) (hl : l.length ≤ 1000) (h0 : 0 ≤ seq) (h1 : seq ≤ 1000) (hr : RawOwn 0 w ⟨f, t, s, seq + 1, x5, x6, a1, n1, c1, p, a2, n2, c2⟩ m) (hL : Light m.c) :
    Calls Tryz.prog 46 #[.pointer (some ⟨g, 0, none⟩), .agg #[.int .i64 x1, .int .i64 x2, .int .i64 x3, .int .i64 x4, .int .i64 x5, .bool x6, .slice a1 n1 c1, .int .i64 p, .slice a2 n2 c2]] w (NtRet w g f t s (seq + 1) x5 v l m) := by
  obtain ⟨i37, hi, hz0, hz1, hz2⟩ := info_parts Tryz.info74
  have hg := lt_of_heap h.box
  have H := hid h
  have HRO := hid hr
  have HL := hid hL
  have HV : Hid (∀ b, v.ownBlock = some b → b < w.heap.size) := fun b hb => (h.row.lt b hb).2
  obtain ⟨av, cv, rfl⟩ := row_shape h.row
  have c0 := (cell_of (j := 0) h.box).trans rfl
  have c1' := (cell_of (j := 1) h.box).trans rfl
  have c2' := (cell_of (j := 2) h.box).trans rfl
  have c3 := (cell_of (j := 3) h.box).trans rfl
  have c4 := (cell_of (j := 4) h.box).trans rfl
  have c5 := (cell_of (j := 5) h.box).trans rfl
  have fz := fun j => free_of (j := j) h.box
  clear h hr hL
  go_enter Tryz.func46, Tryz.ntmps46
  go_upto_region 3 with (fail)
  go_region
  obtain ⟨w3, hw3⟩ : ∃ w3, w3 = ((((w.setCell ⟨g, 3, none⟩ (.int .i64 (seq + 1))).setCell ⟨g, 4, none⟩ (.int .i64 x5)).alloc (.cells #[.int .i64 f, .int .i64 t, .int .i64 s, .int .i64 (seq + 1), .int .i64 x5, .bool x6, .slice a1 n1 c1, .int .i64 p, .slice a2 n2 c2] 74)).alloc (.cells #[.int .i64 0, .int .i64 0, .int .i64 0, .int .i64 0, .int .i64 0, .bool false, .slice none 0 0, .int .i64 0, .slice none 0 0] 74)).drew := ⟨_, rfl⟩
  rw [← hw3]
  have hst := NxR.start (x5 := x5) (p := p) (x6 := x6) (a1 := a1) (a2 := a2) (n1 := n1) (c1 := c1) (n2 := n2) (c2 := c2) H.out
  rw [← hw3] at hst
  have N3 := hid hst.1
  have KP3 := hid hst.2
  clear hw3 hst c0 c1' c2' c3 c4 c5 fz
  have p5 : w3.cell? ⟨g, 5, none⟩ = some (.slice av l.length cv) := (cell_of N3.out.snd.box).trans rfl
  have m0 : w3.cell? ⟨w.heap.size, 0, none⟩ = some (.int .i64 f) := (cell_of N3.out.mbox).trans rfl
  have m1 : w3.cell? ⟨w.heap.size, 1, none⟩ = some (.int .i64 t) := (cell_of N3.out.mbox).trans rfl
  have m2 : w3.cell? ⟨w.heap.size, 2, none⟩ = some (.int .i64 s) := (cell_of N3.out.mbox).trans rfl
  have m3 : w3.cell? ⟨w.heap.size, 3, none⟩ = some (.int .i64 (seq + 1)) := (cell_of N3.out.mbox).trans rfl
  have m4 : w3.cell? ⟨w.heap.size, 4, none⟩ = some (.int .i64 x5) := (cell_of N3.out.mbox).trans rfl
  have m5 : w3.cell? ⟨w.heap.size, 5, none⟩ = some (.bool x6) := (cell_of N3.out.mbox).trans rfl
  have m6 : w3.cell? ⟨w.heap.size, 6, none⟩ = some (.slice a1 n1 c1) := (cell_of N3.out.mbox).trans rfl
  have m7 : w3.cell? ⟨w.heap.size, 7, none⟩ = some (.int .i64 p) := (cell_of N3.out.mbox).trans rfl
  have m8 : w3.cell? ⟨w.heap.size, 8, none⟩ = some (.slice a2 n2 c2) := (cell_of N3.out.mbox).trans rfl
  have R3 := hid (HRO.out.kept KP3.out)
  have KC : Hid (Calls Tryz.prog 65 #[.agg #[.int .i64 f, .int .i64 t, .int .i64 s, .int .i64 (seq + 1), .int .i64 x5, .bool x6, .slice a1 n1 c1, .int .i64 p, .slice a2 n2 c2]] w3.drew (CpRet m w3.drew)) := copy_raw w3.drew ⟨f, t, s, seq + 1, x5, x6, a1, n1, c1, p, a2, n2, c2⟩ m (R3.out.at_.mono (Below.refl _ _).drew (Nat.le_refl _)) HL.out
  have hk2 : l.length + 1 ≤ maxLen := by unfold maxLen; omega
  have hk3 : (l.length + 1) * 104 ≤ 140737488355328 := by omega
  have hsz3 := N3.out.size
  go_upto_region 4 with (fail)
  go_region_law (first
    | (refine step_append_at rfl _ _ 34 rfl (g + 1) 74 i37 _ 9 104 Tryz.underlying34 hi hz0 hz1 hz2 rfl (by decide) (.slice av l.length cv) l.length (raws l) rfl (N8.out.snd.row.alloc _) _ 1 1 [.int .i64 y1, .int .i64 y2, .int .i64 y3, .int .i64 y4, .int .i64 y5, .bool y6, .slice b1 k1 d1, .int .i64 pp, .slice b2 k2 d2] rfl rfl (cells3_new _ _ _) (oneR ⟨y1, y2, y3, y4, y5, y6, b1, k1, d1, pp, b2, k2, d2⟩) hk2 hk3 (hb8 _) ?_; intro v' w9 hrow hgr hat; obtain ⟨a9, cc9, hv9⟩ := row_shape hrow; subst hv9; obtain ⟨⟨c9, z9⟩, h9, hor, hkp9⟩ := N8.out.more (q := ⟨y1, y2, y3, y4, y5, y6, b1, k1, d1, pp, b2, k2, d2⟩) hg hrow hgr HV.out hat; have N9 := hid h9; have HOR := hid hor; have KP9 := hid hkp9; clear hrow hgr h9 hor hat hkp9)
    | (go_simp; refine KC.out.mono ?_; rintro e w8 ⟨⟨y1, y2, y3, y4, y5, y6, b1, k1, d1, pp, b2, k2, d2⟩, rfl, how8, hb8'⟩; have N8 := hid (N3.out.moved (below_undrew hb8')); have OW8 := hid how8; have BW8 := hid (below_undrew hb8'); have q8 : w8.cell? ⟨g, 5, none⟩ = some (.slice av l.length cv) := (cell_of N8.out.snd.box).trans rfl; have q8a := (fun o => cell_alloc q8 o); have hb8 : ∀ o, g + 1 ≤ (w8.alloc o).heap.size := (fun o => by have := lt_of_heap N8.out.snd.box; simp; omega); clear hb8' how8; unfold Raw.cells; simp only))
  all_goals
    obtain ⟨wX, hX⟩ : ∃ wX, wX = w9.setCell ⟨g, 5, none⟩ (.slice a9 (l.length + 1) cc9) := ⟨_, rfl⟩
    rw [← hX] at N9 KP9 ⊢
    clear hX KC m0 m1 m2 m3 m4 m5 m6 m7 m8 p5 q8 q8a c9 z9
    have OWX := hid (OW8.out.kept KP9.out)
    have RX := hid ((R3.out.kept (Keeps.bel BW8.out)).kept KP9.out)
    have m0 : wX.cell? ⟨w.heap.size, 0, none⟩ = some (.int .i64 f) := (cell_of N9.out.mbox).trans rfl
    have m1 : wX.cell? ⟨w.heap.size, 1, none⟩ = some (.int .i64 t) := (cell_of N9.out.mbox).trans rfl
    have m2 : wX.cell? ⟨w.heap.size, 2, none⟩ = some (.int .i64 s) := (cell_of N9.out.mbox).trans rfl
    have m3 : wX.cell? ⟨w.heap.size, 3, none⟩ = some (.int .i64 (seq + 1)) := (cell_of N9.out.mbox).trans rfl
    have m4 : wX.cell? ⟨w.heap.size, 4, none⟩ = some (.int .i64 x5) := (cell_of N9.out.mbox).trans rfl
    have m5 : wX.cell? ⟨w.heap.size, 5, none⟩ = some (.bool x6) := (cell_of N9.out.mbox).trans rfl
    have m6 : wX.cell? ⟨w.heap.size, 6, none⟩ = some (.slice a1 n1 c1) := (cell_of N9.out.mbox).trans rfl
    have m7 : wX.cell? ⟨w.heap.size, 7, none⟩ = some (.int .i64 p) := (cell_of N9.out.mbox).trans rfl
    have m8 : wX.cell? ⟨w.heap.size, 8, none⟩ = some (.slice a2 n2 c2) := (cell_of N9.out.mbox).trans rfl
    have KD : Hid (Calls Tryz.prog 65 #[.agg #[.int .i64 f, .int .i64 t, .int .i64 s, .int .i64 (seq + 1), .int .i64 x5, .bool x6, .slice a1 n1 c1, .int .i64 p, .slice a2 n2 c2]] wX (CpRet m wX)) := copy_raw wX ⟨f, t, s, seq + 1, x5, x6, a1, n1, c1, p, a2, n2, c2⟩ m RX.out.at_ HL.out
    have hsX := N9.out.size
    go_wp2_with fail
    refine KD.out.mono ?_
    rintro e w11 ⟨⟨q1, q2, q3, q4, q5, q6, e1, j1, f1, qq, e2, j2, f2⟩, rfl, how11, hb11⟩
    have N11 := hid (N9.out.moved hb11)
    have OW11 := hid how11
    have OX11 := hid (OWX.out.kept (Keeps.bel hb11))
    have K11 : Hid (Keeps w w11) := (KP3.out.trans ((Keeps.bel BW8.out).trans KP9.out)).trans (Keeps.bel hb11)
    obtain ⟨wz, STORE, HZ⟩ := store_row N11.out.rbox [.int .i64 q1, .int .i64 q2, .int .i64 q3, .int .i64 q4, .int .i64 q5, .bool q6, .slice e1 j1 f1, .int .i64 qq, .slice e2 j2 f2] rfl rfl 74 9 rfl Tryz.sizeOf74
    clear hb11 how11
    unfold Raw.cells
    simp only
    go_wp2_with (refine STORE _ _ _ _ _ (.tmp 4) (.tmp 52) rfl rfl rfl rfl ?_)
    have hso : ∀ k, k ≠ w.heap.size + 1 → wz.heap[k]? = w11.heap[k]? := fun k hk => by rw [HZ.out.2]; exact setCells_other _ _ _ _ _ hk
    have kz : Keeps w11 wz := fun tt htt b cs hc => hso b fun e => by
      rw [e, N11.out.rbox] at hc
      injection hc with hc
      injection hc with _ hc
      rcases htt with e | e | e <;> (rw [e] at hc; exact absurd hc (by decide))
    refine bodyPost_ret (ret_cell (k := 9) Tryz.results46 Tryz.isAgg74 Tryz.sizeOf74 _ _ (w.heap.size + 1) [.int .i64 q1, .int .i64 q2, .int .i64 q3, .int .i64 q4, .int .i64 q5, .bool q6, .slice e1 j1 f1, .int .i64 qq, .slice e2 j2 f2] rfl rfl HZ.out.1) rfl ⟨.slice a9 (l.length + 1) cc9, ⟨y1, y2, y3, y4, y5, y6, b1, k1, d1, pp, b2, k2, d2⟩, ⟨q1, q2, q3, q4, q5, q6, e1, j1, f1, qq, e2, j2, f2⟩, rfl, ⟨?_, ?_⟩, ?_, ?_, ⟨?_, ?_, ?_, ?_, ?_⟩, ?_, K11.out.trans kz⟩
    · rw [hso g (by omega)]; exact N11.out.snd.box
    · refine owns_own N11.out.snd.row fun b hb => hso b fun e => ?_
      rcases HOR.out with h | ⟨b', h, hb'⟩
      · have := HV.out b (by rw [← h]; exact hb); omega
      · have h2 := hb.symm.trans h
        have h3 := Option.some.inj h2
        omega
    · exact (OX11.out.kept kz).base (by show w.heap.size ≤ w3.heap.size; omega)
    · exact (OW11.out.kept kz).base (by omega)
    · have := below_setCells (B := 0) (b := w.heap.size + 1) (a := w11) (Nat.zero_le _) [.int .i64 q1, .int .i64 q2, .int .i64 q3, .int .i64 q4, .int .i64 q5, .bool q6, .slice e1 j1 f1, .int .i64 qq, .slice e2 j2 f2] 0 (Below.refl _ _)
      rw [HZ.out.2]; exact this.os.trans N11.out.only.os
    · have := below_setCells (B := 0) (b := w.heap.size + 1) (a := w11) (Nat.zero_le _) [.int .i64 q1, .int .i64 q2, .int .i64 q3, .int .i64 q4, .int .i64 q5, .bool q6, .slice e1 j1 f1, .int .i64 qq, .slice e2 j2 f2] 0 (Below.refl _ _)
      rw [HZ.out.2]; exact this.tape.trans N11.out.only.tape
    · have := below_setCells (B := 0) (b := w.heap.size + 1) (a := w11) (Nat.zero_le _) [.int .i64 q1, .int .i64 q2, .int .i64 q3, .int .i64 q4, .int .i64 q5, .bool q6, .slice e1 j1 f1, .int .i64 qq, .slice e2 j2 f2] 0 (Below.refl _ _)
      rw [HZ.out.2]; exact this.output.trans N11.out.only.output
    · rw [HZ.out.2, setCells_size]; exact N11.out.only.size
    · exact fun k hk hkg hkv => by rw [hso k (by omega)]; exact N11.out.only.block k hk hkg hkv
    · rcases HOR.out with h | ⟨b', h, hb'⟩
      · exact .inl h
      · exact .inr ⟨b', h, by omega⟩
end Go.Proofs.YtepnghacjggkkaaGreatDoor
namespace Go.Proofs.YtepnghacjggkkaaGreatDoor
open Go.RowKit
set_option maxRecDepth 100000
set_option linter.unusedSectionVars false
variable [Inhabited ComV] [DecidableEq D3] [Inhabited D3] [Inhabited Dd] [Inhabited Dn] [Inhabited OpV]

def BtRet (w : World) (g : Nat) (f t s seq time : Int) (v : Value) (l : List Raw) (m : MsgV) (e : Ending) (w' : World) : Prop := ∃ (v' : Value) (r2 r3 : Raw), e = .returned (.tuple #[.agg r3.cells.toArray, .nilIface]) ∧ SndR w' g f t s seq time v' (l ++ [r2]) ∧ RawOwn w.heap.size w' r2 m ∧ RawOwn w.heap.size w' r3 m ∧ OnlyS g v w w' ∧ (v'.ownBlock = v.ownBlock ∨ ∃ b, v'.ownBlock = some b ∧ w.heap.size ≤ b) ∧ Keeps w w'
theorem comOwn_nil (base : Nat) (w : World) (p : Int) : ComOwn base w (.slice none 0 0) (.slice none 0 0) ⟨[], p, []⟩ := ⟨World.ownsRow_nil _ _ _ _, [], World.ownsRow_nil _ _ _ _, trivial⟩
theorem light_nil (p : Int) : Light ⟨[], p, []⟩ := ⟨by simp, by simp, fun o ho => by simp at ho⟩
def beatM (f t s seq time : Int) : MsgV := ⟨f, t, s, seq, time, true, ⟨[], 0, []⟩⟩
set_option maxHeartbeats 4000000 in
theorem beat_raw (w : World) (g : Nat) (f t s seq time nt : Int) (v : Value) (l : List Raw) (h : SndR w g f t s seq time v l) (hl : l.length ≤ 1000) (h0 : 0 ≤ seq) (h1 : seq ≤ 1000) (ht0 : 0 ≤ nt) (ht1 : nt ≤ 1099511627776) (ht2 : time ≤ nt) :
    Calls Tryz.prog 28 #[.pointer (some ⟨g, 0, none⟩), .int .i64 nt] w (BtRet w g f t s (seq + 1) nt v l (beatM f t s (seq + 1) nt)) := by
  obtain ⟨w0, hw0⟩ : ∃ w0, w0 = w.alloc (.cells #[.int .i64 0, .int .i64 0, .int .i64 0, .int .i64 0, .int .i64 0, .bool false, .slice none 0 0, .int .i64 0, .slice none 0 0] 74) := ⟨_, rfl⟩
  have hb0 : Below w.heap.size w w0 := by rw [hw0]; exact below_alloc _ _
  have G0 : Hid (w0.heap[w.heap.size]? = some (.cells #[.int .i64 0, .int .i64 0, .int .i64 0, .int .i64 0, .int .i64 0, .bool false, .slice none 0 0, .int .i64 0, .slice none 0 0] 74 (0, 0))) := by show w0.heap[w.heap.size]? = _; rw [hw0]; exact heap_new _ _
  have H0 := hid (h.moved hb0)
  have hg := lt_of_heap h.box
  have HV : Hid (∀ b, v.ownBlock = some b → b < w.heap.size) := fun b hb => (h.row.lt b hb).2
  have B0 := hid hb0
  have c4 : w0.cell? ⟨g, 4, none⟩ = some (.int .i64 time) := (cell_of H0.out.box).trans rfl
  have K33 := hid (fun W => isTime_yes nt W ht0 ht1)
  have K34 := hid (next_raw w0 g f t s seq time 0 0 0 0 nt 0 true none none 0 0 0 0 v l (beatM f t s (seq + 1) nt) H0.out hl h0 h1 ⟨⟨rfl, rfl, rfl, rfl, rfl, rfl, rfl⟩, comOwn_nil _ _ _⟩ (light_nil _))
  have hnt : ¬ nt < time := by omega
  clear h hb0
  go_enter Tryz.func28, Tryz.ntmps28
  go_wp2_with fail
  rw [← hw0]
  clear hw0
  refine (K33.out _).mono ?_
  rintro e w1 ⟨rfl, hww⟩
  rw [hww]
  clear hww
  go_wp2_with fail
  refine K34.out.mono ?_
  rintro e w2 ⟨v', r2, ⟨q1, q2, q3, q4, q5, q6, e1, j1, f1, qq, e2, j2, f2⟩, rfl, hs2, hr2, hr3, ho2, hv2, hkp2⟩
  have hG2 : w2.heap[w.heap.size]? = some (.cells #[.int .i64 0, .int .i64 0, .int .i64 0, .int .i64 0, .int .i64 0, .bool false, .slice none 0 0, .int .i64 0, .slice none 0 0] 74 (0, 0)) := ho2.box G0.out (by omega) fun e => by have := HV.out _ e; omega
  obtain ⟨wz, STORE, HZ⟩ := store_row hG2 [.int .i64 q1, .int .i64 q2, .int .i64 q3, .int .i64 q4, .int .i64 q5, .bool q6, .slice e1 j1 f1, .int .i64 qq, .slice e2 j2 f2] rfl rfl 74 9 rfl Tryz.sizeOf74
  have S2 := hid hs2
  have O2 := hid ho2
  have V2 := hid hv2
  have R2 := hid hr2
  have R3 := hid hr3
  have KP2 := hid hkp2
  have HG2 := hid hG2
  clear hs2 ho2 hv2 hG2 hr2 hr3 hkp2
  unfold Raw.cells
  simp only
  go_wp2_with (refine STORE _ _ _ _ _ (.tmp 4) (.tmp 29) rfl rfl rfl rfl ?_)
  have hso : ∀ k, k ≠ w.heap.size → wz.heap[k]? = w2.heap[k]? := fun k hk => by rw [HZ.out.2]; exact setCells_other _ _ _ _ _ hk
  have hbz := below_setCells (B := 0) (b := w.heap.size) (a := w2) (Nat.zero_le _) [.int .i64 q1, .int .i64 q2, .int .i64 q3, .int .i64 q4, .int .i64 q5, .bool q6, .slice e1 j1 f1, .int .i64 qq, .slice e2 j2 f2] 0 (Below.refl _ _)
  have hs0 : w0.heap.size ≤ w2.heap.size := O2.out.size
  have hsw := B0.out.size
  have kz : Keeps w2 wz := fun tt htt b cs hc => hso b fun e => by
    rw [e, HG2.out] at hc
    injection hc with hc
    injection hc with _ hc
    rcases htt with e | e | e <;> (rw [e] at hc; exact absurd hc (by decide))
  refine bodyPost_ret (ret_cell_tmp (k := 9) Tryz.results28 Tryz.isAgg74 Tryz.sizeOf74 _ _ (w.heap.size) [.int .i64 q1, .int .i64 q2, .int .i64 q3, .int .i64 q4, .int .i64 q5, .bool q6, .slice e1 j1 f1, .int .i64 qq, .slice e2 j2 f2] _ rfl rfl rfl HZ.out.1) rfl ⟨v', r2, ⟨q1, q2, q3, q4, q5, q6, e1, j1, f1, qq, e2, j2, f2⟩, rfl, ⟨?_, ?_⟩, (R2.out.kept kz).base hsw, (R3.out.kept kz).base hsw, ⟨?_, ?_, ?_, ?_, ?_⟩, ?_, ?_⟩
  · rw [hso g (by omega)]; exact S2.out.box
  · refine owns_own S2.out.row fun b hb => hso b fun e => ?_
    have hl0 := lt_of_heap G0.out
    rcases V2.out with h | ⟨b', h, hb'⟩
    · have := HV.out b (by rw [← h]; exact hb); omega
    · have h3 := Option.some.inj (hb.symm.trans h)
      omega
  · rw [HZ.out.2]; exact hbz.os.trans (O2.out.os.trans B0.out.os)
  · rw [HZ.out.2]; exact hbz.tape.trans (O2.out.tape.trans B0.out.tape)
  · rw [HZ.out.2]; exact hbz.output.trans (O2.out.output.trans B0.out.output)
  · rw [HZ.out.2, setCells_size]; omega
  · exact fun k hk hkg hkv => by rw [hso k (by omega), O2.out.block k (by omega) hkg hkv]; exact B0.out.block k hk
  · rcases V2.out with h | ⟨b', h, hb'⟩
    · exact .inl h
    · exact .inr ⟨b', h, by omega⟩
  · exact ((Keeps.bel B0.out).trans KP2.out).trans kz
end Go.Proofs.YtepnghacjggkkaaGreatDoor
