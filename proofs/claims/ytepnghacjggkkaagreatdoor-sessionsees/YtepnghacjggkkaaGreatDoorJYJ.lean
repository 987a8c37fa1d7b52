/- A session as it lies in memory: is one open, a new one; A session begins a transaction; The ops of a transaction on a key; A session writes its first op; A session commits one more at the place where it is. -/
import Derived.Test.YtepnghacjggkkaaGreatDoorJSNext
import Derived.Test.YtepnghacjggkkaaGreatDoorJWSmall
import Derived.Test.YtepnghacjggkkaaGreatDoorJHE
import Derived.Test.YtepnghacjggkkaaGreatDoorJCA
import Derived.Test.YtepnghacjggkkaaGreatDoorJMC
import Derived.Deep.RegionHeld
import Derived.Deep.RegionHeldLaw
import Derived.Test.YtepnghacjggkkaaGreatDoorJRE
import Derived.Test.YtepnghacjggkkaaGreatDoorJLU
import Derived.Deep.DeepCutAuto
import Derived.Deep.CutBlock
namespace Go.Proofs.YtepnghacjggkkaaGreatDoor
open Go.RowKit Go.Maps
set_option maxRecDepth 100000
set_option linter.unusedSectionVars false
variable [Inhabited ComV] [DecidableEq D3] [Inhabited D3] [Inhabited Dd] [Inhabited Dn] [Inhabited OpV]

abbrev SesBox (w : World) (sb : Nat) (tv : Value) (tp : Option Addr) : Prop := w.heap[sb]? = some (.cells #[tv, .pointer tp] 60 (0, 0))
abbrev TraBox (w : World) (xb pb : Nat) (av ov : Value) : Prop := w.heap[xb]? = some (.cells #[.pointer (some ⟨pb, 0, none⟩), av, ov] 90 (0, 0))
set_option maxHeartbeats 2000000 in
theorem open_yes (w : World) (sb : Nat) (tv : Value) (x : Addr) (h : SesBox w sb tv (some x)) : Calls Tryz.prog 20 #[.pointer (some ⟨sb, 0, none⟩)] w fun e w' => e = .returned (.bool true) ∧ w' = w := by
  have t1 : w.cell? ⟨sb, 1, none⟩ = some (.pointer (some x)) := (cell_of h).trans rfl
  clear h
  go_enter Tryz.func20, Tryz.ntmps20
  go_wp2
  go_ret
  exact ⟨rfl, rfl⟩
set_option maxHeartbeats 2000000 in
theorem open_no (w : World) (sb : Nat) (tv : Value) (h : SesBox w sb tv none) : Calls Tryz.prog 20 #[.pointer (some ⟨sb, 0, none⟩)] w fun e w' => e = .returned (.bool false) ∧ w' = w := by
  have t1 : w.cell? ⟨sb, 1, none⟩ = some (.pointer none) := (cell_of h).trans rfl
  clear h
  go_enter Tryz.func20, Tryz.ntmps20
  go_wp2
  go_ret
  exact ⟨rfl, rfl⟩
theorem mk22 (W : World) (n : Nat) (h1 : 1 ≤ n) (h6 : n ≤ 6) : (Instr.makeSlice 22 (.int .i64 n) (.int .i64 n)).run Tryz.prog W = .ok (.slice (some ⟨W.heap.size, 0, none⟩) n n) (W.alloc (.cells (Array.replicate n (.int .i64 0)) 3)) := by
  rcases (by omega : n = 1 ∨ n = 2 ∨ n = 3 ∨ n = 4 ∨ n = 5 ∨ n = 6) with rfl | rfl | rfl | rfl | rfl | rfl <;> kernel_rfl
set_option maxHeartbeats 2000000 in
theorem sesNew_ok (w : World) (n : Nat) (h1 : 1 ≤ n) (h6 : n ≤ 6) : Calls Tryz.prog 6 #[.int .i64 n] w fun e w' => ∃ (sb : Nat) (tb : Nat), e = .returned (.tuple #[.pointer (some ⟨sb, 0, none⟩), .nilIface]) ∧ w.heap.size ≤ sb ∧ w.heap.size ≤ tb ∧ SesBox w' sb (.slice (some ⟨tb, 0, none⟩) n n) none ∧ w'.heap[tb]? = some (.cells (Array.replicate n (.int .i64 0)) 3 (0, 0)) ∧ Below w.heap.size w w' := by
  have hmk := fun W => mk22 W n h1 h6
  have i1 : (1 : Int) ≤ n := by omega
  have i2 : (n : Int) ≤ 6 := by omega
  go_enter Tryz.func6, Tryz.ntmps6
  go_wp2
  go_ret2
  exact ⟨w.heap.size + 1, w.heap.size, rfl, by omega, Nat.le_refl _, heap_new2 _ _ _, heap_old (heap_new _ _) _, below2S _ _ _⟩
structure Only (g : Nat) (w w' : World) : Prop where
  os : w'.os = w.os
  tape : w'.tape = w.tape
  output : w'.output = w.output
  size : w.heap.size ≤ w'.heap.size
  block : ∀ b, b < w.heap.size → b ≠ g → w'.heap[b]? = w.heap[b]?
theorem Only.of {g : Nat} {w w' : World} (h : Below w.heap.size w w') : Only g w w' := ⟨h.os, h.tape, h.output, h.size, fun b hb _ => h.block b hb⟩
theorem Only.trans {g : Nat} {w w' w'' : World} (h : Only g w w') (k : Only g w' w'') : Only g w w'' :=
  ⟨k.os.trans h.os, k.tape.trans h.tape, k.output.trans h.output, Nat.le_trans h.size k.size, fun b hb hn => (k.block b (Nat.lt_of_lt_of_le hb h.size) hn).trans (h.block b hb hn)⟩
theorem Only.set {g : Nat} {w w' : World} (h : Only g w w') (j : Nat) (v : Value) : Only g w (w'.setCell ⟨g, j, none⟩ v) :=
  h.trans ⟨rfl, rfl, rfl, by simp [World.setCell], fun _ _ hk => Below.heap_setCell _ _ _ _ hk⟩
end Go.Proofs.YtepnghacjggkkaaGreatDoor
namespace Go.Proofs.YtepnghacjggkkaaGreatDoor
open Go.RowKit Go.Maps
set_option maxRecDepth 100000
set_option linter.unusedSectionVars false
variable [Inhabited ComV] [DecidableEq D3] [Inhabited D3] [Inhabited Dd] [Inhabited Dn] [Inhabited OpV]

def SnapRet (snap : List Int) (w : World) (e : Ending) (w' : World) : Prop := e = .returned (.slice (some ⟨w.heap.size, 0, none⟩) snap.length snap.length) ∧ w'.heap[w.heap.size]? = some (.cells (snap.map (Value.int .i64)).toArray 3 (0, 0)) ∧ Below w.heap.size w w'
theorem ints_heapY {W : World} {b c : Nat} {zs : List Int} (h : W.heap[b]? = some (.cells (zs.map (Value.int .i64)).toArray 3 (0, 0))) : IntsAt W (.slice (some ⟨b, 0, none⟩) zs.length c) zs := by
  refine ⟨_, _, rfl, by simp, .inr ⟨_, _, rfl, fun t ht => ?_⟩⟩
  rw [cell_of h]
  simp [ht]
theorem keep3_set {w : World} {g j : Nat} {cs : Array Value} {t : TypeId} (h : w.heap[g]? = some (.cells cs t (0, 0))) (h1 : 3 ≠ t) (h2 : 97 ≠ t) (h3 : 175 ≠ t) (v : Value) : Keep3 w (w.setCell ⟨g, j, none⟩ v) := by
  have k : ∀ u, u ≠ t → KeepT u w (w.setCell ⟨g, j, none⟩ v) := fun u hu b cs' hb => Below.heap_setCell _ _ _ _ fun e => by
    have e' : b = g := e
    rw [e', h] at hb
    injection hb with hb
    injection hb with _ hb
    exact hu hb.symm
  exact ⟨k 3 h1, k 97 h2, k 175 h3⟩
theorem keep3_below {w w' : World} (h : Below w.heap.size w w') : Keep3 w w' := ⟨fun b _ hb => h.block b (lt_of_heap hb), fun b _ hb => h.block b (lt_of_heap hb), fun b _ hb => h.block b (lt_of_heap hb)⟩
structure BeginRet (w : World) (sb pb : Nat) (snap : List Int) (e : Ending) (w' : World) : Prop where
  ret : ∃ (a : Option Addr) (c : Nat) (ta : Option Addr) (tc xb : Nat), e = .returned (.tuple #[.slice a snap.length c, .nilIface]) ∧ SesBox w' sb (.slice ta snap.length tc) (some ⟨xb, 0, none⟩) ∧ TraBox w' xb pb (.slice (some ⟨w.heap.size, 0, none⟩) snap.length snap.length) (.slice none 0 0) ∧ IntsT w' (.slice ta snap.length tc) snap ∧ w'.heap[w.heap.size]? = some (.cells (snap.map (Value.int .i64)).toArray 3 (0, 0)) ∧ w.heap.size ≤ xb ∧ Only sb w w'
set_option maxHeartbeats 4000000 in
theorem begin_ok (A : Nat → Addr) (w : World) (hE : E4 A w) (h12 : 12 ≤ w.heap.size) (sb pb : Nat) (tv : Value) (tok snap : List Int) (hs : SesBox w sb tv none) (ht : IntsAt w tv tok) (h2 : two tok snap = 0) (hle : leB tok snap = true)
    (K29 : Calls Tryz.prog 29 #[.pointer (some ⟨pb, 0, none⟩)] w (SnapRet snap w)) : Calls Tryz.prog 10 #[.pointer (some ⟨sb, 0, none⟩), .pointer (some ⟨pb, 0, none⟩)] w (BeginRet w sb pb snap) := by
  have K20 := hid (open_no w sb tv hs)
  have K29' := hid K29
  have t0 : w.cell? ⟨sb, 0, none⟩ = some tv := (cell_of hs).trans rfl
  have HS := hid hs
  have HT := hid ht
  have H2 := hid h2
  have HLE := hid hle
  have HE := hid hE
  have H12 : Hid (12 ≤ w.heap.size) := h12
  clear K29 hs ht h2 hle hE h12
  go_enter Tryz.func10, Tryz.ntmps10
  go_wp2_with (first
    | (go_at_call 20; refine K20.out.mono ?_; rintro e w' ⟨rfl, hw'⟩; rw [hw']; clear hw')
    | (go_at_call 29; refine K29'.out.mono ?_; rintro e w1 ⟨rfl, h1, hb1⟩; have u0 := (hb1.cell (p := ⟨sb, 0, none⟩) (lt_of_cell t0)).trans t0; have B1 := hid hb1; have G1 := hid h1; clear h1 hb1))
  refine (Within_ok A w1 (HE.out.below B1.out H12.out) tv _ tok snap (HT.out.mono B1.out (Nat.le_refl _)) (ints_heapY G1.out) H2.out).mono ?_
  rintro e w2 ⟨rfl, q, hw2⟩
  rw [HLE.out]
  have B2 : Hid (Below w.heap.size w w2) := (show Below _ _ _ from by rw [hw2]; exact below_draws B1.out q)
  have G2 : Hid (w2.heap[w.heap.size]? = some (.cells (snap.map (Value.int .i64)).toArray 3 (0, 0))) := (show _ = _ from by rw [hw2]; exact G1.out)
  have hsz : w.heap.size ≤ w2.heap.size := B2.out.size
  have g2 : w2.heap[sb]? = some (.cells #[tv, .pointer none] 60 (0, 0)) := (B2.out.block _ (lt_of_heap HS.out)).trans HS.out
  have hsb : sb < w2.heap.size := lt_of_heap g2
  clear hw2 K20 K29' u0 G1 B1
  obtain ⟨xb, hxb⟩ : ∃ xb, xb = w2.heap.size := ⟨_, rfl⟩
  obtain ⟨w3, hw3⟩ : ∃ w3, w3 = (w2.setCell ⟨sb, 1, none⟩ (.pointer (some ⟨xb, 0, none⟩))).alloc (.cells #[.pointer (some ⟨pb, 0, none⟩), .slice (some ⟨w.heap.size, 0, none⟩) snap.length snap.length, .slice none 0 0] 90) := ⟨_, rfl⟩
  have c2 : w2.cell? ⟨sb, 1, none⟩ = some (.pointer none) := (cell_of g2).trans rfl
  have c2a : ∀ o, (w2.alloc o).cell? ⟨sb, 1, none⟩ = some (.pointer none) := fun o => cell_alloc c2 o
  have f2a : ∀ o, (w2.alloc o).frozen? ⟨sb, 1, none⟩ = false := fun o => by simp only [World.frozen?, heap_old g2 o]; simp
  have hne : w.heap.size ≠ sb := Nat.ne_of_gt (lt_of_heap HS.out)
  have GS : Hid (w3.heap[sb]? = some (.cells #[tv, .pointer (some ⟨xb, 0, none⟩)] 60 (0, 0))) := (show _ = _ from by rw [hw3]; exact heap_old (heap_set g2 _) _)
  have GX : Hid (w3.heap[xb]? = some (.cells #[.pointer (some ⟨pb, 0, none⟩), .slice (some ⟨w.heap.size, 0, none⟩) snap.length snap.length, .slice none 0 0] 90 (0, 0))) := (show _ = _ from by rw [hw3, hxb]; have h := heap_new (w2.setCell ⟨sb, 1, none⟩ (.pointer (some ⟨w2.heap.size, 0, none⟩))) (.cells #[.pointer (some ⟨pb, 0, none⟩), .slice (some ⟨w.heap.size, 0, none⟩) snap.length snap.length, .slice none 0 0] 90); simpa [World.setCell] using h)
  have O3 : Hid (Only sb w w3) := (show Only _ _ _ from by rw [hw3]; exact ((Only.of B2.out).set 1 _).trans (Only.of (below_alloc _ _)))
  have G3 : Hid (w3.heap[w.heap.size]? = some (.cells (snap.map (Value.int .i64)).toArray 3 (0, 0))) := (show _ = _ from by rw [hw3]; exact heap_old ((Below.heap_setCell _ _ _ _ hne).trans G2.out) _)
  have hxl : w.heap.size ≤ xb := by omega
  have hxs : xb ≠ sb := by omega
  clear g2 B2 G2
  have K31 := hid (fun W (h : W.heap[w.heap.size]? = some (.cells (snap.map (Value.int .i64)).toArray 3 (0, 0))) => clone_ints W (.slice (some ⟨w.heap.size, 0, none⟩) snap.length snap.length) snap (ints_heapY h) (by have := (two_zero.1 H2.out).2.1; have := (chk_zero.1 this).2.1; omega))
  go_upto_region 11 with (fail)
  go_wp2_with (fail)
  rw [← hxb, ← hw3]
  refine (K31.out _ G3.out).mono ?_
  rintro e w4 ⟨ta, tc, rfl, hT4, hb4⟩
  have g4 : w4.heap[sb]? = some (.cells #[tv, .pointer (some ⟨xb, 0, none⟩)] 60 (0, 0)) := (hb4.block _ (lt_of_heap GS.out)).trans GS.out
  have c4 : w4.cell? ⟨sb, 0, none⟩ = some tv := (cell_of g4).trans rfl
  have f4 : w4.frozen? ⟨sb, 0, none⟩ = false := by simp only [World.frozen?, g4]; simp
  clear hw3 hxb c2 c2a f2a t0
  go_wp2_with (fail)
  obtain ⟨w5, hw5⟩ : ∃ w5, w5 = w4.setCell ⟨sb, 0, none⟩ (.slice ta snap.length tc) := ⟨_, rfl⟩
  rw [← hw5]
  have G5 : w5.heap[w.heap.size]? = some (.cells (snap.map (Value.int .i64)).toArray 3 (0, 0)) := by rw [hw5]; exact (Below.heap_setCell _ _ _ _ hne).trans ((hb4.block _ (lt_of_heap G3.out)).trans G3.out)
  refine (K31.out _ G5).mono ?_
  rintro e w6 ⟨a6, c6, rfl, _, hb6⟩
  have S6 : Hid (SesBox w6 sb (.slice ta snap.length tc) (some ⟨xb, 0, none⟩)) := (show _ = _ from by
    have h : w5.heap[sb]? = some (.cells #[.slice ta snap.length tc, .pointer (some ⟨xb, 0, none⟩)] 60 (0, 0)) := by rw [hw5]; exact heap_set g4 _
    exact (hb6.block _ (lt_of_heap h)).trans h)
  have X6 : Hid (TraBox w6 xb pb (.slice (some ⟨w.heap.size, 0, none⟩) snap.length snap.length) (.slice none 0 0)) := (show _ = _ from by
    have h4 := (hb4.block _ (lt_of_heap GX.out)).trans GX.out
    have h5 : w5.heap[xb]? = w4.heap[xb]? := by rw [hw5]; exact Below.heap_setCell _ _ _ _ hxs
    have h := h5.trans h4
    exact (hb6.block _ (lt_of_heap h)).trans h)
  have T6 : Hid (IntsT w6 (.slice ta snap.length tc) snap) := (show IntsT _ _ _ from by
    refine intsT_keep (intsT_keep hT4 (w' := w5) ?_) (keep3_below hb6)
    rw [hw5]
    exact keep3_set g4 (by decide) (by decide) (by decide) _)
  have O6 : Hid (Only sb w w6) := (show Only _ _ _ from by
    refine (O3.out.trans (Only.of hb4)).trans (Only.trans ?_ (Only.of hb6))
    rw [hw5]
    exact (Only.of (Below.refl _ _)).set 0 _)
  have G6 := hid ((hb6.block _ (lt_of_heap G5)).trans G5)
  clear hw5 hb6 hb4 g4 c4 f4 G5 hT4
  go_wp2_with (fail)
  go_ret2
  exact ⟨⟨a6, c6, ta, tc, xb, rfl, S6.out, X6.out, T6.out, G6.out, hxl, O6.out⟩⟩
end Go.Proofs.YtepnghacjggkkaaGreatDoor
namespace Go.Proofs.YtepnghacjggkkaaGreatDoor
open Go.RowKit Go.Maps
set_option maxRecDepth 100000
set_option linter.unusedSectionVars false
variable [Inhabited ComV] [DecidableEq D3] [Inhabited D3] [Inhabited Dd] [Inhabited Dn] [Inhabited OpV]

theorem owns_cellsY {w : World} {base e size n c : Nat} {a : Option Addr} {xs : List Value} (h : w.ownsRow base e size (.slice a (n + 1) c) (n + 1) xs) : ∃ b cs, a = some ⟨b, 0, none⟩ ∧ base ≤ b ∧ w.heap[b]? = some (.cells cs e (0, 0)) ∧ cs.toList.take ((n + 1) * size) = xs ∧ (n + 1) * size ≤ cs.size := by
  rcases h.2 with ⟨hv, h0⟩ | ⟨b, cap, cur, hv, hb, hh, hc, hm, hs, ht⟩
  · omega
  · injection hv with hv _ _
    exact ⟨b, cur, hv, hb, hh, ht, by rw [hs]; exact Nat.mul_le_mul_right _ hc⟩
set_option maxHeartbeats 2000000 in
theorem opsOn_nil (w : World) (xb pb : Nat) (av : Value) (key : ByteArray) (h : TraBox w xb pb av (.slice none 0 0)) : Calls Tryz.prog 53 #[.pointer (some ⟨xb, 0, none⟩), .string key] w fun e w' => e = .returned (.slice none 0 0) ∧ Below w.heap.size w w' := by
  have t2 : w.cell? ⟨xb, 2, none⟩ = some (.slice none 0 0) := (cell_of h).trans rfl
  clear h
  go_enter Tryz.func53, Tryz.ntmps53
  go_wp2
  refine wp_loop_rounds 1 ?_
  rw [rounds_succ]
  go_wp2
  go_ret
  exact ⟨rfl, Below.refl _ _⟩
set_option maxHeartbeats 2000000 in
theorem opsOn_one (w : World) (xb pb ob oc : Nat) (av : Value) (y1 : Int) (key : ByteArray) (y3 : Int) (y4 : ByteArray) (y5 : Int) (y6 : Bool) (da : Option Addr) (dn dc : Nat) (h : TraBox w xb pb av (.slice (some ⟨ob, 0, none⟩) 1 oc)) (ho : ∀ j u, [Value.int .i64 y1, .string key, .int .i64 y3, .string y4, .int .i64 y5, .bool y6, .slice da dn dc][j]? = some u → w.cell? ⟨ob, j, none⟩ = some u) : Calls Tryz.prog 53 #[.pointer (some ⟨xb, 0, none⟩), .string key] w fun e w' => ∃ (b c : Nat), e = .returned (.slice (some ⟨b, 0, none⟩) 1 c) ∧ w.heap.size ≤ b ∧ w'.ownsRow w.heap.size 97 7 (.slice (some ⟨b, 0, none⟩) 1 c) 1 [.int .i64 y1, .string key, .int .i64 y3, .string y4, .int .i64 y5, .bool y6, .slice da dn dc] ∧ Below w.heap.size w w' := by
  have t2 : w.cell? ⟨xb, 2, none⟩ = some (.slice (some ⟨ob, 0, none⟩) 1 oc) := (cell_of h).trans rfl
  have q0 : w.cell? ⟨ob, 0, none⟩ = some (.int .i64 y1) := ho 0 _ rfl
  have q1 := ho 1 _ rfl
  have q2 := ho 2 _ rfl
  have q3 := ho 3 _ rfl
  have q4 := ho 4 _ rfl
  have q5 := ho 5 _ rfl
  have q6 := ho 6 _ rfl
  clear h ho
  obtain ⟨w1, hw1⟩ : ∃ w1, w1 = w.alloc (.cells #[.int .i64 y1, .string key, .int .i64 y3, .string y4, .int .i64 y5, .bool y6, .slice da dn dc] 97) := ⟨_, rfl⟩
  obtain ⟨X, hX⟩ : ∃ X, X = w.heap.size := ⟨_, rfl⟩
  have A1 : w1.heap[X]? = some (.cells #[.int .i64 y1, .string key, .int .i64 y3, .string y4, .int .i64 y5, .bool y6, .slice da dn dc] 97 (0, 0)) := by rw [hw1, hX]; exact heap_new _ _
  have b1 : Below w.heap.size w w1 := by rw [hw1]; exact below_alloc _ _
  have u0 : w1.cell? ⟨X, 0, none⟩ = some (.int .i64 y1) := (cell_of A1).trans rfl
  have u1 : w1.cell? ⟨X, 1, none⟩ = some (.string key) := (cell_of A1).trans rfl
  have u2 : w1.cell? ⟨X, 2, none⟩ = some (.int .i64 y3) := (cell_of A1).trans rfl
  have u3 : w1.cell? ⟨X, 3, none⟩ = some (.string y4) := (cell_of A1).trans rfl
  have u4 : w1.cell? ⟨X, 4, none⟩ = some (.int .i64 y5) := (cell_of A1).trans rfl
  have u5 : w1.cell? ⟨X, 5, none⟩ = some (.bool y6) := (cell_of A1).trans rfl
  have u6 : w1.cell? ⟨X, 6, none⟩ = some (.slice da dn dc) := (cell_of A1).trans rfl
  have B1 := hid b1
  go_enter Tryz.func53, Tryz.ntmps53
  go_wp2
  refine wp_loop_rounds 2 ?_
  rw [rounds_succ]
  go_upto_region 5 with (fail)
  rw [← hw1, ← hX]
  clear hw1 hX q0 q1 q2 q3 q4 q5 q6 A1 b1
  go_upto_region 6 with (fail)
  obtain ⟨i0, hi, hz0, hz1, hz2⟩ := info_parts Tryz.info97
  go_wp2_with (at_builtin; refine wpList_append_own_srcS rfl _ _ 45 rfl w.heap.size 97 i0 _ 7 88 Tryz.underlying45 hi hz0 hz1 hz2 rfl (by decide) _ _ _ rfl (World.ownsRow_nil _ _ _ _) _ 1 [.int .i64 y1, .string key, .int .i64 y3, .string y4, .int .i64 y5, .bool y6, .slice da dn dc] rfl ?hs1 (by simp [Value.oneCell']) ?hm2 ?hm3 ?hm4 ?_; (case hs1 => exact .inr ⟨_, _, rfl, rfl, cells3_new _ _ _⟩); (case hm2 => unfold maxLen; omega); (case hm3 => omega); (case hm4 => have := B1.out.size; simp; omega); intro v3 w3 hown3 hgrow3 _)
  rw [Nat.zero_add, List.nil_append] at hown3
  obtain ⟨a3, c3, rfl⟩ := row_shape hown3
  have HT := hid hown3
  have HB : Hid (Below w.heap.size w w3) := (show Below _ _ _ from (B1.out.alloc B1.out.size _).grown hgrow3 (by have := B1.out.size; simp; omega) (fun k hk => by cases hk))
  clear hown3 hgrow3
  go_wp2
  rw [rounds_succ]
  go_wp2
  go_ret
  obtain ⟨b, cs, ha, hb, _⟩ := owns_cellsY HT.out
  subst ha
  exact ⟨b, c3, rfl, hb, HT.out, HB.out⟩
end Go.Proofs.YtepnghacjggkkaaGreatDoor
namespace Go.Proofs.YtepnghacjggkkaaGreatDoor
open Go.RowKit Go.Maps
set_option maxRecDepth 100000
set_option linter.unusedSectionVars false
variable [Inhabited ComV] [DecidableEq D3] [Inhabited D3] [Inhabited Dd] [Inhabited Dn] [Inhabited OpV]

structure MoreRet (w : World) (xb pb : Nat) (av : Value) (cs : List Value) (e : Ending) (w' : World) : Prop where
  ret : ∃ (ob oc : Nat), e = .returned .nilIface ∧ w.heap.size ≤ ob ∧ TraBox w' xb pb av (.slice (some ⟨ob, 0, none⟩) 1 oc) ∧ w'.ownsRow w.heap.size 97 7 (.slice (some ⟨ob, 0, none⟩) 1 oc) 1 cs ∧ Only xb w w'
set_option maxHeartbeats 8000000 in
theorem more_first (A : Nat → Addr) (w : World) (hE : E4 A w) (h12 : 12 ≤ w.heap.size) (xb pb : Nat) (aa : Option Addr) (an ac : Nat) (y1 : Int) (y2 : ByteArray) (y3 : Int) (y4 : ByteArray) (y5 : Int) (h : TraBox w xb pb (.slice aa an ac) (.slice none 0 0)) (h0 : opErr ⟨y1, y2, y3, y4, y5, false, []⟩ an = 0) (ht : y4.size ≤ 1000000) : Calls Tryz.prog 57 #[.pointer (some ⟨xb, 0, none⟩), .agg #[.int .i64 y1, .string y2, .int .i64 y3, .string y4, .int .i64 y5, .bool false, .slice none 0 0]] w (MoreRet w xb pb (.slice aa an ac) [.int .i64 y1, .string y2, .int .i64 y3, .string y4, .int .i64 y5, .bool false, .slice none 0 0]) := by
  obtain ⟨w0, hw0⟩ : ∃ w0, w0 = w.alloc (.cells #[.int .i64 y1, .string y2, .int .i64 y3, .string y4, .int .i64 y5, .bool false, .slice none 0 0] 97) := ⟨_, rfl⟩
  have b0 : Below w.heap.size w w0 := by rw [hw0]; exact below_alloc _ _
  have tb : TraBox w0 xb pb (.slice aa an ac) (.slice none 0 0) := (b0.block _ (lt_of_heap h)).trans h
  have ob0 : w0.heap[w.heap.size]? = some (.cells #[.int .i64 y1, .string y2, .int .i64 y3, .string y4, .int .i64 y5, .bool false, .slice none 0 0] 97 (0, 0)) := by rw [hw0]; exact heap_new _ _
  have K85 := hid (fun W (hW : Below w0.heap.size w0 W) => check_op A W ((hE.below b0 h12).below hW (Nat.le_trans h12 b0.size)) (Nat.le_trans h12 (Nat.le_trans b0.size hW.size)) y1 y2 y3 y4 y5 false none 0 [] an ⟨none, 0, rfl, fun _ => rfl, Nat.le_refl _, .inl rfl⟩ (by decide) ht)
  rw [h0, show errV A 0 = .nilIface from rfl] at K85
  have t1 : w0.cell? ⟨xb, 1, none⟩ = some (.slice aa an ac) := (cell_of tb).trans rfl
  have t2 : w0.cell? ⟨xb, 2, none⟩ = some (.slice none 0 0) := (cell_of tb).trans rfl
  have o0 : w0.cell? ⟨w.heap.size, 0, none⟩ = some (.int .i64 y1) := (cell_of ob0).trans rfl
  have o1 : w0.cell? ⟨w.heap.size, 1, none⟩ = some (.string y2) := (cell_of ob0).trans rfl
  have o2 : w0.cell? ⟨w.heap.size, 2, none⟩ = some (.int .i64 y3) := (cell_of ob0).trans rfl
  have o3 : w0.cell? ⟨w.heap.size, 3, none⟩ = some (.string y4) := (cell_of ob0).trans rfl
  have o4 : w0.cell? ⟨w.heap.size, 4, none⟩ = some (.int .i64 y5) := (cell_of ob0).trans rfl
  have o5 : w0.cell? ⟨w.heap.size, 5, none⟩ = some (.bool false) := (cell_of ob0).trans rfl
  have o6 : w0.cell? ⟨w.heap.size, 6, none⟩ = some (.slice none 0 0) := (cell_of ob0).trans rfl
  have TB := hid tb
  have OB := hid ob0
  have B0 := hid b0
  have hxx : xb < w.heap.size := lt_of_heap h
  clear h tb ob0 b0 hE h12 h0
  go_enter Tryz.func57, Tryz.ntmps57
  go_upto_region 1 with (fail)
  rw [← hw0]
  clear hw0
  go_upto_region 3 with (fail)
  go_region_held (fun u => u.cell? ⟨xb, 1, none⟩ = some (.slice aa an ac) ∧ u.cell? ⟨w.heap.size, 0, none⟩ = some (.int .i64 y1) ∧ u.cell? ⟨w.heap.size, 1, none⟩ = some (.string y2) ∧ u.cell? ⟨w.heap.size, 2, none⟩ = some (.int .i64 y3) ∧ u.cell? ⟨w.heap.size, 3, none⟩ = some (.string y4) ∧ u.cell? ⟨w.heap.size, 4, none⟩ = some (.int .i64 y5) ∧ u.cell? ⟨w.heap.size, 5, none⟩ = some (.bool false) ∧ u.cell? ⟨w.heap.size, 6, none⟩ = some (.slice none 0 0)) (first | go_keep | exact ⟨t1, o0, o1, o2, o3, o4, o5, o6⟩ | exact ⟨t1', p0, p1, p2, p3, p4, p5, p6⟩) ((go_at_call 85; refine (K85.out _ ?hb).mono ?_; (case hb => exact (Below.refl w0.heap.size w0).drew); rintro e w5 ⟨rfl, hb5⟩; have hb5' : Below w0.heap.size w0 w5 := (Below.refl w0.heap.size w0).drew.trans hb5; have t1' := (hb5'.cell (p := ⟨xb, 1, none⟩) (lt_of_cell t1)).trans t1; have p0 := (hb5'.cell (p := ⟨w.heap.size, 0, none⟩) (lt_of_cell o0)).trans o0; have p1 := (hb5'.cell (p := ⟨w.heap.size, 1, none⟩) (lt_of_cell o1)).trans o1; have p2 := (hb5'.cell (p := ⟨w.heap.size, 2, none⟩) (lt_of_cell o2)).trans o2; have p3 := (hb5'.cell (p := ⟨w.heap.size, 3, none⟩) (lt_of_cell o3)).trans o3; have p4 := (hb5'.cell (p := ⟨w.heap.size, 4, none⟩) (lt_of_cell o4)).trans o4; have p5 := (hb5'.cell (p := ⟨w.heap.size, 5, none⟩) (lt_of_cell o5)).trans o5; have p6 := (hb5'.cell (p := ⟨w.heap.size, 6, none⟩) (lt_of_cell o6)).trans o6; have HB5 := hid hb5'; clear hb5 hb5'))
  have hx5 : w5.heap[xb]? = some (.cells #[.pointer (some ⟨pb, 0, none⟩), .slice aa an ac, .slice none 0 0] 90 (0, 0)) := (HB5.out.block _ (lt_of_heap TB.out)).trans TB.out
  have s2 : w5.cell? ⟨xb, 2, none⟩ = some (.slice none 0 0) := (cell_of hx5).trans rfl
  have s2a := fun o => cell_alloc s2 o
  have BW : Hid (Below w.heap.size w w5) := (show Below _ _ _ from B0.out.trans (HB5.out.mono B0.out.size))
  have HX5 := hid hx5
  have hwl : w.heap.size < w5.heap.size := lt_of_cell p0
  obtain ⟨i0, hi, hz0, hz1, hz2⟩ := info_parts Tryz.info97
  clear K85 o0 o1 o2 o3 o4 o5 o6 t1 t2 HB5 TB OB B0 hx5
  go_upto_region 11 with (fail)
  go_region_law ((refine step_append_at rfl _ _ 45 rfl w.heap.size 97 i0 _ 7 88 Tryz.underlying45 hi hz0 hz1 hz2 rfl (by decide) (.slice none 0 0) 0 [] rfl (World.ownsRow_nil _ _ _ _) _ 1 1 [.int .i64 y1, .string y2, .int .i64 y3, .string y4, .int .i64 y5, .bool false, .slice none 0 0] rfl rfl (cells3_new _ _ _) (by simp [Value.oneCell']) ?hm2 ?hm3 ?hb ?_; (case hm2 => unfold maxLen; omega); (case hm3 => omega); (case hb => simp; omega); intro v9 w9 hrow9 hgr9 hat9; have B9 : Hid (Below w.heap.size w w9) := (show Below _ _ _ from by first | exact (BW.out.alloc BW.out.size _).grown hgr9 (by simp; omega) (fun k hk => by cases hk) | exact ((BW.out.alloc BW.out.size _).drew).grown hgr9 (by simp; omega) (fun k hk => by cases hk) | exact (BW.out.drew.alloc BW.out.size _).grown hgr9 (by simp; omega) (fun k hk => by cases hk)); rw [Nat.zero_add, List.nil_append] at hrow9; obtain ⟨a6, c6, hv9⟩ := row_shape hrow9; subst hv9; have P9 : w9.heap[xb]? = some (.cells #[.pointer (some ⟨pb, 0, none⟩), .slice aa an ac, .slice none 0 0] 90 (0, 0)) := (hgr9.block _ (by simp; omega) (fun e => by cases e)).trans ((Below.heap_alloc _ _ _ (by show _ < w5.heap.size; omega)).trans HX5.out); have z9 : w9.frozen? ⟨xb, 2, none⟩ = false := free_of P9; have n9 : w9.cell? ⟨xb, 2, none⟩ = some (.slice none 0 0) := (cell_of P9).trans rfl; have m0 := hgr9.cell (cell_alloc p0 _) (fun e => by cases e); have m1 := hgr9.cell (cell_alloc p1 _) (fun e => by cases e); have m2 := hgr9.cell (cell_alloc p2 _) (fun e => by cases e); have m3 := hgr9.cell (cell_alloc p3 _) (fun e => by cases e); have m4 := hgr9.cell (cell_alloc p4 _) (fun e => by cases e); have m5 := hgr9.cell (cell_alloc p5 _) (fun e => by cases e); have m6 := hgr9.cell (cell_alloc p6 _) (fun e => by cases e); have R9 := hid hrow9; have HP9 := hid P9; clear hrow9 hgr9 hat9 P9))
  all_goals
    obtain ⟨wz, hwz⟩ : ∃ wz, wz = w9.setCell ⟨xb, 2, none⟩ (.slice a6 1 c6) := ⟨_, rfl⟩
    have TZ : Hid (TraBox wz xb pb (.slice aa an ac) (.slice a6 1 c6)) := (show _ = _ from by rw [hwz]; exact heap_set HP9.out _)
    have RZ : Hid (wz.ownsRow w.heap.size 97 7 (.slice a6 1 c6) 1 [.int .i64 y1, .string y2, .int .i64 y3, .string y4, .int .i64 y5, .bool false, .slice none 0 0]) := (show World.ownsRow _ _ _ _ _ _ _ from by
      rw [hwz]
      exact own_keep R9.out fun q hq => Below.heap_setCell _ _ _ _ fun e => by
        have := (R9.out.lt q hq).1
        have e' : q = xb := e
        omega)
    have OZ : Hid (Only xb w wz) := (show Only _ _ _ from by rw [hwz]; exact (Only.of B9.out).set 2 _)
    rw [← hwz]
    clear hwz m0 m1 m2 m3 m4 m5 m6 n9 z9 p0 p1 p2 p3 p4 p5 p6 t1' s2 s2a
    go_wp2
    go_ret
    obtain ⟨b, cs, ha, hb, _⟩ := owns_cellsY RZ.out
    subst ha
    exact ⟨⟨b, c6, rfl, hb, TZ.out, RZ.out, OZ.out⟩⟩
end Go.Proofs.YtepnghacjggkkaaGreatDoor
namespace Go.Proofs.YtepnghacjggkkaaGreatDoor
open Go.RowKit Go.Maps
set_option maxRecDepth 100000
set_option linter.unusedSectionVars false
variable [Inhabited ComV] [DecidableEq D3] [Inhabited D3] [Inhabited Dd] [Inhabited Dn] [Inhabited OpV]

theorem row3Y {w : World} {g : Nat} {a b c : Value} {t : TypeId} (h : w.heap[g]? = some (.cells #[a, b, c] t (0, 0))) : (∀ j, j < 3 → (w.cell? ⟨g, 0 + j, none⟩).isSome = true) ∧ ∀ j, j < 3 → w.frozen? ⟨g, 0 + j, none⟩ = false := by
  refine ⟨fun j hj => ?_, fun j _ => by simp only [World.frozen?, h]; simp⟩
  rw [cell_of h]
  rcases (by omega : j = 0 ∨ j = 1 ∨ j = 2) with rfl | rfl | rfl <;> rfl
theorem set3Y {w : World} {g : Nat} {a b c : Value} {t : TypeId} (h : w.heap[g]? = some (.cells #[a, b, c] t (0, 0))) (x y z : Value) : (w.setCells g 0 [x, y, z]).heap[g]? = some (.cells #[x, y, z] t (0, 0)) := by
  show (((w.setCell ⟨g, 0, none⟩ x).setCell ⟨g, 1, none⟩ y).setCell ⟨g, 2, none⟩ z).heap[g]? = _
  rw [heap_set (heap_set (heap_set h x) y) z]
  rfl
theorem only_cells {w : World} {g : Nat} (o : Nat) (vs : List Value) : Only g w (w.setCells g o vs) := by
  induction vs generalizing w o with
  | nil => exact Only.of (Below.refl _ _)
  | cons v vs ih => exact ((Only.of (Below.refl _ _)).set o v).trans (ih (o + 1))
theorem keeps_only {w w' : World} {g : Nat} {cs : Array Value} {t : TypeId} (h : w.heap[g]? = some (.cells cs t (0, 0))) (h1 : 3 ≠ t) (h2 : 97 ≠ t) (h3 : 175 ≠ t) (o : Only g w w') : Keeps w w' := keeps_but h h1 h2 h3 fun i hi hne => o.block i hi hne
variable {wb W W' : World} {n k t p : Nat} {C : List ComV} {H : Nat → PlH} {V : Nat → PlV}
structure TcRet (wb w : World) (n k t p an : Nat) (C : List ComV) (H : Nat → PlH) (V : Nat → PlV) (e : Ending) (w' : World) : Prop where
  ret : ∃ (h' : PlH) (v' : PlV) (a3 a4 : Option Addr) (c3 c4 : Nat) (la : Option Addr) (lc : Nat) (rs : List Raw) (U : List MsgV), e = .returned (.tuple #[.agg #[.slice a3 an c3, .int .i64 p, .slice a4 1 c4], .slice la rs.length lc, .nilIface]) ∧ NetAt wb n (updP H p h') (updP V p v') w' ∧ NetI n k (C ++ [nxt V p]) (t + 1) U (updP H p h') (updP V p v') ∧ NetMv n w w' H V (updP H p h') (updP V p v') ∧ SentRow n (updP H p h') (updP V p v') w.heap.size (.slice la rs.length lc) rs U w' ∧ IntsT w' (.slice a3 an c3) (nxt V p).when_
set_option maxHeartbeats 8000000 in
theorem tra_commit (A : Nat → Addr) (w : World) (hS : Sen A wb.heap.size w) (a : NetAt wb n H V w) (hN : NetI n k C t [] H V) (k1 : 1 ≤ k) (k6 : k ≤ 6) (n6 : n ≤ 6) (ht : t ≤ 60) (hp : p < n) (xb ob : Nat) (aa : Option Addr) (an ac oc : Nat) (h : TraBox w xb (H p).pb (.slice aa an ac) (.slice (some ⟨ob, 0, none⟩) 1 oc)) (hv : IntsAt w (.slice aa an ac) (snapV (V p))) (ho : OpsAt w (.slice (some ⟨ob, 0, none⟩) 1 oc) nOps) (hxo : Off n H V xb) :
    Calls Tryz.prog 35 #[.pointer (some ⟨xb, 0, none⟩)] w (TcRet wb w n k t p an C H V) := by
  obtain ⟨w0, hw0⟩ : ∃ w0, w0 = w.alloc (.cells #[.slice none 0 0, .int .i64 0, .slice none 0 0] 47) := ⟨_, rfl⟩
  have b0 : Below w.heap.size w w0 := by rw [hw0]; exact below_alloc _ _
  have r0 : w0.heap[w.heap.size]? = some (.cells #[.slice none 0 0, .int .i64 0, .slice none 0 0] 47 (0, 0)) := by rw [hw0]; exact heap_new _ _
  have tb : TraBox w0 xb (H p).pb (.slice aa an ac) (.slice (some ⟨ob, 0, none⟩) 1 oc) := (b0.block _ (lt_of_heap h)).trans h
  have t0 : w0.cell? ⟨xb, 0, none⟩ = some (.pointer (some ⟨(H p).pb, 0, none⟩)) := (cell_of tb).trans rfl
  have t1 : w0.cell? ⟨xb, 1, none⟩ = some (.slice aa an ac) := (cell_of tb).trans rfl
  have t2 : w0.cell? ⟨xb, 2, none⟩ = some (.slice (some ⟨ob, 0, none⟩) 1 oc) := (cell_of tb).trans rfl
  have bd : Below w.heap.size w w0.drew := b0.drew
  have hK := net_commit A (hS.below (bd.mono hS.size)) (a.below bd) hN k1 k6 n6 ht hp aa (some ⟨ob, 0, none⟩) an ac 1 oc (hv.mono bd (Nat.le_refl _)) (ho.mono bd (Nat.le_refl _))
  have K : Hid (Calls Tryz.prog 59 #[.pointer (some ⟨(H p).pb, 0, none⟩), .slice aa an ac, .slice (some ⟨ob, 0, none⟩) 1 oc] w0.drew fun e W' => ∃ (a3 a4 : Option Addr) (c3 c4 : Nat) (la : Option Addr) (lc ln : Nat), e = .returned (.tuple #[.agg #[.slice a3 an c3, .int .i64 p, .slice a4 1 c4], .slice la ln lc, .nilIface]) ∧ TraBox W' xb (H p).pb (.slice aa an ac) (.slice (some ⟨ob, 0, none⟩) 1 oc) ∧ W'.heap[w.heap.size]? = some (.cells #[.slice none 0 0, .int .i64 0, .slice none 0 0] 47 (0, 0)) ∧ ∀ vs, TcRet wb w n k t p an C H V (.returned (.tuple #[.agg #[.slice a3 an c3, .int .i64 p, .slice a4 1 c4], .slice la ln lc, .nilIface])) (W'.setCells w.heap.size 0 vs)) := (show Calls _ _ _ _ _ from by
    refine hK.mono ?_
    rintro e W' ⟨h', v', a3, a4, c3, c4, rv, rs, U, rfl, hpb, hM, hA, hI, hR, hT⟩
    obtain ⟨la, lc, hrv⟩ := row_shape hR.row
    subst hrv
    have hlt : w.heap.size < w0.drew.heap.size := lt_of_heap r0
    have hoff : Off n H V w.heap.size := a.off_ge (Nat.le_refl _)
    obtain ⟨ho', hb'⟩ := hoff.move hlt hp hM
    have g5 : W'.heap[w.heap.size]? = some (.cells #[.slice none 0 0, .int .i64 0, .slice none 0 0] 47 (0, 0)) := hb'.trans r0
    refine ⟨a3, a4, c3, c4, la, lc, rs.length, rfl, (hxo.move (W := w0.drew) (show xb < w0.drew.heap.size from lt_of_heap tb) hp hM).2.trans tb, g5, fun vs => ?_⟩
    have o6 : Only w.heap.size W' (W'.setCells w.heap.size 0 vs) := only_cells 0 vs
    have k6' : Keeps W' (W'.setCells w.heap.size 0 vs) := keeps_only g5 (by decide) (by decide) (by decide) o6
    have m5 : NetMv n w W' H V (updP H p h') (updP V p v') := (NetMv.below bd).trans (NetMv.of hp hM hpb)
    refine ⟨⟨h', v', a3, a4, c3, c4, la, lc, rs, U, rfl, hA.turn ho' a.bel.size k6' o6.os o6.tape o6.output o6.size o6.block, hI, ⟨Nat.le_trans m5.size o6.size, fun b hb hob => ?_, fun ty hty b cs hc => ?_, m5.pb⟩, ⟨?_, hR.off, f2_mono (fun _ _ q => q.kept k6') hR.own⟩, intsT_keep hT (keep3_of k6')⟩⟩
    · obtain ⟨q1, q2⟩ := m5.off b hb hob
      exact ⟨q1, (o6.block b (Nat.lt_of_lt_of_le hb m5.size) (by omega)).trans q2⟩
    · have q1 := m5.keeps ty hty b cs hc
      exact (k6' ty hty b cs (q1.trans hc)).trans q1
    · exact owns_base (own_keep hR.row fun q hq => o6.block q (hR.row.lt q hq).2 (by have := (hR.row.lt q hq).1; omega)) (Nat.le_of_lt hlt))
  have R0 := hid r0
  have hxn : xb ≠ w.heap.size := Nat.ne_of_lt (lt_of_heap h)
  clear h hK tb r0 b0 bd hS a hN hv ho hxo
  go_enter Tryz.func35, Tryz.ntmps35
  go_upto_region 1 with (fail)
  rw [← hw0]
  clear hw0
  go_upto_region 3 with (fail)
  go_cut [2, 3, 4] (fun cp lp er wx => ∃ (a3 a4 : Option Addr) (c3 c4 : Nat) (la : Option Addr) (lc ln : Nat), cp = .pointer (some ⟨w.heap.size, 0, none⟩) ∧ lp = .slice la ln lc ∧ er = .nilIface ∧ Hid (wx.heap[w.heap.size]? = some (.cells #[.slice a3 an c3, .int .i64 p, .slice a4 1 c4] 47 (0, 0))) ∧ Hid (TcRet wb w n k t p an C H V (.returned (.tuple #[.agg #[.slice a3 an c3, .int .i64 p, .slice a4 1 c4], .slice la ln lc, .nilIface])) wx))
  case first =>
    go_region_held (fun u => u.cell? ⟨xb, 0, none⟩ = some (.pointer (some ⟨(H p).pb, 0, none⟩)) ∧ u.cell? ⟨xb, 1, none⟩ = some (.slice aa an ac) ∧ u.cell? ⟨xb, 2, none⟩ = some (.slice (some ⟨ob, 0, none⟩) 1 oc)) (first | exact ⟨q0, q1, q2⟩ | exact ⟨set_other (set_other (set_other q0 hxn) hxn) hxn, set_other (set_other (set_other q1 hxn) hxn) hxn, set_other (set_other (set_other q2 hxn) hxn) hxn⟩ | go_keep) ((go_at_call 59; refine K.out.mono ?_; rintro e w5 ⟨a3, a4, c3, c4, la, lc, ln, rfl, tb5, g5, hT⟩; have q0 : w5.cell? ⟨xb, 0, none⟩ = some (.pointer (some ⟨(H p).pb, 0, none⟩)) := (cell_of tb5).trans rfl; have q1 : w5.cell? ⟨xb, 1, none⟩ = some (.slice aa an ac) := (cell_of tb5).trans rfl; have q2 : w5.cell? ⟨xb, 2, none⟩ = some (.slice (some ⟨ob, 0, none⟩) 1 oc) := (cell_of tb5).trans rfl; have z0 : w5.cell? ⟨w.heap.size, 0, none⟩ = some (.slice none 0 0) := (cell_of g5).trans rfl; have z1 : w5.cell? ⟨w.heap.size, 1, none⟩ = some (.int .i64 0) := (cell_of g5).trans rfl; have z2 : w5.cell? ⟨w.heap.size, 2, none⟩ = some (.slice none 0 0) := (cell_of g5).trans rfl; have zf : ∀ j, w5.frozen? ⟨w.heap.size, j, none⟩ = false := (fun j => by simp only [World.frozen?, g5]; simp); have G5 := hid g5; have HT := hid hT; clear g5 hT tb5))
    go_wp2_with fail
    obtain ⟨wz, hwz⟩ : ∃ wz, wz = ((w5.setCell ⟨w.heap.size, 0, none⟩ (.slice a3 an c3)).setCell ⟨w.heap.size, 1, none⟩ (.int .i64 p)).setCell ⟨w.heap.size, 2, none⟩ (.slice a4 1 c4) := ⟨_, rfl⟩
    have F1 : Hid (wz.heap[w.heap.size]? = some (.cells #[.slice a3 an c3, .int .i64 p, .slice a4 1 c4] 47 (0, 0))) := (show _ = _ from by rw [hwz]; exact set3Y G5.out _ _ _)
    have F2 : Hid (TcRet wb w n k t p an C H V (.returned (.tuple #[.agg #[.slice a3 an c3, .int .i64 p, .slice a4 1 c4], .slice la ln lc, .nilIface])) wz) := (show TcRet _ _ _ _ _ _ _ _ _ _ _ _ from by rw [hwz]; exact HT.out [.slice a3 an c3, .int .i64 p, .slice a4 1 c4])
    rw [← hwz]
    clear hwz HT G5
    go_meet
    exact ⟨a3, a4, c3, c4, la, lc, ln, rfl, rfl, rfl, F1, F2⟩
  case rest =>
    obtain ⟨a3, a4, c3, c4, la, lc, ln, rfl, rfl, rfl, F1, F2⟩ := hcut
    go_wp2
    exact bodyPost_ret (ret_cell_tmp2 (k := 3) Tryz.results35 Tryz.isAgg47 Tryz.sizeOf47 _ _ w.heap.size [.slice a3 an c3, .int .i64 p, .slice a4 1 c4] (.slice la ln lc) .nilIface rfl rfl rfl rfl (cells_heap (t := 47) _ F1.out)) rfl F2.out
end Go.Proofs.YtepnghacjggkkaaGreatDoor
