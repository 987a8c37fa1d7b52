/- A session commits: its token is what it committed; Ops of another kind are left out: of one op of the kind none; What a transaction reads: the place's value, and what its own ops make of it. -/
import Derived.Test.YtepnghacjggkkaaGreatDoorJYJ
import Derived.Test.YtepnghacjggkkaaGreatDoorJWSmall
import Derived.Deep.RegionHeld
import Derived.Deep.DeepCutAuto
import Derived.Deep.CutBlock
namespace Go.Proofs.YtepnghacjggkkaaGreatDoor
open Go.RowKit Go.Maps
set_option maxRecDepth 100000
set_option linter.unusedSectionVars false
variable [Inhabited ComV] [DecidableEq D3] [Inhabited D3] [Inhabited Dd] [Inhabited Dn] [Inhabited OpV]

structure NetMs (n sb : Nat) (W W' : World) (H : Nat → PlH) (V : Nat → PlV) (H' : Nat → PlH) (V' : Nat → PlV) : Prop where
  size : W.heap.size ≤ W'.heap.size
  off : ∀ b, b < W.heap.size → Off n H V b → Off n H' V' b ∧ (b ≠ sb → W'.heap[b]? = W.heap[b]?)
  keeps : Keeps W W'
  pb : ∀ i, i < n → (H' i).pb = (H i).pb
structure ScRet (wb w : World) (n k t p an sb : Nat) (C : List ComV) (H : Nat → PlH) (V : Nat → PlV) (e : Ending) (w' : World) : Prop where
  ret : ∃ (h' : PlH) (v' : PlV) (a3 a4 : Option Addr) (n3 c3 n4 c4 : Nat) (la : Option Addr) (lc : Nat) (rs : List Raw) (U : List MsgV) (ta : Option Addr) (tc : Nat), e = .returned (.tuple #[.agg #[.slice a3 n3 c3, .int .i64 p, .slice a4 n4 c4], .slice la rs.length lc, .nilIface]) ∧ NetAt wb n (updP H p h') (updP V p v') w' ∧ NetI n k (C ++ [nxt V p]) (t + 1) U (updP H p h') (updP V p v') ∧ NetMs n sb w w' H V (updP H p h') (updP V p v') ∧ SentRow n (updP H p h') (updP V p v') w.heap.size (.slice la rs.length lc) rs U w' ∧ SesBox w' sb (.slice ta an tc) none ∧ IntsT w' (.slice ta an tc) (nxt V p).when_
variable {wb : World} {n k t p : Nat} {C : List ComV} {H : Nat → PlH} {V : Nat → PlV}
structure OnlyG (G : Nat → Prop) (w w' : World) : Prop where
  os : w'.os = w.os
  tape : w'.tape = w.tape
  output : w'.output = w.output
  size : w.heap.size ≤ w'.heap.size
  block : ∀ b, b < w.heap.size → ¬ G b → w'.heap[b]? = w.heap[b]?
theorem Only.toG {G : Nat → Prop} {g : Nat} {w w' : World} (h : Only g w w') (hg : G g) : OnlyG G w w' := ⟨h.os, h.tape, h.output, h.size, fun b hb hn => h.block b hb fun e => hn (e ▸ hg)⟩
theorem OnlyG.of {G : Nat → Prop} {w w' : World} (h : Below w.heap.size w w') : OnlyG G w w' := ⟨h.os, h.tape, h.output, h.size, fun b hb _ => h.block b hb⟩
theorem OnlyG.trans {G : Nat → Prop} {w w' w'' : World} (h : OnlyG G w w') (j : OnlyG G w' w'') : OnlyG G w w'' :=
  ⟨j.os.trans h.os, j.tape.trans h.tape, j.output.trans h.output, Nat.le_trans h.size j.size, fun b hb hn => (j.block b (Nat.lt_of_lt_of_le hb h.size) hn).trans (h.block b hb hn)⟩
theorem keeps_tr {w w' w'' : World} (h : Keeps w w') (j : Keeps w' w'') : Keeps w w'' := fun t ht b cs hc => by
  have h1 := h t ht b cs hc
  exact (j t ht b cs (h1.trans hc)).trans h1
theorem keeps_bel {w w' : World} (h : Below w.heap.size w w') : Keeps w w' := fun _ _ b _ hc => h.block b (lt_of_heap hc)
theorem NetAt.turnG {W W' : World} (a : NetAt wb n H V W) {G : Nat → Prop} (hG : ∀ g, G g → Off n H V g ∧ wb.heap.size ≤ g) (hk : Keeps W W') (o : OnlyG G W W') : NetAt wb n H V W' :=
  ⟨⟨o.os.trans a.bel.os, o.tape.trans a.bel.tape, o.output.trans a.bel.output, Nat.le_trans a.bel.size o.size, fun b hb => (o.block b (Nat.lt_of_lt_of_le hb a.bel.size) fun hg => by have := (hG b hg).2; omega).trans (a.bel.block b hb)⟩, fun i hi => (a.at_ i hi).keep (fun b hb => o.block b ((a.at_ i hi).lt hb) fun hg => (hG b hg).1 i hi hb) hk, a.low, a.apart⟩
theorem sc_tail {w w0 w5 w7 w8 w10 : World} {sb : Nat} {h' : PlH} {v' : PlV} {tv : Value} {xp : Option Addr} {rv : Value} {rs : List Raw} {U : List MsgV} {ta : Option Addr} {tc : Nat} {ws : List Int} {co : Array Value} {ro : Array Value} (b0 : Below w.heap.size w w0) (hlt : w.heap.size < w0.heap.size) (hsw : sb < w.heap.size) (hsl : wb.heap.size ≤ sb) (hwb : wb.heap.size ≤ w.heap.size) (hA : NetAt wb n (updP H p h') (updP V p v') w5) (hM : NetMv n w0 w5 H V (updP H p h') (updP V p v')) (hR : SentRow n (updP H p h') (updP V p v') w0.heap.size rv rs U w5) (os5 : Off n (updP H p h') (updP V p v') sb) (or5 : Off n (updP H p h') (updP V p v') w.heap.size) (s5 : SesBox w5 sb tv xp) (r5 : w5.heap[w.heap.size]? = some (.cells ro 47 (0, 0)))
    (hw7 : w7 = (w5.alloc (.cells co 47)).setCell ⟨sb, 1, none⟩ (.pointer none)) (hb8 : Below w7.heap.size w7 w8) (hT8 : IntsT w8 (.slice ta n tc) ws) (vs : List Value) (hw10 : w10 = (w8.setCell ⟨sb, 0, none⟩ (.slice ta n tc)).setCells w.heap.size 0 vs) :
    NetAt wb n (updP H p h') (updP V p v') w10 ∧ NetMs n sb w w10 H V (updP H p h') (updP V p v') ∧ SentRow n (updP H p h') (updP V p v') w.heap.size rv rs U w10 ∧ SesBox w10 sb (.slice ta n tc) none ∧ IntsT w10 (.slice ta n tc) ws := by
  have g5 : w5.heap.size = (w5.alloc (.cells co 47)).heap.size - 1 := by simp
  have hs5 := lt_of_heap s5
  have hr5 := lt_of_heap r5
  have s6 : SesBox (w5.alloc (.cells co 47)) sb tv xp := heap_old s5 _
  have s7 : w7.heap[sb]? = some (.cells #[tv, .pointer none] 60 (0, 0)) := by rw [hw7]; exact heap_set s6 _
  have s8 := (hb8.block _ (lt_of_heap s7)).trans s7
  have hne : sb ≠ w.heap.size := by omega
  have s9 : (w8.setCell ⟨sb, 0, none⟩ (.slice ta n tc)).heap[sb]? = some (.cells #[.slice ta n tc, .pointer none] 60 (0, 0)) := heap_set s8 _
  have r7 : w7.heap[w.heap.size]? = some (.cells ro 47 (0, 0)) := by rw [hw7]; exact (Below.heap_setCell _ _ _ _ (Ne.symm hne)).trans (heap_old r5 _)
  have r8 := (hb8.block _ (lt_of_heap r7)).trans r7
  have r9 : (w8.setCell ⟨sb, 0, none⟩ (.slice ta n tc)).heap[w.heap.size]? = some (.cells ro 47 (0, 0)) := (Below.heap_setCell _ _ _ _ (Ne.symm hne)).trans r8
  have o6 := below_alloc w5 (.cells co 47)
  have o7 : Only sb (w5.alloc (.cells co 47)) w7 := by rw [hw7]; exact (Only.of (Below.refl _ _)).set 1 _
  have o9 : Only sb w8 (w8.setCell ⟨sb, 0, none⟩ (.slice ta n tc)) := (Only.of (Below.refl _ _)).set 0 _
  have o10 : Only w.heap.size (w8.setCell ⟨sb, 0, none⟩ (.slice ta n tc)) w10 := by rw [hw10]; exact only_cells 0 vs
  have k9 : Keeps w8 (w8.setCell ⟨sb, 0, none⟩ (.slice ta n tc)) := keeps_only s8 (by decide) (by decide) (by decide) o9
  have k10 : Keeps (w8.setCell ⟨sb, 0, none⟩ (.slice ta n tc)) w10 := keeps_only r9 (by decide) (by decide) (by decide) o10
  have K : Keeps w5 w10 := keeps_tr (keeps_bel o6) (keeps_tr (keeps_only s6 (by decide) (by decide) (by decide) o7) (keeps_tr (keeps_bel hb8) (keeps_tr k9 k10)))
  have O : OnlyG (fun b => b = sb ∨ b = w.heap.size) w5 w10 := (OnlyG.of o6).trans ((o7.toG (.inl rfl)).trans ((OnlyG.of hb8).trans ((o9.toG (.inl rfl)).trans (o10.toG (.inr rfl)))))
  have m5 : NetMv n w w5 H V (updP H p h') (updP V p v') := (NetMv.below b0).trans hM
  refine ⟨hA.turnG (fun g hg => by rcases hg with rfl | rfl; exact ⟨os5, hsl⟩; exact ⟨or5, hwb⟩) K O, ⟨Nat.le_trans m5.size O.size, fun b hb hob => ?_, keeps_tr m5.keeps K, m5.pb⟩, ⟨?_, hR.off, f2_mono (fun _ _ q => q.kept K) hR.own⟩, (o10.block _ (by rw [show (w8.setCell ⟨sb, 0, none⟩ (.slice ta n tc)).heap.size = w8.heap.size by simp [World.setCell]]; exact lt_of_heap s8) hne).trans s9, intsT_keep hT8 (keep3_of (keeps_tr k9 k10))⟩
  · obtain ⟨q1, q2⟩ := m5.off b hb hob
    exact ⟨q1, fun hn => (O.block b (Nat.lt_of_lt_of_le hb m5.size) (by rintro (e | e) <;> omega)).trans q2⟩
  · exact owns_base (own_keep hR.row fun q hq => O.block q (hR.row.lt q hq).2 (by have := (hR.row.lt q hq).1; rintro (e | e) <;> omega)) (Nat.le_of_lt hlt)
set_option maxHeartbeats 16000000 in
theorem ses_commit (A : Nat → Addr) (w : World) (hS : Sen A wb.heap.size w) (a : NetAt wb n H V w) (hN : NetI n k C t [] H V) (k1 : 1 ≤ k) (k6 : k ≤ 6) (n6 : n ≤ 6) (ht : t ≤ 60) (hp : p < n) (sb xb ob : Nat) (tv : Value) (aa : Option Addr) (ac oc : Nat) (hs : SesBox w sb tv (some ⟨xb, 0, none⟩)) (h : TraBox w xb (H p).pb (.slice aa n ac) (.slice (some ⟨ob, 0, none⟩) 1 oc)) (hv : IntsAt w (.slice aa n ac) (snapV (V p))) (ho : OpsAt w (.slice (some ⟨ob, 0, none⟩) 1 oc) nOps) (hxo : Off n H V xb) (hso : Off n H V sb) (hsl : wb.heap.size ≤ sb) :
    Calls Tryz.prog 14 #[.pointer (some ⟨sb, 0, none⟩)] w (ScRet wb w n k t p n sb C H V) := by
  obtain ⟨w0, hw0⟩ : ∃ w0, w0 = w.alloc (.cells #[.slice none 0 0, .int .i64 0, .slice none 0 0] 47) := ⟨_, rfl⟩
  have b0 : Below w.heap.size w w0 := by rw [hw0]; exact below_alloc _ _
  have r0 : w0.heap[w.heap.size]? = some (.cells #[.slice none 0 0, .int .i64 0, .slice none 0 0] 47 (0, 0)) := by rw [hw0]; exact heap_new _ _
  have s0 : SesBox w0 sb tv (some ⟨xb, 0, none⟩) := (b0.block _ (lt_of_heap hs)).trans hs
  have tb : TraBox w0 xb (H p).pb (.slice aa n ac) (.slice (some ⟨ob, 0, none⟩) 1 oc) := (b0.block _ (lt_of_heap h)).trans h
  have hlt : w.heap.size < w0.heap.size := lt_of_heap r0
  have hlen : (nxt V p).when_.length = n := by
    have : (nxt V p).when_.length = (snapV (V p)).length := List.length_set
    rw [this, snapV_len, hN.vn p hp]
  have K20 := hid (open_yes w0 sb tv _ s0)
  have K35 := hid (tra_commit A w0 (hS.below (b0.mono hS.size)) (a.below b0) hN k1 k6 n6 ht hp xb ob aa n ac oc tb (hv.mono b0 (Nat.le_refl _)) (ho.mono b0 (Nat.le_refl _)) hxo)
  have t1 : w0.cell? ⟨sb, 1, none⟩ = some (.pointer (some ⟨xb, 0, none⟩)) := (cell_of s0).trans rfl
  have S0 := hid s0
  have R0 := hid r0
  have B0 := hid b0
  have OR : Hid (Off n H V w.heap.size) := (show Off _ _ _ _ from a.off_ge (Nat.le_refl _))
  have hsw : sb < w.heap.size := lt_of_heap hs
  have HWB : Hid (wb.heap.size ≤ w.heap.size) := (show _ ≤ _ from a.bel.size)
  have OS := hid hso
  clear hs h tb s0 r0 b0 hv ho hxo hS a hN hso
  go_enter Tryz.func14, Tryz.ntmps14
  go_upto_region 1 with (fail)
  rw [← hw0]
  clear hw0
  go_wp2_with (go_at_call 20; refine K20.out.mono ?_; rintro e w' ⟨rfl, hw'⟩; rw [hw']; clear hw')
  refine K35.out.mono ?_
  rintro e w5 ⟨h', v', a3, a4, c3, c4, la, lc, rs, U, rfl, hA, hI, hM, hR, hT⟩
  have s5 : SesBox w5 sb tv (some ⟨xb, 0, none⟩) := (hM.off sb (Nat.lt_trans hsw hlt) OS.out).2.trans S0.out
  obtain ⟨os5, _⟩ := hM.off sb (Nat.lt_trans hsw hlt) OS.out
  have r5 := (hM.off _ hlt OR.out).2.trans R0.out
  obtain ⟨or5, _⟩ := hM.off _ hlt OR.out
  obtain ⟨w6, hw6⟩ : ∃ w6, w6 = w5.alloc (.cells #[.slice a3 n c3, .int .i64 p, .slice a4 1 c4] 47) := ⟨_, rfl⟩
  obtain ⟨cb, hcb⟩ : ∃ cb, cb = w5.heap.size := ⟨_, rfl⟩
  have d1 : w5.cell? ⟨sb, 1, none⟩ = some (.pointer (some ⟨xb, 0, none⟩)) := (cell_of s5).trans rfl
  have d1a := fun o => cell_alloc d1 o
  have d1f : ∀ o, (w5.alloc o).frozen? ⟨sb, 1, none⟩ = false := fun o => by simp only [World.frozen?, heap_old s5 o]; simp
  obtain ⟨w7, hw7⟩ : ∃ w7, w7 = (w5.alloc (.cells #[.slice a3 n c3, .int .i64 p, .slice a4 1 c4] 47)).setCell ⟨sb, 1, none⟩ (.pointer none) := ⟨_, rfl⟩
  have hsw5 : sb < w5.heap.size := lt_of_heap s5
  have s7 : w7.heap[sb]? = some (.cells #[tv, .pointer none] 60 (0, 0)) := by rw [hw7]; exact heap_set (heap_old s5 _) _
  have c7 : w7.heap[cb]? = some (.cells #[.slice a3 n c3, .int .i64 p, .slice a4 1 c4] 47 (0, 0)) := by rw [hw7, hcb]; exact (Below.heap_setCell _ _ _ _ (by show w5.heap.size ≠ sb; omega)).trans (heap_new _ _)
  have r7 : w7.heap[w.heap.size]? = some (.cells #[.slice none 0 0, .int .i64 0, .slice none 0 0] 47 (0, 0)) := by rw [hw7]; exact (Below.heap_setCell _ _ _ _ (by show w.heap.size ≠ sb; omega)).trans (heap_old r5 _)
  have hT7 : IntsT w7 (.slice a3 n c3) (nxt V p).when_ := intsT_keep hT (keep3_of (by rw [hw7]; exact keeps_tr (keeps_bel (below_alloc _ _)) (keeps_only (heap_old s5 _) (by decide) (by decide) (by decide) ((Only.of (Below.refl _ _)).set 1 _))))
  have hcr : cb ≠ w.heap.size := by have := lt_of_heap r5; omega
  have hcs : cb ≠ sb := by omega
  clear hsw5
  go_wp2_with (fail)
  rw [← hw7]
  refine (clone_ints w7 (.slice a3 n c3) (nxt V p).when_ hT7.at (by omega)).mono ?_
  rw [hlen]
  rintro e w8 ⟨ta, tc, rfl, hT8, hb8⟩
  have s8 := (hb8.block _ (lt_of_heap s7)).trans s7
  have c8 := (hb8.block _ (lt_of_heap c7)).trans c7
  have r8 := (hb8.block _ (lt_of_heap r7)).trans r7
  have e0 : w8.cell? ⟨sb, 0, none⟩ = some tv := (cell_of s8).trans rfl
  have e0f : w8.frozen? ⟨sb, 0, none⟩ = false := by simp only [World.frozen?, s8]; simp
  obtain ⟨w9, hw9⟩ : ∃ w9, w9 = w8.setCell ⟨sb, 0, none⟩ (.slice ta n tc) := ⟨_, rfl⟩
  have c9 : w9.heap[cb]? = some (.cells #[.slice a3 n c3, .int .i64 p, .slice a4 1 c4] 47 (0, 0)) := by rw [hw9]; exact (Below.heap_setCell _ _ _ _ hcs).trans c8
  have r9 : w9.heap[w.heap.size]? = some (.cells #[.slice none 0 0, .int .i64 0, .slice none 0 0] 47 (0, 0)) := by rw [hw9]; exact (Below.heap_setCell _ _ _ _ (by show w.heap.size ≠ sb; omega)).trans r8
  have f0 : w9.cell? ⟨cb, 0, none⟩ = some (.slice a3 n c3) := (cell_of c9).trans rfl
  have f1 : w9.cell? ⟨cb, 1, none⟩ = some (.int .i64 p) := (cell_of c9).trans rfl
  have f2 : w9.cell? ⟨cb, 2, none⟩ = some (.slice a4 1 c4) := (cell_of c9).trans rfl
  have T10 := hid (sc_tail B0.out hlt hsw hsl HWB.out hA hM hR os5 or5 s5 r5 hw7 hb8 hT8 [.slice a3 n c3, .int .i64 p, .slice a4 1 c4] rfl)
  rw [← hw9] at T10
  have R9 := hid (row3Y r9)
  have G9 := hid (set3Y r9 (.slice a3 n c3) (.int .i64 p) (.slice a4 1 c4))
  have HI := hid hI
  clear hw7 hb8 hT8 s7 s8 c7 c8 r7 r8 c9 r9 hT7 hT hA hM hR os5 or5 s5 r5 hw6 d1 d1a d1f hI K20 K35 S0 R0 B0 OR OS t1
  go_upto_region 8 with (fail)
  rw [← hw9, ← hcb]
  clear hw9 hcb e0 e0f
  go_wp2_with (refine wpList_store_k _ rfl (.tmp 2) (.tmp 35) 47 rfl w.heap.size 0 [.slice a3 n c3, .int .i64 p, .slice a4 1 c4] rfl rfl 3 rfl Tryz.sizeOf47 rfl _ ?hW R9.out.1 R9.out.2 ?_; case hW => rfl)
  exact bodyPost_ret (ret_cell_tmp2 (k := 3) Tryz.results14 Tryz.isAgg47 Tryz.sizeOf47 _ _ w.heap.size [.slice a3 n c3, .int .i64 p, .slice a4 1 c4] (.slice la rs.length lc) .nilIface rfl rfl rfl rfl (cells_heap (t := 47) _ G9.out)) rfl ⟨⟨h', v', a3, a4, n, c3, 1, c4, la, lc, rs, U, ta, tc, rfl, T10.out.1, HI.out, T10.out.2.1, T10.out.2.2.1, T10.out.2.2.2.1, T10.out.2.2.2.2⟩⟩
end Go.Proofs.YtepnghacjggkkaaGreatDoor
namespace Go.Proofs.YtepnghacjggkkaaGreatDoor
open Go.RowKit Go.Maps
set_option maxRecDepth 100000
set_option linter.unusedSectionVars false
variable [Inhabited ComV] [DecidableEq D3] [Inhabited D3] [Inhabited Dd] [Inhabited Dn] [Inhabited OpV]

set_option maxHeartbeats 2000000 in
theorem sameKind (w : World) (vb : Nat) (y1 : Int) (y2 : ByteArray) (y3 : Int) (y4 : ByteArray) (y5 : Int) (y6 : Bool) (dv : Value) (hd : ∃ a n c, dv = .slice a n c) (h : w.cell? ⟨vb, 0, none⟩ = some (.int .i64 y3)) : Calls Tryz.prog 55 #[.agg #[.int .i64 y1, .string y2, .int .i64 y3, .string y4, .int .i64 y5, .bool y6, dv], .pointer (some ⟨vb, 0, none⟩)] w fun e w' => e = .returned (.bool false) ∧ Below w.heap.size w w' := by
  obtain ⟨da, dn, dc, rfl⟩ := hd
  have hn : vb ≠ w.heap.size := Nat.ne_of_lt (lt_of_cell h)
  have h1 := fun o => cell_alloc h o
  go_enter Tryz.func55, Tryz.ntmps55
  go_wp2
  go_ret
  exact ⟨by simp, below_alloc _ _⟩
set_option maxHeartbeats 2000000 in
theorem indexFunc_keep (w : World) (vb ob oc : Nat) (y1 : Int) (y2 : ByteArray) (y3 : Int) (y4 : ByteArray) (y5 : Int) (y6 : Bool) (da : Option Addr) (dn dc : Nat) (ho : ∀ j u, [Value.int .i64 y1, .string y2, .int .i64 y3, .string y4, .int .i64 y5, .bool y6, .slice da dn dc][j]? = some u → w.cell? ⟨ob, j, none⟩ = some u) (h : w.cell? ⟨vb, 0, none⟩ = some (.int .i64 y3)) : Calls Tryz.prog 80 #[.slice (some ⟨ob, 0, none⟩) 1 oc, .func (.func 55) #[] #[.pointer (some ⟨vb, 0, none⟩)]] w fun e w' => e = .returned (.int .i64 (-1)) ∧ Below w.heap.size w w' := by
  have q0 : w.cell? ⟨ob, 0, none⟩ = some (.int .i64 y1) := ho 0 _ rfl
  have q1 := ho 1 _ rfl
  have q2 := ho 2 _ rfl
  have q3 := ho 3 _ rfl
  have q4 := ho 4 _ rfl
  have q5 := ho 5 _ rfl
  have q6 := ho 6 _ rfl
  have K := hid (sameKind w vb y1 y2 y3 y4 y5 y6 (.slice da dn dc) ⟨_, _, _, rfl⟩ h)
  clear ho h
  go_enter Tryz.func80, Tryz.ntmps80
  go_wp2
  refine wp_loop_rounds 2 ?_
  rw [rounds_succ]
  go_wp2_with (go_at_call 55; refine K.out.mono ?_; rintro e w1 ⟨rfl, hb1⟩)
  rw [rounds_succ]
  go_wp2
  go_ret
  exact ⟨rfl, hb1⟩
set_option maxHeartbeats 2000000 in
theorem deleteFunc_keep (w : World) (vb ob oc : Nat) (y1 : Int) (y2 : ByteArray) (y3 : Int) (y4 : ByteArray) (y5 : Int) (y6 : Bool) (da : Option Addr) (dn dc : Nat) (ho : ∀ j u, [Value.int .i64 y1, .string y2, .int .i64 y3, .string y4, .int .i64 y5, .bool y6, .slice da dn dc][j]? = some u → w.cell? ⟨ob, j, none⟩ = some u) (h : w.cell? ⟨vb, 0, none⟩ = some (.int .i64 y3)) : Calls Tryz.prog 54 #[.slice (some ⟨ob, 0, none⟩) 1 oc, .func (.func 55) #[] #[.pointer (some ⟨vb, 0, none⟩)]] w fun e w' => e = .returned (.slice (some ⟨ob, 0, none⟩) 1 oc) ∧ Below w.heap.size w w' := by
  have K := hid (indexFunc_keep w vb ob oc y1 y2 y3 y4 y5 y6 da dn dc ho h)
  clear ho h
  go_enter Tryz.func54, Tryz.ntmps54
  go_wp2_with (go_at_call 80; refine K.out.mono ?_; rintro e w1 ⟨rfl, hb1⟩)
  go_ret
  exact ⟨rfl, hb1⟩
set_option maxHeartbeats 2000000 in
theorem deleteFunc_nil (w : World) (fv : Value) : Calls Tryz.prog 54 #[.slice none 0 0, fv] w fun e w' => e = .returned (.slice none 0 0) ∧ w' = w := by
  have K : Hid (Calls Tryz.prog 80 #[.slice none 0 0, fv] w fun e w' => e = .returned (.int .i64 (-1)) ∧ w' = w) := (show Calls _ _ _ _ _ from by
    go_enter Tryz.func80, Tryz.ntmps80
    go_wp2
    refine wp_loop_rounds 1 ?_
    rw [rounds_succ]
    go_wp2
    go_ret
    exact ⟨rfl, rfl⟩)
  go_enter Tryz.func54, Tryz.ntmps54
  go_wp2_with (go_at_call 80; refine K.out.mono ?_; rintro e w1 ⟨rfl, hw1⟩; rw [hw1]; clear hw1)
  go_ret
  exact ⟨rfl, rfl⟩
end Go.Proofs.YtepnghacjggkkaaGreatDoor
namespace Go.Proofs.YtepnghacjggkkaaGreatDoor
open Go.RowKit Go.Maps
set_option maxRecDepth 100000
set_option linter.unusedSectionVars false
variable [Inhabited ComV] [DecidableEq D3] [Inhabited D3] [Inhabited Dd] [Inhabited Dn] [Inhabited OpV]

theorem fill4 {w : World} {g : Nat} {a b c d : Value} {t : TypeId} (h : w.heap[g]? = some (.cells #[a, b, c, d] t (0, 0))) (v0 v1 v2 v3 : Value) :
    ((((w.setCell ⟨g, 0, none⟩ v0).setCell ⟨g, 1, none⟩ v1).setCell ⟨g, 2, none⟩ v2).setCell ⟨g, 3, none⟩ v3).heap[g]? = some (.cells #[v0, v1, v2, v3] t (0, 0)) ∧
    ∀ (B : Nat) (w0 : World), Below B w0 w → B ≤ g → Below B w0 ((((w.setCell ⟨g, 0, none⟩ v0).setCell ⟨g, 1, none⟩ v1).setCell ⟨g, 2, none⟩ v2).setCell ⟨g, 3, none⟩ v3) := by
  refine ⟨?_, fun B w0 hb hB => (((hb.setCell hB _).setCell hB _).setCell hB _).setCell hB _⟩
  rw [heap_set (heap_set (heap_set (heap_set h v0) v1) v2) v3]
  rfl
theorem keep4 {w : World} {g ab j : Nat} {v0 v1 v2 v3 x : Value} (hne : ab ≠ g) (h1 : w.cell? ⟨ab, j, none⟩ = some x) :
    ((((w.setCell ⟨g, 0, none⟩ v0).setCell ⟨g, 1, none⟩ v1).setCell ⟨g, 2, none⟩ v2).setCell ⟨g, 3, none⟩ v3).cell? ⟨ab, j, none⟩ = some x := by
  have h : ((((w.setCell ⟨g, 0, none⟩ v0).setCell ⟨g, 1, none⟩ v1).setCell ⟨g, 2, none⟩ v2).setCell ⟨g, 3, none⟩ v3).heap[ab]? = w.heap[ab]? := by
    rw [Below.heap_setCell _ _ _ _ hne, Below.heap_setCell _ _ _ _ hne, Below.heap_setCell _ _ _ _ hne, Below.heap_setCell _ _ _ _ hne]
  exact (World.cell?_of_block (a := ⟨ab, j, none⟩) h).trans h1
def ReadRet (k0 n0 : Int) (Q : ByteArray → Prop) (w : World) (e : Ending) (w' : World) : Prop := ∃ (t0 : ByteArray) (sa : Option Addr) (sn sc : Nat), Q t0 ∧ e = .returned (.tuple #[.agg #[.int .i64 k0, .string t0, .int .i64 n0, .slice sa sn sc], .nilIface]) ∧ Below w.heap.size w w'
set_option maxHeartbeats 8000000 in
theorem value_none (w : World) (xb pb : Nat) (aa : Option Addr) (an ac : Nat) (key : ByteArray) (k0 : Int) (n0 : Int) (Q : ByteArray → Prop) (h : TraBox w xb pb (.slice aa an ac) (.slice none 0 0)) (K52 : ∀ W, Below w.heap.size w W → Calls Tryz.prog 52 #[.pointer (some ⟨pb, 0, none⟩), .string key, .slice aa an ac] W (ReadRet k0 n0 Q W)) : Calls Tryz.prog 33 #[.pointer (some ⟨xb, 0, none⟩), .string key] w (ReadRet k0 n0 Q w) := by
  obtain ⟨w0, hw0⟩ : ∃ w0, w0 = w.alloc (.cells #[.int .i64 0, .string ⟨#[]⟩, .int .i64 0, .slice none 0 0] 41) := ⟨_, rfl⟩
  have b0 : Below w.heap.size w w0 := by rw [hw0]; exact below_alloc _ _
  have r0 : w0.heap[w.heap.size]? = some (.cells #[.int .i64 0, .string ⟨#[]⟩, .int .i64 0, .slice none 0 0] 41 (0, 0)) := by rw [hw0]; exact heap_new _ _
  have tb : TraBox w0 xb pb (.slice aa an ac) (.slice none 0 0) := (b0.block _ (lt_of_heap h)).trans h
  have t0' : w0.cell? ⟨xb, 0, none⟩ = some (.pointer (some ⟨pb, 0, none⟩)) := (cell_of tb).trans rfl
  have t1' : w0.cell? ⟨xb, 1, none⟩ = some (.slice aa an ac) := (cell_of tb).trans rfl
  have TB := hid tb
  have R0 := hid r0
  have B0 := hid b0
  have hx0 : xb < w0.heap.size := lt_of_heap tb
  have hxr : xb ≠ w0.heap.size := by omega
  have HK : Hid (∀ W, Below w0.heap.size w0 W → Calls Tryz.prog 52 #[.pointer (some ⟨pb, 0, none⟩), .string key, .slice aa an ac] W (ReadRet k0 n0 Q W)) := (show ∀ W, _ → _ from fun W hW => K52 W (b0.trans (hW.mono b0.size)))
  have hwr : w.heap.size < w0.heap.size := lt_of_heap r0
  have BD : Hid (Below w0.heap.size w0 w0.drew) := (show Below _ _ _ from (Below.refl w0.heap.size w0).drew)
  have BA : Hid (Below w0.heap.size w0 (w0.alloc (.cells #[.int .i64 0, .string ⟨#[]⟩, .int .i64 0, .slice none 0 0] 41)).drew) := (show Below _ _ _ from (below_alloc w0 _).drew)
  have HA0 : Hid (w0.heap.size < (w0.alloc (.cells #[.int .i64 0, .string ⟨#[]⟩, .int .i64 0, .slice none 0 0] 41)).drew.heap.size) := (show _ < _ from lt_of_heap (heap_new w0 _))
  have HA1 : Hid ((w0.alloc (.cells #[.int .i64 0, .string ⟨#[]⟩, .int .i64 0, .slice none 0 0] 41)).drew.heap[w0.heap.size]? = some (.cells #[.int .i64 0, .string ⟨#[]⟩, .int .i64 0, .slice none 0 0] 41 (0, 0))) := (show _ = _ from heap_new w0 _)
  clear h K52 tb r0 b0
  go_enter Tryz.func33, Tryz.ntmps33
  go_upto_region 1 with (fail)
  rw [← hw0]
  clear hw0
  go_cut [6, 7] (fun vp er wx => ∃ (vb : Nat) (t0 : ByteArray) (sa : Option Addr) (sn sc : Nat), vp = .pointer (some ⟨vb, 0, none⟩) ∧ er = .nilIface ∧ w0.heap.size ≤ vb ∧ Hid (Q t0) ∧ Hid (wx.heap[vb]? = some (.cells #[.int .i64 k0, .string t0, .int .i64 n0, .slice sa sn sc] 41 (0, 0))) ∧ Hid (Below w0.heap.size w0 wx))
  case first =>
    go_region_held (fun u => u.cell? ⟨xb, 0, none⟩ = some (.pointer (some ⟨pb, 0, none⟩)) ∧ u.cell? ⟨xb, 1, none⟩ = some (.slice aa an ac)) (first | (refine ⟨?_, ?_⟩ <;> (with_reducible refine keep4 ?_ ?_ <;> with_reducible assumption)) | exact ⟨q0, q1⟩ | go_keep) (first | (go_at_call 52; (with_reducible refine (HK.out w0.drew ?hb).mono ?_); (case hb => exact BD.out); rintro e w6 ⟨t0, sa, sn, sc, hQ, rfl, hb6⟩; have HQ := hid hQ; clear hQ; have hb6' : Below w0.heap.size w0 w6 := (BD.out).trans (hb6.mono (BD.out).size); have q0 := (hb6'.cell (p := ⟨xb, 0, none⟩) hx0).trans t0'; have q1 := (hb6'.cell (p := ⟨xb, 1, none⟩) hx0).trans t1'; have HB6 := hid hb6'; clear hb6 hb6') | (go_at_call 52; (with_reducible refine (HK.out (w0.alloc (.cells #[.int .i64 0, .string ⟨#[]⟩, .int .i64 0, .slice none 0 0] 41)).drew ?hb).mono ?_); (case hb => exact BA.out); rintro e w6 ⟨t0, sa, sn, sc, hQ, rfl, hb6⟩; have HQ := hid hQ; clear hQ; have hb6' : Below w0.heap.size w0 w6 := (BA.out).trans (hb6.mono (BA.out).size); have q0 := (hb6'.cell (p := ⟨xb, 0, none⟩) hx0).trans t0'; have q1 := (hb6'.cell (p := ⟨xb, 1, none⟩) hx0).trans t1'; have hz6 : w6.heap[w0.heap.size]? = some (.cells #[.int .i64 0, .string ⟨#[]⟩, .int .i64 0, .slice none 0 0] 41 (0, 0)) := (hb6.block _ (HA0.out)).trans HA1.out; have z0 : w6.cell? ⟨w0.heap.size, 0, none⟩ = some (.int .i64 0) := (by simp only [World.cell?, hz6]; rfl); have z1 : w6.cell? ⟨w0.heap.size, 1, none⟩ = some (.string ⟨#[]⟩) := (by simp only [World.cell?, hz6]; rfl); have z2 : w6.cell? ⟨w0.heap.size, 2, none⟩ = some (.int .i64 0) := (by simp only [World.cell?, hz6]; rfl); have z3 : w6.cell? ⟨w0.heap.size, 3, none⟩ = some (.slice none 0 0) := (by simp only [World.cell?, hz6]; rfl); have zf : ∀ j, w6.frozen? ⟨w0.heap.size, j, none⟩ = false := (fun j => by simp only [World.frozen?, hz6]; simp); have HB6 := hid hb6'; clear hb6 hb6'))
    all_goals clear HK
    · go_wp2_with fail
      obtain ⟨wn, hwn⟩ : ∃ wn, wn = w6.alloc (.cells #[.int .i64 k0, .string t0, .int .i64 n0, .slice sa sn sc] 41) := ⟨_, rfl⟩
      have F1 : Hid (wn.heap[w6.heap.size]? = some (.cells #[.int .i64 k0, .string t0, .int .i64 n0, .slice sa sn sc] 41 (0, 0))) := (show _ = _ from by rw [hwn]; exact (MapKept.heap_alloc _ _).1)
      have F3 : Hid (Below w0.heap.size w0 wn) := (show Below _ _ _ from by rw [hwn]; exact HB6.out.alloc HB6.out.size _)
      rw [← hwn]
      clear hwn
      go_meet
      exact ⟨w6.heap.size, t0, sa, sn, sc, rfl, rfl, HB6.out.size, HQ, F1, F3⟩
    · go_wp2_with fail
      obtain ⟨wn, hwn⟩ : ∃ wn, wn = ((((w6.setCell ⟨w0.heap.size, 0, none⟩ (.int .i64 k0)).setCell ⟨w0.heap.size, 1, none⟩ (.string t0)).setCell ⟨w0.heap.size, 2, none⟩ (.int .i64 n0)).setCell ⟨w0.heap.size, 3, none⟩ (.slice sa sn sc)) := ⟨_, rfl⟩
      have F1 : Hid (wn.heap[w0.heap.size]? = some (.cells #[.int .i64 k0, .string t0, .int .i64 n0, .slice sa sn sc] 41 (0, 0))) := (show _ = _ from by rw [hwn]; exact (fill4 hz6 _ _ _ _).1)
      have F3 : Hid (Below w0.heap.size w0 wn) := (show Below _ _ _ from by rw [hwn]; exact (fill4 hz6 _ _ _ _).2 _ _ HB6.out (Nat.le_refl _))
      rw [← hwn]
      clear hwn
      go_meet
      exact ⟨w0.heap.size, t0, sa, sn, sc, rfl, rfl, Nat.le_refl _, HQ, F1, F3⟩
  case rest =>
    obtain ⟨vb, t0, sa, sn, sc, rfl, rfl, hvb, HQ, HV, HB⟩ := hcut
    have K53 := hid (opsOn_nil wc xb pb (.slice aa an ac) key ((HB.out.block _ hx0).trans TB.out))
    clear HK t0' t1' BD BA HA0 HA1
    have x0 : wc.cell? ⟨vb, 0, none⟩ = some (.int .i64 k0) := (cell_of HV.out).trans rfl
    rcases (by by_cases e : k0 = 0 <;> simp [e] : (k0 == 0) = true ∨ (k0 == 0) = false) with hk | hk <;>
      (go_wp2_with (go_at_call 53; refine K53.out.mono ?_; rintro e w5 ⟨rfl, hb5⟩; have hv5 := (hb5.block _ (lt_of_heap HV.out)).trans HV.out; have hr5 := (hb5.block _ (Nat.lt_of_lt_of_le hwr HB.out.size)).trans ((HB.out.block _ hwr).trans R0.out); have y0 : w5.cell? ⟨vb, 0, none⟩ = some (.int .i64 k0) := (cell_of hv5).trans rfl; have y1 : w5.cell? ⟨vb, 1, none⟩ = some (.string t0) := (cell_of hv5).trans rfl; have y2 : w5.cell? ⟨vb, 2, none⟩ = some (.int .i64 n0) := (cell_of hv5).trans rfl; have y3 : w5.cell? ⟨vb, 3, none⟩ = some (.slice sa sn sc) := (cell_of hv5).trans rfl; have R5 := hid (row4 hr5); have S5 := hid (set4 hr5 [.int .i64 k0, .string t0, .int .i64 n0, .slice sa sn sc] rfl); have B5 := hid (B0.out.trans ((HB.out.trans (hb5.mono HB.out.size)).mono B0.out.size)); clear hb5 hv5 hr5)
       refine (deleteFunc_nil _ _).mono ?_
       rintro e w' ⟨rfl, hw'⟩
       rw [hw']
       clear hw'
       go_wp2_with (refine wpList_store_k _ rfl (.tmp 4) (.tmp 50) 41 rfl w.heap.size 0 [.int .i64 k0, .string t0, .int .i64 n0, .slice sa sn sc] rfl rfl 4 rfl Tryz.sizeOf41 rfl _ ?hW R5.out.1 R5.out.2 ?_; case hW => rfl)
       exact bodyPost_ret (ret_cell_tmp (k := 4) Tryz.results33 Tryz.isAgg41 Tryz.sizeOf41 _ _ w.heap.size [.int .i64 k0, .string t0, .int .i64 n0, .slice sa sn sc] _ rfl rfl rfl S5.out) rfl ⟨t0, sa, sn, sc, HQ.out, rfl, below_setCells (Nat.le_refl _) _ _ B5.out⟩)
end Go.Proofs.YtepnghacjggkkaaGreatDoor
