/- A session commits: its token is what it committed; A session commits whatever ops it has; it aborts. -/
import Derived.Test.YtepnghacjggkkaaGreatDoorGKT
import Derived.Test.YtepnghacjggkkaaGreatDoorGWSmall
import Derived.Deep.RegionHeld
import Derived.Deep.DeepCutAuto
import Derived.Deep.CutBlock
namespace Go.Proofs.YtepnghacjggkkaaGreatDoor
open Go.RowKit Go.Maps
set_option maxRecDepth 100000
set_option linter.unusedSectionVars false
variable [Inhabited ComV] [DecidableEq D3] [Inhabited D3] [Inhabited Dd] [Inhabited Dn] [Inhabited OpV]

structure NetMs (n sb : Nat) (W W' : World) (H : Nat → PlH) (V : Nat → PlV) (H' : Nat → PlH) (V' : Nat → PlV) : Prop where
  size : W.heap.size ≤ W'.heap.size
  off : ∀ b, b < W.heap.size → Off n H V b → Off n H' V' b ∧ (b ≠ sb → W'.heap[b]? = W.heap[b]?)
  keeps : Keeps W W'
  pb : ∀ i, i < n → (H' i).pb = (H i).pb
structure ScRet (wb w : World) (n k t p an sb : Nat) (C : List ComV) (H : Nat → PlH) (V : Nat → PlV) (e : Ending) (w' : World) : Prop where
  ret : ∃ (h' : PlH) (v' : PlV) (a3 a4 : Option Addr) (n3 c3 n4 c4 : Nat) (la : Option Addr) (lc : Nat) (rs : List Raw) (U : List MsgV) (ta : Option Addr) (tc : Nat), e = .returned (.tuple #[.agg #[.slice a3 n3 c3, .int .i64 p, .slice a4 n4 c4], .slice la rs.length lc, .nilIface]) ∧ NetAt wb n (updP H p h') (updP V p v') w' ∧ NetI n k (C ++ [nxt V p]) (t + 1) U (updP H p h') (updP V p v') ∧ NetMs n sb w w' H V (updP H p h') (updP V p v') ∧ SentRow n (updP H p h') (updP V p v') w.heap.size (.slice la rs.length lc) rs U w' ∧ SesBox w' sb (.slice ta an tc) none ∧ IntsT w' (.slice ta an tc) (nxt V p).when_
variable {wb : World} {n k t p : Nat} {C : List ComV} {H : Nat → PlH} {V : Nat → PlV}
structure OnlyG (G : Nat → Prop) (w w' : World) : Prop where
  os : w'.os = w.os
  tape : w'.tape = w.tape
  output : w'.output = w.output
  size : w.heap.size ≤ w'.heap.size
  block : ∀ b, b < w.heap.size → ¬ G b → w'.heap[b]? = w.heap[b]?
theorem Only.toG {G : Nat → Prop} {g : Nat} {w w' : World} (h : Only g w w') (hg : G g) : OnlyG G w w' := ⟨h.os, h.tape, h.output, h.size, fun b hb hn => h.block b hb fun e => hn (e ▸ hg)⟩
theorem OnlyG.of {G : Nat → Prop} {w w' : World} (h : Below w.heap.size w w') : OnlyG G w w' := ⟨h.os, h.tape, h.output, h.size, fun b hb _ => h.block b hb⟩
theorem OnlyG.trans {G : Nat → Prop} {w w' w'' : World} (h : OnlyG G w w') (j : OnlyG G w' w'') : OnlyG G w w'' :=
  ⟨j.os.trans h.os, j.tape.trans h.tape, j.output.trans h.output, Nat.le_trans h.size j.size, fun b hb hn => (j.block b (Nat.lt_of_lt_of_le hb h.size) hn).trans (h.block b hb hn)⟩
theorem keeps_tr {w w' w'' : World} (h : Keeps w w') (j : Keeps w' w'') : Keeps w w'' := fun t ht b cs hc => by
  have h1 := h t ht b cs hc
  exact (j t ht b cs (h1.trans hc)).trans h1
theorem keeps_bel {w w' : World} (h : Below w.heap.size w w') : Keeps w w' := fun _ _ b _ hc => h.block b (lt_of_heap hc)
theorem NetAt.turnG {W W' : World} (a : NetAt wb n H V W) {G : Nat → Prop} (hG : ∀ g, G g → Off n H V g ∧ wb.heap.size ≤ g) (hk : Keeps W W') (o : OnlyG G W W') : NetAt wb n H V W' :=
  ⟨⟨o.os.trans a.bel.os, o.tape.trans a.bel.tape, o.output.trans a.bel.output, Nat.le_trans a.bel.size o.size, fun b hb => (o.block b (Nat.lt_of_lt_of_le hb a.bel.size) fun hg => by have := (hG b hg).2; omega).trans (a.bel.block b hb)⟩, fun i hi => (a.at_ i hi).keep (fun b hb => o.block b ((a.at_ i hi).lt hb) fun hg => (hG b hg).1 i hi hb) hk, a.low, a.apart⟩
theorem sc_tail {w w0 w5 w7 w8 w10 : World} {sb : Nat} {h' : PlH} {v' : PlV} {tv : Value} {xp : Option Addr} {rv : Value} {rs : List Raw} {U : List MsgV} {ta : Option Addr} {tc : Nat} {ws : List Int} {co : Array Value} {ro : Array Value} (b0 : Below w.heap.size w w0) (hlt : w.heap.size < w0.heap.size) (hsw : sb < w.heap.size) (hsl : wb.heap.size ≤ sb) (hwb : wb.heap.size ≤ w.heap.size) (hA : NetAt wb n (updP H p h') (updP V p v') w5) (hM : NetMv n w0 w5 H V (updP H p h') (updP V p v')) (hR : SentRow n (updP H p h') (updP V p v') w0.heap.size rv rs U w5) (os5 : Off n (updP H p h') (updP V p v') sb) (or5 : Off n (updP H p h') (updP V p v') w.heap.size) (s5 : SesBox w5 sb tv xp) (r5 : w5.heap[w.heap.size]? = some (.cells ro 47 (0, 0)))
    (hw7 : w7 = (w5.alloc (.cells co 47)).setCell ⟨sb, 1, none⟩ (.pointer none)) (hb8 : Below w7.heap.size w7 w8) (hT8 : IntsT w8 (.slice ta n tc) ws) (vs : List Value) (hw10 : w10 = (w8.setCell ⟨sb, 0, none⟩ (.slice ta n tc)).setCells w.heap.size 0 vs) :
    NetAt wb n (updP H p h') (updP V p v') w10 ∧ NetMs n sb w w10 H V (updP H p h') (updP V p v') ∧ SentRow n (updP H p h') (updP V p v') w.heap.size rv rs U w10 ∧ SesBox w10 sb (.slice ta n tc) none ∧ IntsT w10 (.slice ta n tc) ws := by
  have g5 : w5.heap.size = (w5.alloc (.cells co 47)).heap.size - 1 := by simp
  have hs5 := lt_of_heap s5
  have hr5 := lt_of_heap r5
  have s6 : SesBox (w5.alloc (.cells co 47)) sb tv xp := heap_old s5 _
  have s7 : w7.heap[sb]? = some (.cells #[tv, .pointer none] 60 (0, 0)) := by rw [hw7]; exact heap_set s6 _
  have s8 := (hb8.block _ (lt_of_heap s7)).trans s7
  have hne : sb ≠ w.heap.size := by omega
  have s9 : (w8.setCell ⟨sb, 0, none⟩ (.slice ta n tc)).heap[sb]? = some (.cells #[.slice ta n tc, .pointer none] 60 (0, 0)) := heap_set s8 _
  have r7 : w7.heap[w.heap.size]? = some (.cells ro 47 (0, 0)) := by rw [hw7]; exact (Below.heap_setCell _ _ _ _ (Ne.symm hne)).trans (heap_old r5 _)
  have r8 := (hb8.block _ (lt_of_heap r7)).trans r7
  have r9 : (w8.setCell ⟨sb, 0, none⟩ (.slice ta n tc)).heap[w.heap.size]? = some (.cells ro 47 (0, 0)) := (Below.heap_setCell _ _ _ _ (Ne.symm hne)).trans r8
  have o6 := below_alloc w5 (.cells co 47)
  have o7 : Only sb (w5.alloc (.cells co 47)) w7 := by rw [hw7]; exact (Only.of (Below.refl _ _)).set 1 _
  have o9 : Only sb w8 (w8.setCell ⟨sb, 0, none⟩ (.slice ta n tc)) := (Only.of (Below.refl _ _)).set 0 _
  have o10 : Only w.heap.size (w8.setCell ⟨sb, 0, none⟩ (.slice ta n tc)) w10 := by rw [hw10]; exact only_cells 0 vs
  have k9 : Keeps w8 (w8.setCell ⟨sb, 0, none⟩ (.slice ta n tc)) := keeps_only s8 (by decide) (by decide) (by decide) o9
  have k10 : Keeps (w8.setCell ⟨sb, 0, none⟩ (.slice ta n tc)) w10 := keeps_only r9 (by decide) (by decide) (by decide) o10
  have K : Keeps w5 w10 := keeps_tr (keeps_bel o6) (keeps_tr (keeps_only s6 (by decide) (by decide) (by decide) o7) (keeps_tr (keeps_bel hb8) (keeps_tr k9 k10)))
  have O : OnlyG (fun b => b = sb ∨ b = w.heap.size) w5 w10 := (OnlyG.of o6).trans ((o7.toG (.inl rfl)).trans ((OnlyG.of hb8).trans ((o9.toG (.inl rfl)).trans (o10.toG (.inr rfl)))))
  have m5 : NetMv n w w5 H V (updP H p h') (updP V p v') := (NetMv.below b0).trans hM
  refine ⟨hA.turnG (fun g hg => by rcases hg with rfl | rfl; exact ⟨os5, hsl⟩; exact ⟨or5, hwb⟩) K O, ⟨Nat.le_trans m5.size O.size, fun b hb hob => ?_, keeps_tr m5.keeps K, m5.pb⟩, ⟨?_, hR.off, f2_mono (fun _ _ q => q.kept K) hR.own⟩, (o10.block _ (by rw [show (w8.setCell ⟨sb, 0, none⟩ (.slice ta n tc)).heap.size = w8.heap.size by simp [World.setCell]]; exact lt_of_heap s8) hne).trans s9, intsT_keep hT8 (keep3_of (keeps_tr k9 k10))⟩
  · obtain ⟨q1, q2⟩ := m5.off b hb hob
    exact ⟨q1, fun hn => (O.block b (Nat.lt_of_lt_of_le hb m5.size) (by rintro (e | e) <;> omega)).trans q2⟩
  · exact owns_base (own_keep hR.row fun q hq => O.block q (hR.row.lt q hq).2 (by have := (hR.row.lt q hq).1; rintro (e | e) <;> omega)) (Nat.le_of_lt hlt)
set_option maxHeartbeats 16000000 in
theorem ses_commit (A : Nat → Addr) (w : World) (hS : Sen A wb.heap.size w) (a : NetAt wb n H V w) (hN : NetI n k C t [] H V) (k1 : 1 ≤ k) (k6 : k ≤ 6) (n6 : n ≤ 6) (ht : t ≤ 60) (hp : p < n) (sb xb ob : Nat) (tv : Value) (aa : Option Addr) (ac oc : Nat) (hs : SesBox w sb tv (some ⟨xb, 0, none⟩)) (h : TraBox w xb (H p).pb (.slice aa n ac) (.slice (some ⟨ob, 0, none⟩) 1 oc)) (hv : IntsAt w (.slice aa n ac) (snapV (V p))) (ho : OpsAt w (.slice (some ⟨ob, 0, none⟩) 1 oc) nOps) (hxo : Off n H V xb) (hso : Off n H V sb) (hsl : wb.heap.size ≤ sb) :
    Calls Tryz.prog 14 #[.pointer (some ⟨sb, 0, none⟩)] w (ScRet wb w n k t p n sb C H V) := by
  obtain ⟨w0, hw0⟩ : ∃ w0, w0 = w.alloc (.cells #[.slice none 0 0, .int .i64 0, .slice none 0 0] 47) := ⟨_, rfl⟩
  have b0 : Below w.heap.size w w0 := by rw [hw0]; exact below_alloc _ _
  have r0 : w0.heap[w.heap.size]? = some (.cells #[.slice none 0 0, .int .i64 0, .slice none 0 0] 47 (0, 0)) := by rw [hw0]; exact heap_new _ _
  have s0 : SesBox w0 sb tv (some ⟨xb, 0, none⟩) := (b0.block _ (lt_of_heap hs)).trans hs
  have tb : TraBox w0 xb (H p).pb (.slice aa n ac) (.slice (some ⟨ob, 0, none⟩) 1 oc) := (b0.block _ (lt_of_heap h)).trans h
  have hlt : w.heap.size < w0.heap.size := lt_of_heap r0
  have hlen : (nxt V p).when_.length = n := by
    have : (nxt V p).when_.length = (snapV (V p)).length := List.length_set
    rw [this, snapV_len, hN.vn p hp]
  have K20 := hid (open_yes w0 sb tv _ s0)
  have K35 := hid (tra_commit A w0 (hS.below (b0.mono hS.size)) (a.below b0) hN k1 k6 n6 ht hp xb ob aa n ac oc tb (hv.mono b0 (Nat.le_refl _)) (ho.mono b0 (Nat.le_refl _)) hxo)
  have t1 : w0.cell? ⟨sb, 1, none⟩ = some (.pointer (some ⟨xb, 0, none⟩)) := (cell_of s0).trans rfl
  have S0 := hid s0
  have R0 := hid r0
  have B0 := hid b0
  have OR : Hid (Off n H V w.heap.size) := (show Off _ _ _ _ from a.off_ge (Nat.le_refl _))
  have hsw : sb < w.heap.size := lt_of_heap hs
  have HWB : Hid (wb.heap.size ≤ w.heap.size) := (show _ ≤ _ from a.bel.size)
  have OS := hid hso
  clear hs h tb s0 r0 b0 hv ho hxo hS a hN hso
  go_enter Tryz.func14, Tryz.ntmps14
  go_upto_region 1 with (fail)
  rw [← hw0]
  clear hw0
  go_wp2_with (go_at_call 20; refine K20.out.mono ?_; rintro e w' ⟨rfl, hw'⟩; rw [hw']; clear hw')
  refine K35.out.mono ?_
  rintro e w5 ⟨h', v', a3, a4, c3, c4, la, lc, rs, U, rfl, hA, hI, hM, hR, hT⟩
  have s5 : SesBox w5 sb tv (some ⟨xb, 0, none⟩) := (hM.off sb (Nat.lt_trans hsw hlt) OS.out).2.trans S0.out
  obtain ⟨os5, _⟩ := hM.off sb (Nat.lt_trans hsw hlt) OS.out
  have r5 := (hM.off _ hlt OR.out).2.trans R0.out
  obtain ⟨or5, _⟩ := hM.off _ hlt OR.out
  obtain ⟨w6, hw6⟩ : ∃ w6, w6 = w5.alloc (.cells #[.slice a3 n c3, .int .i64 p, .slice a4 1 c4] 47) := ⟨_, rfl⟩
  obtain ⟨cb, hcb⟩ : ∃ cb, cb = w5.heap.size := ⟨_, rfl⟩
  have d1 : w5.cell? ⟨sb, 1, none⟩ = some (.pointer (some ⟨xb, 0, none⟩)) := (cell_of s5).trans rfl
  have d1a := fun o => cell_alloc d1 o
  have d1f : ∀ o, (w5.alloc o).frozen? ⟨sb, 1, none⟩ = false := fun o => by simp only [World.frozen?, heap_old s5 o]; simp
  obtain ⟨w7, hw7⟩ : ∃ w7, w7 = (w5.alloc (.cells #[.slice a3 n c3, .int .i64 p, .slice a4 1 c4] 47)).setCell ⟨sb, 1, none⟩ (.pointer none) := ⟨_, rfl⟩
  have hsw5 : sb < w5.heap.size := lt_of_heap s5
  have s7 : w7.heap[sb]? = some (.cells #[tv, .pointer none] 60 (0, 0)) := by rw [hw7]; exact heap_set (heap_old s5 _) _
  have c7 : w7.heap[cb]? = some (.cells #[.slice a3 n c3, .int .i64 p, .slice a4 1 c4] 47 (0, 0)) := by rw [hw7, hcb]; exact (Below.heap_setCell _ _ _ _ (by show w5.heap.size ≠ sb; omega)).trans (heap_new _ _)
  have r7 : w7.heap[w.heap.size]? = some (.cells #[.slice none 0 0, .int .i64 0, .slice none 0 0] 47 (0, 0)) := by rw [hw7]; exact (Below.heap_setCell _ _ _ _ (by show w.heap.size ≠ sb; omega)).trans (heap_old r5 _)
  have hT7 : IntsT w7 (.slice a3 n c3) (nxt V p).when_ := intsT_keep hT (keep3_of (by rw [hw7]; exact keeps_tr (keeps_bel (below_alloc _ _)) (keeps_only (heap_old s5 _) (by decide) (by decide) (by decide) ((Only.of (Below.refl _ _)).set 1 _))))
  have hcr : cb ≠ w.heap.size := by have := lt_of_heap r5; omega
  have hcs : cb ≠ sb := by omega
  clear hsw5
  go_wp2_with (fail)
  rw [← hw7]
  refine (clone_ints w7 (.slice a3 n c3) (nxt V p).when_ hT7.at (by omega)).mono ?_
  rw [hlen]
  rintro e w8 ⟨ta, tc, rfl, hT8, hb8⟩
  have s8 := (hb8.block _ (lt_of_heap s7)).trans s7
  have c8 := (hb8.block _ (lt_of_heap c7)).trans c7
  have r8 := (hb8.block _ (lt_of_heap r7)).trans r7
  have e0 : w8.cell? ⟨sb, 0, none⟩ = some tv := (cell_of s8).trans rfl
  have e0f : w8.frozen? ⟨sb, 0, none⟩ = false := by simp only [World.frozen?, s8]; simp
  obtain ⟨w9, hw9⟩ : ∃ w9, w9 = w8.setCell ⟨sb, 0, none⟩ (.slice ta n tc) := ⟨_, rfl⟩
  have c9 : w9.heap[cb]? = some (.cells #[.slice a3 n c3, .int .i64 p, .slice a4 1 c4] 47 (0, 0)) := by rw [hw9]; exact (Below.heap_setCell _ _ _ _ hcs).trans c8
  have r9 : w9.heap[w.heap.size]? = some (.cells #[.slice none 0 0, .int .i64 0, .slice none 0 0] 47 (0, 0)) := by rw [hw9]; exact (Below.heap_setCell _ _ _ _ (by show w.heap.size ≠ sb; omega)).trans r8
  have f0 : w9.cell? ⟨cb, 0, none⟩ = some (.slice a3 n c3) := (cell_of c9).trans rfl
  have f1 : w9.cell? ⟨cb, 1, none⟩ = some (.int .i64 p) := (cell_of c9).trans rfl
  have f2 : w9.cell? ⟨cb, 2, none⟩ = some (.slice a4 1 c4) := (cell_of c9).trans rfl
  have T10 := hid (sc_tail B0.out hlt hsw hsl HWB.out hA hM hR os5 or5 s5 r5 hw7 hb8 hT8 [.slice a3 n c3, .int .i64 p, .slice a4 1 c4] rfl)
  rw [← hw9] at T10
  have R9 := hid (row3Y r9)
  have G9 := hid (set3Y r9 (.slice a3 n c3) (.int .i64 p) (.slice a4 1 c4))
  have HI := hid hI
  clear hw7 hb8 hT8 s7 s8 c7 c8 r7 r8 c9 r9 hT7 hT hA hM hR os5 or5 s5 r5 hw6 d1 d1a d1f hI K20 K35 S0 R0 B0 OR OS t1
  go_upto_region 8 with (fail)
  rw [← hw9, ← hcb]
  clear hw9 hcb e0 e0f
  go_wp2_with (refine wpList_store_k _ rfl (.tmp 2) (.tmp 35) 47 rfl w.heap.size 0 [.slice a3 n c3, .int .i64 p, .slice a4 1 c4] rfl rfl 3 rfl Tryz.sizeOf47 rfl _ ?hW R9.out.1 R9.out.2 ?_; case hW => rfl)
  exact bodyPost_ret (ret_cell_tmp2 (k := 3) Tryz.results14 Tryz.isAgg47 Tryz.sizeOf47 _ _ w.heap.size [.slice a3 n c3, .int .i64 p, .slice a4 1 c4] (.slice la rs.length lc) .nilIface rfl rfl rfl rfl (cells_heap (t := 47) _ G9.out)) rfl ⟨⟨h', v', a3, a4, n, c3, 1, c4, la, lc, rs, U, ta, tc, rfl, T10.out.1, HI.out, T10.out.2.1, T10.out.2.2.1, T10.out.2.2.2.1, T10.out.2.2.2.2⟩⟩
end Go.Proofs.YtepnghacjggkkaaGreatDoor
namespace Go.Proofs.YtepnghacjggkkaaGreatDoor
open Go.RowKit Go.Maps
set_option maxRecDepth 100000
set_option linter.unusedSectionVars false
variable [Inhabited ComV] [DecidableEq D3] [Inhabited D3] [Inhabited Dd] [Inhabited Dn] [Inhabited OpV]

structure ScK (B : Nat) (w : World) (sb : Nat) (h : PlH) (v : PlV) (C' : List ComV) (e : Ending) (w' : World) : Prop where
  ret : ∃ (h' : PlH) (v' : PlV) (a3 a4 : Option Addr) (c3 n4 c4 : Nat) (la : Option Addr) (ln lc : Nat) (ta : Option Addr) (tc : Nat), e = .returned (.tuple #[.agg #[.slice a3 1 c3, .int .i64 0, .slice a4 n4 c4], .slice la ln lc, .nilIface]) ∧ KpI B w' h' v' C' ∧ h'.pb = h.pb ∧ SesBox w' sb (.slice ta 1 tc) none ∧ IntsT w' (.slice ta 1 tc) [(C'.length : Int)] ∧ w.heap.size ≤ w'.heap.size ∧ ¬ h'.foot v' sb ∧ (∀ b, b < w.heap.size → b ≠ sb → ¬ h.foot v b → w'.heap[b]? = w.heap[b]? ∧ ¬ h'.foot v' b) ∧ w'.os = w.os ∧ w'.tape = w.tape ∧ w'.output = w.output
theorem sck_tail {B : Nat} {w w0 w5 w7 w8 w10 : World} {sb : Nat} {h h' : PlH} {v v' : PlV} {C' : List ComV} {tv : Value} {xp : Option Addr} {ta : Option Addr} {tc : Nat} {co ro : Array Value} {e : Ending} {a3 a4 : Option Addr} {c3 n4 c4 : Nat} {la : Option Addr} {ln lc : Nat} (i : PlAt w h v) (b0 : Below w.heap.size w w0) (hlt : w.heap.size < w0.heap.size) (hsw : sb < w.heap.size) (hsf : ¬ h.foot v sb) (hK : KpI B w5 h' v' C') (hpb : h'.pb = h.pb) (hM : PlMoves w0 w5 h v h' v') (s5 : SesBox w5 sb tv xp) (r5 : w5.heap[w.heap.size]? = some (.cells ro 47 (0, 0)))
    (hw7 : w7 = (w5.alloc (.cells co 47)).setCell ⟨sb, 1, none⟩ (.pointer none)) (hb8 : Below w7.heap.size w7 w8) (hT8 : IntsT w8 (.slice ta 1 tc) [(C'.length : Int)]) (vs : List Value) (hw10 : w10 = (w8.setCell ⟨sb, 0, none⟩ (.slice ta 1 tc)).setCells w.heap.size 0 vs) (he : e = .returned (.tuple #[.agg #[.slice a3 1 c3, .int .i64 0, .slice a4 n4 c4], .slice la ln lc, .nilIface])) : ScK B w sb h v C' e w10 := by
  have nf' : ¬ h'.foot v' sb := fun q => by
    rcases hM.foot _ q with q | q
    · exact hsf q
    · omega
  have nr : ¬ h.foot v w.heap.size := fun q => by have := i.lt q; omega
  have nr' : ¬ h'.foot v' w.heap.size := fun q => by
    rcases hM.foot _ q with q | q
    · exact nr q
    · omega
  have s6 : SesBox (w5.alloc (.cells co 47)) sb tv xp := heap_old s5 _
  have s7 : w7.heap[sb]? = some (.cells #[tv, .pointer none] 60 (0, 0)) := by rw [hw7]; exact heap_set s6 _
  have s8 := (hb8.block _ (lt_of_heap s7)).trans s7
  have hne : sb ≠ w.heap.size := by omega
  have s9 : (w8.setCell ⟨sb, 0, none⟩ (.slice ta 1 tc)).heap[sb]? = some (.cells #[.slice ta 1 tc, .pointer none] 60 (0, 0)) := heap_set s8 _
  have r7 : w7.heap[w.heap.size]? = some (.cells ro 47 (0, 0)) := by rw [hw7]; exact (Below.heap_setCell _ _ _ _ (Ne.symm hne)).trans (heap_old r5 _)
  have r8 := (hb8.block _ (lt_of_heap r7)).trans r7
  have r9 : (w8.setCell ⟨sb, 0, none⟩ (.slice ta 1 tc)).heap[w.heap.size]? = some (.cells ro 47 (0, 0)) := (Below.heap_setCell _ _ _ _ (Ne.symm hne)).trans r8
  have o6 := below_alloc w5 (.cells co 47)
  have o7 : Only sb (w5.alloc (.cells co 47)) w7 := by rw [hw7]; exact (Only.of (Below.refl _ _)).set 1 _
  have o9 : Only sb w8 (w8.setCell ⟨sb, 0, none⟩ (.slice ta 1 tc)) := (Only.of (Below.refl _ _)).set 0 _
  have o10 : Only w.heap.size (w8.setCell ⟨sb, 0, none⟩ (.slice ta 1 tc)) w10 := by rw [hw10]; exact only_cells 0 vs
  have k9 : Keeps w8 (w8.setCell ⟨sb, 0, none⟩ (.slice ta 1 tc)) := keeps_only s8 (by decide) (by decide) (by decide) o9
  have k10 : Keeps (w8.setCell ⟨sb, 0, none⟩ (.slice ta 1 tc)) w10 := keeps_only r9 (by decide) (by decide) (by decide) o10
  have K : Keeps w5 w10 := keeps_tr (keeps_bel o6) (keeps_tr (keeps_only s6 (by decide) (by decide) (by decide) o7) (keeps_tr (keeps_bel hb8) (keeps_tr k9 k10)))
  have O : OnlyG (fun b => b = sb ∨ b = w.heap.size) w5 w10 := (OnlyG.of o6).trans ((o7.toG (.inl rfl)).trans ((OnlyG.of hb8).trans ((o9.toG (.inl rfl)).trans (o10.toG (.inr rfl)))))
  refine ⟨⟨h', v', a3, a4, c3, n4, c4, la, ln, lc, ta, tc, he, hK.keep (fun b q => O.block b (hK.at_.lt q) (by rintro (e | e); exact nf' (e ▸ q); exact nr' (e ▸ q))) K, hpb, (o10.block _ (by rw [show (w8.setCell ⟨sb, 0, none⟩ (.slice ta 1 tc)).heap.size = w8.heap.size by simp [World.setCell]]; exact lt_of_heap s8) hne).trans s9, intsT_keep hT8 (keep3_of (keeps_tr k9 k10)), Nat.le_trans b0.size (Nat.le_trans hM.size O.size), nf', fun b hb hn hf => ⟨?_, fun q => ?_⟩, O.os.trans (hM.os.trans b0.os), O.tape.trans (hM.tape.trans b0.tape), O.output.trans (hM.output.trans b0.output)⟩⟩
  · exact (O.block b (Nat.lt_of_lt_of_le hb (Nat.le_trans b0.size hM.size)) (by rintro (e | e); exact hn e; omega)).trans ((hM.block b (Nat.lt_of_lt_of_le hb b0.size) hf).trans (b0.block b hb))
  · rcases hM.foot _ q with q | q
    · exact hf q
    · have := b0.size; omega
set_option maxHeartbeats 16000000 in
theorem sesC_any (B : Nat) (w : World) (h : PlH) (v : PlV) (C C' : List ComV) (i : KpI B w h v C) (sb xb : Nat) (tv : Value) (hs : SesBox w sb tv (some ⟨xb, 0, none⟩)) (hsf : ¬ h.foot v sb) (K35i : ∀ W, Below w.heap.size w W → Calls Tryz.prog 35 #[.pointer (some ⟨xb, 0, none⟩)] W (PcK B W h v C')) :
    Calls Tryz.prog 14 #[.pointer (some ⟨sb, 0, none⟩)] w (ScK B w sb h v C') := by
  obtain ⟨w0, hw0⟩ : ∃ w0, w0 = w.alloc (.cells #[.slice none 0 0, .int .i64 0, .slice none 0 0] 47) := ⟨_, rfl⟩
  have b0 : Below w.heap.size w w0 := by rw [hw0]; exact below_alloc _ _
  have r0 : w0.heap[w.heap.size]? = some (.cells #[.slice none 0 0, .int .i64 0, .slice none 0 0] 47 (0, 0)) := by rw [hw0]; exact heap_new _ _
  have s0 : SesBox w0 sb tv (some ⟨xb, 0, none⟩) := (b0.block _ (lt_of_heap hs)).trans hs
  have hlt : w.heap.size < w0.heap.size := lt_of_heap r0
  have K20 := hid (open_yes w0 sb tv _ s0)
  have K35 := hid (K35i w0 b0)
  have t1 : w0.cell? ⟨sb, 1, none⟩ = some (.pointer (some ⟨xb, 0, none⟩)) := (cell_of s0).trans rfl
  have S0 := hid s0
  have R0 := hid r0
  have B0 := hid b0
  have I := hid i.at_
  have hsw : sb < w.heap.size := lt_of_heap hs
  have HSF := hid hsf
  clear hs s0 r0 b0 K35i i hsf
  go_enter Tryz.func14, Tryz.ntmps14
  go_upto_region 1 with (fail)
  rw [← hw0]
  clear hw0
  go_wp2_with (go_at_call 20; refine K20.out.mono ?_; rintro e w' ⟨rfl, hw'⟩; rw [hw']; clear hw')
  refine K35.out.mono ?_
  rintro e w5 ⟨h', v', a3, a4, c3, n4, c4, la, ln, lc, rfl, hK, hpb, hM, hT⟩
  have s5 : SesBox w5 sb tv (some ⟨xb, 0, none⟩) := (hM.block sb (Nat.lt_trans hsw hlt) HSF.out).trans S0.out
  have r5 := (hM.block _ hlt (fun q => by have := I.out.lt q; omega)).trans R0.out
  obtain ⟨cb, hcb⟩ : ∃ cb, cb = w5.heap.size := ⟨_, rfl⟩
  have d1 : w5.cell? ⟨sb, 1, none⟩ = some (.pointer (some ⟨xb, 0, none⟩)) := (cell_of s5).trans rfl
  have d1a := fun o => cell_alloc d1 o
  have d1f : ∀ o, (w5.alloc o).frozen? ⟨sb, 1, none⟩ = false := fun o => by simp only [World.frozen?, heap_old s5 o]; simp
  obtain ⟨w7, hw7⟩ : ∃ w7, w7 = (w5.alloc (.cells #[.slice a3 1 c3, .int .i64 0, .slice a4 n4 c4] 47)).setCell ⟨sb, 1, none⟩ (.pointer none) := ⟨_, rfl⟩
  have hsw5 : sb < w5.heap.size := lt_of_heap s5
  have s7 : w7.heap[sb]? = some (.cells #[tv, .pointer none] 60 (0, 0)) := by rw [hw7]; exact heap_set (heap_old s5 _) _
  have c7 : w7.heap[cb]? = some (.cells #[.slice a3 1 c3, .int .i64 0, .slice a4 n4 c4] 47 (0, 0)) := by rw [hw7, hcb]; exact (Below.heap_setCell _ _ _ _ (by show w5.heap.size ≠ sb; omega)).trans (heap_new _ _)
  have r7 : w7.heap[w.heap.size]? = some (.cells #[.slice none 0 0, .int .i64 0, .slice none 0 0] 47 (0, 0)) := by rw [hw7]; exact (Below.heap_setCell _ _ _ _ (by show w.heap.size ≠ sb; omega)).trans (heap_old r5 _)
  have hT7 : IntsT w7 (.slice a3 1 c3) [(C'.length : Int)] := intsT_keep hT (keep3_of (by rw [hw7]; exact keeps_tr (keeps_bel (below_alloc _ _)) (keeps_only (heap_old s5 _) (by decide) (by decide) (by decide) ((Only.of (Below.refl _ _)).set 1 _))))
  have hcr : cb ≠ w.heap.size := by have := lt_of_heap r5; omega
  have hcs : cb ≠ sb := by omega
  clear hsw5
  go_wp2_with (fail)
  rw [← hw7]
  refine (clone_ints w7 (.slice a3 1 c3) [(C'.length : Int)] hT7.at (by simp)).mono ?_
  rintro e w8 ⟨ta, tc, rfl, hT8, hb8⟩
  have s8 := (hb8.block _ (lt_of_heap s7)).trans s7
  have c8 := (hb8.block _ (lt_of_heap c7)).trans c7
  have r8 := (hb8.block _ (lt_of_heap r7)).trans r7
  have e0 : w8.cell? ⟨sb, 0, none⟩ = some tv := (cell_of s8).trans rfl
  have e0f : w8.frozen? ⟨sb, 0, none⟩ = false := by simp only [World.frozen?, s8]; simp
  have hT8' : IntsT w8 (.slice ta 1 tc) [(C'.length : Int)] := hT8
  obtain ⟨w9, hw9⟩ : ∃ w9, w9 = w8.setCell ⟨sb, 0, none⟩ (.slice ta 1 tc) := ⟨_, rfl⟩
  have c9 : w9.heap[cb]? = some (.cells #[.slice a3 1 c3, .int .i64 0, .slice a4 n4 c4] 47 (0, 0)) := by rw [hw9]; exact (Below.heap_setCell _ _ _ _ hcs).trans c8
  have r9 : w9.heap[w.heap.size]? = some (.cells #[.slice none 0 0, .int .i64 0, .slice none 0 0] 47 (0, 0)) := by rw [hw9]; exact (Below.heap_setCell _ _ _ _ (by show w.heap.size ≠ sb; omega)).trans r8
  have f0 : w9.cell? ⟨cb, 0, none⟩ = some (.slice a3 1 c3) := (cell_of c9).trans rfl
  have f1 : w9.cell? ⟨cb, 1, none⟩ = some (.int .i64 0) := (cell_of c9).trans rfl
  have f2 : w9.cell? ⟨cb, 2, none⟩ = some (.slice a4 n4 c4) := (cell_of c9).trans rfl
  have T10 := hid (sck_tail I.out B0.out hlt hsw HSF.out hK hpb hM s5 r5 hw7 hb8 hT8' [.slice a3 1 c3, .int .i64 0, .slice a4 n4 c4] rfl (e := .returned (.tuple #[.agg #[.slice a3 1 c3, .int .i64 0, .slice a4 n4 c4], .slice la ln lc, .nilIface])) rfl)
  rw [← hw9] at T10
  have R9 := hid (row3Y r9)
  have G9 := hid (set3Y r9 (.slice a3 1 c3) (.int .i64 0) (.slice a4 n4 c4))
  clear hw7 hb8 hT8 hT8' s7 s8 c7 c8 r7 r8 c9 r9 hT7 hT hK hM hpb s5 r5 d1 d1a d1f K20 K35 S0 R0 B0 t1 I HSF
  go_upto_region 8 with (fail)
  rw [← hw9, ← hcb]
  clear hw9 hcb e0 e0f
  go_wp2_with (refine wpList_store_k _ rfl (.tmp 2) (.tmp 35) 47 rfl w.heap.size 0 [.slice a3 1 c3, .int .i64 0, .slice a4 n4 c4] rfl rfl 3 rfl Tryz.sizeOf47 rfl _ ?hW R9.out.1 R9.out.2 ?_; case hW => rfl)
  exact bodyPost_ret (ret_cell_tmp2 (k := 3) Tryz.results14 Tryz.isAgg47 Tryz.sizeOf47 _ _ w.heap.size [.slice a3 1 c3, .int .i64 0, .slice a4 n4 c4] (.slice la ln lc) .nilIface rfl rfl rfl rfl (cells_heap (t := 47) _ G9.out)) rfl T10.out
set_option maxHeartbeats 2000000 in
theorem abort_any (w : World) (sb : Nat) (tv : Value) (x : Addr) (h : SesBox w sb tv (some x)) : Calls Tryz.prog 18 #[.pointer (some ⟨sb, 0, none⟩)] w fun e w' => e = .returned .nilIface ∧ SesBox w' sb tv none ∧ Only sb w w' := by
  have K20 := hid (open_yes w sb tv _ h)
  have H := hid h
  have t1 : w.cell? ⟨sb, 1, none⟩ = some (.pointer (some x)) := (cell_of h).trans rfl
  have f1 : w.frozen? ⟨sb, 1, none⟩ = false := by
    have h' : w.heap[sb]? = some (.cells #[tv, .pointer (some x)] 60 (0, 0)) := h
    simp only [World.frozen?, h']; simp
  clear h
  go_enter Tryz.func18, Tryz.ntmps18
  go_wp2_with (go_at_call 20; refine K20.out.mono ?_; rintro e w' ⟨rfl, hw'⟩; rw [hw']; clear hw')
  go_ret
  exact ⟨rfl, heap_set H.out _, (Only.of (Below.refl _ _)).set 1 _⟩
end Go.Proofs.YtepnghacjggkkaaGreatDoor
