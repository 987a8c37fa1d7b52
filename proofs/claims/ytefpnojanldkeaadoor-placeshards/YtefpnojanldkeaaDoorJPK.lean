/- The sender's Commit: what is old, what goes; sent; what send tells a line; What send tells the one line; gather, of one line. -/
import Derived.Test.YtefpnojanldkeaaDoorJTC
import Derived.Test.YtefpnojanldkeaaDoorJVOp2
import Derived.Test.YtefpnojanldkeaaDoorJVCmp
import Derived.Test.YtefpnojanldkeaaDoorJVRefN
import Derived.Test.YtefpnojanldkeaaDoorJWPart2
import Derived.Test.YtefpnojanldkeaaDoorJHC
import Derived.Test.YtefpnojanldkeaaDoorJVCom
import Derived.Test.YtefpnojanldkeaaDoorJCA
import Derived.Test.YtefpnojanldkeaaDoorJSBeat
import Derived.Test.YtefpnojanldkeaaDoorJVOwnM
import Derived.Test.YtefpnojanldkeaaDoorJTN
import Derived.Test.YtefpnojanldkeaaDoorJPC
import Derived.Test.YtefpnojanldkeaaDoorJVOfRE
import Derived.Test.YtefpnojanldkeaaDoorJWPutN
import Derived.Test.YtefpnojanldkeaaDoorJTB
import Derived.Test.YtefpnojanldkeaaDoorJWNew
import Derived.Test.YtefpnojanldkeaaDoorJQM3
import Derived.Deep.RegionHeld
import Derived.Deep.DeepCutAuto
namespace Go.Proofs.YtefpnojanldkeaaDoor
open Go.RowKit
set_option maxRecDepth 100000
set_option linter.unusedSectionVars false
variable [Inhabited ComV] [DecidableEq D3] [Inhabited D3] [Inhabited Dn] [Inhabited OpV]

set_option maxHeartbeats 8000000 in
theorem commit_ok (A : Nat → Addr) (B : Nat) (w : World) (hS : Sents A B w) (g : Nat) (f t s seq time : Int) (v : Value) (l : List Raw) (h : SndR w g f t s seq time v l) (c : ComV) (a1 a2 : Option Addr) (n1 c1 n2 c2 : Nat) (ho : ComOwn 0 w (.slice a1 n1 c1) (.slice a2 n2 c2) c) (hL : Light c) (hl : l.length ≤ 1000) (h0 : 0 ≤ seq) (h1 : seq ≤ 1000) (he : (comE c).1 = 0) (hpf : c.place = f) (x : Int) (hx : x = c.when_.getD c.place.toNat 0) (hxt : time < x) : Calls Tryd.prog 45 #[.pointer (some ⟨g, 0, none⟩), .agg #[.slice a1 n1 c1, .int .i64 c.place, .slice a2 n2 c2]] w (BtRet w g f t s (seq + 1) x v l ⟨f, t, s, seq + 1, x, false, c⟩) := by
  obtain ⟨p, hp⟩ : ∃ p, p = c.place := ⟨_, rfl⟩
  obtain ⟨w0, hw0⟩ : ∃ w0, w0 = (w.alloc (.cells #[.slice a1 n1 c1, .int .i64 p, .slice a2 n2 c2] 37)).alloc (.cells #[.int .i64 0, .int .i64 0, .int .i64 0, .int .i64 0, .int .i64 0, .bool false, .slice none 0 0, .int .i64 0, .slice none 0 0] 45) := ⟨_, rfl⟩
  have I0 : Hid (CmI w (.slice a1 n1 c1) (.slice a2 n2 c2) p w0) := (show CmI _ _ _ _ _ from by rw [hw0]; exact CmI.start _ _ _ _)
  have KC := hid (checkCommit_h A B w0 (hS.below (I0.out.below.mono hS.size)) c _ _ (ho.ints.mono I0.out.below (Nat.le_refl _)) (ho.opsAt.mono I0.out.below (Nat.le_refl _)) hL)
  rw [← hp] at KC ⊢
  have HP := hid hp
  have H := hid h
  have HO := hid ho
  have HL := hid hL
  have HS := hid hS
  have p0 : w0.cell? ⟨w.heap.size, 0, none⟩ = some (.slice a1 n1 c1) := (cell_of I0.out.box).trans rfl
  have p1 : w0.cell? ⟨w.heap.size, 1, none⟩ = some (.int .i64 p) := (cell_of I0.out.box).trans rfl
  have p2 : w0.cell? ⟨w.heap.size, 2, none⟩ = some (.slice a2 n2 c2) := (cell_of I0.out.box).trans rfl
  clear hp h ho hL hS
  go_enter Tryd.func45, Tryd.ntmps45
  go_wp2_with fail
  rw [← hw0]
  clear hw0
  refine KC.out.mono ?_
  rintro e w1 ⟨ev1, rfl, herr, hb1⟩
  have I1 := hid (I0.out.moved hb1)
  have BB := hid hb1
  clear p0 p1 p2 hb1
  have hev1 := errAt_nil herr (comE_zero he).1
  subst hev1
  clear herr
  have HCZ := hid (comE_zero he)
  have S1 := hid (H.out.moved (w' := w1) (Below.mono (I1.out.below) (Nat.le_refl _)))
  have HV : Hid (∀ b, v.ownBlock = some b → b < w.heap.size) := fun b hb => (H.out.row.lt b hb).2
  have hg := lt_of_heap H.out.box
  have q0 : w1.cell? ⟨w.heap.size, 0, none⟩ = some (.slice a1 n1 c1) := (cell_of I1.out.box).trans rfl
  have q1 : w1.cell? ⟨w.heap.size, 1, none⟩ = some (.int .i64 p) := (cell_of I1.out.box).trans rfl
  have q2 : w1.cell? ⟨w.heap.size, 2, none⟩ = some (.slice a2 n2 c2) := (cell_of I1.out.box).trans rfl
  have s0 : w1.cell? ⟨g, 0, none⟩ = some (.int .i64 f) := (cell_of S1.out.box).trans rfl
  have s4 : w1.cell? ⟨g, 4, none⟩ = some (.int .i64 time) := (cell_of S1.out.box).trans rfl
  rw [hpf] at hx
  have bne : (p != f) = false := by rw [HP.out, hpf]; simp
  have hpz := HCZ.out.2
  rw [hpf] at hpz
  obtain ⟨fn, rfl⟩ : ∃ fn : Nat, f = fn := ⟨f.toNat, by omega⟩
  obtain ⟨ad, cc, hv, hnil, hcells⟩ := HO.out.ints
  injection hv with hv1 hv2 hv3
  have hfl : fn < n1 := by omega
  obtain ⟨b, o, hab, hcl⟩ : ∃ b o, a1 = some ⟨b, o, none⟩ ∧ w1.cell? ⟨b, o + fn, none⟩ = some (.int .i64 x) := by
    rcases hcells with hc | ⟨b, o, hc, hcl⟩
    · rw [hc] at hv2
      simp at hv2
      omega
    · refine ⟨b, o, hv1.trans hc, ?_⟩
      have e := hcl fn (by omega)
      rw [I1.out.below.cell (p := ⟨b, o + fn, none⟩) (lt_of_cell e), e, hx]
      simp
  subst hab
  have hfi : (fn : Int) < (n1 : Int) := by omega
  clear hcells hnil hv1 hv2 hv3 hpz hx
  go_upto_region 4 with (fail)
  go_quiet (fail)
  go_upto_region 6 with (fail)
  go_quiet (fail)
  have hxt' : ¬ x ≤ time := by omega
  go_upto_region 9 with (fail)
  generalize hwq : World.drewN _ _ = wq
  have hcq : ∀ a, wq.cell? a = w1.cell? a := fun a => by rw [← hwq]; rfl
  have hbq : Below w1.heap.size w1 wq := by rw [← hwq]; exact ⟨rfl, rfl, rfl, Nat.le_refl _, fun _ _ => rfl⟩
  have IW := hid (I1.out.moved hbq)
  have SW := hid (S1.out.moved hbq)
  have BW := hid IW.out.below
  have z0 := (hcq _).trans q0
  have z1 := (hcq _).trans q1
  have z2 := (hcq _).trans q2
  have KN := hid (next_raw wq g fn t s seq time 0 0 0 0 x p false (some ⟨b, o, none⟩) a2 n1 c1 n2 c2 v l ⟨fn, t, s, seq + 1, x, false, c⟩ SW.out hl h0 h1 ⟨⟨rfl, rfl, rfl, rfl, rfl, rfl, HP.out⟩, HO.out.kept (Keeps.bel BW.out)⟩ HL.out)
  clear hwq hcq hbq q0 q1 q2 s0 s4 hcl
  go_wp2_with fail
  refine KN.out.mono ?_
  rintro e w2 ⟨v', r2, ⟨q1, q2, q3, q4, q5, q6, e1, j1, f1, qq, e2, j2, f2⟩, rfl, hs2, hr2, hr3, ho2, hv2, hkp2⟩
  obtain ⟨w0, hw0⟩ : ∃ w0, w0 = wq := ⟨_, rfl⟩
  have B0 : Hid (Below w.heap.size w w0) := (show Below _ _ _ from by rw [hw0]; exact BW.out)
  have hlr := lt_of_heap IW.out.res
  have G0 : Hid (w0.heap[w.heap.size + 1]? = some (.cells #[.int .i64 0, .int .i64 0, .int .i64 0, .int .i64 0, .int .i64 0, .bool false, .slice none 0 0, .int .i64 0, .slice none 0 0] 45 (0, 0))) := (show w0.heap[w.heap.size + 1]? = _ from by rw [hw0]; exact IW.out.res)
  have hG2 : w2.heap[w.heap.size + 1]? = some (.cells #[.int .i64 0, .int .i64 0, .int .i64 0, .int .i64 0, .int .i64 0, .bool false, .slice none 0 0, .int .i64 0, .slice none 0 0] 45 (0, 0)) := ho2.box IW.out.res (by omega) fun e => by have := HV.out _ e; omega
  obtain ⟨wz, STORE, HZ⟩ := store_row hG2 [.int .i64 q1, .int .i64 q2, .int .i64 q3, .int .i64 q4, .int .i64 q5, .bool q6, .slice e1 j1 f1, .int .i64 qq, .slice e2 j2 f2] rfl rfl 45 9 rfl Tryd.sizeOf45
  have S2 := hid hs2
  rw [← hw0] at ho2 hv2 hr2 hr3 hkp2
  have O2 := hid ho2
  have V2 := hid hv2
  have R2 := hid hr2
  have R3 := hid hr3
  have KP2 := hid hkp2
  have HG2 := hid hG2
  clear hs2 ho2 hv2 hG2 hr2 hr3 hkp2 hw0
  unfold Raw.cells
  simp only
  go_wp2_with (refine STORE _ _ _ _ _ (.tmp 4) (.tmp 49) rfl rfl rfl rfl ?_)
  have hso : ∀ k, k ≠ w.heap.size + 1 → wz.heap[k]? = w2.heap[k]? := fun k hk => by rw [HZ.out.2]; exact setCells_other _ _ _ _ _ hk
  have hbz := below_setCells (B := 0) (b := w.heap.size + 1) (a := w2) (Nat.zero_le _) [.int .i64 q1, .int .i64 q2, .int .i64 q3, .int .i64 q4, .int .i64 q5, .bool q6, .slice e1 j1 f1, .int .i64 qq, .slice e2 j2 f2] 0 (Below.refl _ _)
  have hs0 : w0.heap.size ≤ w2.heap.size := O2.out.size
  have hsw := B0.out.size
  have kz : Keeps w2 wz := fun tt htt b cs hc => hso b fun e => by
    rw [e, HG2.out] at hc
    injection hc with hc
    injection hc with _ hc
    rcases htt with e | e | e <;> (rw [e] at hc; exact absurd hc (by decide))
  refine bodyPost_ret (ret_cell_tmp (k := 9) Tryd.results45 Tryd.isAgg45 Tryd.sizeOf45 _ _ (w.heap.size + 1) [.int .i64 q1, .int .i64 q2, .int .i64 q3, .int .i64 q4, .int .i64 q5, .bool q6, .slice e1 j1 f1, .int .i64 qq, .slice e2 j2 f2] _ rfl rfl rfl HZ.out.1) rfl ⟨v', r2, ⟨q1, q2, q3, q4, q5, q6, e1, j1, f1, qq, e2, j2, f2⟩, rfl, ⟨?_, ?_⟩, (R2.out.kept kz).base hsw, (R3.out.kept kz).base hsw, ⟨?_, ?_, ?_, ?_, ?_⟩, ?_, ?_⟩
  · rw [hso g (by omega)]; exact S2.out.box
  · refine owns_own S2.out.row fun b hb => hso b fun e => ?_
    have hl0 := lt_of_heap G0.out
    rcases V2.out with h | ⟨b', h, hb'⟩
    · have := HV.out b (by rw [← h]; exact hb); omega
    · have h3 := Option.some.inj (hb.symm.trans h)
      omega
  · rw [HZ.out.2]; exact hbz.os.trans (O2.out.os.trans B0.out.os)
  · rw [HZ.out.2]; exact hbz.tape.trans (O2.out.tape.trans B0.out.tape)
  · rw [HZ.out.2]; exact hbz.output.trans (O2.out.output.trans B0.out.output)
  · rw [HZ.out.2, setCells_size]; omega
  · exact fun k hk hkg hkv => by rw [hso k (by omega), O2.out.block k (by omega) hkg hkv]; exact B0.out.block k hk
  · rcases V2.out with h | ⟨b', h, hb'⟩
    · exact .inl h
    · exact .inr ⟨b', h, by omega⟩
  · exact ((Keeps.bel B0.out).trans KP2.out).trans kz
end Go.Proofs.YtefpnojanldkeaaDoor
namespace Go.Proofs.YtefpnojanldkeaaDoor
open Go.RowKit Go.Maps
set_option maxRecDepth 100000
set_option linter.unusedSectionVars false
variable [Inhabited ComV] [DecidableEq D3] [Inhabited D3] [Inhabited Dn] [Inhabited OpV]

set_option maxHeartbeats 1000000 in
theorem sent_ok (w : World) (r : Raw) : Calls Tryd.prog 44 #[.agg r.cells.toArray, .nilIface] w fun e w' => e = .returned (.slice (some ⟨w.heap.size + 1, 0, none⟩) 1 1) ∧ w'.heap[w.heap.size + 1]? = some (.cells r.cells.toArray 45 (0, 0)) ∧ Below w.heap.size w w' := by
  obtain ⟨x1, x2, x3, x4, x5, x6, a1, n1, c1, p, a2, n2, c2⟩ := r
  unfold Raw.cells
  simp only
  go_enter Tryd.func44, Tryd.ntmps44
  go_wp2
  go_ret
  exact ⟨rfl, heap_new2 _ _ _, below2 _ _ _⟩
theorem comK_light : Light comK := ⟨by decide, by decide, fun o ho => by
  obtain rfl : o = opKV := by simpa [comK] using ho
  decide⟩
theorem comK_err : (comE comK).1 = 0 := by decide
end Go.Proofs.YtefpnojanldkeaaDoor
namespace Go.Proofs.YtefpnojanldkeaaDoor
open Go.RowKit Go.Maps
set_option maxRecDepth 100000
set_option linter.unusedSectionVars false
variable [Inhabited ComV] [DecidableEq D3] [Inhabited D3] [Inhabited Dn] [Inhabited OpV]

/-- What has turned: nothing but the sender's box, where there was something. -/
structure OnlyG (g : Nat) (w w' : World) : Prop where
  os : w'.os = w.os
  tape : w'.tape = w.tape
  output : w'.output = w.output
  size : w.heap.size ≤ w'.heap.size
  block : ∀ k, k < w.heap.size → k ≠ g → w'.heap[k]? = w.heap[k]?
theorem OnlyG.below {g : Nat} {w w' w2 : World} (h : OnlyG g w w') (hb : Below w'.heap.size w' w2) : OnlyG g w w2 := ⟨hb.os.trans h.os, hb.tape.trans h.tape, hb.output.trans h.output, Nat.le_trans h.size hb.size, fun k h1 h2 => (hb.block k (Nat.lt_of_lt_of_le h1 h.size)).trans (h.block k h1 h2)⟩
theorem OnlyG.ahead {g : Nat} {w w1 w' : World} (hb : Below w.heap.size w w1) (h : OnlyG g w1 w') : OnlyG g w w' := ⟨h.os.trans hb.os, h.tape.trans hb.tape, h.output.trans hb.output, Nat.le_trans hb.size h.size, fun k h1 h2 => (h.block k (Nat.lt_of_lt_of_le h1 hb.size) h2).trans (hb.block k h1)⟩
set_option maxHeartbeats 4000000 in
theorem send1_ok (A : Nat → Addr) (B : Nat) (w : World) (hS : Sents A B w) (g gr vb pr : Nat) (a3 a6 : Option Addr) (c3 c6 : Nat) (hg : SndBox w g 0 1 0 0 0 (.slice none 0 0)) (hv : w.heap[vb]? = some (.cells #[.slice (some ⟨pr, 0, none⟩) 1 1] 104 (0, 0))) (hp : w.heap[pr]? = some (.cells #[.slice a3 2 c3, .int .i64 0, .slice a6 1 c6] 37 (0, 0))) (ho : ComOwn 0 w (.slice a3 2 c3) (.slice a6 1 c6) comK) :
    Calls Tryd.prog 43 #[.int .i64 0, .agg #[.pointer (some ⟨g, 0, none⟩), .pointer (some ⟨gr, 0, none⟩)], .pointer (some ⟨vb, 0, none⟩)] w fun e w' => ∃ (m : Nat) (r : Raw), e = .returned (.slice (some ⟨m, 0, none⟩) 1 1) ∧ w.heap.size ≤ m ∧ w'.heap[m]? = some (.cells r.cells.toArray 45 (0, 0)) ∧ r.x2 = 1 ∧ OnlyG g w w' := by
  obtain ⟨w1, hw1⟩ : ∃ w1, w1 = w.alloc (.cells #[.pointer (some ⟨g, 0, none⟩), .pointer (some ⟨gr, 0, none⟩)] 87) := ⟨_, rfl⟩
  have b1 : Below w.heap.size w w1 := by rw [hw1]; exact below_alloc _ _
  have G1 : w1.heap[w.heap.size]? = some (.cells #[.pointer (some ⟨g, 0, none⟩), .pointer (some ⟨gr, 0, none⟩)] 87 (0, 0)) := by rw [hw1]; exact heap_new _ _
  have V1 : w1.heap[vb]? = _ := (b1.block _ (lt_of_heap hv)).trans hv
  have P1 : w1.heap[pr]? = _ := (b1.block _ (lt_of_heap hp)).trans hp
  have S1 : w1.heap[g]? = _ := (b1.block _ (lt_of_heap hg)).trans hg
  have n1 : w.heap.size ≠ g := fun e => by have := lt_of_heap hg; omega
  have n2 : vb ≠ g := cell_ne hv hg (by decide)
  have n3 : pr ≠ g := cell_ne hp hg (by decide)
  have q0 : w1.cell? ⟨w.heap.size, 0, none⟩ = some (.pointer (some ⟨g, 0, none⟩)) := (cell_of G1).trans rfl
  have q1 : w1.cell? ⟨vb, 0, none⟩ = some (.slice (some ⟨pr, 0, none⟩) 1 1) := (cell_of V1).trans rfl
  have q2 : w1.cell? ⟨pr, 0, none⟩ = some (.slice a3 2 c3) := (cell_of P1).trans rfl
  have q3 : w1.cell? ⟨pr, 1, none⟩ = some (.int .i64 0) := (cell_of P1).trans rfl
  have q4 : w1.cell? ⟨pr, 2, none⟩ = some (.slice a6 1 c6) := (cell_of P1).trans rfl
  have K45 : Hid (Calls Tryd.prog 45 #[.pointer (some ⟨g, 0, none⟩), .agg #[.slice a3 2 c3, .int .i64 0, .slice a6 1 c6]] w1.drew (BtRet w1.drew g 0 1 0 (0 + 1) 1 (.slice none 0 0) [] ⟨0, 1, 0, 0 + 1, 1, false, comK⟩)) := commit_ok A B w1.drew (hS.below ((b1.drew).mono hS.size)) g 0 1 0 0 0 (.slice none 0 0) [] ⟨S1, World.ownsRow_nil _ _ _ _⟩ comK a3 a6 2 c3 1 c6 (ho.at fun q _ hq => (b1.drew).block q hq) comK_light (by simp) (by decide) (by decide) comK_err rfl 1 (by decide) (by decide)
  have HN := hid (show w.heap.size ≠ g ∧ vb ≠ g ∧ pr ≠ g from ⟨n1, n2, n3⟩)
  have B1 := hid b1
  clear b1 G1 V1 P1 S1 n1 n2 n3 hg hv hp ho hS
  go_enter Tryd.func43, Tryd.ntmps43
  go_upto_region 1 with (fail)
  rw [← hw1]
  clear hw1
  go_upto_region 3 with (fail)
  go_region_held (fun u => u.cell? ⟨w.heap.size, 0, none⟩ = some (.pointer (some ⟨g, 0, none⟩)) ∧ u.cell? ⟨vb, 0, none⟩ = some (.slice (some ⟨pr, 0, none⟩) 1 1) ∧ u.cell? ⟨pr, 0, none⟩ = some (.slice a3 2 c3) ∧ u.cell? ⟨pr, 1, none⟩ = some (.int .i64 0) ∧ u.cell? ⟨pr, 2, none⟩ = some (.slice a6 1 c6)) (go_keep) (first
    | (go_at_call 45; refine K45.out.mono ?_; rintro e w2 ⟨v', r2, r3, rfl, _, _, hR3, hO2, _, _⟩; have kp : ∀ (b j : Nat) (u : Value), w1.cell? ⟨b, j, none⟩ = some u → b ≠ g → w2.cell? ⟨b, j, none⟩ = some u := (fun b j u hc hn => (World.cell?_of_block (hO2.block b (lt_of_cell hc) hn (by simp [Value.ownBlock]))).trans hc); have t0 := kp _ _ _ q0 HN.out.1; have t1 := kp _ _ _ q1 HN.out.2.1; have t2 := kp _ _ _ q2 HN.out.2.2; have t3 := kp _ _ _ q3 HN.out.2.2; have t4 := kp _ _ _ q4 HN.out.2.2; have R3 := hid hR3; have O2 : Hid (OnlyG g w1 w2) := (show OnlyG _ _ _ from ⟨hO2.os, hO2.tape, hO2.output, hO2.size, fun k h1 h2 => hO2.block k h1 h2 (by simp [Value.ownBlock])⟩); clear hR3 hO2 kp)
    | (go_at_call 44; refine (sent_ok w2 r3).mono ?_; rintro e w3 ⟨rfl, hm3, hb3⟩; have kq : ∀ (b j : Nat) (u : Value), w2.cell? ⟨b, j, none⟩ = some u → w3.cell? ⟨b, j, none⟩ = some u := (fun b j u hc => (hb3.cell (p := ⟨b, j, none⟩) (lt_of_cell hc)).trans hc); have v0 := kq _ _ _ t0; have v1 := kq _ _ _ t1; have v2 := kq _ _ _ t2; have v3 := kq _ _ _ t3; have v4 := kq _ _ _ t4; have M3 := hid hm3; have B3 := hid hb3; clear hm3 hb3 kq))
  go_wp2
  go_ret
  exact ⟨w2.heap.size + 1, r3, rfl, by have := O2.out.size; have := B1.out.size; omega, M3.out, R3.out.nums.x2, (OnlyG.ahead B1.out O2.out).below B3.out⟩
end Go.Proofs.YtefpnojanldkeaaDoor
namespace Go.Proofs.YtefpnojanldkeaaDoor
open Go.RowKit Go.Maps
set_option maxRecDepth 100000
set_option linter.unusedSectionVars false
variable [Inhabited ComV] [DecidableEq D3] [Inhabited D3] [Inhabited Dn] [Inhabited OpV]

set_option maxHeartbeats 4000000 in
theorem gather_one (A : Nat → Addr) (B : Nat) (w : World) (hS : Sents A B w) {pb p lb b g gr gm : Nat} {ck : Int} (h : PlA w pb p lb b g gr gm ck) (vb pr : Nat) (a3 a6 : Option Addr) (c3 c6 : Nat) (hv : w.heap[vb]? = some (.cells #[.slice (some ⟨pr, 0, none⟩) 1 1] 104 (0, 0))) (hp : w.heap[pr]? = some (.cells #[.slice a3 2 c3, .int .i64 0, .slice a6 1 c6] 37 (0, 0))) (ho : ComOwn 0 w (.slice a3 2 c3) (.slice a6 1 c6) comK) :
    Calls Tryd.prog 42 #[.pointer (some ⟨pb, 0, none⟩), .func (.func 43) #[] #[.pointer (some ⟨vb, 0, none⟩)]] w fun e w' => ∃ (v : Value) (r : Raw), e = .returned v ∧ w'.ownsRow w.heap.size 45 9 v 1 r.cells ∧ r.x2 = 1 ∧ OnlyG g w w' := by
  obtain ⟨i45, hi, hz0, hz1, hz2⟩ := info_parts Tryd.info45
  have x4 : w.cell? ⟨pb, 4, none⟩ = some (.slice (some ⟨lb, 0, none⟩) 2 2) := (cell_of h.box).trans rfl
  have l0 : w.cell? ⟨lb, 0, none⟩ = some (.slice none 0 0) := (cell_of h.lines).trans rfl
  have l1 : w.cell? ⟨lb, 1, none⟩ = some (.slice (some ⟨b, 0, none⟩) 1 1) := (cell_of h.lines).trans rfl
  have b0 : w.cell? ⟨b, 0, none⟩ = some (.pointer (some ⟨g, 0, none⟩)) := (cell_of h.line).trans rfl
  have b1 : w.cell? ⟨b, 1, none⟩ = some (.pointer (some ⟨gr, 0, none⟩)) := (cell_of h.line).trans rfl
  have K43 := hid (fun o => send1_ok A B (w.alloc o) (hS.below ((below_alloc w o).mono hS.size)) g gr vb pr a3 a6 c3 c6 ((Below.heap_alloc _ _ _ (lt_of_heap h.snd)).trans h.snd) ((Below.heap_alloc _ _ _ (lt_of_heap hv)).trans hv) ((Below.heap_alloc _ _ _ (lt_of_heap hp)).trans hp) (ho.at fun q _ hq => Below.heap_alloc _ _ _ hq))
  clear h hv hp ho hS
  go_enter Tryd.func42, Tryd.ntmps42
  go_wp2
  refine wp_loop_rounds 3 ?_
  rw [rounds_succ]
  go_wp2
  refine wp_loop_rounds 1 ?_
  rw [rounds_succ]
  go_wp2
  rw [rounds_succ]
  go_wp2
  refine wp_loop_rounds 2 ?_
  rw [rounds_succ]
  go_wp2_with fail
  refine (K43.out _).mono ?_
  rintro e w2 ⟨m, r, rfl, hm, hM, hx, hO⟩
  have HCM : Hid (∀ j u, r.cells[j]? = some u → w2.cell? ((⟨m, 0, none⟩ : Addr).add j) = some u) := (show ∀ j u, _ from fun j u hj => by rw [Addr.add_lit, Nat.zero_add, cell_of hM]; simpa using hj)
  have O2 : Hid (OnlyG g w w2) := (show OnlyG _ _ _ from OnlyG.ahead (below_alloc w _) hO)
  have HX := hid hx
  clear hm hM hx hO
  go_wp2_with (at_builtin; refine wpList_append_own _ rfl _ _ 38 rfl w.heap.size 45 i45 _ 9 104 Tryd.underlying38 hi hz0 hz1 hz2 rfl (by decide) (.slice none 0 0) 0 [] rfl (World.ownsRow_nil _ _ _ _) ⟨m, 0, none⟩ 1 1 r.cells rfl rfl HCM.out (oneR r) (by unfold maxLen; decide) (by decide) O2.out.size ?_; intro v3 w3 hrow3 hgr3 _; obtain ⟨a9, c9, hv3⟩ := row_shape hrow3; subst hv3; have R3 := hid hrow3; have O3 : Hid (OnlyG g w w3) := (show OnlyG _ _ _ from ⟨hgr3.os.trans O2.out.os, hgr3.tape.trans O2.out.tape, hgr3.output.trans O2.out.output, Nat.le_trans O2.out.size hgr3.size, fun k h1 h2 => (hgr3.block k (Nat.lt_of_lt_of_le h1 O2.out.size) (by simp [Value.ownBlock])).trans (O2.out.block k h1 h2)⟩); clear hrow3 hgr3)
  rw [rounds_succ]
  go_wp2
  rw [rounds_succ]
  go_wp2
  go_ret
  exact ⟨_, r, rfl, R3.out, HX.out, O3.out⟩
end Go.Proofs.YtefpnojanldkeaaDoor
