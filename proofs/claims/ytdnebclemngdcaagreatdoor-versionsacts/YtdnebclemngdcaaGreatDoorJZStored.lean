/- The document's answer's Put of a commit that is neither wrong nor old; The document's answer's Keys; VersionsActs: what stands between two acts; each call by what it leaves; VersionsActs: prune, copy, read, dots by what they leave; VersionsActs: Read and Dots, right or wrong; what a copied store does on its own way; A commit's literal is built: its three operations in one law, whatever the frame; Acts on versions: what a slice of them reads as; stored, by Put into blocks of its own. -/
import Derived.Test.YtdnebclemngdcaaGreatDoorJZM1
import Derived.Test.YtdnebclemngdcaaGreatDoorJZMem
import Derived.Test.YtdnebclemngdcaaGreatDoorJVOfRP
import Derived.Test.YtdnebclemngdcaaGreatDoorJWKeys
import Derived.Test.YtdnebclemngdcaaGreatDoorJZR3
import Derived.Test.YtdnebclemngdcaaGreatDoorJVOfRV
import Derived.Test.YtdnebclemngdcaaGreatDoorJVOfRX
import Derived.Test.YtdnebclemngdcaaGreatDoorJVFlt
import Derived.Laws.Tables
import Derived.Great.BuildSlice
import Derived.Test.YtdnebclemngdcaaGreatDoorJWLaid
import Derived.Test.YtdnebclemngdcaaGreatDoorJWPutB
namespace Go.Proofs.YtdnebclemngdcaaGreatDoor
open Go.RowKit Go.Sort Go.Maps
set_option maxRecDepth 100000
set_option linter.unusedSectionVars false
variable [Inhabited ComV] [DecidableEq D3] [Inhabited D3] [Inhabited Dd] [Inhabited Dn] [Inhabited OpV]

structure RPutOk (B : Nat) (w : World) (q : Nat) (bv lv : Value) (n : Nat) (xs r : List Value) (e : Ending) (w' : World) : Prop where
  fine : e = .returned (.agg #[.int .i64 0, .int .i64 (-1)])
  st : ∃ v9, w'.heap[q]? = some (.cells #[bv, v9] 73 (0, 0)) ∧ w'.ownsRow B 34 3 v9 (n + 1) (xs ++ r) ∧ ∀ b, v9.ownBlock = some b → lv.ownBlock = some b ∨ w.heap.size ≤ b
  os : w'.os = w.os
  tape : w'.tape = w.tape
  output : w'.output = w.output
  size : w.heap.size ≤ w'.heap.size
  keep : ∀ b, b < w.heap.size → b ≠ q → lv.ownBlock ≠ some b → w'.heap[b]? = w.heap[b]?
def RPutRet (er : Nat × Option Nat) (B : Nat) (w : World) (q : Nat) (bv lv : Value) (n : Nat) (xs r : List Value) (e : Ending) (w' : World) : Prop := (er.1 ≠ 0 ∧ FltRet w er e w') ∨ (er.1 = 0 ∧ RPutOk B w q bv lv n xs r e w')
theorem heap_setCells_ne (b : Nat) : ∀ (vs : List Value) (o : Nat) (w : World) (i : Nat), i ≠ b → (w.setCells b o vs).heap[i]? = w.heap[i]?
  | [], _, _, _, _ => rfl
  | v :: r, o, w, i, hi => by
    show ((w.setCell ⟨b, o, none⟩ v).setCells b (o + 1) r).heap[i]? = _; rw [heap_setCells_ne b r (o + 1) _ i hi]; exact Below.heap_setCell _ _ _ _ hi
theorem rput_fin {B : Nat} {w wr w9 : World} {q rb nl : Nat} {bv lv v9 : Value} {xs r : List Value} {o : Obj} {cs : Array Value} (hb : Below w.heap.size w wr) (hg9 : (wr.drew.alloc o).grownBy w9 lv.ownBlock) (hat : v9.ownBlock = lv.ownBlock ∨ v9.ownBlock = some (wr.drew.alloc o).heap.size) (hr9 : w9.ownsRow B 34 3 v9 (nl + 1) (xs ++ r)) (hq9 : w9.heap[q]? = some (.cells #[bv, lv] 73 (0, 0))) (hql : q < w.heap.size) (hrb : w.heap.size ≤ rb) (hrz : w9.heap[rb]? = some (.cells cs 60 (0, 0))) (vs : List Value) :
    RPutOk B w q bv lv nl xs r (.returned (.agg #[.int .i64 0, .int .i64 (-1)])) ((w9.setCell ⟨q, 1, none⟩ v9).setCells rb 0 vs) := by
  have hsz : (wr.drew.alloc o).heap.size = wr.heap.size + 1 := by show (wr.alloc o).heap.size = _; simp
  have hg := hg9.size; have hb' := hb.size; have bl : Below 0 w9 ((w9.setCell ⟨q, 1, none⟩ v9).setCells rb 0 vs) := below_setCells (Nat.zero_le _) _ _ ((Below.refl 0 w9).setCell (Nat.zero_le _) _); have other : ∀ b, b ≠ q → b ≠ rb → ((w9.setCell ⟨q, 1, none⟩ v9).setCells rb 0 vs).heap[b]? = w9.heap[b]? := fun b h2 h3 => (heap_setCells_ne _ _ _ _ _ h3).trans (Below.heap_setCell _ _ _ _ h2)
  refine ⟨rfl, ⟨v9, ?_, ?_, fun b h => ?_⟩, bl.os.trans (hg9.os.trans hb.os), bl.tape.trans (hg9.tape.trans hb.tape), bl.output.trans (hg9.output.trans hb.output), by have := bl.size; omega, fun b h1 h2 h3 => ?_⟩
  · rw [heap_setCells_ne _ _ _ _ _ (by omega), heap_set hq9]; rfl
  · refine owns_own hr9 fun b h => ?_
    obtain ⟨cs', hcs⟩ := own_type hr9 h; refine other b (fun e => ?_) (fun e => ?_)
    · rw [e] at hcs; exact absurd (cells_type hq9 hcs) (by decide)
    · rw [e] at hcs; exact absurd (cells_type hrz hcs) (by decide)
  · rcases hat with e | e
    · rw [e] at h; exact .inl h
    · rw [e] at h; have := Option.some.inj h; exact .inr (by omega)
  · rw [other b h2 (by omega), hg9.block b (by omega) (fun e => h3 e.symm)]; exact ((MapKept.heap_alloc wr o).2 b (by omega)).trans (hb.block b h1)
set_option maxHeartbeats 8000000 in
theorem rPut_new (w : World) (q : Nat) (bv lv : Value) (hq : w.heap[q]? = some (.cells #[bv, lv] 73 (0, 0))) (bs : List Int) (hbv : IntsAt w bv bs) (hb1' : 1 ≤ bs.length) (hb6 : bs.length ≤ 6) (c : ComV) (wv ov : Value) (hw : IntsAt w wv c.when_) (ho : OpsAt w ov c.ops) (hsm : SmallC c) (hcom : comErr c = (0, none)) (hlen : c.when_.length = bs.length) (hle : leB c.when_ bs = false)
    (L : List ComV) (hL : ComsAt w lv L) (hok : ∀ c ∈ L, ComOk c) (hl : L.length ≤ 1000) (B : Nat) (xs : List Value) (hrow : w.ownsRow B 34 3 lv L.length xs) (hB : B ≤ w.heap.size) (s : St) (hds : s.dots = L.flatMap dotsC) :
    Calls Tryz.prog 23 #[.pointer (some ⟨q, 0, none⟩), .agg #[wv, .int .i64 c.place, ov]] w fun e w' => RPutRet (existE s c) B w q bv lv L.length xs [wv, .int .i64 c.place, ov] e w' := by
  obtain ⟨i28, hi28, hy0, hy1, hy2⟩ := info_parts Tryz.info28o; obtain ⟨hg, hb1, hs1⟩ := two_boxes w (.cells #[wv, .int .i64 c.place, ov] 34); have K53 := hid (rCommitFault _ c wv ov (hw.mono hb1 (Nat.le_refl _)) (ho.mono hb1 (Nat.le_refl _)) hsm.1 hsm.2.1 hsm.2.2); unfold FltRet at K53; rw [hcom] at K53; simp only [faultAt] at K53; have hC := comOk_of (c := c) (by rw [hcom]); have HC := hid hC; have HW := hid hw; have HBV := hid hbv; obtain ⟨a1, c1, rfl⟩ := hw.slice; obtain ⟨a2, c2, rfl, _, _, ho2⟩ := ho.shape; obtain ⟨ba, bc, rfl⟩ := hbv.slice; have G0 : Hid (w.cell? ⟨q, 0, none⟩ = some (.slice ba bs.length bc)) := (show _ = _ from by simp only [World.cell?, hq]; rfl); have HQ := hid hq; obtain ⟨n1, hn1⟩ : ∃ n1, n1 = c.when_.length := ⟨_, rfl⟩; obtain ⟨n2, hn2⟩ : ∃ n2, n2 = c.ops.length := ⟨_, rfl⟩; obtain ⟨pl, hpl⟩ : ∃ pl, pl = c.place := ⟨_, rfl⟩
  obtain ⟨nb, hnb⟩ : ∃ nb, nb = bs.length := ⟨_, rfl⟩; have HN1 := hid hn1; have HN2 := hid hn2; have HPL := hid hpl; have HNB := hid hnb; rw [← hn1, ← hn2, ← hpl] at K53 hg hb1 hs1 ⊢; rw [← hn1] at HW; rw [← hnb] at G0 HBV HQ; have hnn : ((n1 : Int) != (nb : Int)) = false := by rw [bne_eq_false_iff_eq]; omega
  have K55 := hid (fun W (hW : Below w.heap.size w W) => in_any W (.slice a1 n1 c1) (.slice ba nb bc) c.when_ bs (HW.out.mono hW (Nat.le_refl _)) (HBV.out.mono hW (Nat.le_refl _)) hlen (by rw [hlen]; exact hb1') (by omega)); rw [hle] at K55; have hC2 := hC; obtain ⟨pn, hpn⟩ : ∃ pn : Nat, pl = pn := ⟨c.place.toNat, by have := hC2.lo; omega⟩; have hpi := hC2.hi; have hplt : pn < n1 := by omega
  obtain ⟨b1, o1, c1', hwe, g1⟩ := HW.out.some (by omega : 1 ≤ c.when_.length); injection hwe with hwe hwm hwe2; clear hwm; subst hwe hwe2; obtain ⟨b2, o2, ha2, ho3⟩ := ho2.resolve_left hC2.some_; subst ha2; obtain ⟨T, hT⟩ : ∃ T, T = c.when_.getD pn 0 := ⟨_, rfl⟩; have ct := g1 pn (by omega); rw [← hT] at ct; have CT := hid ct; have HT := hid hT; have HPN := hid (hpl.symm.trans hpn); have HO3 := hid ho3; have hno12 : n2 ≤ 12 := by rw [hn2]; exact hC2.few
  have HL := hid hL; have HOK := hid hok; have HROW := hid hrow; have HDS := hid hds; subst hpn; obtain ⟨la, lc, rfl, _⟩ := hL.shape; obtain ⟨nl, hnl⟩ : ∃ nl, nl = L.length := ⟨_, rfl⟩; rw [← hnl] at HROW HL HQ hl ⊢; have HNL := hid hnl; have L1 : Hid (w.cell? ⟨q, 1, none⟩ = some (.slice la nl lc)) := (show _ = _ from by simp only [World.cell?, HQ.out]; rfl); obtain ⟨w1, hw1⟩ : ∃ w1, w1 = (w.alloc (.cells #[.slice (some ⟨b1, o1, none⟩) n1 c1, .int .i64 pn, .slice (some ⟨b2, o2, none⟩) n2 c2] 34)).alloc (.cells #[.int .i64 0, .int .i64 0] 60) := ⟨_, rfl⟩
  have x0 : w1.heap[w.heap.size]? = some (.cells #[.slice (some ⟨b1, o1, none⟩) n1 c1, .int .i64 pn, .slice (some ⟨b2, o2, none⟩) n2 c2] 34 (0, 0)) := by
    rw [hw1, (MapKept.heap_alloc _ _).2 _ (by simp)]; exact (MapKept.heap_alloc _ _).1
  have X0 := hid x0; have d0 : w1.cell? ⟨w.heap.size, 0, none⟩ = some (.slice (some ⟨b1, o1, none⟩) n1 c1) := by simp only [World.cell?, x0]; rfl
  have d1 : w1.cell? ⟨w.heap.size, 1, none⟩ = some (.int .i64 pn) := by simp only [World.cell?, x0]; rfl
  have d2 : w1.cell? ⟨w.heap.size, 2, none⟩ = some (.slice (some ⟨b2, o2, none⟩) n2 c2) := by simp only [World.cell?, x0]; rfl
  rw [← hw1] at K53 hg hb1 hs1; have HG := hid hg; have HB1 := hid hb1; have HS1 := hid hs1; clear hw ho hsm hcom hn1 hn2 hpl hnb hg hb1 hs1 x0 hbv hq hC hlen hle ho2 ho3 hC2 hpi g1 hT ct hL hok hrow hds hnl; go_enter Tryz.func23, Tryz.ntmps23; go_wp2_with fail; rw [← hw1]; refine K53.out.mono ?_; rintro e w2 ⟨rfl, hb2⟩; obtain ⟨w3, hw3⟩ : ∃ w3, w3 = w2.alloc (.cells #[.int .i64 0, .int .i64 (-1)] 60) := ⟨_, rfl⟩; have hb3 : Below w1.heap.size w1 w3 := by rw [hw3]; exact hb2.alloc hb2.size _
  have Z3 := hid ((hb3.block _ (by rw [HS1.out]; omega)).trans HG.out); have B3 := hid (HB1.out.trans (hb3.mono HB1.out.size)); have x3 : w3.heap[w2.heap.size]? = some (.cells #[.int .i64 0, .int .i64 (-1)] 60 (0, 0)) := by rw [hw3]; exact (MapKept.heap_alloc _ _).1
  have X3 := hid x3; have C3 := hid ((hb3.block _ (lt_of_heap X0.out)).trans X0.out); have hfb : w.heap.size + 1 < w2.heap.size := by have := hb2.size; have := HS1.out; omega
  have f0 : w3.cell? ⟨w2.heap.size, 0, none⟩ = some (.int .i64 0) := by simp only [World.cell?, x3]; rfl
  have e0 : w3.cell? ⟨w.heap.size, 0, none⟩ = some (.slice (some ⟨b1, o1, none⟩) n1 c1) := by simp only [World.cell?, C3.out]; rfl
  have g0 : w3.cell? ⟨q, 0, none⟩ = some (.slice ba nb bc) := by rw [B3.out.cell (lt_of_cell G0.out)]; exact G0.out
  obtain ⟨fb, hfbe⟩ : ∃ fb, fb = w2.heap.size := ⟨_, rfl⟩; obtain ⟨rb, hrb⟩ : ∃ rb, rb = w.heap.size + 1 := ⟨_, rfl⟩; obtain ⟨cb, hcb⟩ : ∃ cb, cb = w.heap.size := ⟨_, rfl⟩; go_upto_region 2 with (fail); rw [← hw3]; rw [← hfbe] at f0 X3 hfb ⊢; rw [← hrb] at Z3 hfb ⊢; rw [← hcb] at C3 e0 ⊢; have HRB := hid hrb; have HCB := hid hcb; have HRC : Hid (rb = cb + 1) := (show _ = _ from by omega); have HFB := hid hfb; clear hb2 hb3 x3 d0 d1 d2 hw1 K53 hw3 hfbe hrb hcb X0 hfb; go_wp2_with fail
  go_quiet (fail)
  obtain ⟨w4, hw4⟩ : ∃ w4, w4 = w3.drewN nq := ⟨_, rfl⟩; rw [← hw4]; have hb4 : Below w3.heap.size w3 w4 := by rw [hw4]; exact below_draws (Below.refl _ _) _
  have B4 := hid (B3.out.trans (hb4.mono B3.out.size)); have Z4 := hid ((hb4.block _ (lt_of_heap Z3.out)).trans Z3.out); have C4 := hid ((hb4.block _ (lt_of_heap C3.out)).trans C3.out); have X4 := hid ((hb4.block _ (lt_of_heap X3.out)).trans X3.out); have e4 : w4.cell? ⟨cb, 0, none⟩ = some (.slice (some ⟨b1, o1, none⟩) n1 c1) := by simp only [World.cell?, C4.out]; rfl
  have g4 : w4.cell? ⟨q, 0, none⟩ = some (.slice ba nb bc) := by rw [B4.out.cell (lt_of_cell G0.out)]; exact G0.out
  clear hw4 hb4 f0 e0 g0; go_wp2_with fail; have K55d := hid (K55.out w4.drew B4.out.drew)
  go_region_held (fun w' => w'.cell? ⟨cb, 0, none⟩ = some (.slice (some ⟨b1, o1, none⟩) n1 c1) ∧ w'.cell? ⟨q, 0, none⟩ = some (.slice ba nb bc)) (go_keep) (first | (go_at_call 55; refine K55d.out.mono ?_; rintro e w5 ⟨rfl, q5, hq5⟩; have k0 : w5.cell? ⟨cb, 0, none⟩ = some (.slice (some ⟨b1, o1, none⟩) n1 c1) := (by rw [hq5]; exact e4); have k1 : w5.cell? ⟨q, 0, none⟩ = some (.slice ba nb bc) := (by rw [hq5]; exact g4); have HQ5 := hid hq5; clear hq5))
  have hb45 : Below w4.heap.size w4 w5 := by rw [HQ5.out]; exact below_draws (Below.refl _ _).drew q5
  have B5 := hid (B4.out.trans (hb45.mono B4.out.size)); have Z5 := hid ((hb45.block _ (lt_of_heap Z4.out)).trans Z4.out); have C5 := hid ((hb45.block _ (lt_of_heap C4.out)).trans C4.out); have X5 := hid ((hb45.block _ (lt_of_heap X4.out)).trans X4.out); clear HQ5 k0 k1 e4 g4 hb45 K55d; have hl1000 : nl ≤ 1000 := hl; go_wp2_with fail
  go_loopw [7] (fun i wr => ∃ t : Nat, t ≤ n2 ∧ i = .int .i64 t ∧ Hid (∀ j, j < t → dotC c c.ops[j]! ∉ s.dots) ∧ Hid (Below w.heap.size w wr) ∧ Hid (wr.heap[cb]? = some (.cells #[.slice (some ⟨b1, o1, none⟩) n1 c1, .int .i64 pn, .slice (some ⟨b2, o2, none⟩) n2 c2] 34 (0, 0))) ∧ Hid (wr.heap[rb]? = some (.cells #[.int .i64 0, .int .i64 0] 60 (0, 0))) ∧ Hid (wr.heap[fb]? = some (.cells #[.int .i64 0, .int .i64 (-1)] 60 (0, 0)))) (fun i _ => n2 - (intOf i).toNat)
  case atStart => exact ⟨0, Nat.zero_le _, rfl, fun t ht => absurd ht (Nat.not_lt_zero _), B5.out, C5.out, Z5.out, X5.out⟩
  case round =>
    obtain ⟨t, ht, rfl, JN, JB, JC, JZ, JX⟩ := hrel; have k0 : wr.cell? ⟨cb, 0, none⟩ = some (.slice (some ⟨b1, o1, none⟩) n1 c1) := by simp only [World.cell?, JC.out]; rfl
    have k1 : wr.cell? ⟨cb, 1, none⟩ = some (.int .i64 pn) := by simp only [World.cell?, JC.out]; rfl
    have k2 : wr.cell? ⟨cb, 2, none⟩ = some (.slice (some ⟨b2, o2, none⟩) n2 c2) := by simp only [World.cell?, JC.out]; rfl
    by_cases htl : t < n2
    · have htl' : t < c.ops.length := by rw [← HN2.out]; exact htl
      obtain ⟨dp', dc', _, s0, _⟩ := HO3.out t htl'; have kx := (JB.out.cell (lt_of_cell s0)).trans s0; have kt := (JB.out.cell (lt_of_cell CT.out)).trans CT.out; obtain ⟨x, hx⟩ : ∃ x, x = c.ops[t]!.at_ := ⟨_, rfl⟩; rw [← hx] at kx
      have HDC : Hid (dotC c c.ops[t]! = ⟨pn, T, x⟩) := (show _ = _ from by
        unfold dotC; rw [HPN.out, Int.toNat_natCast, ← HT.out, ← hx])
      have K56 := hid (fun W (hW : Below w.heap.size w W) => rHas W q (.slice ba nb bc) (.slice la nl lc) ((hW.block q (lt_of_heap HQ.out)).trans HQ.out) L (HL.out.mono hW (Nat.le_refl _)) HOK.out (by rw [← HNL.out]; exact hl1000) ⟨pn, T, x⟩); obtain ⟨res, hres⟩ : ∃ res, res = decide ((⟨pn, T, x⟩ : D3) ∈ L.flatMap dotsC) := ⟨_, rfl⟩; rw [← hres] at K56; have HRS := hid hres; have hi2 : (t : Int) < (n2 : Int) := by omega
      have hp9 : (pn : Int) < (n1 : Int) := by omega
      have K56d := hid (K56.out wr.drew JB.out.drew); clear s0 hx hres K56; go_wp2_with fail
      go_region_held (fun u => u.cell? ⟨cb, 0, none⟩ = some (.slice (some ⟨b1, o1, none⟩) n1 c1) ∧ u.cell? ⟨cb, 1, none⟩ = some (.int .i64 pn) ∧ u.cell? ⟨cb, 2, none⟩ = some (.slice (some ⟨b2, o2, none⟩) n2 c2) ∧ u.cell? ⟨b2, o2 + t * 7, none⟩ = some (.int .i64 x) ∧ u.cell? ⟨b1, o1 + pn, none⟩ = some (.int .i64 T)) (go_keep) (first | (go_at_call 56; refine K56d.out.mono ?_; rintro e w6 ⟨rfl, hb6⟩; have hb6' : Below wr.heap.size wr w6 := (below_draws (Below.refl wr.heap.size wr) 1).trans hb6; have m0 := (hb6'.cell (lt_of_cell k0)).trans k0; have m1 := (hb6'.cell (lt_of_cell k1)).trans k1; have m2 := (hb6'.cell (lt_of_cell k2)).trans k2; have m3 := (hb6'.cell (lt_of_cell kx)).trans kx; have m4 := (hb6'.cell (lt_of_cell kt)).trans kt; have HB6 := hid hb6'; clear hb6 hb6'))
      have B6 := hid (JB.out.trans (HB6.out.mono JB.out.size)); have Z6 := hid ((HB6.out.block _ (lt_of_heap JZ.out)).trans JZ.out); have C6 := hid ((HB6.out.block _ (lt_of_heap JC.out)).trans JC.out); have X6 := hid ((HB6.out.block _ (lt_of_heap JX.out)).trans JX.out); clear m0 m1 m2 m3 m4 k0 k1 k2 kx kt K56d HB6
      cases res with
      | true =>
        have HEE : Hid (existE s c = (6, some t)) := (show _ = _ from existE_at htl' JN.out (by rw [HDC.out, HDS.out]; exact of_decide_eq_true HRS.out.symm)); have X := hid (res_box Z6.out)
        go_wp2_with (refine wpList_store_k _ rfl (.tmp 4) (.tmp 61) 60 rfl rb 0 [.int .i64 6, .int .i64 t] rfl rfl 2 rfl Tryz.sizeOf60 rfl _ ?hW X.out.1 X.out.2.1 ?_; case hW => rfl)
        refine bodyPost_ret (ret_flt Tryz.results23 _ _ rb _ _ rfl (X.out.2.2 _ _)) rfl (.inl ⟨by rw [HEE.out]; exact Nat.succ_ne_zero 5, ?_, below_setCells (by have := HRB.out; omega) _ _ B6.out⟩); rw [HEE.out]; rfl
      | false =>
        go_wp2_with fail; refine ⟨⟨t + 1, by omega, by go_num, fun j hj => ?_, B6.out, C6.out, Z6.out, X6.out⟩, by simp [intOf]; omega⟩
        rcases Nat.lt_succ_iff_lt_or_eq.1 hj with h | rfl
        · exact JN.out j h
        · rw [HDC.out, HDS.out]; exact of_decide_eq_false HRS.out.symm
    · obtain rfl : t = n2 := by omega
      have hi2 : ¬ (t : Int) < (t : Int) := by omega
      have HEE : Hid (existE s c = (0, none)) := (show _ = _ from by
        unfold existE; exact scan_none fun i hi => if_neg (JN.out i (by rw [HN2.out]; exact hi)))
      have l1 := (JB.out.cell (lt_of_cell L1.out)).trans L1.out; have lvlt : ∀ b, (Value.slice la nl lc).ownBlock = some b → b < w.heap.size := fun b hb => (HROW.out.lt b hb).2
      have hrw : wr.ownsRow B 34 3 (.slice la nl lc) nl xs := owns_below HROW.out fun b cs hb => JB.out.block b (lt_of_heap hb)
      have ROWD : Hid (∀ o, (wr.drew.alloc o).ownsRow B 34 3 (.slice la nl lc) nl xs) := (show ∀ o, _ from fun o => hrw.alloc o); have ONE := hid (one3v (.slice (some ⟨b1, o1, none⟩) n1 c1) (.slice (some ⟨b2, o2, none⟩) t c2) pn (some ⟨b1, o1, none⟩) (some ⟨b2, o2, none⟩) n1 c1 t c2 rfl rfl); have hk2 : nl + 1 ≤ maxLen := by unfold maxLen; omega
      have hk3 : (nl + 1) * 56 ≤ 140737488355328 := by omega
      have hBw : ∀ o, B ≤ (wr.drew.alloc o).heap.size := fun o => by have := JB.out.size; show B ≤ (wr.alloc o).heap.size; simp; omega
      have hnq : Hid ((Value.slice la nl lc).ownBlock ≠ some q ∧ (Value.slice la nl lc).ownBlock ≠ some cb ∧ (Value.slice la nl lc).ownBlock ≠ some rb ∧ (Value.slice la nl lc).ownBlock ≠ some fb) := (show _ ∧ _ from by
        refine ⟨fun e => ?_, fun e => ?_, fun e => ?_, fun e => ?_⟩
        · obtain ⟨cs, hcs⟩ := own_type HROW.out e; rw [HQ.out] at hcs; injection hcs with hcs; injection hcs with _ hcs; cases hcs
        · have := lvlt _ e; have := HCB.out; omega
        · have := lvlt _ e; have := HRB.out; omega
        · have := lvlt _ e; have := HRB.out; have := HFB.out; omega)
      have HRW := hid hrw; have HLV := hid lvlt; have JBQ : Hid (wr.heap[q]? = some (.cells #[.slice ba nb bc, .slice la nl lc] 73 (0, 0))) := (show _ = _ from (JB.out.block q (lt_of_heap HQ.out)).trans HQ.out); have KEEP9 : Hid (∀ (o : Obj) (w9 : World), (wr.drew.alloc o).grownBy w9 (Value.slice la nl lc).ownBlock → ∀ b, b < wr.heap.size → (Value.slice la nl lc).ownBlock ≠ some b → w9.heap[b]? = wr.heap[b]?) := (show ∀ o w9, _ → _ from fun o w9 hg b hb hn => (hg.block b (by show b < (wr.alloc o).heap.size; simp; omega) (fun e => hn e.symm)).trans ((MapKept.heap_alloc wr o).2 b hb)); clear hrw lvlt; go_wp2_with fail
      go_region_held_law (fun u => u.cell? ⟨q, 1, none⟩ = some (.slice la nl lc) ∧ u.cell? ⟨cb, 0, none⟩ = some (.slice (some ⟨b1, o1, none⟩) n1 c1) ∧ u.cell? ⟨cb, 1, none⟩ = some (.int .i64 pn) ∧ u.cell? ⟨cb, 2, none⟩ = some (.slice (some ⟨b2, o2, none⟩) t c2)) (go_keep) (first
        | (refine step_append_at rfl _ _ 22 rfl B 34 i28 _ 3 56 Tryz.underlying22 hi28 hy0 hy1 hy2 rfl (by decide) (.slice la nl lc) nl _ rfl (ROWD.out _) _ 1 1 [.slice (some ⟨b1, o1, none⟩) n1 c1, .int .i64 pn, .slice (some ⟨b2, o2, none⟩) t c2] rfl rfl (cells3_new _ _ _) ONE.out hk2 hk3 (hBw _) ?_; intro v9 w9 hrow9 hgr9 hat9; obtain ⟨va9, vc9, hv9⟩ := row_shape hrow9; subst hv9; have hq9 := (KEEP9.out _ w9 hgr9 q (lt_of_heap JBQ.out) hnq.out.1).trans JBQ.out; have hc9 := (KEEP9.out _ w9 hgr9 cb (lt_of_heap JC.out) hnq.out.2.1).trans JC.out; have n0 : w9.cell? ⟨q, 1, none⟩ = some (.slice la nl lc) := (by simp only [World.cell?, hq9]; rfl); have n1' : w9.cell? ⟨cb, 0, none⟩ = some (.slice (some ⟨b1, o1, none⟩) n1 c1) := (by simp only [World.cell?, hc9]; rfl); have n2' : w9.cell? ⟨cb, 1, none⟩ = some (.int .i64 pn) := (by simp only [World.cell?, hc9]; rfl); have n3' : w9.cell? ⟨cb, 2, none⟩ = some (.slice (some ⟨b2, o2, none⟩) t c2) := (by simp only [World.cell?, hc9]; rfl); have HQ9 := hid hq9; have HC9 := hid hc9; have HR9 := hid hrow9; have HG9 := hid hgr9; have HA9 := hid hat9; clear hrow9 hgr9 hat9 hq9 hc9))
      have HZ9 := hid ((KEEP9.out _ w9 HG9.out rb (lt_of_heap JZ.out) hnq.out.2.2.1).trans JZ.out); have HX9 := hid ((KEEP9.out _ w9 HG9.out fb (lt_of_heap JX.out) hnq.out.2.2.2).trans JX.out); have fz : w9.frozen? ⟨q, 1, none⟩ = false := by simp only [World.frozen?, HQ9.out]; simp
      have FIN := hid (rput_fin JB.out HG9.out HA9.out HR9.out HQ9.out (lt_of_heap HQ.out) (by have := HRB.out; omega) HZ9.out [.int .i64 0, .int .i64 (-1)]); have HERR : Hid ((existE s c).1 = 0) := (show _ = _ from by rw [HEE.out]); clear n1' n2' n3' KEEP9 ROWD hBw k0 k1 k2; go_upto_region 17 with (fail); obtain ⟨w10, hw10⟩ : ∃ w10, w10 = w9.setCell ⟨q, 1, none⟩ (.slice va9 (nl + 1) vc9) := ⟨_, rfl⟩; rw [← hw10] at FIN ⊢; have hfq : fb ≠ q := fun e => by have := lt_of_heap HQ.out; have := HFB.out; have := HRB.out; omega
      have hrq : rb ≠ q := fun e => by have := lt_of_heap HQ.out; have := HRB.out; omega
      have x10 : w10.heap[fb]? = some (.cells #[.int .i64 0, .int .i64 (-1)] 60 (0, 0)) := by rw [hw10, Below.heap_setCell _ _ _ _ hfq]; exact HX9.out
      have z10 : w10.heap[rb]? = some (.cells #[.int .i64 0, .int .i64 0] 60 (0, 0)) := by rw [hw10, Below.heap_setCell _ _ _ _ hrq]; exact HZ9.out
      have y0 : w10.cell? ⟨fb, 0, none⟩ = some (.int .i64 0) := by simp only [World.cell?, x10]; rfl
      have y1 : w10.cell? ⟨fb, 1, none⟩ = some (.int .i64 (-1)) := by simp only [World.cell?, x10]; rfl
      have X := hid (res_box z10); clear hw10 x10 z10 hfq hrq n0 fz
      go_wp2_with (refine wpList_store_k _ rfl (.tmp 4) (.tmp 73) 60 rfl rb 0 [.int .i64 0, .int .i64 (-1)] rfl rfl 2 rfl Tryz.sizeOf60 rfl _ ?hW X.out.1 X.out.2.1 ?_; case hW => rfl)
      refine bodyPost_ret (ret_flt Tryz.results23 _ _ rb _ _ rfl (X.out.2.2 _ _)) rfl (.inr ⟨HERR.out, by rw [← HNB.out]; exact FIN.out⟩)
end Go.Proofs.YtdnebclemngdcaaGreatDoor
namespace Go.Proofs.YtdnebclemngdcaaGreatDoor
open Go.RowKit Go.Sort Go.Maps
set_option maxRecDepth 100000
set_option linter.unusedSectionVars false
variable [Inhabited ComV] [DecidableEq D3] [Inhabited D3] [Inhabited Dd] [Inhabited Dn] [Inhabited OpV]

def opKeys (c : ComV) : List Tx := c.ops.map fun o => o.key.data.toList
def keysL (L : List ComV) : List Tx := (L.flatMap opKeys).foldl enterL []
theorem enterK_len (l : List Tx) (s : Tx) : (enterL l s).length ≤ l.length + 1 := by
  have h := congrArg List.length (List.takeWhile_append_dropWhile (p := fun x => decide (x < s)) (l := l)); rw [List.length_append] at h; unfold enterL; rw [List.length_append]
  split
  · omega
  · rw [List.length_cons]; omega
theorem enters_len : ∀ (ts acc : List Tx), (ts.foldl enterL acc).length ≤ acc.length + ts.length
  | [], acc => by simp
  | t :: ts, acc => by
    rw [List.foldl_cons, List.length_cons]; have h1 := enters_len ts (enterL acc t); have h2 := enterK_len acc t; omega
theorem keys_take {L : List ComV} {k : Nat} (h : k < L.length) : keysL (L.take (k + 1)) = (opKeys L[k]!).foldl enterL (keysL (L.take k)) := by
  unfold keysL; rw [List.take_succ_eq_append_getElem h, List.flatMap_append, List.foldl_append, getElem!_pos L k h]; simp
theorem opKeys_take {c : ComV} {t : Nat} (h : t < c.ops.length) (acc : List Tx) : ((opKeys c).take (t + 1)).foldl enterL acc = enterL (((opKeys c).take t).foldl enterL acc) c.ops[t]!.key.data.toList := by
  have h' : t < (opKeys c).length := by unfold opKeys; rw [List.length_map]; exact h
  rw [List.take_succ_eq_append_getElem h', List.foldl_append, getElem!_pos c.ops t h]; simp [opKeys]
theorem keysL_mem (L : List ComV) (x : Tx) : x ∈ keysL L ↔ x ∈ L.flatMap opKeys := by
  have h := (enters_aux (L.flatMap opKeys) [] List.Pairwise.nil).2 x; unfold keysL; rw [h]; simp
theorem keysL_rise (L : List ComV) : Rise (keysL L) := (enters_aux (L.flatMap opKeys) [] List.Pairwise.nil).1
theorem rowOf_some {nb : Nat} {L : List ComV} (x : Tx) : rowOf (stOf nb L) ⟨x.toArray⟩ ≠ [] ↔ x ∈ L.flatMap opKeys := by
  constructor
  · intro h; obtain ⟨c, hc⟩ := List.exists_mem_of_ne_nil _ h; obtain ⟨h1, h2⟩ := List.mem_filter.1 hc; obtain ⟨c0, hc0, hx⟩ := List.mem_flatMap.1 h1; obtain ⟨o, ho, rfl⟩ := List.mem_map.1 hx; have hk : o.key = ⟨x.toArray⟩ := of_decide_eq_true h2; exact List.mem_flatMap.2 ⟨c0, hc0, List.mem_map.2 ⟨o, ho, by rw [hk]⟩⟩
  · intro h e; obtain ⟨c, hc, hx⟩ := List.mem_flatMap.1 h; obtain ⟨o, ho, hk⟩ := List.mem_map.1 hx; have hm : partC c o ∈ rowOf (stOf nb L) ⟨x.toArray⟩ := List.mem_filter.2 ⟨List.mem_flatMap.2 ⟨c, hc, List.mem_map.2 ⟨o, ho, rfl⟩⟩, decide_eq_true (by rw [keyOf_partC, ← hk])⟩; rw [e] at hm; simp at hm
theorem keys_same {s : St} {nb : Nat} {L : List ComV} {ss : List Tx} (h : KeysOfSt s ss) (hr : ∀ k, rowOf s k = [] ↔ rowOf (stOf nb L) k = []) : ss = keysL L := by
  obtain ⟨ks, h1, h2, rfl⟩ := h; have hle := sort_le ks; have hnd : (ks.mergeSort fun x y => decide (x ≤ y)).Nodup := (List.mergeSort_perm _ _).nodup_iff.2 h1; refine rise_unique ?_ (keysL_rise L) fun x => ?_
  · refine (hle.and (List.nodup_iff_pairwise_ne.1 hnd)).imp ?_; intro a b ⟨h3, h4⟩; rcases Decidable.em (a < b) with h | h
    · exact h
    · exact absurd (List.le_antisymm h3 (List.not_lt.1 h)) h4
  · rw [(List.mergeSort_perm _ _).mem_iff, h2, keysL_mem, ← rowOf_some (nb := nb), ne_eq, ne_eq, hr]
set_option maxHeartbeats 4000000 in
theorem rKeys (w : World) (q : Nat) (bv lv : Value) (hq : w.heap[q]? = some (.cells #[bv, lv] 73 (0, 0))) (L : List ComV) (hL : ComsAt w lv L) (hok : ∀ c ∈ L, c.ops.length ≤ 12) (hl : L.length ≤ 1000) :
    Calls Tryz.prog 35 #[.pointer (some ⟨q, 0, none⟩)] w fun e w' => ∃ v, e = .returned v ∧ StrsAt w' v (keysL L) ∧ Below w.heap.size w w' := by
  obtain ⟨la, lc, rfl, _, _, hrow⟩ := hL.shape; obtain ⟨n, hn⟩ : ∃ n, n = L.length := ⟨_, rfl⟩; have c1 : w.cell? ⟨q, 1, none⟩ = some (.slice la n lc) := by rw [hn]; simp only [World.cell?, hq]; rfl
  have HN := hid hn; have HR := hid hrow; have HOK := hid hok; have C1 := hid c1; rw [← hn] at hl; clear hL hrow hok hn hq; go_enter Tryz.func35, Tryz.ntmps35; go_wp2_with fail; clear c1
  go_loopw [3, 4] (fun v i wr => ∃ k : Nat, k ≤ n ∧ i = .int .i64 k ∧ Hid (StrsG wr v (keysL (L.take k))) ∧ Hid ((keysL (L.take k)).length ≤ 12 * k) ∧ Hid (Below w.heap.size w wr)) (fun _ i _ => n - (intOf i).toNat)
  case atStart => exact ⟨0, Nat.zero_le _, rfl, .inl ⟨rfl, rfl⟩, Nat.le_refl _, Below.refl _ _⟩
  case round =>
    obtain ⟨k, hk, rfl, HG, HLN, HB⟩ := hrel; have up : ∀ {a : Addr} {v : Value}, w.cell? a = some v → wr.cell? a = some v := fun {a v} h => by rw [HB.out.cell (lt_of_cell h)]; exact h
    have d1 := up C1.out
    by_cases hlt : k < n
    · have hkl : k < L.length := by rw [← HN.out]; exact hlt
      obtain ⟨b, off, rfl, hr'⟩ := HR.out.resolve_left (fun h => by rw [h] at hkl; simp at hkl); obtain ⟨wv, ov, hw, ho, q0, q1, q2⟩ := hr' k hkl; have hc12 := HOK.out L[k]! (by rw [getElem!_pos L k hkl]; exact List.getElem_mem _); have hkt := keys_take hkl; obtain ⟨c, hce⟩ : ∃ c, c = L[k]! := ⟨_, rfl⟩; rw [← hce] at hw ho q1 hc12 hkt; obtain ⟨a2, c2, hoe, _, _, ho2⟩ := ho.shape; subst hoe; obtain ⟨no, hno⟩ : ∃ no, no = c.ops.length := ⟨_, rfl⟩; rw [← hno] at q2 hc12; have Q2 := hid q2; have HO2 := hid ho2; have HNO := hid hno; have HKT := hid hkt; obtain ⟨acc, hacc⟩ : ∃ acc, acc = keysL (L.take k) := ⟨_, rfl⟩; rw [← hacc] at HG HLN HKT; have hi1 : (k : Int) < (n : Int) := by omega
      clear q0 q1 q2 up hce hw ho ho2 hr' hno hkt hacc; go_wp2_with fail; obtain ⟨w5, hw5⟩ : ∃ w5, w5 = wr := ⟨_, rfl⟩; rw [← hw5] at HG HB d1 ⊢; subst hw5; clear d1
      go_loopw [3, 5] (fun v i wr => ∃ t : Nat, t ≤ no ∧ i = .int .i64 t ∧ Hid (StrsG wr v (((opKeys c).take t).foldl enterL acc)) ∧ Hid ((((opKeys c).take t).foldl enterL acc).length ≤ 12 * k + t) ∧ Hid (Below w.heap.size w wr)) (fun _ i _ => no - (intOf i).toNat)
      case atStart => exact ⟨0, Nat.zero_le _, rfl, HG.out, HLN.out, HB.out⟩
      case round =>
        obtain ⟨t, ht, rfl, TG, TL, TB⟩ := hrel; have up : ∀ {a : Addr} {v : Value}, w.cell? a = some v → wr.cell? a = some v := fun {a v} h => by rw [TB.out.cell (lt_of_cell h)]; exact h
        have d1 := up C1.out; have r2 := up Q2.out
        by_cases htl : t < no
        · have htl' : t < c.ops.length := by rw [← HNO.out]; exact htl
          obtain ⟨b2, o2, ha2, ho3⟩ := HO2.out.resolve_left (fun h => by rw [h] at htl'; simp at htl'); subst ha2; obtain ⟨dp', dc', _, _, s1, _⟩ := ho3 t htl'; have u1 := up s1; have hot := opKeys_take htl' acc; obtain ⟨ky, hky⟩ : ∃ ky, ky = c.ops[t]!.key := ⟨_, rfl⟩; rw [← hky] at u1 hot; obtain ⟨ac2, hac2⟩ : ∃ ac2, ac2 = ((opKeys c).take t).foldl enterL acc := ⟨_, rfl⟩; rw [← hac2] at TG TL hot; have K60 := hid (enter_any wr _ ac2 TG.out ky (by have := TL.out; omega)); have HOT := hid hot; have hi2 : (t : Int) < (no : Int) := by omega
          clear s1 ho3 hky hac2 hot up; go_wp2_with fail; refine K60.out.mono ?_; rintro e w6 ⟨v6, rfl, hG6, hb6⟩; have G6 := hid hG6; have B6 := hid (TB.out.trans (hb6.mono TB.out.size)); clear hG6 hb6 K60; go_wp2_with fail; refine ⟨⟨t + 1, by omega, by go_num, ?_, ?_, B6.out⟩, by simp [intOf]; omega⟩
          · show StrsG _ _ _; rw [HOT.out]; exact G6.out
          · show _ ≤ _; rw [HOT.out]; have h1 := enterK_len ac2 ky.data.toList; have h2 := TL.out; omega
        · obtain rfl : t = no := by omega
          have hi2 : ¬ (t : Int) < (t : Int) := by omega
          have hfull : (opKeys c).take t = opKeys c := List.take_of_length_le (by unfold opKeys; rw [List.length_map, ← HNO.out]; exact Nat.le_refl _); rw [hfull, ← HKT.out] at TG TL; clear up hfull; go_wp2_with fail; refine ⟨⟨k + 1, by omega, by go_num, TG.out, ?_, TB.out⟩, by simp [intOf]; omega⟩; show _ ≤ _; have h2 := TL.out; omega
    · obtain rfl : k = n := by omega
      have hi2 : ¬ (k : Int) < (k : Int) := by omega
      rw [List.take_of_length_le (by rw [← HN.out]; exact Nat.le_refl _)] at HG; clear up; go_wp2_with fail; go_ret; exact ⟨_, rfl, HG.out.strs, HB.out⟩
end Go.Proofs.YtdnebclemngdcaaGreatDoor
namespace Go.Proofs.YtdnebclemngdcaaGreatDoor
open Go.RowKit Go.Sort Go.Maps
set_option maxRecDepth 100000
set_option linter.unusedSectionVars false
variable [Inhabited ComV] [DecidableEq D3] [Inhabited D3] [Inhabited Dd] [Inhabited Dn] [Inhabited OpV]

structure ActI (w0 : World) (nb i : Nat) (w : World) (p mb db n : Nat) (f : ByteArray → Value) (s : St) (R : ByteArray → List Rp) (E : Nat → OpV) (D : Nat → Value) (q : Nat) (bv lv : Value) (L : List ComV) : Prop where
  mem : MemI w0 w p mb db n nb f s R E D q s.base bv lv L
  hist : Hist s (stOf nb L)
  came : Came nb L
  n_ : n ≤ 24 * i
  l_ : L.length ≤ i
theorem ActI.moved {w0 w w' : World} {nb i p mb db n : Nat} {f : ByteArray → Value} {s : St} {R : ByteArray → List Rp} {E : Nat → OpV} {D : Nat → Value} {q : Nat} {bv lv : Value} {L : List ComV} (h : ActI w0 nb i w p mb db n f s R E D q bv lv L) (hb : Below w.heap.size w w') : ActI w0 nb i w' p mb db n f s R E D q bv lv L := ⟨h.mem.moved hb, h.hist, h.came, h.n_, h.l_⟩
theorem ActI.more {w0 w : World} {nb i p mb db n : Nat} {f : ByteArray → Value} {s : St} {R : ByteArray → List Rp} {E : Nat → OpV} {D : Nat → Value} {q : Nat} {bv lv : Value} {L : List ComV} (h : ActI w0 nb i w p mb db n f s R E D q bv lv L) : ActI w0 nb (i + 1) w p mb db n f s R E D q bv lv L := ⟨h.mem, h.hist, h.came, by have := h.n_; omega, by have := h.l_; omega⟩
theorem parts_len (l : List ComV) (hc : ∀ c ∈ l, c.ops.length ≤ 12) : (l.flatMap partsC).length ≤ 12 * l.length := by
  induction l with
  | nil => simp
  | cons c l ih =>
    have h3 := ih (fun x hx => hc x (by simp [hx])); have h4 := hc c (by simp); rw [List.flatMap_cons, List.length_append, List.length_cons]; unfold partsC at h3 ⊢; rw [List.length_map]; omega
theorem ActI.few {w0 w : World} {nb i p mb db n : Nat} {f : ByteArray → Value} {s : St} {R : ByteArray → List Rp} {E : Nat → OpV} {D : Nat → Value} {q : Nat} {bv lv : Value} {L : List ComV} (h : ActI w0 nb i w p mb db n f s R E D q bv lv L) (k : ByteArray) : (rowOf s k).length ≤ 12 * i := by
  have h1 := (h.hist.tells k).few; have h2 : (rowOf (stOf nb L) k).length ≤ (L.flatMap partsC).length := List.length_filter_le _ _; have h3 := parts_len L fun c hc => (h.came.ok c hc).few
  have := h.l_; omega
theorem ActI.coms {w0 w : World} {nb i p mb db n : Nat} {f : ByteArray → Value} {s : St} {R : ByteArray → List Rp} {E : Nat → OpV} {D : Nat → Value} {q : Nat} {bv lv : Value} {L : List ComV} (h : ActI w0 nb i w p mb db n f s R E D q bv lv L) : ComsAt w lv L := by
  obtain ⟨rows, h1, h2⟩ := h.mem.rf.row; exact coms_of_rows h1 rfl h2 h.mem.below
theorem VerO.partIn {B : Nat} {w : World} {p mb db n nb : Nat} {f : ByteArray → Value} {s : St} {R : ByteArray → List Rp} {E : Nat → OpV} {D : Nat → Value} (h : VerO B w p mb db n nb f s R E D) : ∀ c ∈ s.parts, PartIn nb c := fun c hc => by
  have hm : c ∈ rowOf s (keyOfC c) := List.mem_filter.2 ⟨hc, decide_eq_true rfl⟩; rw [← h.abs_] at hm; obtain ⟨r, hr, rfl⟩ := List.mem_map.1 hm; have hp := (h.rows.po _).pf r hr
  exact ⟨hp.ok, ⟨E r.g, rfl⟩, hp.len, fun o e => by
    obtain rfl : E r.g = o := List.head_eq_of_cons_eq e; exact hp.text⟩
theorem mem_put {A : Nat → Addr} {B : Nat} {w0 w : World} {nb p mb db n : Nat} {f : ByteArray → Value} {s : St} {R : ByteArray → List Rp} {E : Nat → OpV} {D : Nat → Value} {q : Nat} {bs : List Int} {bv lv : Value} {L : List ComV} (h : MemI w0 w p mb db n nb f s R E D q bs bv lv L) (hE : SentV A B w) (hn : n ≤ 100000) (hfew : ∀ k, (rowOf s k).length ≤ 1000) (c : ComV) (wv ov : Value) (hcT : ComT w [wv, .int .i64 c.place, ov] c) (hsm : SmallC c) (htx : ∀ o ∈ c.ops, o.text.size ≤ 1000) (hok : (putErr s c).1 = 0) :
    Calls Tryz.prog 9 #[.pointer (some ⟨p, 0, none⟩), .agg #[wv, .int .i64 c.place, ov]] w fun e w' => e = .returned .nilIface ∧ ∃ f' R' E' D', MemI w0 w' p mb db (n + 24) nb f' (putTo s c c.ops.length) R' E' D' q bs bv lv L ∧ Moves w w' (Owns p mb db f R D) (Owns p mb db f' R' D') := by
  have hp := putErr_zero hok; have hB0 := h.below.size; refine (put_okO A w hE.e4 (by have := hE.gl; have := hE.size; omega) p mb db n f s h.st.ver.ver (by omega) (fun k => by have := hfew k; omega) c wv ov hcT hsm.2.2 hp.err hp.len hp.old h.st.ok.base hp.new w0.heap.size nb R E D h.st.ver.rows h.st.ver.abs_ hB0 h.st.ok.len htx).mono ?_; rintro e w' ⟨rfl, f', R', E', D', hV, hT, _, hO⟩; have hC : ComOk c := comOk_of (by rw [hp.err]); have hm := put_moves (p := p) hT hO; exact ⟨rfl, f', R', E', D', h.prog hm (put_store h.st hV hO (put_stOk h.st.ok hC (hp.len.trans h.st.ok.len) hsm)), hm⟩
theorem mem_putE {A : Nat → Addr} {B : Nat} {w0 w : World} {nb p mb db n : Nat} {f : ByteArray → Value} {s : St} {R : ByteArray → List Rp} {E : Nat → OpV} {D : Nat → Value} {q : Nat} {bs : List Int} {bv lv : Value} {L : List ComV} (h : MemI w0 w p mb db n nb f s R E D q bs bv lv L) (hE : SentV A B w) (hfew : ∀ k, (rowOf s k).length ≤ 1000) (c : ComV) (wv ov : Value) (hcT : ComT w [wv, .int .i64 c.place, ov] c) (hsm : SmallC c) (hbad : (putErr s c).1 ≠ 0) :
    Calls Tryz.prog 9 #[.pointer (some ⟨p, 0, none⟩), .agg #[wv, .int .i64 c.place, ov]] w fun e w' => PutE A (putErr s c) w e w' :=
  putE_any A B w hE p mb db n nb f s h.st.ver.ver h.st.ok (fun k => by have := hfew k; omega) c wv ov hcT hsm hbad
theorem mem_rput {w0 w : World} {nb p mb db n : Nat} {f : ByteArray → Value} {s : St} {R : ByteArray → List Rp} {E : Nat → OpV} {D : Nat → Value} {q : Nat} {bs : List Int} {bv lv : Value} {L : List ComV} (h : MemI w0 w p mb db n nb f s R E D q bs bv lv L) (hC : Came nb L) (hb1 : 1 ≤ bs.length) (hb6 : bs.length ≤ 6) (hl : L.length ≤ 1000) (c : ComV) (wv ov : Value) (hr : ComRow w0 [wv, .int .i64 c.place, ov] c) (hsm : SmallC c) (s0 : St) (hs0 : s0.base = bs) (hd0 : s0.dots = L.flatMap dotsC) :
    Calls Tryz.prog 23 #[.pointer (some ⟨q, 0, none⟩), .agg #[wv, .int .i64 c.place, ov]] w fun e w' => ((putErr s0 c).1 ≠ 0 ∧ FltRet w (putErr s0 c) e w') ∨ ((putErr s0 c).1 = 0 ∧ e = .returned (.agg #[.int .i64 0, .int .i64 (-1)]) ∧ ∃ lv', MemI w0 w' p mb db n nb f s R E D q bs bv lv' (L ++ [c]) ∧ ∀ b, b < w.heap.size → b ≠ q → lv.ownBlock ≠ some b → w'.heap[b]? = w.heap[b]?) := by
  have hb := h.below; obtain ⟨wv', ov', hwe, hw0, ho0⟩ := hr; have hr : ComRow w0 [wv, .int .i64 c.place, ov] c := ⟨wv', ov', hwe, hw0, ho0⟩; injection hwe with e1 e2; injection e2 with _ e2; injection e2 with e2 _; subst e1 e2; have hw := hw0.mono hb (Nat.le_refl _); have ho := ho0.mono hb (Nat.le_refl _); obtain ⟨rows, hrow, hF⟩ := h.rf.row; have hL : ComsAt w lv L := coms_of_rows hrow rfl hF hb; have hbx := h.rf.box; have hbi := h.rf.base.at; unfold putErr; rw [hs0]
  by_cases h0 : (comErr c).1 ≠ 0
  · rw [if_pos h0]; refine (rPut_com w q c wv ov hw ho hsm h0).mono ?_; exact fun e w' hx => .inl ⟨h0, hx⟩
  · rw [if_neg h0]; have hc : comErr c = (0, none) := comErr_zero (by simpa using h0)
    by_cases h1 : c.when_.length ≠ bs.length
    · rw [if_pos h1]; refine (rPut_shape w q bv lv hbx bs hbi c wv ov hw ho hsm hc h1).mono ?_; exact fun e w' hx => .inl ⟨by decide, hx⟩
    · rw [if_neg h1]; have h1' : c.when_.length = bs.length := by simpa using h1
      cases h2 : leB c.when_ bs with
      | true =>
        rw [if_pos rfl]; refine (rPut_old w q bv lv hbx bs hbi hb1 hb6 c wv ov hw ho hsm hc h1' h2).mono ?_; exact fun e w' hx => .inl ⟨by decide, hx⟩
      | false =>
        rw [if_neg (by decide)]; refine (rPut_new w q bv lv hbx bs hbi hb1 hb6 c wv ov hw ho hsm hc h1' h2 L hL hC.ok hl w0.heap.size rows.flatten hrow hb.size s0 hd0).mono ?_; rintro e w' (hx | ⟨hz, hx⟩)
        · exact .inl hx
        · obtain ⟨v9, hq9, hr9, hat⟩ := hx.st
          have hne : ∀ b, b < w.heap.size → ∀ cs, w.heap[b]? = some (.cells cs 3 (0, 0)) → w'.heap[b]? = w.heap[b]? := fun b hb3 cs hcs => hx.keep b hb3 (fun e => by rw [e] at hcs; exact absurd (cells_type hcs hbx) (by decide)) (fun e => by
            obtain ⟨cs', hcs'⟩ := own_type hrow e; exact absurd (cells_type hcs hcs') (by decide))
          have hK : KeepT 3 w w' := fun b cs hb3 => hne b (lt_of_heapQ hb3) cs hb3
          refine .inr ⟨hz, hx.fine, v9, h.ref ⟨hq9, RowT.kept h.rf.base hK, ⟨rows ++ [[wv, .int .i64 c.place, ov]], ?_, f2_append hF hr⟩, h.rf.hq⟩ hx.os hx.tape hx.output hx.size hx.keep hat, hx.keep⟩; rw [List.length_append, List.flatten_append]
          simpa using hr9
theorem hist_snoc {s : St} {nb : Nat} {L : List ComV} {c : ComV} (h : Hist s (stOf nb L)) (hc : ComOk c) (hn : ∀ o ∈ c.ops, dotC c o ∉ s.dots) : Hist (putTo s c c.ops.length) (stOf nb (L ++ [c])) := by
  have := h.put hc hn; rwa [stOf_put] at this
theorem ActI.put {w0 w : World} {nb i p mb db n : Nat} {f f' : ByteArray → Value} {s : St} {R R' : ByteArray → List Rp} {E E' : Nat → OpV} {D D' : Nat → Value} {q : Nat} {bv lv lv' : Value} {L : List ComV} {wx : World} (h : ActI w0 nb i wx p mb db n f s R E D q bv lv L) {c : ComV} (hok : (putErr s c).1 = 0) (hm : MemI w0 w p mb db (n + 24) nb f' (putTo s c c.ops.length) R' E' D' q s.base bv lv' (L ++ [c])) : ActI w0 nb (i + 1) w p mb db (n + 24) f' (putTo s c c.ops.length) R' E' D' q bv lv' (L ++ [c]) := by
  have hp := putErr_zero hok; have hC : ComOk c := comOk_of (by rw [hp.err]); refine ⟨hm, hist_snoc h.hist hC hp.new, h.came.snoc hC (hp.len.trans h.mem.st.ok.len) fun o ho hd => hp.new o ho ?_, by have := h.n_; omega, by rw [List.length_append]; have := h.l_; simp; omega⟩; rw [h.hist.dots]; exact hd
theorem ActI.dots {w0 w : World} {nb i p mb db n : Nat} {f : ByteArray → Value} {s : St} {R : ByteArray → List Rp} {E : Nat → OpV} {D : Nat → Value} {q : Nat} {bv lv : Value} {L : List ComV} (h : ActI w0 nb i w p mb db n f s R E D q bv lv L) : s.dots = L.flatMap dotsC := h.hist.dots
theorem putErr_le (s : St) (c : ComV) : (putErr s c).1 ≤ 12 := by
  unfold putErr
  split
  · exact comErr_le c
  · split
    · decide
    · split
      · decide
      · exact scan_le fun i => by split <;> decide
theorem Store.not {B : Nat} {w : World} {p mb db n nb : Nat} {f : ByteArray → Value} {s : St} {R : ByteArray → List Rp} {E : Nat → OpV} {D : Nat → Value} (h : Store B w p mb db n nb f s R E D) {b : Nat} {cs : Array Value} {t : TypeId} (hc : w.heap[b]? = some (.cells cs t (0, 0))) (ht : t ≠ 83 ∧ t ≠ 34 ∧ t ≠ 76 ∧ t ≠ 87) : ¬ Owns p mb db f R D b := fun ho => by
  rcases h.type ho hc with e | e | e | e
  · exact ht.1 e
  · exact ht.2.1 e
  · exact ht.2.2.1 e
  · exact ht.2.2.2 e
theorem sameInts_same (w : World) (v v' : Value) (zs : List Int) (h : IntsAt w v zs) (h' : IntsAt w v' zs) (hl : zs.length ≤ 1000000) : Calls Tryz.prog 33 #[v, v'] w fun e w' => e = .returned (.bool true) ∧ Below w.heap.size w w' := by
  refine (sameInts w v v' zs zs h h' hl).mono ?_; rintro e w' ⟨rfl, q, rfl⟩; exact ⟨by simp, below_draws (Below.refl _ _) q⟩
theorem sameTexts_b (w : World) (v v' : Value) (ss : List (List UInt8)) (h : StrsAt w v ss) (h' : StrsAt w v' ss) (hl : ss.length ≤ 1000000) : Calls Tryz.prog 18 #[v, v'] w fun e w' => e = .returned (.bool true) ∧ Below w.heap.size w w' := by
  refine (sameTexts_same w v v' ss h h' hl).mono ?_; rintro e w' ⟨rfl, q, rfl⟩; exact ⟨rfl, below_draws (Below.refl _ _) q⟩
theorem own_shape {w : World} {c : ComV} {wv ov : Value} {pl : Int} (hpl : pl = c.place) (hw : IntsAt w wv c.when_) (ho : OpsAt w ov c.ops) (hl : c.when_.length ≤ 20 ∧ c.ops.length ≤ 20 ∧ ∀ o ∈ c.ops, o.key.size ≤ 60 ∧ o.text.size ≤ 200 ∧ o.dots.length ≤ 70) : Calls Tryz.prog 10 #[.agg #[wv, .int .i64 pl, ov]] w fun e w' => ∃ x1 y1 z1 x2 y2 z2, e = .returned (.agg #[.slice x1 y1 z1, .int .i64 pl, .slice x2 y2 z2]) ∧ ComT w' [.slice x1 y1 z1, .int .i64 c.place, .slice x2 y2 z2] c ∧ Below w.heap.size w w' := by
  subst hpl; refine (ownCommit w c wv ov hw ho hl.1 hl.2.1 (fun o h => (hl.2.2 o h).2.2)).mono ?_; rintro e w' ⟨wv', ov', rfl, hT, hb⟩; obtain ⟨⟨x1, y1, rfl⟩, x2, y2, rfl⟩ := hT.shape; exact ⟨_, _, _, _, _, _, rfl, hT, hb⟩
end Go.Proofs.YtdnebclemngdcaaGreatDoor
namespace Go.Proofs.YtdnebclemngdcaaGreatDoor
open Go.RowKit Go.Sort Go.Maps
set_option maxRecDepth 100000
set_option linter.unusedSectionVars false
variable [Inhabited ComV] [DecidableEq D3] [Inhabited D3] [Inhabited Dd] [Inhabited Dn] [Inhabited OpV]

theorem le_most {zs ys : List Int} : leB zs (comb mxI zs ys) = true := leB_iff.2 fun i hi => by
  rw [comb_getD _ _ _ hi]; unfold mxI
  split <;> omega
theorem mem_prune {A : Nat → Addr} {B : Nat} {w0 w : World} {nb p mb db n : Nat} {f : ByteArray → Value} {s : St} {R : ByteArray → List Rp} {E : Nat → OpV} {D : Nat → Value} {q : Nat} {bs : List Int} {bv lv : Value} {L : List ComV} (h : MemI w0 w p mb db n nb f s R E D q bs bv lv L) (hE : SentV A B w) (h12 : 12 ≤ w0.heap.size) (hn : n ≤ 100000) (hfew : ∀ k, (rowOf s k).length ≤ 1000) (hone : ∀ key, RowOne key (rowOf s key)) (av : Value) (at_ : List Int) (ha : IntsAt w av at_) (hc : chk at_ = 0) (hal : at_.length = nb) :
    Calls Tryz.prog 12 #[.pointer (some ⟨p, 0, none⟩), av] w fun e w' => e = .returned .nilIface ∧ ∃ f' s' R' E' D', MemI w0 w' p mb db n nb f' s' R' E' D' q bs bv lv L ∧ Moves w w' (Owns p mb db f R D) (Owns p mb db f' R' D') ∧ s'.base = comb mxI s.base at_ ∧ s'.dots = s.dots ∧ ∀ key, SettledAs (fun d => decide (d ∈ s.dots)) s'.base (rowOf s key) (rowOf s' key) := by
  have h2 : two s.base at_ = 0 := two_zero.2 ⟨h.st.ok.base, hc, by rw [hal, h.st.ok.len]⟩; refine (prune_okX A w hE.e4 w0.heap.size p mb db n nb h12 f s R E D h.st.ver h.st.hp h.st.hm h.st.ok av at_ ha hc hal hfew (by omega)).mono ?_; rintro e w' ⟨bv', ks, kv, f', R', E', D', rfl, hks, hI, hX⟩; obtain ⟨s', hP⟩ := prune_end (E0 := E) hI hX hks hone h.st.ok (chk_most h2) (by rw [comb_length, h.st.ok.len]) h.st.ver.ne; have hm := prune_moves hP; exact ⟨rfl, f', s', R', E', D', h.prog hm ⟨hP.ver, hP.ok, h.st.hp, h.st.hm, h.st.hd⟩, hm, hP.base_, hP.dots, fun key => by rw [hP.base_]; exact hP.rows key⟩
theorem mem_rbase {w0 w : World} {nb p mb db n : Nat} {f : ByteArray → Value} {s : St} {R : ByteArray → List Rp} {E : Nat → OpV} {D : Nat → Value} {q : Nat} {bs bs' : List Int} {bv lv r : Value} {L : List ComV} (h : MemI w0 w p mb db n nb f s R E D q bs bv lv L) (hr : IntsT w r bs') : MemI w0 (w.setCell ⟨q, 0, none⟩ r) p mb db n nb f s R E D q bs' r lv L := by
  have hbx := h.rf.box; obtain ⟨rows, hrow, hF⟩ := h.rf.row; have keep : ∀ b, b ≠ q → (w.setCell ⟨q, 0, none⟩ r).heap[b]? = w.heap[b]? := fun b hb => Below.heap_setCell _ _ _ _ hb
  have hb0 : Below 0 w (w.setCell ⟨q, 0, none⟩ r) := (Below.refl 0 w).setCell (Nat.zero_le _) _; refine h.ref ⟨by rw [heap_set hbx]; rfl, RowT.kept hr fun b cs hb => keep b fun e => by rw [e] at hb; exact absurd (cells_type hb hbx) (by decide), ⟨rows, owns_own hrow fun b hb => keep b fun e => ?_, hF⟩, h.rf.hq⟩ hb0.os hb0.tape hb0.output hb0.size (fun b _ hb _ => keep b hb) (fun b hb => .inl hb); obtain ⟨cs, hcs⟩ := own_type hrow hb; rw [e] at hcs; exact absurd (cells_type hcs hbx) (by decide)
theorem ActI.prune {w0 w wx : World} {nb i p mb db n : Nat} {f f' : ByteArray → Value} {s s' : St} {R R' : ByteArray → List Rp} {E E' : Nat → OpV} {D D' : Nat → Value} {q : Nat} {bv bv' lv : Value} {L : List ComV} {at_ : List Int} (h : ActI w0 nb i wx p mb db n f s R E D q bv lv L) (hb : s'.base = comb mxI s.base at_) (hd : s'.dots = s.dots) (hs : ∀ key, SettledAs (fun d => decide (d ∈ s.dots)) s'.base (rowOf s key) (rowOf s' key)) (hm : MemI w0 w p mb db n nb f' s' R' E' D' q s'.base bv' lv L) : ActI w0 nb (i + 1) w p mb db n f' s' R' E' D' q bv' lv L := by
  refine ⟨hm, h.hist.prune h.mem.st.ok hd (by rw [hb, comb_length, h.mem.st.ok.len]) (by rw [hb]; exact le_most) hs, h.came, by have := h.n_; omega, by have := h.l_; omega⟩
theorem ActI.one {w0 w : World} {nb i p mb db n : Nat} {f : ByteArray → Value} {s : St} {R : ByteArray → List Rp} {E : Nat → OpV} {D : Nat → Value} {q : Nat} {bv lv : Value} {L : List ComV} (h : ActI w0 nb i w p mb db n f s R E D q bv lv L) (key : ByteArray) : RowOne key (rowOf s key) := (h.hist.tells key).one
theorem VerO.mono {B B' : Nat} {w : World} {p mb db n nb : Nat} {f : ByteArray → Value} {s : St} {R : ByteArray → List Rp} {E : Nat → OpV} {D : Nat → Value} (h : VerO B w p mb db n nb f s R E D) (hB : B' ≤ B) : VerO B' w p mb db n nb f s R E D :=
  ⟨h.box, h.dots, h.map, ⟨fun k => (h.rows.rows k).mono hB, h.rows.po, h.rows.nd, h.rows.ap, h.rows.sep, h.rows.apart, fun k r hr => ⟨Nat.le_trans hB (h.rows.ge k r hr).1, fun b hb => Nat.le_trans hB ((h.rows.ge k r hr).2 b hb)⟩⟩, h.abs_, h.ne⟩
structure TwoI (w0 w : World) (nb p mb db n : Nat) (f : ByteArray → Value) (s : St) (R : ByteArray → List Rp) (E : Nat → OpV) (D : Nat → Value) (p2 mb2 db2 n2 : Nat) (f2 : ByteArray → Value) (s2 : St) (R2 : ByteArray → List Rp) (E2 : Nat → OpV) (D2 : Nat → Value) (q : Nat) (bs : List Int) (bv lv : Value) (L : List ComV) : Prop where
  mem : MemI w0 w p mb db n nb f s R E D q bs bv lv L
  new : Store w0.heap.size w p2 mb2 db2 n2 nb f2 s2 R2 E2 D2
  apart : ∀ b, Owns p2 mb2 db2 f2 R2 D2 b → ¬ Owns p mb db f R D b
  nq : ¬ Owns p2 mb2 db2 f2 R2 D2 q
  nl : ∀ b, lv.ownBlock = some b → ¬ Owns p2 mb2 db2 f2 R2 D2 b
theorem TwoI.moved {w0 w w' : World} {nb p mb db n : Nat} {f : ByteArray → Value} {s : St} {R : ByteArray → List Rp} {E : Nat → OpV} {D : Nat → Value} {p2 mb2 db2 n2 : Nat} {f2 : ByteArray → Value} {s2 : St} {R2 : ByteArray → List Rp} {E2 : Nat → OpV} {D2 : Nat → Value} {q : Nat} {bs : List Int} {bv lv : Value} {L : List ComV} (h : TwoI w0 w nb p mb db n f s R E D p2 mb2 db2 n2 f2 s2 R2 E2 D2 q bs bv lv L) (hb : Below w.heap.size w w') : TwoI w0 w' nb p mb db n f s R E D p2 mb2 db2 n2 f2 s2 R2 E2 D2 q bs bv lv L := ⟨h.mem.moved hb, h.new.below hb, h.apart, h.nq, h.nl⟩
theorem TwoI.prog {w0 w w' : World} {nb p mb db n n' : Nat} {f f' : ByteArray → Value} {s s' : St} {R R' : ByteArray → List Rp} {E E' : Nat → OpV} {D D' : Nat → Value} {p2 mb2 db2 n2 : Nat} {f2 : ByteArray → Value} {s2 : St} {R2 : ByteArray → List Rp} {E2 : Nat → OpV} {D2 : Nat → Value} {q : Nat} {bs : List Int} {bv lv : Value} {L : List ComV} (h : TwoI w0 w nb p mb db n f s R E D p2 mb2 db2 n2 f2 s2 R2 E2 D2 q bs bv lv L) (hm : Moves w w' (Owns p mb db f R D) (Owns p mb db f' R' D')) (hM : MemI w0 w' p mb db n' nb f' s' R' E' D' q bs bv lv L) : TwoI w0 w' nb p mb db n' f' s' R' E' D' p2 mb2 db2 n2 f2 s2 R2 E2 D2 q bs bv lv L := by
  refine ⟨hM, h.new.framed (fun b hb => hm.off b (h.new.lt hb) (h.apart b hb)) (h.mem.st.keepT hm (by decide)), fun b hb ho => ?_, h.nq, h.nl⟩; rcases hm.own b ho with h2 | h2
  · exact h.apart b hb h2
  · have := h.new.lt hb; omega
theorem TwoI.take {w0 w : World} {nb p mb db n : Nat} {f : ByteArray → Value} {s : St} {R : ByteArray → List Rp} {E : Nat → OpV} {D : Nat → Value} {p2 mb2 db2 n2 : Nat} {f2 : ByteArray → Value} {s2 : St} {R2 : ByteArray → List Rp} {E2 : Nat → OpV} {D2 : Nat → Value} {q : Nat} {bs : List Int} {bv lv : Value} {L : List ComV} (h : TwoI w0 w nb p mb db n f s R E D p2 mb2 db2 n2 f2 s2 R2 E2 D2 q bs bv lv L) : MemI w0 w p2 mb2 db2 n2 nb f2 s2 R2 E2 D2 q bs bv lv L := ⟨h.new, h.mem.rf, h.nq, h.nl, h.mem.below⟩
theorem mem_copy {w0 w : World} {nb p mb db n : Nat} {f : ByteArray → Value} {s : St} {R : ByteArray → List Rp} {E : Nat → OpV} {D : Nat → Value} {q : Nat} {bs : List Int} {bv lv : Value} {L : List ComV} (h : MemI w0 w p mb db n nb f s R E D q bs bv lv L) (hn : n ≤ 100000) (hfew : ∀ k, (rowOf s k).length ≤ 1000) :
    Calls Tryz.prog 11 #[.pointer (some ⟨p, 0, none⟩)] w fun e w' => ∃ p2 mb2 db2 f2 R2 E2 D2, e = .returned (.pointer (some ⟨p2, 0, none⟩)) ∧ TwoI w0 w' nb p mb db n f s R E D p2 mb2 db2 n f2 s R2 E2 D2 q bs bv lv L := by
  refine (copy_ok w p mb db n nb f s h.st.ver.ver h.st.ok h.st.ver.partIn hfew (by omega)).mono ?_; rintro e w' ⟨p2, mb2, db2, f2, R2, E2, D2, rfl, hV, hb, h1, h2, h3⟩; have hw := h.below.size; have hS : Store w.heap.size w' p2 mb2 db2 n nb f2 s R2 E2 D2 := ⟨hV, h.st.ok, h1, h2, h3⟩; have hge : ∀ b, Owns p2 mb2 db2 f2 R2 D2 b → w.heap.size ≤ b := fun b hb => hS.ge hb
  obtain ⟨rows, hrow, _⟩ := h.rf.row; refine ⟨p2, mb2, db2, f2, R2, E2, D2, rfl, h.moved hb, ⟨hV.mono hw, h.st.ok, by omega, by omega, by omega⟩, fun b hb2 ho => ?_, fun ho => ?_, fun b hb2 ho => ?_⟩
  · have := hge b hb2; have := h.st.lt ho; omega
  · have := hge q ho; have := lt_of_heapQ h.rf.box; omega
  · have := hge b ho; have := (hrow.lt b hb2).2; omega
theorem ActI.filt {w0 w : World} {nb i p mb db n : Nat} {f : ByteArray → Value} {s : St} {R : ByteArray → List Rp} {E : Nat → OpV} {D : Nat → Value} {q : Nat} {bv lv : Value} {L : List ComV} (h : ActI w0 nb i w p mb db n f s R E D q bv lv L) (at_ : List Int) : ∀ j, j < (L.filter fun c => leB c.when_ at_).length → listBad (L.filter fun c => leB c.when_ at_) j = 0 := listOk_of (n := nb) (fun c hc => h.came.ok c (List.mem_filter.1 hc).1) (fun c hc => h.came.len c (List.mem_filter.1 hc).1)
theorem ActI.keys {w0 w : World} {nb i p mb db n : Nat} {f : ByteArray → Value} {s : St} {R : ByteArray → List Rp} {E : Nat → OpV} {D : Nat → Value} {q : Nat} {bv lv : Value} {L : List ComV} (h : ActI w0 nb i w p mb db n f s R E D q bv lv L) {ss : List Tx} (hk : KeysOfSt s ss) : ss = keysL L := keys_same hk fun k => (h.hist.tells k).nil
end Go.Proofs.YtdnebclemngdcaaGreatDoor
namespace Go.Proofs.YtdnebclemngdcaaGreatDoor
open Go.RowKit Go.Sort Go.Maps
set_option maxRecDepth 100000
set_option linter.unusedSectionVars false
variable [Inhabited ComV] [DecidableEq D3] [Inhabited D3] [Inhabited Dd] [Inhabited Dn] [Inhabited OpV]

theorem vecE_le (zs base : List Int) : vecE zs base ≤ 3 := by
  unfold vecE
  split
  · split <;> decide
  · rcases chk_cases zs with e | e | e <;> rw [e] <;> decide
theorem atE_le (key : ByteArray) (at_ base : List Int) : atE key at_ base ≤ 12 := by
  unfold atE
  split
  · split
    · split <;> decide
    · have := vecE_le at_ base; omega
  · decide
def ReadQ (A : Nat → Addr) (s : St) (key : ByteArray) (at_ : List Int) (w : World) (xk : Int) (xt : ByteArray) (xn : Int) (sv ev : Value) : Prop := (atE key at_ s.base = 0 ∧ ev = .nilIface ∧ ∃ ds xs, IsOps key (seenL s key at_) ds ∧ valA ds = ⟨xk, xt, xn, xs⟩ ∧ StrsAt w sv xs ∧ xs.length ≤ 1000000) ∨ (∃ k, atE key at_ s.base = k + 1 ∧ ev = .iface 255 (.pointer (some (A k))) ∧ xk = 0 ∧ xt = ⟨#[]⟩ ∧ xn = 0 ∧ sv = .slice none 0 0)
theorem ReadQ.mono {A : Nat → Addr} {s : St} {key : ByteArray} {at_ : List Int} {w w' : World} {xk : Int} {xt : ByteArray} {xn : Int} {sv ev : Value} (h : ReadQ A s key at_ w xk xt xn sv ev) (hb : Below w.heap.size w w') : ReadQ A s key at_ w' xk xt xn sv ev := by
  rcases h with ⟨h1, h2, ds, xs, h3, h4, h5, h6⟩ | h
  · exact .inl ⟨h1, h2, ds, xs, h3, h4, h5.mono hb (Nat.le_refl _), h6⟩
  · exact .inr h
theorem ReadQ.cells {A : Nat → Addr} {s : St} {key : ByteArray} {at_ : List Int} {w w' : World} {xk : Int} {xt : ByteArray} {xn : Int} {sv ev : Value} (h : ReadQ A s key at_ w xk xt xn sv ev) (hb : ∀ b, (∃ x, w.cell? ⟨b, 0, none⟩ = some (.string x)) → ∀ t, w'.cell? ⟨b, t, none⟩ = w.cell? ⟨b, t, none⟩) : ReadQ A s key at_ w' xk xt xn sv ev := by
  rcases h with ⟨h1, h2, ds, xs, h3, h4, h5, h6⟩ | h
  · exact .inl ⟨h1, h2, ds, xs, h3, h4, strs_keep h5 hb, h6⟩
  · exact .inr h
theorem act_read {A : Nat → Addr} {B : Nat} {w0 w : World} {nb i p mb db n : Nat} {f : ByteArray → Value} {s : St} {R : ByteArray → List Rp} {E : Nat → OpV} {D : Nat → Value} {q : Nat} {bv lv : Value} {L : List ComV} (h : ActI w0 nb i w p mb db n f s R E D q bv lv L) (hE : SentV A B w) (hi : i ≤ 40) (key : ByteArray) (hk : key.size ≤ 60) (av : Value) (at_ : List Int) (ha : IntsAt w av at_) (hl : at_.length ≤ 20) :
    Calls Tryz.prog 14 #[.pointer (some ⟨p, 0, none⟩), .string key, av] w fun e w' => ∃ xk xt xn sa sl sc ev, e = .returned (.tuple #[.agg #[.int .i64 xk, .string xt, .int .i64 xn, .slice sa sl sc], ev]) ∧ ReadQ A s key at_ w' xk xt xn (.slice sa sl sc) ev ∧ Below w.heap.size w w' := by
  have hV := h.mem.st.ver.ver; have hS := h.mem.st.ok
  cases he : atE key at_ s.base with
  | zero =>
    obtain ⟨h1, h2, h3, h4⟩ := atE_zero he; have hf := h.few key; refine (read_ok A w hE.e4 (by have := hE.gl; have := hE.size; omega) p mb db n nb f s hV hS key h1 (by omega) av at_ ha h2 (h3.trans hS.len) h4 (by omega)).mono ?_; rintro e w' ⟨v, ds, rfl, hI, ⟨sv, hv, hs⟩, hb⟩; have hfew := set_few hI (listOk_of (n := nb) (fun c hc => hS.ok c (seenL_mem hc)) (fun c hc => hS.when_ c (seenL_mem hc))) (by have := seenL_len s key at_; omega); obtain ⟨x, hx⟩ : ∃ x, x = valA ds := ⟨_, rfl⟩; rw [← hx] at hv hs hfew; obtain ⟨xk, xt, xn, xs⟩ := x; obtain ⟨sa, sc, rfl, hs'⟩ := hs; subst hv; exact ⟨xk, xt, xn, sa, _, sc, .nilIface, rfl, .inl ⟨he, rfl, ds, xs, hI, hx.symm, ⟨sa, sc, rfl, hs'⟩, hfew⟩, hb⟩
  | succ k =>
    refine (readE A B w hE p mb db n f s hV hS.base key av at_ ha (by omega) k he).mono ?_; rintro e w' ⟨rfl, hb⟩; exact ⟨0, ⟨#[]⟩, 0, none, 0, 0, _, rfl, .inr ⟨k, he, rfl, rfl, rfl, rfl, rfl⟩, hb⟩
theorem fill4 {w : World} {g : Nat} {a b c d : Value} {t : TypeId} (h : w.heap[g]? = some (.cells #[a, b, c, d] t (0, 0))) (v0 v1 v2 v3 : Value) :
    ((((w.setCell ⟨g, 0, none⟩ v0).setCell ⟨g, 1, none⟩ v1).setCell ⟨g, 2, none⟩ v2).setCell ⟨g, 3, none⟩ v3).heap[g]? = some (.cells #[v0, v1, v2, v3] t (0, 0)) ∧
    (∀ i, i ≠ g → ((((w.setCell ⟨g, 0, none⟩ v0).setCell ⟨g, 1, none⟩ v1).setCell ⟨g, 2, none⟩ v2).setCell ⟨g, 3, none⟩ v3).heap[i]? = w.heap[i]?) ∧
    ∀ (B : Nat) (w0 : World), Below B w0 w → B ≤ g → Below B w0 ((((w.setCell ⟨g, 0, none⟩ v0).setCell ⟨g, 1, none⟩ v1).setCell ⟨g, 2, none⟩ v2).setCell ⟨g, 3, none⟩ v3) := by
  refine ⟨?_, fun i hi => ?_, fun B w0 hb hB => (((hb.setCell hB _).setCell hB _).setCell hB _).setCell hB _⟩
  · rw [heap_set (heap_set (heap_set (heap_set h v0) v1) v2) v3]; rfl
  · rw [Below.heap_setCell _ _ _ _ hi, Below.heap_setCell _ _ _ _ hi, Below.heap_setCell _ _ _ _ hi, Below.heap_setCell _ _ _ _ hi]
theorem keep4 {w : World} {g ab : Nat} {v0 v1 v2 v3 x y : Value} (hne : ab ≠ g) (h1 : w.cell? ⟨ab, 1, none⟩ = some x) (h6 : w.cell? ⟨ab, 6, none⟩ = some y) :
    ((((w.setCell ⟨g, 0, none⟩ v0).setCell ⟨g, 1, none⟩ v1).setCell ⟨g, 2, none⟩ v2).setCell ⟨g, 3, none⟩ v3).cell? ⟨ab, 1, none⟩ = some x ∧ ((((w.setCell ⟨g, 0, none⟩ v0).setCell ⟨g, 1, none⟩ v1).setCell ⟨g, 2, none⟩ v2).setCell ⟨g, 3, none⟩ v3).cell? ⟨ab, 6, none⟩ = some y := by
  have h : ((((w.setCell ⟨g, 0, none⟩ v0).setCell ⟨g, 1, none⟩ v1).setCell ⟨g, 2, none⟩ v2).setCell ⟨g, 3, none⟩ v3).heap[ab]? = w.heap[ab]? := by
    rw [Below.heap_setCell _ _ _ _ hne, Below.heap_setCell _ _ _ _ hne, Below.heap_setCell _ _ _ _ hne, Below.heap_setCell _ _ _ _ hne]
  exact ⟨(World.cell?_of_block (a := ⟨ab, 1, none⟩) h).trans h1, (World.cell?_of_block (a := ⟨ab, 6, none⟩) h).trans h6⟩
theorem ReadQ.box {A : Nat → Addr} {s : St} {key : ByteArray} {at_ : List Int} {w w' : World} {xk : Int} {xt : ByteArray} {xn : Int} {sv ev : Value} {g : Nat} (h : ReadQ A s key at_ w xk xt xn sv ev) (h0 : ∀ x, w.cell? ⟨g, 0, none⟩ ≠ some (.string x)) (hk : ∀ i, i ≠ g → w'.heap[i]? = w.heap[i]?) : ReadQ A s key at_ w' xk xt xn sv ev := by
  refine h.cells fun b ⟨x, hx⟩ t => ?_
  have hne : b ≠ g := fun e => h0 x (by rw [← e]; exact hx)
  simp only [World.cell?, hk b hne]
def DotsQ (A : Nat → Addr) (s : St) (key text : ByteArray) (at_ : List Int) (w : World) (dv ev : Value) : Prop := (atE key at_ s.base = 0 ∧ ev = .nilIface ∧ ∃ ds out, IsOps key (seenL s key at_) ds ∧ IsDots text ds out ∧ DotsAt w dv out ∧ out.length ≤ 1000000) ∨ (∃ k, atE key at_ s.base = k + 1 ∧ ev = .iface 255 (.pointer (some (A k))) ∧ dv = .slice none 0 0)
theorem act_dots {A : Nat → Addr} {B : Nat} {w0 w : World} {nb i p mb db n : Nat} {f : ByteArray → Value} {s : St} {R : ByteArray → List Rp} {E : Nat → OpV} {D : Nat → Value} {q : Nat} {bv lv : Value} {L : List ComV} (h : ActI w0 nb i w p mb db n f s R E D q bv lv L) (hE : SentV A B w) (hi : i ≤ 40) (key text : ByteArray) (hk : key.size ≤ 60) (av : Value) (at_ : List Int) (ha : IntsAt w av at_) (hl : at_.length ≤ 20) :
    Calls Tryz.prog 27 #[.pointer (some ⟨p, 0, none⟩), .string key, .string text, av] w fun e w' => ∃ sa sl sc ev, e = .returned (.tuple #[.slice sa sl sc, ev]) ∧ DotsQ A s key text at_ w' (.slice sa sl sc) ev ∧ Below w.heap.size w w' := by
  have hV := h.mem.st.ver.ver; have hS := h.mem.st.ok
  cases he : atE key at_ s.base with
  | zero =>
    obtain ⟨h1, h2, h3, h4⟩ := atE_zero he; have hf := h.few key; refine (dotsV_ok A w hE.e4 (by have := hE.gl; have := hE.size; omega) p mb db n nb f s hV hS key text h1 (by omega) av at_ ha h2 (h3.trans hS.len) h4 (by omega)).mono ?_; rintro e w' ⟨v, ds, out, rfl, hI, hd, hda, hb⟩; obtain ⟨sa, sc, hv⟩ := hda.len; subst hv
    have hlen : out.length ≤ 1000000 := by
      rcases hd with ⟨_, rfl⟩ | ⟨_, hp, _⟩
      · simp
      · have h5 := isOps_len hI fun c hc => (hS.ok c (seenL_mem hc)).few
        have h6 := seenL_len s key at_
        have h7 : (dotsUp text ds).length ≤ ds.length := by
          unfold dotsUp standA; rw [List.length_map]; exact Nat.le_trans (List.length_filter_le _ _) (List.length_filter_le _ _)
        rw [hp.length_eq]; omega
    exact ⟨sa, _, sc, .nilIface, rfl, .inl ⟨he, rfl, ds, out, hI, hd, hda, hlen⟩, hb⟩
  | succ k =>
    refine (dotsE A B w hE p mb db n f s hV hS.base key text av at_ ha (by omega) k he).mono ?_; rintro e w' ⟨rfl, hb⟩; exact ⟨none, 0, 0, _, rfl, .inr ⟨k, he, rfl, rfl⟩, hb⟩
def wayOp : OpV := ⟨0, ⟨#[107]⟩, 2, ⟨#[]⟩, 5, false, []⟩
def wayC (nb : Nat) : ComV := ⟨List.replicate nb 1099511627776, 0, [wayOp]⟩
theorem way_com {w : World} {nb g : Nat} {a : Option Addr} {c : Nat} (hI : IntsT w (.slice a nb c) (List.replicate nb 1099511627776)) (hO : w.heap[g]? = some (.cells #[.int .i64 0, .string ⟨#[107]⟩, .int .i64 2, .string ⟨#[]⟩, .int .i64 5, .bool false, .slice none 0 0] 76 (0, 0))) : ComT w [.slice a nb c, .int .i64 (wayC nb).place, .slice (some ⟨g, 0, none⟩) 1 1] (wayC nb) := by
  have h := part_fin (wf := w) (a4 := a) (c4 := c) (b := g) (zs := List.replicate nb 1099511627776) (pl := 0) (o := wayOp) (dv := .slice none 0 0) (by rw [List.length_replicate]; exact hI) hO (dotsT_of_owns (base := 0) (World.ownsRow_nil _ _ _ _)); rw [List.length_replicate] at h; exact h
theorem way_small {nb : Nat} (h6 : nb ≤ 6) : SmallC (wayC nb) := ⟨by show (List.replicate nb _).length ≤ _; rw [List.length_replicate]; omega, by show [wayOp].length ≤ 1000000; decide, fun o ho => by
  obtain rfl : o = wayOp := by simpa [wayC] using ho
  exact ⟨by decide, by decide⟩⟩
theorem way_vec {nb : Nat} (h1 : 1 ≤ nb) (h6 : nb ≤ 6) : chk (List.replicate nb 1099511627776) = 0 := by
  rw [chk_zero]; refine ⟨by simpa using h1, by simpa using h6, fun t ht => ?_⟩; rw [List.length_replicate] at ht
  have : (List.replicate nb (1099511627776 : Int)).getD t 0 = 1099511627776 := by
    rw [List.getD_eq_getElem?_getD, List.getElem?_replicate, if_pos ht]; rfl
  rw [this]; omega
def Way (w0 w : World) (nb p mb db : Nat) (p2 mb2 db2 n2 : Nat) (f2 : ByteArray → Value) (s2 : St) (R2 : ByteArray → List Rp) (E2 : Nat → OpV) (D2 : Nat → Value) (q : Nat) (bs : List Int) (bv lv : Value) (L : List ComV) : Prop := ∃ n9 f9 s9 R9 E9 D9, TwoI w0 w nb p mb db n9 f9 s9 R9 E9 D9 p2 mb2 db2 n2 f2 s2 R2 E2 D2 q bs bv lv L ∧ n9 ≤ 100000 ∧ (∀ k, (rowOf s9 k).length ≤ 1000) ∧ ∀ key, RowOne key (rowOf s9 key)
theorem Way.moved {w0 w w' : World} {nb p mb db : Nat} {p2 mb2 db2 n2 : Nat} {f2 : ByteArray → Value} {s2 : St} {R2 : ByteArray → List Rp} {E2 : Nat → OpV} {D2 : Nat → Value} {q : Nat} {bs : List Int} {bv lv : Value} {L : List ComV} (h : Way w0 w nb p mb db p2 mb2 db2 n2 f2 s2 R2 E2 D2 q bs bv lv L) (hb : Below w.heap.size w w') : Way w0 w' nb p mb db p2 mb2 db2 n2 f2 s2 R2 E2 D2 q bs bv lv L := by
  obtain ⟨n9, f9, s9, R9, E9, D9, h1, h2⟩ := h; exact ⟨n9, f9, s9, R9, E9, D9, h1.moved hb, h2⟩
theorem two_put {A : Nat → Addr} {B : Nat} {w0 w wx : World} {nb i p mb db n : Nat} {f : ByteArray → Value} {s : St} {R : ByteArray → List Rp} {E : Nat → OpV} {D : Nat → Value} {p2 mb2 db2 n2 : Nat} {f2 : ByteArray → Value} {s2 : St} {R2 : ByteArray → List Rp} {E2 : Nat → OpV} {D2 : Nat → Value} {q : Nat} {bv lv : Value} {L : List ComV} (hx : ActI w0 nb i wx p mb db n f s R E D q bv lv L) (hi : i ≤ 40) (h : TwoI w0 w nb p mb db n f s R E D p2 mb2 db2 n2 f2 s2 R2 E2 D2 q s.base bv lv L) (hE : SentV A B w) (c : ComV) (wv ov : Value) (hcT : ComT w [wv, .int .i64 c.place, ov] c) (hsm : SmallC c) (htx : ∀ o ∈ c.ops, o.text.size ≤ 1000) (h1 : c.ops.length ≤ 12) :
    Calls Tryz.prog 9 #[.pointer (some ⟨p, 0, none⟩), .agg #[wv, .int .i64 c.place, ov]] w fun e w' => ∃ ev, e = .returned ev ∧ Way w0 w' nb p mb db p2 mb2 db2 n2 f2 s2 R2 E2 D2 q s.base bv lv L := by
  have hn := hx.n_; have hf := hx.few
  by_cases hok : (putErr s c).1 = 0
  · refine (mem_put h.mem hE (by omega) (fun k => by have := hf k; omega) c wv ov hcT hsm htx hok).mono ?_; rintro e w' ⟨rfl, f', R', E', D', hM, hm⟩; have hp := putErr_zero hok; have hC : ComOk c := comOk_of (by rw [hp.err]); refine ⟨_, rfl, _, f', _, R', E', D', h.prog hm hM, by omega, fun k => ?_, fun key => ((hist_snoc hx.hist hC hp.new).tells key).one⟩; have h2 := rowOf_putTo s c c.ops.length k; have h3 := hf k; omega
  · refine (mem_putE h.mem hE (fun k => by have := hf k; omega) c wv ov hcT hsm hok).mono ?_; rintro e w' ⟨v, rfl, _, hb⟩; exact ⟨v, rfl, n, f, s, R, E, D, h.moved hb, by omega, fun k => by have := hf k; omega, hx.one⟩
theorem two_prune {A : Nat → Addr} {B : Nat} {w0 w : World} {nb p mb db : Nat} {p2 mb2 db2 n2 : Nat} {f2 : ByteArray → Value} {s2 : St} {R2 : ByteArray → List Rp} {E2 : Nat → OpV} {D2 : Nat → Value} {q : Nat} {bs : List Int} {bv lv : Value} {L : List ComV} (h : Way w0 w nb p mb db p2 mb2 db2 n2 f2 s2 R2 E2 D2 q bs bv lv L) (hE : SentV A B w) (h12 : 12 ≤ w0.heap.size) (av : Value) (at_ : List Int) (ha : IntsAt w av at_) (hc : chk at_ = 0) (hal : at_.length = nb) :
    Calls Tryz.prog 12 #[.pointer (some ⟨p, 0, none⟩), av] w fun e w' => e = .returned .nilIface ∧ MemI w0 w' p2 mb2 db2 n2 nb f2 s2 R2 E2 D2 q bs bv lv L := by
  obtain ⟨n9, f9, s9, R9, E9, D9, hT, hn, hf, ho⟩ := h; refine (mem_prune hT.mem hE h12 hn hf ho av at_ ha hc hal).mono ?_; rintro e w' ⟨rfl, f', s', R', E', D', hM, hm, _⟩; exact ⟨rfl, (hT.prog hm hM).take⟩
theorem ActI.copied {w0 w wx : World} {nb i p mb db n : Nat} {f : ByteArray → Value} {s : St} {R : ByteArray → List Rp} {E : Nat → OpV} {D : Nat → Value} {p2 mb2 db2 : Nat} {f2 : ByteArray → Value} {R2 : ByteArray → List Rp} {E2 : Nat → OpV} {D2 : Nat → Value} {q : Nat} {bv lv : Value} {L : List ComV} (hx : ActI w0 nb i wx p mb db n f s R E D q bv lv L) (h : MemI w0 w p2 mb2 db2 n nb f2 s R2 E2 D2 q s.base bv lv L) : ActI w0 nb (i + 1) w p2 mb2 db2 n f2 s R2 E2 D2 q bv lv L := ⟨h, hx.hist, hx.came, by have := hx.n_; omega, by have := hx.l_; omega⟩
end Go.Proofs.YtdnebclemngdcaaGreatDoor
namespace Go.Proofs.YtdnebclemngdcaaGreatDoor
open Go.RowKit
set_option linter.unusedSectionVars false
variable [Inhabited ComV] [DecidableEq D3] [Inhabited D3] [Inhabited Dd] [Inhabited Dn] [Inhabited OpV]

theorem wpList_build_k (w : World) {ops : Array Oper} {rest : List Oper} {o : Oper} {a : Act} {Q : Exit → Act → World → Prop} (hg : o.guard = none) (t : TypeId) (parts : Array (Nat × Operand)) (hop : o.op = .build t parts) (cells : Array Value) (vs : List (Nat × Value)) (hv : (parts.map fun (i, x) => (i, a.eval x)).toList = vs) (hc : Tryz.prog.built t vs = some cells)
    (hK : wpList Tryz.prog ops Q rest (a.put o.dst (.agg cells)) w) : wpList Tryz.prog ops Q (o :: rest) a w := by
  subst hv; refine wpList_plain hg fun K' hK' => ?_
  refine wp_build t parts hop (by rw [hc]; rfl) ?_; rw [hc]; exact hK' _ _ hK
theorem built76 : Tryz.prog.built 76 [(1, .string ⟨#[107]⟩), (2, .int .i64 2), (4, .int .i64 5)] = some #[.int .i64 0, .string ⟨#[107]⟩, .int .i64 2, .string ⟨#[]⟩, .int .i64 5, .bool false, .slice none 0 0] := by kernel_rfl
theorem built34 (a b : Option Addr) (n c m d : Nat) : Tryz.prog.built 34 [(0, .slice a n c), (2, .slice b m d)] = some #[.slice a n c, .int .i64 0, .slice b m d] := by kernel_rfl
theorem builtS (W : World) : (Instr.buildSlice 32 1 #[(0, .agg #[.int .i64 0, .string ⟨#[107]⟩, .int .i64 2, .string ⟨#[]⟩, .int .i64 5, .bool false, .slice none 0 0])]).run Tryz.prog W = .ok (.slice (some ⟨W.heap.size, 0, none⟩) 1 1) (W.alloc (.cells #[.int .i64 0, .string ⟨#[107]⟩, .int .i64 2, .string ⟨#[]⟩, .int .i64 5, .bool false, .slice none 0 0] 76)) := by kernel_rfl
theorem put_eval (a : Act) (k : Nat) (v : Value) (h : k < a.tmps.size) : (a.put (some k) v).eval (.tmp k) = v := by simp [Act.put, Act.eval, h]
theorem put_other (a : Act) (k j : Nat) (v : Value) (h : j ≠ k) : (a.put (some k) v).eval (.tmp j) = a.eval (.tmp j) := by simp [Act.put, Act.eval, Ne.symm h]
theorem put_size (a : Act) (k : Nat) (v : Value) : (a.put (some k) v).tmps.size = a.tmps.size := by simp [Act.put]
theorem wpList_lit3 (w : World) {ops : Array Oper} {rest : List Oper} {o1 o2 o3 : Oper} {a : Act} {Q : Exit → Act → World → Prop} (hs : 96 < a.tmps.size) (g1 : o1.guard = none) (g2 : o2.guard = none) (g3 : o3.guard = none) (d1 : o1.dst = some 94) (d2 : o2.dst = some 95) (d3 : o3.dst = some 96)
    (h1 : o1.op = .build 76 #[(1, .const (.string ⟨#[107]⟩)), (2, .const (.int .i64 2)), (4, .const (.int .i64 5))]) (h2 : o2.op = .buildSlice 32 1 #[(0, .tmp 94)]) (h3 : o3.op = .build 34 #[(0, .tmp 93), (2, .tmp 95)]) (p : Option Addr) (n c : Nat) (hv : a.eval (.tmp 93) = .slice p n c)
    (hK : wpList Tryz.prog ops Q rest (((a.put (some 94) (.agg #[.int .i64 0, .string ⟨#[107]⟩, .int .i64 2, .string ⟨#[]⟩, .int .i64 5, .bool false, .slice none 0 0])).put (some 95) (.slice (some ⟨w.heap.size, 0, none⟩) 1 1)).put (some 96) (.agg #[.slice p n c, .int .i64 0, .slice (some ⟨w.heap.size, 0, none⟩) 1 1])) (w.alloc (.cells #[.int .i64 0, .string ⟨#[107]⟩, .int .i64 2, .string ⟨#[]⟩, .int .i64 5, .bool false, .slice none 0 0] 76))) :
    wpList Tryz.prog ops Q (o1 :: o2 :: o3 :: rest) a w := by
  refine wpList_build_k w g1 76 _ h1 _ [(1, .string ⟨#[107]⟩), (2, .int .i64 2), (4, .int .i64 5)] ?_ built76 ?_
  · simp only [List.map_toArray, List.map_cons, List.map_nil, Act.eval]
  rw [d1]; have e1 := put_eval a 94 (.agg #[.int .i64 0, .string ⟨#[107]⟩, .int .i64 2, .string ⟨#[]⟩, .int .i64 5, .bool false, .slice none 0 0]) (by omega); refine wpList_plain g2 fun K' hK' => ?_
  unfold Oper.wp; simp only [execOp, h2, List.map_toArray, List.map_cons, List.map_nil, e1, Sem.run_bind, builtS, Result.andThen_ok]; refine hK' _ _ ?_; rw [d2]; refine wpList_build_k _ g3 34 _ h3 _ [(0, .slice p n c), (2, .slice (some ⟨w.heap.size, 0, none⟩) 1 1)] ?_ (built34 p (some ⟨w.heap.size, 0, none⟩) n c 1 1) ?_
  · simp only [List.map_toArray, List.map_cons, List.map_nil]; rw [put_eval _ 95 _ (by rw [put_size]; omega), put_other _ 95 93 _ (by decide), put_other _ 94 93 _ (by decide), hv]
  · rw [d3]; exact hK
end Go.Proofs.YtdnebclemngdcaaGreatDoor
namespace Go.Proofs.YtdnebclemngdcaaGreatDoor
open Go.ChangeShapes Go.WideShapes Go.ChangeAt Go.RowKit Go.Deep
set_option maxRecDepth 100000
set_option linter.unusedSectionVars false
variable [Inhabited ComV] [DecidableEq D3] [Inhabited D3] [Inhabited Dd] [Inhabited Dn] [Inhabited OpV]

structure ActV where
  kind : ByteArray
  key : ByteArray
  text : ByteArray
  c : ComV
  at_ : List Int
structure ActAt (w : World) (b o : Nat) (x : ActV) (a1 : Option Addr) (n1 c1 : Nat) (a2 : Option Addr) (n2 c2 : Nat) (a3 : Option Addr) (n3 c3 : Nat) : Prop where
  e0 : w.cell? ⟨b, o, none⟩ = some (.string x.kind)
  e1 : w.cell? ⟨b, o + 1, none⟩ = some (.string x.key)
  e2 : w.cell? ⟨b, o + 2, none⟩ = some (.string x.text)
  e3 : w.cell? ⟨b, o + 3, none⟩ = some (.slice a1 n1 c1)
  e4 : w.cell? ⟨b, o + 4, none⟩ = some (.int .i64 x.c.place)
  e5 : w.cell? ⟨b, o + 5, none⟩ = some (.slice a2 n2 c2)
  e6 : w.cell? ⟨b, o + 6, none⟩ = some (.slice a3 n3 c3)
  ints : IntsAt w (.slice a1 n1 c1) x.c.when_
  ops : OpsAt w (.slice a2 n2 c2) x.c.ops
  at_ : IntsAt w (.slice a3 n3 c3) x.at_
def ActsAt (w : World) (v : Value) (xs : List ActV) : Prop := ∃ (a : Option Addr) (c : Nat), v = .slice a xs.length c ∧ (xs = [] ∨ ∃ b o, a = some ⟨b, o, none⟩ ∧ ∀ (i : Nat) (x : ActV), xs[i]? = some x → ∃ a1 n1 c1 a2 n2 c2 a3 n3 c3, ActAt w b (o + i * 7) x a1 n1 c1 a2 n2 c2 a3 n3 c3)
section
variable {H : Type} {enc : TypeId × Value → H} {W : World}
theorem act_cells {n : Nat} {r : List Value} {y : DataW H × List MemPlace} (hl : r.length = 7) (h : DataW.trod enc Tryz.prog W 0 (fun _ => true) true n 56 r = some y) : ∃ (x : ActV) (a1 : Option Addr) (n1 c1 : Nat) (a2 : Option Addr) (n2 c2 : Nat) (a3 : Option Addr) (n3 c3 : Nat), r = [.string x.kind, .string x.key, .string x.text, .slice a1 n1 c1, .int .i64 x.c.place, .slice a2 n2 c2, .slice a3 n3 c3] ∧ IntsAt W (.slice a1 n1 c1) x.c.when_ ∧ OpsAt W (.slice a2 n2 c2) x.c.ops ∧ IntsAt W (.slice a3 n3 c3) x.at_ := by
  obtain ⟨xs, n', _, _, _, hxl, hg⟩ := DataW.trod_struct Tryz.underlying56 h
  match r, hl with
  | [a, b, c, d, e, f, g], _ =>
    have g0 : DataW.trod enc Tryz.prog W 0 (fun _ => true) true n' 9 (([a, b, c, d, e, f, g].drop 0).take (Tryz.prog.cellsOf 9)) = _ := hg 0 _ rfl; have g1 : DataW.trod enc Tryz.prog W 0 (fun _ => true) true n' 9 (([a, b, c, d, e, f, g].drop 1).take (Tryz.prog.cellsOf 9)) = _ := hg 1 _ rfl; have g2 : DataW.trod enc Tryz.prog W 0 (fun _ => true) true n' 9 (([a, b, c, d, e, f, g].drop 2).take (Tryz.prog.cellsOf 9)) = _ := hg 2 _ rfl; have g3 : DataW.trod enc Tryz.prog W 0 (fun _ => true) true n' 34 (([a, b, c, d, e, f, g].drop 3).take (Tryz.prog.cellsOf 34)) = _ := hg 3 _ rfl; have g4 : DataW.trod enc Tryz.prog W 0 (fun _ => true) true n' 23 (([a, b, c, d, e, f, g].drop 6).take (Tryz.prog.cellsOf 23)) = _ := hg 4 _ rfl; have k9 : Tryz.prog.cellsOf 9 = 1 := by kernel_rfl
    have k23 : Tryz.prog.cellsOf 23 = 1 := by kernel_rfl
    have k34 : Tryz.prog.cellsOf 34 = 3 := by kernel_rfl
    have hx5 : xs.length = 5 := hxl; rw [k9, List.getElem?_eq_getElem (by omega)] at g0 g1 g2; rw [k34, List.getElem?_eq_getElem (by omega)] at g3; rw [k23, List.getElem?_eq_getElem (by omega)] at g4; obtain ⟨z0, e0⟩ := str_cell (v := a) g0; obtain ⟨z1, e1⟩ := str_cell (v := b) g1; obtain ⟨z2, e2⟩ := str_cell (v := c) g2; obtain ⟨cc, ⟨wv, ov, e3, hw, ho⟩⟩ := com_cells (r := [d, e, f]) rfl g3; obtain ⟨zs, hz⟩ := ints_cellV (v := g) g4; injection e3 with e31 e3; injection e3 with e32 e3; injection e3 with e33 _; subst e0 e1 e2 e31 e32 e33; have hw' := hw; obtain ⟨a1, q1, h1, _⟩ := hw'; subst h1; obtain ⟨a2, q2, h2, _⟩ := ho.shape; subst h2; have hz' := hz; obtain ⟨a3, q3, h3, _⟩ := hz'; subst h3; exact ⟨⟨z0, z1, z2, cc, zs⟩, a1, _, q1, a2, _, q2, a3, _, q3, rfl, hw, ho, hz⟩
theorem acts_view {v : Value} {d : DataW H} {p : List MemPlace} {base : Nat} (hv : Value.okWide Tryz.prog W .any base 52 v) (h : DataW.Trod enc Tryz.prog W 0 (fun _ => true) true 52 v d p) : ∃ xs, ActsAt W v xs := by
  obtain ⟨a0, len, cap, rfl⟩ := okWide_slice Tryz.underlying52 hv; obtain ⟨fuel, hf⟩ := h; have hf' : DataW.trod enc Tryz.prog W 0 (fun _ => true) true fuel 52 [.slice a0 len cap] = some (d, p) := by simpa [Value.cells] using hf
  obtain ⟨rows, n', ⟨ad, cap', hv', hn, hc, hq⟩, hr⟩ := rows_view Tryz.underlying52 (k := 7) (by kernel_rfl) (by decide) hf'
  obtain ⟨qs, hf0⟩ := f2_choose (R := fun (r : List Value) (x : ActV) => ∃ (a1 : Option Addr) (n1 c1 : Nat) (a2 : Option Addr) (n2 c2 : Nat) (a3 : Option Addr) (n3 c3 : Nat), r = [.string x.kind, .string x.key, .string x.text, .slice a1 n1 c1, .int .i64 x.c.place, .slice a2 n2 c2, .slice a3 n3 c3] ∧ IntsAt W (.slice a1 n1 c1) x.c.when_ ∧ OpsAt W (.slice a2 n2 c2) x.c.ops ∧ IntsAt W (.slice a3 n3 c3) x.at_) (l := rows) (fun r hrm => by
    obtain ⟨hl, y, hy⟩ := hr r hrm; exact act_cells hl hy)
  have hlen := f2_len hf0; refine ⟨qs, ad, cap', by rw [hv', hlen], ?_⟩; rcases hq with hq | ⟨b, o, rfl, hq⟩
  · exact .inl (List.eq_nil_of_length_eq_zero (by rw [← hlen, hq]; rfl))
  · refine .inr ⟨b, o, rfl, fun i x hx => ?_⟩; obtain ⟨r, hr, a1, n1, c1, a2, n2, c2, a3, n3, c3, rfl, hi, ho, ha⟩ := f2_get hf0 i x hx; have k := (hq i _ hr).2; exact ⟨a1, n1, c1, a2, n2, c2, a3, n3, c3, k 0 _ rfl, k 1 _ rfl, k 2 _ rfl, k 3 _ rfl, k 4 _ rfl, k 5 _ rfl, k 6 _ rfl, hi, ho, ha⟩
end
theorem Tryz.read52 : Tryz.prog.readableRec 52 = true := by kernel_rfl
theorem Tryz.lt52 : 52 < Tryz.prog.types.size := of_decide_eq_true (by kernel_rfl)
theorem acts_stay {H : Type} {enc : TypeId × Value → H} {W W' : World} {v : Value} {d : DataW H} {p : List MemPlace} (h : DataW.Trod enc Tryz.prog W 0 (fun _ => true) true 52 v d p) (hb : Below W.heap.size W W') (hlt : ∀ x ∈ p, x.block < W.heap.size) :
    DataW.Trod enc Tryz.prog W' 0 (fun b => decide (b < W.heap.size)) true 52 v d p := Below.trod Tryz.laidOut Tryz.read52 Tryz.lt52 h hb hlt
end Go.Proofs.YtdnebclemngdcaaGreatDoor
namespace Go.Proofs.YtdnebclemngdcaaGreatDoor
open Go.RowKit Go.Sort Go.Maps
set_option maxRecDepth 100000
set_option linter.unusedSectionVars false
variable [Inhabited ComV] [DecidableEq D3] [Inhabited D3] [Inhabited Dd] [Inhabited Dn] [Inhabited OpV]

theorem rows_none (B : Nat) (w : World) (nb : Nat) : RowsO B w nb (fun _ => .slice none 0 0) (fun _ => []) (fun _ => ⟨0, ByteArray.empty, 0, ByteArray.empty, 0, false, []⟩) (fun _ => .slice none 0 0) :=
  ⟨fun k => RowR.nil _ _, fun k => ⟨fun r hr => by simp at hr, fun r hr => by simp at hr, fun r hr => by simp at hr, fun r hr => by simp at hr⟩, fun k => by simp, fun k q hq => (by simp at hq), fun k k' _ r hr => (by simp at hr), fun k k' _ b hb => (by cases hb), fun k r hr => (by simp at hr)⟩
set_option maxHeartbeats 4000000 in
theorem stored_okO (A : Nat → Addr) (w : World) (hE : E4 A w) (h12 : 12 ≤ w.heap.size) : Calls Tryz.prog 6 #[] w fun e w' => e = .returned (.bool true) ∧ Below w.heap.size w w' := by
  have HE := hid hE; clear hE; go_enter Tryz.func6, Tryz.ntmps6; go_wp2_with fail; refine (new_ok w 1 (by omega) (by omega)).mono ?_; rintro e w1 ⟨p, mb, db, rfl, hp, hm, hd, hV, hb⟩; have V1 := hid hV; have B1 := hid hb; clear hV hb; go_wp2_with fail; obtain ⟨w2, hw2⟩ : ∃ w2, w2 = ((w1.alloc (.cells #[.int .i64 1] 3)).alloc (.cells #[.int .i64 0, .string ⟨#[107]⟩, .int .i64 2, .string ⟨#[]⟩, .int .i64 5, .bool false, .slice none 0 0] 76)) := ⟨_, rfl⟩; have hb12 : Below w1.heap.size w1 w2 := by rw [hw2]; exact below2 _ _ _
  have hC2 := stored_com w1; rw [← hw2] at hC2 ⊢; have hbs := B1.out.size; have hbs2 := hb12.size; have K9 := put_okO A w2 (HE.out.below (B1.out.trans (hb12.mono hbs)) h12) (by omega) p mb db 0 _ ⟨[0], [], []⟩ (V1.out.moved hb12) (by omega) (fun k => by show ([] : List ComV).length ≤ _; simp) storedC _ _ hC2 (stored_st.small storedC (by simp [storedS])).2.2 stored_err rfl (by rfl) (by rfl) (fun o ho h => by cases h) w.heap.size 1 (fun _ => []) (fun _ => ⟨0, ByteArray.empty, 0, ByteArray.empty, 0, false, []⟩) (fun _ => .slice none 0 0) (rows_none _ _ _) (fun k => rfl) (by omega) rfl (fun o ho => by obtain rfl : o = storedOp := (by simpa [storedC] using ho); decide); refine K9.mono ?_; rintro e w3 ⟨rfl, f3, _, _, _, hV3, hT3, hK3, _⟩
  have hV3' : VerAt w3 p mb db f3 storedS 24 := by
    have := hV3; rw [show storedC.ops.length = 1 from rfl, stored_put] at this; exact this
  have B3 := hid (below_turn B1.out hb12 hT3 hm hd (fun k b h => by cases h)); have V3 := hid hV3'; clear hV3 hV3' hT3 hK3 K9 hC2 hw2 hb12; go_wp2_with fail; have hb34 := below_alloc w3 (.cells #[.int .i64 1] 3); have K14 := read_ok A (w3.alloc (.cells #[.int .i64 1] 3)) (HE.out.below (B3.out.trans (hb34.mono B3.out.size)) h12) (by have := B3.out.size; simp; omega) p mb db 24 1 f3 storedS (V3.out.moved hb34) stored_st ⟨#[107]⟩ (by kernel_rfl) (by decide) (.slice (some ⟨w3.heap.size, 0, none⟩) 1 1) [1] (lit_ints w3 #[.int .i64 1] 3 [1] rfl _ _ _ rfl rfl) (by rfl) rfl (by rfl) (by first | decide | exact Nat.le_of_ble_eq_true rfl); refine K14.mono ?_; rintro e w5 ⟨v5, ds5, rfl, hI5, hva5, hb5⟩; rw [stored_one] at hI5; rw [stored_val hI5] at hva5; obtain ⟨sv5, rfl, a5, c5, hs5, _⟩ := hva5; subst hs5; have B5 := hid ((B3.out.trans (hb34.mono B3.out.size)).trans (hb5.mono (B3.out.trans (hb34.mono B3.out.size)).size))
  have V5 := hid ((V3.out.moved hb34).moved hb5); clear hb34 K14 hI5 hb5; go_wp2_with fail; obtain ⟨w6, hw6⟩ : ∃ w6, w6 = w5.alloc (.cells #[.int .i64 2, .string ByteArray.empty, .int .i64 5, .slice a5 0 c5] 41) := ⟨_, rfl⟩; have hb56 : Below w5.heap.size w5 w6 := by rw [hw6]; exact below_alloc _ _
  have x6 : w6.heap[w5.heap.size]? = some (.cells #[.int .i64 2, .string ByteArray.empty, .int .i64 5, .slice a5 0 c5] 41 (0, 0)) := by rw [hw6]; exact (MapKept.heap_alloc _ _).1
  have hs6 : w6.heap.size = w5.heap.size + 1 := by rw [hw6, World.size_alloc]
  rw [← hw6]; have hb67 := below_alloc w6 (.cells #[.int .i64 0] 3); have hb57 := hb56.trans (hb67.mono hb56.size); have K14 := read_ok A (w6.alloc (.cells #[.int .i64 0] 3)) (HE.out.below (B5.out.trans (hb57.mono B5.out.size)) h12) (by have := B5.out.size; simp; omega) p mb db 24 1 f3 storedS (V5.out.moved hb57) stored_st ⟨#[107]⟩ (by kernel_rfl) (by decide) (.slice (some ⟨w5.heap.size + 1, 0, none⟩) 1 1) [0] (lit_ints w6 #[.int .i64 0] 3 [0] rfl _ _ _ hs6.symm rfl) (by rfl) rfl (by rfl) (by first | decide | exact Nat.le_of_ble_eq_true rfl); refine K14.mono ?_; rintro e w8 ⟨v8, ds8, rfl, hI8, hva8, hb8⟩; rw [stored_none] at hI8; rw [stored_val0 hI8] at hva8; obtain ⟨sv8, rfl, a8, c8, hs8, _⟩ := hva8; subst hs8
  have x8 : w8.heap[w5.heap.size]? = some (.cells #[.int .i64 2, .string ByteArray.empty, .int .i64 5, .slice a5 0 c5] 41 (0, 0)) := by
    rw [hb8.block _ (by simp; omega), hb67.block _ (by omega)]; exact x6
  have y2 : w8.cell? ⟨w5.heap.size, 2, none⟩ = some (.int .i64 5) := by simp only [World.cell?, x8]; rfl
  have y2a := fun o => cell_alloc y2 o
  have hb9 := B5.out.trans (hb57.mono B5.out.size); have B8 := hid (hb9.trans (hb8.mono hb9.size)); clear hb56 x6 hb67 hb57 K14 hI8 hb8 x8 hb9 hw6 hs6; go_wp2_with fail; go_ret; exact ⟨rfl, B8.out.alloc B8.out.size _⟩
end Go.Proofs.YtdnebclemngdcaaGreatDoor
