/- Put of a commit of which an op is there; Read: what may not be read; Two stores side by side, and a row of one's own; The sender's Acked; The receiver: its box and its map; NewReceiver, Seq, bears, knows; come: what has its turn. -/
import Derived.Test.YtefpnojanldkeaaGreatDoorJWPutB
import Derived.Test.YtefpnojanldkeaaGreatDoorJVOwnM
import Derived.Test.YtefpnojanldkeaaGreatDoorJVMap
import Derived.Test.YtefpnojanldkeaaGreatDoorJVRefN
import Derived.Test.YtefpnojanldkeaaGreatDoorJVOp
import Derived.Test.YtefpnojanldkeaaGreatDoorJVVec
import Derived.Test.YtefpnojanldkeaaGreatDoorJVOnceM
import Derived.Test.YtefpnojanldkeaaGreatDoorJVRow
import Derived.Test.YtefpnojanldkeaaGreatDoorJVStandM
import Derived.Test.YtefpnojanldkeaaGreatDoorJWState
import Derived.Test.YtefpnojanldkeaaGreatDoorJWPutN
import Derived.Test.YtefpnojanldkeaaGreatDoorJWPart
import Derived.Test.YtefpnojanldkeaaGreatDoorJWMath
import Derived.Test.YtefpnojanldkeaaGreatDoorJWPut
import Derived.Sort.KeysCollected
import Derived.Shelf.SlIter.Nil
import Derived.Laws.AppendOwnNone
import Derived.Test.YtefpnojanldkeaaGreatDoorJSDel
import Derived.Maps.OwnSet
import Derived.Deep.RegionHeld
namespace Go.Proofs.YtefpnojanldkeaaGreatDoor
open Go.RowKit Go.Sort Go.Maps
set_option maxRecDepth 100000
set_option linter.unusedSectionVars false
variable [Inhabited ComV] [DecidableEq D3] [Inhabited D3] [Inhabited Dd] [Inhabited Dn] [Inhabited OpV]

set_option maxHeartbeats 8000000 in
theorem put_exist (A : Nat → Addr) (w : World) (hE : E4 A w) (hex : w.cell? ⟨4, 0, none⟩ = some (.iface 238 (.pointer (some (A 5))))) (h4 : 12 ≤ w.heap.size) (p mb db n : Nat) (f : ByteArray → Value) (s : St) (hV : VerAt w p mb db f s n) (hrl : ∀ k, (rowOf s k).length ≤ 1000000)
    (c : ComV) (wv ov : Value) (hcT : ComT w [wv, .int .i64 c.place, ov] c) (hsm : ∀ o ∈ c.ops, Small o) (hc : comErr c = (0, none)) (hpl : c.when_.length = s.base.length) (hold : leB c.when_ s.base = false) (hbase : chk s.base = 0) (hnew : ∃ o ∈ c.ops, dotC c o ∈ s.dots) :
    Calls Tryz.prog 27 #[.pointer (some ⟨p, 0, none⟩), .agg #[wv, .int .i64 c.place, ov]] w fun e w' => PutBad w e w' := by
  obtain ⟨wv', ov', hwe0, hwT, hoT⟩ := hcT
  injection hwe0 with e1 e2
  injection e2 with _ e2
  injection e2 with e2 _
  subst e1 e2
  have hw := hwT.at
  have ho := hoT.at
  have HWT := hid hwT
  have HOT := hid hoT
  clear hwT hoT
  have hC := comOk_of (c := c) (by rw [hc])
  have hw6 := (chk_zero.1 hC.chk).2.1
  have hmo := hC.few
  obtain ⟨w1, hw1⟩ : ∃ w1, w1 = w.alloc (.cells #[wv, .int .i64 c.place, ov] 36) := ⟨_, rfl⟩
  have hb1 : Below w.heap.size w w1 := by rw [hw1]; exact below_alloc _ _
  have hbx1 : w1.heap[w.heap.size]? = some (.cells #[wv, .int .i64 c.place, ov] 36 (0, 0)) := by rw [hw1]; exact (MapKept.heap_alloc _ _).1
  have hV1 := hV.moved hb1
  have K15 := checkCommit A w1 (hE.below hb1 h4) (by have := hb1.size; omega) c wv ov (hw.mono hb1 (Nat.le_refl _)) (ho.mono hb1 (Nat.le_refl _)) (by omega) (by omega) hsm
  unfold ComRet at K15
  rw [hc] at K15
  have HC := hid hC
  have HW := hid hw
  have HO := hid ho
  have HV := hid hV
  have HE := hid hE
  have HNEW := hid hnew
  have HEX := hid hex
  have HSM := hid hsm
  have HRL := hid hrl
  obtain ⟨av, cv, hwe, _, hwc⟩ := hw
  subst hwe
  obtain ⟨b1, o1, rfl, hw2⟩ : ∃ b1 o1, av = some ⟨b1, o1, none⟩ ∧ ∀ t, t < c.when_.length → w.cell? ⟨b1, o1 + t, none⟩ = some (.int .i64 (c.when_.getD t 0)) := by
    rcases hwc with h | h
    · have := (chk_zero.1 hC.chk).1
      rw [h] at this
      simp at this
    · exact h
  obtain ⟨ao, co, hoe, _, _, hos⟩ := ho.shape
  subst hoe
  obtain ⟨b2, o2, rfl, hos2⟩ := hos.resolve_left hC.some_
  obtain ⟨pn, hpn⟩ : ∃ pn : Nat, c.place = pn := ⟨c.place.toNat, by have := hC.lo; omega⟩
  have hplt : pn < c.when_.length := by have := hC.hi; omega
  have ct := hw2 pn hplt
  obtain ⟨T, hT⟩ : ∃ T, T = c.when_.getD pn 0 := ⟨_, rfl⟩
  rw [← hT] at ct
  have HT := hid hT
  have CT := hid ct
  have HOS := hid hos2
  have HTB : Hid (0 ≤ T ∧ T ≤ 1099511627776) := by
    have := (chk_zero.1 hC.chk).2.2 pn (by omega)
    rw [← hT] at this
    exact this
  have hpn6 : pn ≤ 6 := by omega
  clear hwc hw2 hos hos2 hT ct
  obtain ⟨nw, hnw⟩ : ∃ nw, nw = c.when_.length := ⟨_, rfl⟩
  obtain ⟨no, hno⟩ : ∃ no, no = c.ops.length := ⟨_, rfl⟩
  rw [← hnw, ← hno, hpn] at hw1 hbx1 K15 ⊢
  rw [← hnw] at HW hplt
  have HNW := hid hnw
  have HNO := hid hno
  have HPN := hid hpn
  have HPB := hid hpl
  have HOLD := hid hold
  have HBASE := hid hbase
  have hs1 : w.heap.size < w1.heap.size := lt_of_heap hbx1
  have X1 := hid hbx1
  have B1 := hid hb1
  have V1 := hid hV1
  have c0 : w1.cell? ⟨w.heap.size, 0, none⟩ = some (.slice (some ⟨b1, o1, none⟩) nw cv) := by simp only [World.cell?, hbx1]; rfl
  have c1 : w1.cell? ⟨w.heap.size, 1, none⟩ = some (.int .i64 pn) := by simp only [World.cell?, hbx1]; rfl
  have c2 : w1.cell? ⟨w.heap.size, 2, none⟩ = some (.slice (some ⟨b2, o2, none⟩) no co) := by simp only [World.cell?, hbx1]; rfl
  clear hex hV hE ho hsm hc hpl hold hbase hnew hC hnw hno hpn hb1 hV1 hbx1 hrl
  go_enter Tryz.func27, Tryz.ntmps27
  go_wp2_with fail
  rw [← hw1]
  refine K15.mono ?_
  rintro e w2 ⟨v2, rfl, hv2, hb2⟩
  obtain rfl := nil_of_errB hv2
  have B2 := hid (B1.out.trans (hb2.mono B1.out.size))
  have V2 := hid (V1.out.moved hb2)
  have x2 : w2.heap[w.heap.size]? = some (.cells #[.slice (some ⟨b1, o1, none⟩) nw cv, .int .i64 pn, .slice (some ⟨b2, o2, none⟩) no co] 36 (0, 0)) := (hb2.block _ hs1).trans X1.out
  have d0 : w2.cell? ⟨w.heap.size, 0, none⟩ = some (.slice (some ⟨b1, o1, none⟩) nw cv) := by simp only [World.cell?, x2]; rfl
  obtain ⟨ba, bc, p0, p1, p2, hbt, hpx⟩ := V2.out.boxAt
  have K59 := checkVector_ok A w2 (HE.out.below B2.out h4) p _ s.base _ _ hpx hbt.at (.slice (some ⟨b1, o1, none⟩) nw cv) c.when_ (HW.out.mono B2.out (Nat.le_refl _)) HC.out.chk HPB.out
  have K60 := fun W (hW : Below w2.heap.size w2 W) => within_ok A W (HE.out.below (B2.out.trans (hW.mono B2.out.size)) h4) (.slice (some ⟨b1, o1, none⟩) nw cv) _ c.when_ s.base (HW.out.mono (B2.out.trans (hW.mono B2.out.size)) (Nat.le_refl _)) (hbt.at.mono hW (Nat.le_refl _)) (two_zero.2 ⟨HC.out.chk, HBASE.out, HPB.out⟩)
  rw [HOLD.out] at K60
  have X2 := hid x2
  have HPX := hid hpx
  clear K15 hv2 hb2 hw1 c0 c1 c2 x2 hbt hpx V1
  go_wp2_with (go_at_call 53; refine K59.mono ?_; rintro e w' ⟨rfl, hw'⟩; rw [hw'])
  obtain ⟨nb, hnb⟩ : ∃ nb, nb = s.base.length := ⟨_, rfl⟩
  rw [← hnb] at p0 K60 HPX
  clear hnb K59
  go_region_held (fun w' => w'.cell? ⟨w.heap.size, 0, none⟩ = some (.slice (some ⟨b1, o1, none⟩) nw cv) ∧ w'.cell? ⟨p, 0, none⟩ = some (.slice ba nb bc)) (go_keep) (first | (go_at_call 54; refine (K60 _ ?hb60).mono ?_; (case hb60 => exact below_draws (Below.refl _ _) 1); rintro e w3 ⟨rfl, q3, hq3⟩; have k0 : w3.cell? ⟨w.heap.size, 0, none⟩ = some (.slice (some ⟨b1, o1, none⟩) nw cv) := (by rw [hq3]; exact d0); have k1 : w3.cell? ⟨p, 0, none⟩ = some (.slice ba nb bc) := (by rw [hq3]; exact p0); have HQ3 := hid hq3; clear hq3))
  have hb23 : Below w2.heap.size w2 w3 := by rw [HQ3.out]; exact below_draws (below_draws (Below.refl _ _) 1) q3
  have B3 := hid (B2.out.trans (hb23.mono B2.out.size))
  have V3 := hid (V2.out.moved hb23)
  have hs2 : w.heap.size < w2.heap.size := lt_of_heap X2.out
  have x3 : w3.heap[w.heap.size]? = some (.cells #[.slice (some ⟨b1, o1, none⟩) nw cv, .int .i64 pn, .slice (some ⟨b2, o2, none⟩) no co] 36 (0, 0)) := (hb23.block _ hs2).trans X2.out
  have e2 : w3.cell? ⟨w.heap.size, 2, none⟩ = some (.slice (some ⟨b2, o2, none⟩) no co) := by simp only [World.cell?, x3]; rfl
  have X3 := hid x3
  clear HQ3 k0 k1 hb23 x3 d0 p0 p1 p2 K60 V2 X2 HPX
  have hno12 : no ≤ 12 := by have := HNO.out; have := HC.out.few; omega
  go_wp2
  clear e2
  go_loopw [36] (fun i wr => ∃ j : Nat, j ≤ no ∧ i = .int .i64 j ∧ Hid (Below w3.heap.size w3 wr) ∧ Hid (∀ i, i < j → dotC c c.ops[i]! ∉ s.dots)) (fun i _ => no - (intOf i).toNat)
  case atStart => exact ⟨0, Nat.zero_le _, rfl, Below.refl _ _, fun i hi => absurd hi (Nat.not_lt_zero _)⟩
  case round =>
    obtain ⟨j, hj, rfl, JB, JN⟩ := hrel
    by_cases hjl : j < no
    · obtain ⟨dp, dc, hd, q0, q1, q2, q3, q4, q5, q6⟩ := HOS.out j (by have := HNO.out; omega)
      have up : ∀ {a : Addr} {v : Value}, w.cell? a = some v → wr.cell? a = some v := fun {a v} h => by rw [(B3.out.trans (JB.out.mono B3.out.size)).cell (lt_of_cell h)]; exact h
      have r0 := up q0
      have r1 := up q1
      have r2 := up q2
      have r3 := up q3
      have r4 := up q4
      have r5 := up q5
      have r6 := up q6
      have hmem : c.ops[j]! ∈ c.ops := by rw [getElem!_pos c.ops j (by have := HNO.out; omega)]; exact List.getElem_mem _
      have hoe := opErr_of_bad (HC.out.ops j (by have := HNO.out; omega))
      obtain ⟨y, hy⟩ : ∃ y, y = c.ops[j]! := ⟨_, rfl⟩
      have HY := hid hy
      rw [← hy] at r0 r1 r2 r3 r4 r5 r6 hoe
      have hat := at_of_opErr hoe
      obtain ⟨x1, x2, x3, x4, x5, x6, ds⟩ := y
      simp only at r0 r1 r2 r3 r4 r5 r6 hat
      obtain ⟨dl, hdl⟩ : ∃ dl, dl = ds.length := ⟨_, rfl⟩
      rw [← hdl] at r6
      have hwf : Hid (wf3 ⟨pn, T, x1⟩) := ⟨wf_i64 (by simp only; omega) (by simp only; omega), wf_i64 HTB.out.1 HTB.out.2, wf_i64 hat.1 (by simp only; omega)⟩
      have HDJ : Hid (dotC c c.ops[j]! = ⟨pn, T, x1⟩) := by
        show _ = _
        rw [← HY.out]
        unfold dotC
        rw [HPN.out, Int.toNat_natCast, ← HT.out]
      obtain ⟨bd, hbd⟩ : ∃ bd, bd = decide ((⟨pn, T, x1⟩ : D3) ∈ s.dots) := ⟨_, rfl⟩
      have HND := hid hbd.symm
      clear q0 q1 q2 q3 q4 q5 q6 hd hmem hoe hy hat hdl hbd up
      go_upto_region 12 with (fail)
      obtain ⟨wq, hwq⟩ : ∃ wq, wq = wr.alloc (.cells #[.int .i64 x1, .string x2, .int .i64 x3, .string x4, .int .i64 x5, .bool x6, .slice dp dl dc] 34) := ⟨_, rfl⟩
      rw [← hwq]
      have bq : Below wr.heap.size wr wq := by rw [hwq]; exact below_alloc _ _
      have B3q := hid (JB.out.trans (bq.mono JB.out.size))
      have VQ := hid (V3.out.moved B3q.out)
      have xq : wq.heap[w.heap.size]? = some (.cells #[.slice (some ⟨b1, o1, none⟩) nw cv, .int .i64 pn, .slice (some ⟨b2, o2, none⟩) no co] 36 (0, 0)) := (B3q.out.block _ (lt_of_heap X3.out)).trans X3.out
      have oq : wq.heap[wr.heap.size]? = some (.cells #[.int .i64 x1, .string x2, .int .i64 x3, .string x4, .int .i64 x5, .bool x6, .slice dp dl dc] 34 (0, 0)) := by rw [hwq]; exact (MapKept.heap_alloc _ _).1
      obtain ⟨_, _, _, _, m2, _, _⟩ := VQ.out.boxAt
      have n0 : wq.cell? ⟨w.heap.size, 0, none⟩ = some (.slice (some ⟨b1, o1, none⟩) nw cv) := by simp only [World.cell?, xq]; rfl
      have n1 : wq.cell? ⟨w.heap.size, 1, none⟩ = some (.int .i64 pn) := by simp only [World.cell?, xq]; rfl
      have n2 : wq.cell? ⟨w.heap.size, 2, none⟩ = some (.slice (some ⟨b2, o2, none⟩) no co) := by simp only [World.cell?, xq]; rfl
      have u0 : wq.cell? ⟨wr.heap.size, 0, none⟩ = some (.int .i64 x1) := by simp only [World.cell?, oq]; rfl
      have u1 : wq.cell? ⟨wr.heap.size, 1, none⟩ = some (.string x2) := by simp only [World.cell?, oq]; rfl
      have u2 : wq.cell? ⟨wr.heap.size, 2, none⟩ = some (.int .i64 x3) := by simp only [World.cell?, oq]; rfl
      have u3 : wq.cell? ⟨wr.heap.size, 3, none⟩ = some (.string x4) := by simp only [World.cell?, oq]; rfl
      have u4 : wq.cell? ⟨wr.heap.size, 4, none⟩ = some (.int .i64 x5) := by simp only [World.cell?, oq]; rfl
      have u5 : wq.cell? ⟨wr.heap.size, 5, none⟩ = some (.bool x6) := by simp only [World.cell?, oq]; rfl
      have u6 : wq.cell? ⟨wr.heap.size, 6, none⟩ = some (.slice dp dl dc) := by simp only [World.cell?, oq]; rfl
      have ctq : wq.cell? ⟨b1, o1 + pn, none⟩ = some (.int .i64 T) := by rw [(B3.out.trans (B3q.out.mono B3.out.size)).cell (lt_of_cell CT.out)]; exact CT.out
      clear hwq bq xq oq r0 r1 r2 r3 r4 r5 r6
      go_region_held (fun w' => w'.cell? ⟨p, 2, none⟩ = some (.map (some db)) ∧ w'.cell? ⟨w.heap.size, 0, none⟩ = some (.slice (some ⟨b1, o1, none⟩) nw cv) ∧ w'.cell? ⟨w.heap.size, 1, none⟩ = some (.int .i64 pn) ∧ w'.cell? ⟨w.heap.size, 2, none⟩ = some (.slice (some ⟨b2, o2, none⟩) no co) ∧ w'.cell? ⟨wr.heap.size, 0, none⟩ = some (.int .i64 x1) ∧ w'.cell? ⟨wr.heap.size, 1, none⟩ = some (.string x2) ∧ w'.cell? ⟨wr.heap.size, 2, none⟩ = some (.int .i64 x3) ∧ w'.cell? ⟨wr.heap.size, 3, none⟩ = some (.string x4) ∧ w'.cell? ⟨wr.heap.size, 4, none⟩ = some (.int .i64 x5) ∧ w'.cell? ⟨wr.heap.size, 5, none⟩ = some (.bool x6) ∧ w'.cell? ⟨wr.heap.size, 6, none⟩ = some (.slice dp dl dc)) (go_keep) (first | (go_at_call 55; refine (dotOf_any _ b1 o1 nw cv pn T _ _ _ _ _ _ _ _ _ _ _ _ hplt ?hct).mono ?_; (case hct => first | exact ctq | exact cell_alloc ctq _); rintro e w5 ⟨rfl, hb5⟩; have up5 : ∀ {a : Addr} {v : Value}, wq.cell? a = some v → w5.cell? a = some v := (fun {a v} h => by first | (rw [hb5.cell (lt_of_cell h)]; exact h) | (rw [hb5.cell (lt_of_cell (cell_alloc h _))]; exact cell_alloc h _)); have hbq5 : Below wq.heap.size wq w5 := (by first | exact (below_draws (Below.refl wq.heap.size wq) 1).trans hb5 | exact (below_draws (below_alloc wq _) 1).trans (hb5.mono (by show wq.heap.size ≤ (wq.alloc _).heap.size; simp))); have V5 := VQ.out.moved hbq5; have hl5 : (Instr.lookup 107 (.map (some db)) (.agg #[.int .i64 pn, .int .i64 T, .int .i64 x1]) true).run Tryz.prog w5 = .ok (.tuple #[.agg #[], .bool bd]) w5 := (by have h := V5.look ⟨pn, T, x1⟩ hwf.out; rw [HND.out] at h; exact h); have hl6 : ∀ o, (Instr.lookup 107 (.map (some db)) (.agg #[.int .i64 pn, .int .i64 T, .int .i64 x1]) true).run Tryz.prog (w5.alloc o) = .ok (.tuple #[.agg #[], .bool bd]) (w5.alloc o) := (fun o => by have h := (V5.moved (below_alloc w5 o)).look ⟨pn, T, x1⟩ hwf.out; rw [HND.out] at h; exact h); have m2' := up5 m2; have n0' := up5 n0; have n1' := up5 n1; have n2' := up5 n2; have u0' := up5 u0; have u1' := up5 u1; have u2' := up5 u2; have u3' := up5 u3; have u4' := up5 u4; have u5' := up5 u5; have u6' := up5 u6; clear up5 V5; have HBQ5 := hid hbq5; clear hb5 hbq5))
      all_goals
        cases bd with
        | true =>
          have gx : w5.cell? ⟨4, 0, none⟩ = some (.iface 238 (.pointer (some (A 5)))) := by
            have hb := B3.out.trans ((B3q.out.trans (HBQ5.out.mono B3q.out.size)).mono B3.out.size)
            rw [hb.cell (lt_of_cell HEX.out)]; exact HEX.out
          have gxa := fun o => cell_alloc gx o
          have BZ := hid (B3.out.trans ((B3q.out.trans (HBQ5.out.mono B3q.out.size)).mono B3.out.size))
          go_wp2
          have hsz := BZ.out.size
          go_ret
          first
            | exact ⟨_, _, rfl, BZ.out.alloc hsz _⟩
            | exact ⟨_, _, rfl, (BZ.out.alloc hsz _).alloc (by simp; omega) _⟩
            | exact ⟨_, _, rfl, ((BZ.out.alloc hsz _).alloc (by simp; omega) _).alloc (by simp; omega) _⟩
        | false =>
          go_wp2
          refine ⟨⟨j + 1, by omega, by go_num, ?_, ?_⟩, by simp [intOf]; omega⟩
          · first
              | exact (B3q.out.trans (HBQ5.out.mono B3q.out.size)).alloc (Nat.le_trans B3q.out.size HBQ5.out.size) _
              | exact B3q.out.trans (HBQ5.out.mono B3q.out.size)
          · intro i hi
            rcases Nat.lt_succ_iff_lt_or_eq.1 hi with h | rfl
            · exact JN.out i h
            · rw [HDJ.out]; exact of_decide_eq_false HND.out
    · obtain rfl : j = no := by omega
      obtain ⟨o, ho, hod⟩ := HNEW.out
      obtain ⟨i, hi, rfl⟩ := List.getElem_of_mem ho
      exact absurd (by rw [getElem!_pos c.ops i hi]; exact hod) (JN.out i (by rw [HNO.out]; exact hi))
end Go.Proofs.YtefpnojanldkeaaGreatDoor
namespace Go.Proofs.YtefpnojanldkeaaGreatDoor
open Go.RowKit Go.Sort Go.Maps
set_option maxRecDepth 100000
set_option linter.unusedSectionVars false
variable [Inhabited ComV] [DecidableEq D3] [Inhabited D3] [Inhabited Dd] [Inhabited Dn] [Inhabited OpV]

/-- A read that is refused: an error that is not nil. -/
def SeenBad (w : World) (e : Ending) (w' : World) : Prop := ∃ t u, e = .returned (.tuple #[.slice none 0 0, .iface t u]) ∧ Below w.heap.size w w'
set_option maxHeartbeats 2000000 in
theorem seen_name (A : Nat → Addr) (w : World) (hE : E5 A w) (p : Nat) (key : ByteArray) (hk : nameB key = false) (av : Value) :
    Calls Tryz.prog 70 #[.pointer (some ⟨p, 0, none⟩), .string key, av] w fun e w' => SeenBad w e w' := by
  have K75 := checkName_bad A w hE key hk
  clear hE hk
  go_enter Tryz.func70, Tryz.ntmps70
  go_wp2_with fail
  refine K75.mono ?_
  rintro e w' ⟨rfl, hw'⟩
  rw [hw']
  clear hw'
  go_wp2_with fail
  first
    | (go_ret2; exact ⟨_, _, rfl, Below.refl _ _⟩)
    | (go_region; go_wp2; go_ret2; exact ⟨_, _, rfl, (Below.refl _ _).drew⟩)
set_option maxHeartbeats 2000000 in
theorem seen_vec (A : Nat → Addr) (w : World) (hE : E4 A w) (p mb db n : Nat) (f : ByteArray → Value) (s : St) (hV : VerAt w p mb db f s n) (key : ByteArray) (hk : nameB key = true) (av : Value) (at_ : List Int) (ha : IntsAt w av at_) (hl : at_.length ≤ 1000000) (h0 : ¬(chk at_ = 0 ∧ at_.length = s.base.length)) :
    Calls Tryz.prog 70 #[.pointer (some ⟨p, 0, none⟩), .string key, av] w fun e w' => SeenBad w e w' := by
  obtain ⟨ba, bc, p0, p1, p2, hbt, hpx⟩ := hV.boxAt
  have K75 := hid (fun W => checkName_ok W key hk)
  have K37 := hid (checkVector_bad A w hE p _ s.base _ _ hpx hbt.at av at_ ha hl h0)
  obtain ⟨aa, ac, rfl⟩ := ha.slice
  clear hE hk hV ha h0 hbt hpx p0 p1 p2
  go_enter Tryz.func70, Tryz.ntmps70
  go_wp2_with (go_at_call 69; refine (K75.out _).mono ?_; rintro e w' ⟨rfl, hw'⟩; rw [hw']; clear hw')
  refine K37.out.mono ?_
  rintro e w' ⟨⟨k, rfl⟩, hw'⟩
  rw [hw']
  clear hw'
  go_wp2_with fail
  first
    | (go_ret2; exact ⟨_, _, rfl, Below.refl _ _⟩)
    | (go_region; go_wp2; go_ret2; exact ⟨_, _, rfl, (Below.refl _ _).drew⟩)
set_option maxHeartbeats 2000000 in
theorem seen_old (A : Nat → Addr) (w : World) (hE : E4 A w) (ho : w.cell? ⟨3, 0, none⟩ = some (.iface 238 (.pointer (some (A 8))))) (p mb db n : Nat) (f : ByteArray → Value) (s : St) (hV : VerAt w p mb db f s n) (hbs : chk s.base = 0) (key : ByteArray) (hk : nameB key = true) (av : Value) (at_ : List Int) (ha : IntsAt w av at_) (hc : chk at_ = 0) (hal : at_.length = s.base.length) (hle : leB s.base at_ = false) :
    Calls Tryz.prog 70 #[.pointer (some ⟨p, 0, none⟩), .string key, av] w fun e w' => SeenBad w e w' := by
  obtain ⟨ba, bc, p0, p1, p2, hbt, hpx⟩ := hV.boxAt
  have K75 := hid (fun W => checkName_ok W key hk)
  have K37 := hid (checkVector_ok A w hE p _ s.base _ _ hpx hbt.at av at_ ha hc hal)
  have K38 := hid (within_ok A w hE _ _ s.base at_ hbt.at ha (two_zero.2 ⟨hbs, hc, hal.symm⟩))
  rw [hle] at K38
  obtain ⟨aa, ac, rfl⟩ := ha.slice
  obtain ⟨nb', hnb'⟩ : ∃ nb', nb' = s.base.length := ⟨_, rfl⟩
  rw [← hnb'] at p0 K38
  clear hE hk hV ha hbt hpx p1 p2 hc hal hle hnb'
  go_enter Tryz.func70, Tryz.ntmps70
  go_wp2_with (first | (go_at_call 69; refine (K75.out _).mono ?_; rintro e w' ⟨rfl, hw'⟩; rw [hw']; clear hw') | (go_at_call 53; refine K37.out.mono ?_; rintro e w' ⟨rfl, hw'⟩; rw [hw']; clear hw'))
  refine K38.out.mono ?_
  rintro e w3 ⟨rfl, q3, hq3⟩
  have ho3 : w3.cell? ⟨3, 0, none⟩ = some (.iface 238 (.pointer (some (A 8)))) := by rw [hq3]; exact ho
  have B3 : Hid (Below w.heap.size w w3) := (show Below _ _ _ from by rw [hq3]; exact below_draws (Below.refl _ _) q3)
  clear hq3 p0 ho
  go_wp2_with fail
  first
    | (go_ret2; exact ⟨_, _, rfl, B3.out⟩)
    | (go_region; go_wp2; go_ret2; exact ⟨_, _, rfl, B3.out.drew⟩)
/-- A read that is refused: an error that is not nil. -/
def ReadBad (w : World) (e : Ending) (w' : World) : Prop := ∃ t u, e = .returned (.tuple #[.agg #[.int .i64 0, .string ⟨#[]⟩, .int .i64 0, .slice none 0 0], .iface t u]) ∧ Below w.heap.size w w'
set_option maxHeartbeats 2000000 in
theorem read_bad (w : World) (p : Nat) (key : ByteArray) (aa : Option Addr) (al ac : Nat) (K : ∀ W, Below w.heap.size w W → Calls Tryz.prog 70 #[.pointer (some ⟨p, 0, none⟩), .string key, .slice aa al ac] W fun e w' => SeenBad W e w') :
    Calls Tryz.prog 40 #[.pointer (some ⟨p, 0, none⟩), .string key, .slice aa al ac] w fun e w' => ReadBad w e w' := by
  obtain ⟨w0, hw0⟩ : ∃ w0, w0 = w.alloc (.cells #[.int .i64 0, .string ⟨#[]⟩, .int .i64 0, .slice none 0 0] 47) := ⟨_, rfl⟩
  have hb0 : Below w.heap.size w w0 := by rw [hw0]; exact below_alloc _ _
  have K0 := hid (K w0 hb0)
  clear K
  go_enter Tryz.func40, Tryz.ntmps40
  go_wp2_with fail
  rw [← hw0]
  refine K0.out.mono ?_
  rintro e w1 ⟨t, u, rfl, hb1⟩
  have x1 : w1.heap[w.heap.size]? = some (.cells #[.int .i64 0, .string ⟨#[]⟩, .int .i64 0, .slice none 0 0] 47 (0, 0)) := by
    rw [hb1.block _ (by rw [hw0]; simp), hw0]; exact (MapKept.heap_alloc _ _).1
  have B1 := hid (hb0.trans (hb1.mono hb0.size))
  have R4 := hid (row4 x1)
  have S4 := hid (set4 x1 [.int .i64 0, .string ⟨#[]⟩, .int .i64 0, .slice none 0 0] rfl)
  clear hb1 hw0 x1 K0
  go_wp2_with (refine wpList_store_k _ rfl (.tmp 6) (.tmp 19) 47 rfl w.heap.size 0 [.int .i64 0, .string ⟨#[]⟩, .int .i64 0, .slice none 0 0] rfl rfl 4 rfl Tryz.sizeOf47 rfl _ ?hW R4.out.1 R4.out.2 ?_; case hW => rfl)
  refine bodyPost_ret (ret_cell_tmp (k := 4) Tryz.results40 Tryz.isAgg47 Tryz.sizeOf47 _ _ w.heap.size [.int .i64 0, .string ⟨#[]⟩, .int .i64 0, .slice none 0 0] _ rfl rfl rfl S4.out) rfl ⟨_, _, rfl, below_setCells (Nat.le_refl _) _ _ B1.out⟩
end Go.Proofs.YtefpnojanldkeaaGreatDoor
namespace Go.Proofs.YtefpnojanldkeaaGreatDoor
open Go.RowKit Go.Sort Go.Maps
set_option maxRecDepth 100000
set_option linter.unusedSectionVars false
variable [Inhabited ComV] [DecidableEq D3] [Inhabited D3] [Inhabited Dd] [Inhabited Dn] [Inhabited OpV]

/-- A row of one's own stays as long as its own block does. -/
theorem owns_own {w w' : World} {base e size n : Nat} {v : Value} {xs : List Value} (h : w.ownsRow base e size v n xs) (hk : ∀ b, v.ownBlock = some b → w'.heap[b]? = w.heap[b]?) : w'.ownsRow base e size v n xs := by
  obtain ⟨h1, h2⟩ := h
  refine ⟨h1, ?_⟩
  rcases h2 with h2 | ⟨b, cap, cur, hv, hg, hh, r⟩
  · exact .inl h2
  · exact .inr ⟨b, cap, cur, hv, hg, by rw [hk b (by rw [hv]; rfl)]; exact hh, r⟩
/-- A store stands while another one is put into. -/
theorem VerAt.turned {w w' : World} {p mb db n : Nat} {f : ByteArray → Value} {s : St} (h : VerAt w p mb db f s n) {m d : Nat} {g g' : ByteArray → Value} (ht : Turn w w' m d g g') (hk : Keep3 w w') {s' : St} {p' n' : Nat} (ho : VerAt w p' m d g s' n') (n1 : mb ≠ m) (n2 : mb ≠ d) (n3 : db ≠ m) (n4 : db ≠ d) (ha : ∀ k k' b, (f k).ownBlock = some b → (g k').ownBlock ≠ some b) : VerAt w' p mb db f s n := by
  obtain ⟨Dm, hDm, _⟩ := ho.map
  obtain ⟨Dd, hDd, _⟩ := ho.dots
  have rows : ∀ k b cs t, w.heap[b]? = some (.cells cs t (0, 0)) → t ≠ 36 → (g k).ownBlock ≠ some b := fun k b cs t hb hne e => by
    obtain ⟨rs, h1, _⟩ := ho.rows k
    obtain ⟨cs', h2⟩ := own_type h1 e
    rw [hb] at h2
    injection h2 with h2
    injection h2 with _ h2
    exact hne h2
  have rowm : ∀ k b es c, w.heap[b]? = some (.map es c) → (g k).ownBlock ≠ some b := fun k b es c hb e => by
    obtain ⟨rs, h1, _⟩ := ho.rows k
    obtain ⟨cs', h2⟩ := own_type h1 e
    rw [hb] at h2
    cases h2
  have keepm : ∀ {kt b nn R} {D : DataW Unit}, w.ownsMap Tryz.prog kt R b nn D → b ≠ m → b ≠ d → w'.ownsMap Tryz.prog kt R b nn D := fun {kt b nn R D} hD h1 h2 => by
    obtain ⟨es, c, hb⟩ := map_obj hD
    have e := ht.block b hD.lt h1 h2 (fun k => rowm k b es c hb)
    obtain ⟨es, clock, hb, F, hs, hD⟩ := hD
    exact ⟨es, clock, e.trans hb, F, hs, hD⟩
  refine ⟨?_, ?_, ?_, fun k => ?_, h.apart, h.ne⟩
  · obtain ⟨bv, h1, h2⟩ := h.box
    exact ⟨bv, (ht.block p (lt_of_heap h1) (cells_ne_map hDm h1) (cells_ne_map hDd h1) (fun k => rows k p _ _ h1 (by decide))).trans h1, intsT_keep h2 hk⟩
  · obtain ⟨D, h1, h2⟩ := h.dots
    exact ⟨D, keepm h1 n3 n4, h2⟩
  · obtain ⟨D, h1, h2⟩ := h.map
    exact ⟨D, keepm h1 n1 n2, h2⟩
  · obtain ⟨rs, h1, h2⟩ := h.rows k
    refine ⟨rs, owns_own h1 fun b hb => ?_, f2_keep h2 hk⟩
    obtain ⟨cs, hcs⟩ := own_type h1 hb
    exact ht.block b (lt_of_heap hcs) (cells_ne_map hDm hcs) (cells_ne_map hDd hcs) (fun k' => ha k k' b hb)
/-- w0: the world of the call. Two stores, and a row kv of one's own. -/
structure Two (w0 : World) (pa ma da na : Nat) (fa : ByteArray → Value) (sa : St) (pb mb db nb : Nat) (fb : ByteArray → Value) (sb : St) (kv : Value) (rows : List (List Value)) (m : Nat) (w : World) : Prop where
  va : VerAt w pa ma da fa sa na
  vb : VerAt w pb mb db fb sb nb
  n1 : ma ≠ mb
  n2 : ma ≠ db
  n3 : da ≠ mb
  n4 : da ≠ db
  m1 : w0.heap.size ≤ ma
  m2 : w0.heap.size ≤ da
  m3 : w0.heap.size ≤ mb
  m4 : w0.heap.size ≤ db
  apart : ∀ k k' b, (fa k).ownBlock = some b → (fb k').ownBlock ≠ some b
  la : ∀ k b, (fa k).ownBlock = some b → w0.heap.size ≤ b
  lb : ∀ k b, (fb k).ownBlock = some b → w0.heap.size ≤ b
  row : w.ownsRow w0.heap.size 36 3 kv m rows.flatten
  ra : ∀ k b, (fa k).ownBlock = some b → kv.ownBlock ≠ some b
  rb : ∀ k b, (fb k).ownBlock = some b → kv.ownBlock ≠ some b
  below : Below w0.heap.size w0 w
/-- What Put hands back, whatever the commit. -/
def PutRes (s : St) (c : ComV) (p mb db n : Nat) (f : ByteArray → Value) (w : World) (e : Ending) (w' : World) : Prop :=
  (PutOk s c ∧ e = .returned .nilIface ∧ ∃ f', VerAt w' p mb db f' (putTo s c c.ops.length) (n + 24) ∧ Turn w w' mb db f f' ∧ Keep3 w w') ∨ (¬PutOk s c ∧ PutBad w e w')
theorem put_any (A : Nat → Addr) (B : Nat) (w : World) (hE : SentV A B w) (p mb db n nb : Nat) (f : ByteArray → Value) (s : St) (hV : VerAt w p mb db f s n) (hn : n ≤ 1000000) (hS : StOk s nb) (hrl : ∀ k, (rowOf s k).length ≤ 1000000)
    (c : ComV) (wv ov : Value) (hcT : ComT w [wv, .int .i64 c.place, ov] c) (hsm : SmallC c) :
    Calls Tryz.prog 27 #[.pointer (some ⟨p, 0, none⟩), .agg #[wv, .int .i64 c.place, ov]] w fun e w' => PutRes s c p mb db n f w e w' := by
  have h12 : 12 ≤ w.heap.size := by have := hE.gl; have := hE.size; omega
  have hT := hcT
  obtain ⟨wv', ov', he, hwT, hoT⟩ := hT
  injection he with e1 he
  injection he with _ he
  injection he with e2 _
  subst e1 e2
  by_cases h1 : (comErr c).1 = 0
  · have h1' := comErr_zero h1
    by_cases h2 : c.when_.length = s.base.length
    · cases h3 : leB c.when_ s.base with
      | true =>
        exact (put_old A w hE.e4 (hE.c8) h12 p mb db n f s hV c wv ov hwT.at hoT.at hsm.1 hsm.2.1 hsm.2.2 h1' h2 hS.base h3).mono fun e w' h => .inr ⟨(fun hp => by have := hp.old; rw [h3] at this; cases this), h⟩
      | false =>
        by_cases h4 : ∃ o ∈ c.ops, dotC c o ∈ s.dots
        · exact (put_exist A w hE.e4 (hE.c5) h12 p mb db n f s hV hrl c wv ov hcT hsm.2.2 h1' h2 h3 hS.base h4).mono fun e w' h => .inr ⟨(fun hp => by obtain ⟨o, ho, hd⟩ := h4; exact hp.new o ho hd), h⟩
        · have h5 : ∀ o ∈ c.ops, dotC c o ∉ s.dots := fun o ho hd => h4 ⟨o, ho, hd⟩
          exact (put_ok A w hE.e4 h12 p mb db n f s hV hn hrl c wv ov hcT hsm.2.2 h1' h2 h3 hS.base h5).mono fun e w' h => .inl ⟨⟨h1', h2, h3, h5⟩, h.nil, h.st⟩
    · exact (put_vec A w hE.e4 h12 p mb db n f s hV c wv ov hwT.at hoT.at hsm.1 hsm.2.1 hsm.2.2 h1' h2).mono fun e w' h => .inr ⟨fun hp => h2 hp.len, h⟩
  · exact (put_com A w hE.e4 h12 p c wv ov hwT.at hoT.at hsm.1 hsm.2.1 hsm.2.2 h1).mono fun e w' h => .inr ⟨fun hp => h1 (by rw [hp.err]), h⟩
end Go.Proofs.YtefpnojanldkeaaGreatDoor
namespace Go.Proofs.YtefpnojanldkeaaGreatDoor
open Go.RowKit
set_option maxRecDepth 100000
set_option linter.unusedSectionVars false
variable [Inhabited ComV] [DecidableEq D3] [Inhabited D3] [Inhabited Dd] [Inhabited Dn] [Inhabited OpV]

theorem Snd.drew {w : World} {g : Nat} {f t s seq time : Int} {v : Value} {l : List (Int × Int)} (h : Snd w g f t s seq time v l) : Snd w.drew g f t s seq time v l := ⟨h.box, owns_own h.row fun _ _ => rfl⟩
end Go.Proofs.YtefpnojanldkeaaGreatDoor
namespace Go.Proofs.YtefpnojanldkeaaGreatDoor
open Go.RowKit Go.Maps
set_option maxRecDepth 100000
set_option linter.unusedSectionVars false
variable [Inhabited ComV] [DecidableEq D3] [Inhabited D3] [Inhabited Dd] [Inhabited Dn] [Inhabited OpV]

/-- What a value of the map reads as: its six plain cells. -/
def six (a b c d e : Int) (g : Bool) : DataW Unit := .agg [.lit (.int .i64 a), .lit (.int .i64 b), .lit (.int .i64 c), .lit (.int .i64 d), .lit (.int .i64 e), .lit (.bool g)]
def bareElem : Value → Option (DataW Unit × List MemPlace)
  | .agg cs => match cs.toList with
    | [.int .i64 a, .int .i64 b, .int .i64 c, .int .i64 d, .int .i64 e, .bool g, .slice none 0 0, .int .i64 0, .slice none 0 0] => some (six a b c d e g, [])
    | _ => none
  | _ => none
theorem keyed3 : Keyed Tryz.prog 3 := int_keyed Tryz.underlying3
/-- A number of a beat. -/
def num (k : Int) : Prop := -2000 ≤ k ∧ k ≤ 2000
theorem key_lit (k : Int) : WideAt.IsKeyLit (Lit.int .i64 k) := trivial
theorem lit_inj {a b : Int} (h : (Lit.int .i64 a) = .int .i64 b) : a = b := by
  injection h
/-- What is kept, by number: its time. -/
def MapB (f t s : Int) (D : DataW Unit) (M : Int → Option Int) : Prop := ∀ k, num k → Maps.has D (.int .i64 k) = (M k).isSome ∧ ∀ z, D.atKey (.int .i64 k) z = ((M k).map fun tm => six f t s k tm true).getD z
def updB (M : Int → Option Int) (k : Int) (x : Option Int) : Int → Option Int := fun j => if j = k then x else M j
theorem MapB.start (f t s : Int) : MapB f t s (.map []) fun _ => none := fun _ _ => ⟨rfl, fun _ => rfl⟩
theorem MapB.put {f t s : Int} {D : DataW Unit} {M : Int → Option Int} (h : MapB f t s D M) (hD : IsMap D) (k tm : Int) : MapB f t s (D.put (.int .i64 k) (six f t s k tm true)) (updB M k (some tm)) := fun j hj => by
  unfold updB
  by_cases q : j = k
  · subst q
    rw [if_pos rfl, has_put_same hD (key_lit _)]
    exact ⟨rfl, fun z => atKey_put_same hD (key_lit _) _ z⟩
  · rw [if_neg q, has_put_other (fun x => q (lit_inj x))]
    exact ⟨(h j hj).1, fun z => by rw [atKey_put_other (fun x => q (lit_inj x))]; exact (h j hj).2 z⟩
theorem MapB.del {f t s : Int} {D : DataW Unit} {M : Int → Option Int} (h : MapB f t s D M) (k : Int) : MapB f t s (D.del (.int .i64 k)) (updB M k none) := fun j hj => by
  unfold updB
  by_cases q : j = k
  · subst q
    rw [if_pos rfl, has_del_same]
    exact ⟨rfl, fun z => atKey_del_same z⟩
  · rw [if_neg q, has_del_other (fun x => q (lit_inj x))]
    exact ⟨(h j hj).1, fun z => by rw [atKey_del_other (fun x => q (lit_inj x))]; exact (h j hj).2 z⟩
/-- A receiver: its box g, its map mb, what is kept. -/
structure Rcv (w : World) (g mb n : Nat) (f t s seq time : Int) (M : Int → Option Int) : Prop where
  box : w.heap[g]? = some (.cells #[.int .i64 f, .int .i64 t, .int .i64 s, .int .i64 seq, .int .i64 time, .map (some mb)] 129 (0, 0))
  map : ∃ D : DataW Unit, w.ownsMap Tryz.prog 3 bareElem mb n D ∧ MapB f t s D M
theorem rseq_ok (w : World) (g mb n : Nat) (f t s seq time : Int) (M : Int → Option Int) (h : Rcv w g mb n f t s seq time M) : Calls Tryz.prog 37 #[.pointer (some ⟨g, 0, none⟩)] w fun e w' => e = .returned (.int .i64 seq) ∧ w' = w := by
  have c3 : w.cell? ⟨g, 3, none⟩ = some (.int .i64 seq) := (cell_of h.box).trans rfl
  clear h
  go_enter Tryz.func37, Tryz.ntmps37
  go_wp2
  go_ret
  exact ⟨rfl, rfl⟩
end Go.Proofs.YtefpnojanldkeaaGreatDoor
namespace Go.Proofs.YtefpnojanldkeaaGreatDoor
open Go.RowKit Go.Maps
set_option maxRecDepth 100000
set_option linter.unusedSectionVars false
variable [Inhabited ComV] [DecidableEq D3] [Inhabited D3] [Inhabited Dd] [Inhabited Dn] [Inhabited OpV]

theorem wrap_num {k : Int} (h : num k) : IntKind.i64.wrap k = k := by
  obtain ⟨h1, h2⟩ := h
  simp [IntKind.wrap, IntKind.bits, IntKind.signed]
  omega
theorem joined {p q : Prop} (h : p → q) (hp : p) : q := h hp
def lastT (time : Int) (ts : Nat → Int) : Nat → Int
  | 0 => time
  | c + 1 => ts c
/-- Only blocks g and m may have turned. -/
structure OnlyR (g m : Nat) (w w' : World) : Prop where
  os : w'.os = w.os
  tape : w'.tape = w.tape
  output : w'.output = w.output
  size : w.heap.size ≤ w'.heap.size
  block : ∀ k, k < w.heap.size → k ≠ g → k ≠ m → w'.heap[k]? = w.heap[k]?
theorem OnlyR.refl (g m : Nat) (w : World) : OnlyR g m w w := ⟨rfl, rfl, rfl, Nat.le_refl _, fun _ _ _ _ => rfl⟩
theorem Rcv.moved {w u : World} {g mb n : Nat} {f t s seq time : Int} {M : Int → Option Int} (h : Rcv w g mb n f t s seq time M) (hg : u.heap[g]? = w.heap[g]?) (hm : u.heap[mb]? = w.heap[mb]?) : Rcv u g mb n f t s seq time M := by
  obtain ⟨D, ⟨es, clock, hb, r⟩, hM⟩ := h.map
  exact ⟨hg.trans h.box, D, ⟨es, clock, hm.trans hb, r⟩, hM⟩
theorem OnlyR.below {g m : Nat} {w w1 w2 : World} (h : OnlyR g m w w1) (hb : Below w1.heap.size w1 w2) : OnlyR g m w w2 := ⟨hb.os.trans h.os, hb.tape.trans h.tape, hb.output.trans h.output, Nat.le_trans h.size hb.size, fun k h1 h2 h3 => by rw [hb.block k (Nat.lt_of_lt_of_le h1 h.size)]; exact h.block k h1 h2 h3⟩
def lenV : Value → Nat
  | .slice _ n _ => n
  | _ => 0
end Go.Proofs.YtefpnojanldkeaaGreatDoor
