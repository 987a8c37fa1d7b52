/- Put of a commit that may be put, by its contract. -/
import Derived.Test.YtefpnojanldkeaaGreatDoorJWPutN
import Derived.Test.YtefpnojanldkeaaGreatDoorJVRefN
import Derived.Test.YtefpnojanldkeaaGreatDoorJVOp
import Derived.Test.YtefpnojanldkeaaGreatDoorJWState
import Derived.Test.YtefpnojanldkeaaGreatDoorJVVec
import Derived.Test.YtefpnojanldkeaaGreatDoorJVMap
import Derived.Test.YtefpnojanldkeaaGreatDoorJVOnceM
import Derived.Test.YtefpnojanldkeaaGreatDoorJVRow
import Derived.Test.YtefpnojanldkeaaGreatDoorJVStandM
import Derived.Test.YtefpnojanldkeaaGreatDoorJVOwnM
import Derived.Test.YtefpnojanldkeaaGreatDoorJVOf
import Derived.Test.YtefpnojanldkeaaGreatDoorJVErr2
import Derived.Test.YtefpnojanldkeaaGreatDoorJWPart
namespace Go.Proofs.YtefpnojanldkeaaGreatDoor
open Go.RowKit Go.Sort Go.Maps
set_option maxRecDepth 100000
set_option linter.unusedSectionVars false
variable [Inhabited ComV] [DecidableEq D3] [Inhabited D3] [Inhabited Dd] [Inhabited Dn] [Inhabited OpV]

structure PutRet (s : St) (c : ComV) (p mb db n : Nat) (f : ByteArray → Value) (w : World) (e : Ending) (w' : World) : Prop where
  nil : e = .returned .nilIface
  st : ∃ f', VerAt w' p mb db f' (putTo s c c.ops.length) (n + 24) ∧ Turn w w' mb db f f' ∧ Keep3 w w'
theorem VerAt.more {w : World} {p mb db n n' : Nat} {f : ByteArray → Value} {s : St} (h : VerAt w p mb db f s n) (hn : n ≤ n') : VerAt w p mb db f s n' := by
  obtain ⟨h1, ⟨D, d1, d2⟩, ⟨D', e1, e2⟩, h4, h5, h6⟩ := h
  exact ⟨h1, ⟨D, d1.mono hn, d2⟩, ⟨D', e1.mono hn, e2⟩, h4, h5, h6⟩
theorem nil_of_err {A : Nat → Addr} {w : World} {v : Value} (h : ErrAt A w v (0, none)) : v = .nilIface := h
set_option maxHeartbeats 8000000 in
theorem put_ok (A : Nat → Addr) (w : World) (hE : E4 A w) (h4 : 12 ≤ w.heap.size) (p mb db n : Nat) (f : ByteArray → Value) (s : St) (hV : VerAt w p mb db f s n) (hn : n ≤ 1000000) (hrl : ∀ k, (rowOf s k).length ≤ 1000000)
    (c : ComV) (wv ov : Value) (hcT : ComT w [wv, .int .i64 c.place, ov] c) (hsm : ∀ o ∈ c.ops, Small o) (hc : comErr c = (0, none)) (hpl : c.when_.length = s.base.length) (hold : leB c.when_ s.base = false) (hbase : chk s.base = 0) (hnew : ∀ o ∈ c.ops, dotC c o ∉ s.dots) :
    Calls Tryz.prog 27 #[.pointer (some ⟨p, 0, none⟩), .agg #[wv, .int .i64 c.place, ov]] w fun e w' => PutRet s c p mb db n f w e w' := by
  obtain ⟨wv', ov', hwe0, hwT, hoT⟩ := hcT
  injection hwe0 with e1 e2
  injection e2 with _ e2
  injection e2 with e2 _
  subst e1 e2
  have hw := hwT.at
  have ho := hoT.at
  have HWT := hid hwT
  have HOT := hid hoT
  clear hwT hoT
  have hC := comOk_of (c := c) (by rw [hc])
  have hw6 := (chk_zero.1 hC.chk).2.1
  have hmo := hC.few
  obtain ⟨w1, hw1⟩ : ∃ w1, w1 = w.alloc (.cells #[wv, .int .i64 c.place, ov] 36) := ⟨_, rfl⟩
  have hb1 : Below w.heap.size w w1 := by rw [hw1]; exact below_alloc _ _
  have hbx1 : w1.heap[w.heap.size]? = some (.cells #[wv, .int .i64 c.place, ov] 36 (0, 0)) := by rw [hw1]; exact (MapKept.heap_alloc _ _).1
  have hV1 := hV.moved hb1
  have K15 := checkCommit A w1 (hE.below hb1 h4) (by have := hb1.size; omega) c wv ov (hw.mono hb1 (Nat.le_refl _)) (ho.mono hb1 (Nat.le_refl _)) (by omega) (by omega) hsm
  unfold ComRet at K15
  rw [hc] at K15
  have HC := hid hC
  have HW := hid hw
  have HO := hid ho
  have HV := hid hV
  have HE := hid hE
  have HNEW := hid hnew
  have HSM := hid hsm
  have HRL := hid hrl
  obtain ⟨av, cv, hwe, _, hwc⟩ := hw
  subst hwe
  obtain ⟨b1, o1, rfl, hw2⟩ : ∃ b1 o1, av = some ⟨b1, o1, none⟩ ∧ ∀ t, t < c.when_.length → w.cell? ⟨b1, o1 + t, none⟩ = some (.int .i64 (c.when_.getD t 0)) := by
    rcases hwc with h | h
    · have := (chk_zero.1 hC.chk).1
      rw [h] at this
      simp at this
    · exact h
  obtain ⟨ao, co, hoe, _, _, hos⟩ := ho.shape
  subst hoe
  obtain ⟨b2, o2, rfl, hos2⟩ := hos.resolve_left hC.some_
  obtain ⟨pn, hpn⟩ : ∃ pn : Nat, c.place = pn := ⟨c.place.toNat, by have := hC.lo; omega⟩
  have hplt : pn < c.when_.length := by have := hC.hi; omega
  have ct := hw2 pn hplt
  obtain ⟨T, hT⟩ : ∃ T, T = c.when_.getD pn 0 := ⟨_, rfl⟩
  rw [← hT] at ct
  have HT := hid hT
  have CT := hid ct
  have HOS := hid hos2
  have HTB : Hid (0 ≤ T ∧ T ≤ 1099511627776) := by
    have := (chk_zero.1 hC.chk).2.2 pn (by omega)
    rw [← hT] at this
    exact this
  have hpn6 : pn ≤ 6 := by omega
  clear hwc hw2 hos hos2 hT ct
  obtain ⟨nw, hnw⟩ : ∃ nw, nw = c.when_.length := ⟨_, rfl⟩
  obtain ⟨no, hno⟩ : ∃ no, no = c.ops.length := ⟨_, rfl⟩
  rw [← hnw, ← hno, hpn] at hw1 hbx1 K15 ⊢
  rw [← hnw] at HW hplt
  have HNW := hid hnw
  have HNO := hid hno
  have HPN := hid hpn
  have HPB := hid hpl
  have HOLD := hid hold
  have HBASE := hid hbase
  have hs1 : w.heap.size < w1.heap.size := lt_of_heap hbx1
  have X1 := hid hbx1
  have B1 := hid hb1
  have V1 := hid hV1
  have c0 : w1.cell? ⟨w.heap.size, 0, none⟩ = some (.slice (some ⟨b1, o1, none⟩) nw cv) := by simp only [World.cell?, hbx1]; rfl
  have c1 : w1.cell? ⟨w.heap.size, 1, none⟩ = some (.int .i64 pn) := by simp only [World.cell?, hbx1]; rfl
  have c2 : w1.cell? ⟨w.heap.size, 2, none⟩ = some (.slice (some ⟨b2, o2, none⟩) no co) := by simp only [World.cell?, hbx1]; rfl
  clear hV hE ho hsm hc hpl hold hbase hnew hC hnw hno hpn hb1 hV1 hbx1 hrl
  go_enter Tryz.func27, Tryz.ntmps27
  go_wp2_with fail
  rw [← hw1]
  refine K15.mono ?_
  rintro e w2 ⟨v2, rfl, hv2, hb2⟩
  obtain rfl := nil_of_err hv2
  have B2 := hid (B1.out.trans (hb2.mono B1.out.size))
  have V2 := hid (V1.out.moved hb2)
  have x2 : w2.heap[w.heap.size]? = some (.cells #[.slice (some ⟨b1, o1, none⟩) nw cv, .int .i64 pn, .slice (some ⟨b2, o2, none⟩) no co] 36 (0, 0)) := (hb2.block _ hs1).trans X1.out
  have d0 : w2.cell? ⟨w.heap.size, 0, none⟩ = some (.slice (some ⟨b1, o1, none⟩) nw cv) := by simp only [World.cell?, x2]; rfl
  obtain ⟨ba, bc, p0, p1, p2, hbt, hpx⟩ := V2.out.boxAt
  have K59 := checkVector_ok A w2 (HE.out.below B2.out h4) p _ s.base _ _ hpx hbt.at (.slice (some ⟨b1, o1, none⟩) nw cv) c.when_ (HW.out.mono B2.out (Nat.le_refl _)) HC.out.chk HPB.out
  have K60 := fun W (hW : Below w2.heap.size w2 W) => within_ok A W (HE.out.below (B2.out.trans (hW.mono B2.out.size)) h4) (.slice (some ⟨b1, o1, none⟩) nw cv) _ c.when_ s.base (HW.out.mono (B2.out.trans (hW.mono B2.out.size)) (Nat.le_refl _)) (hbt.at.mono hW (Nat.le_refl _)) (two_zero.2 ⟨HC.out.chk, HBASE.out, HPB.out⟩)
  rw [HOLD.out] at K60
  have X2 := hid x2
  have HPX := hid hpx
  clear K15 hv2 hb2 hw1 c0 c1 c2 x2 hbt hpx V1
  go_wp2_with (go_at_call 53; refine K59.mono ?_; rintro e w' ⟨rfl, hw'⟩; rw [hw'])
  obtain ⟨nb, hnb⟩ : ∃ nb, nb = s.base.length := ⟨_, rfl⟩
  rw [← hnb] at p0 K60 HPX
  clear hnb K59
  go_region_held (fun w' => w'.cell? ⟨w.heap.size, 0, none⟩ = some (.slice (some ⟨b1, o1, none⟩) nw cv) ∧ w'.cell? ⟨p, 0, none⟩ = some (.slice ba nb bc)) (go_keep) (first | (go_at_call 54; refine (K60 _ ?hb60).mono ?_; (case hb60 => exact below_draws (Below.refl _ _) 1); rintro e w3 ⟨rfl, q3, hq3⟩; have k0 : w3.cell? ⟨w.heap.size, 0, none⟩ = some (.slice (some ⟨b1, o1, none⟩) nw cv) := (by rw [hq3]; exact d0); have k1 : w3.cell? ⟨p, 0, none⟩ = some (.slice ba nb bc) := (by rw [hq3]; exact p0); have HQ3 := hid hq3; clear hq3))
  have hb23 : Below w2.heap.size w2 w3 := by rw [HQ3.out]; exact below_draws (below_draws (Below.refl _ _) 1) q3
  have B3 := hid (B2.out.trans (hb23.mono B2.out.size))
  have V3 := hid (V2.out.moved hb23)
  have hs2 : w.heap.size < w2.heap.size := lt_of_heap X2.out
  have x3 : w3.heap[w.heap.size]? = some (.cells #[.slice (some ⟨b1, o1, none⟩) nw cv, .int .i64 pn, .slice (some ⟨b2, o2, none⟩) no co] 36 (0, 0)) := (hb23.block _ hs2).trans X2.out
  have e2 : w3.cell? ⟨w.heap.size, 2, none⟩ = some (.slice (some ⟨b2, o2, none⟩) no co) := by simp only [World.cell?, x3]; rfl
  have X3 := hid x3
  clear HQ3 k0 k1 hb23 x3 d0 p0 p1 p2 K60 V2 X2 HPX
  have hno12 : no ≤ 12 := by have := HNO.out; have := HC.out.few; omega
  go_wp2
  clear e2
  go_loopw [36] (fun i wr => ∃ j : Nat, j ≤ no ∧ i = .int .i64 j ∧ Hid (Below w3.heap.size w3 wr)) (fun i _ => no - (intOf i).toNat)
  case atStart => exact ⟨0, Nat.zero_le _, rfl, Below.refl _ _⟩
  case round =>
    obtain ⟨j, hj, rfl, JB⟩ := hrel
    by_cases hjl : j < no
    · obtain ⟨dp, dc, hd, q0, q1, q2, q3, q4, q5, q6⟩ := HOS.out j (by have := HNO.out; omega)
      have up : ∀ {a : Addr} {v : Value}, w.cell? a = some v → wr.cell? a = some v := fun {a v} h => by rw [(B3.out.trans (JB.out.mono B3.out.size)).cell (lt_of_cell h)]; exact h
      have r0 := up q0
      have r1 := up q1
      have r2 := up q2
      have r3 := up q3
      have r4 := up q4
      have r5 := up q5
      have r6 := up q6
      have hmem : c.ops[j]! ∈ c.ops := by rw [getElem!_pos c.ops j (by have := HNO.out; omega)]; exact List.getElem_mem _
      have hoe := opErr_of_bad (HC.out.ops j (by have := HNO.out; omega))
      have hnw' := HNEW.out _ hmem
      obtain ⟨y, hy⟩ : ∃ y, y = c.ops[j]! := ⟨_, rfl⟩
      rw [← hy] at r0 r1 r2 r3 r4 r5 r6 hoe hnw'
      have hat := at_of_opErr hoe
      obtain ⟨x1, x2, x3, x4, x5, x6, ds⟩ := y
      simp only at r0 r1 r2 r3 r4 r5 r6 hat
      obtain ⟨dl, hdl⟩ : ∃ dl, dl = ds.length := ⟨_, rfl⟩
      rw [← hdl] at r6
      have hwf : Hid (wf3 ⟨pn, T, x1⟩) := ⟨wf_i64 (by simp only; omega) (by simp only; omega), wf_i64 HTB.out.1 HTB.out.2, wf_i64 hat.1 (by simp only; omega)⟩
      have hnd : (⟨pn, T, x1⟩ : D3) ∉ s.dots := by
        unfold dotC at hnw'
        rw [HPN.out, Int.toNat_natCast, ← HT.out] at hnw'
        exact hnw'
      have HND := hid (decide_eq_false hnd)
      clear q0 q1 q2 q3 q4 q5 q6 hd hmem hoe hnw' hy hat hdl hnd up
      go_upto_region 12 with (fail)
      obtain ⟨wq, hwq⟩ : ∃ wq, wq = wr.alloc (.cells #[.int .i64 x1, .string x2, .int .i64 x3, .string x4, .int .i64 x5, .bool x6, .slice dp dl dc] 34) := ⟨_, rfl⟩
      rw [← hwq]
      have bq : Below wr.heap.size wr wq := by rw [hwq]; exact below_alloc _ _
      have B3q := hid (JB.out.trans (bq.mono JB.out.size))
      have VQ := hid (V3.out.moved B3q.out)
      have xq : wq.heap[w.heap.size]? = some (.cells #[.slice (some ⟨b1, o1, none⟩) nw cv, .int .i64 pn, .slice (some ⟨b2, o2, none⟩) no co] 36 (0, 0)) := (B3q.out.block _ (lt_of_heap X3.out)).trans X3.out
      have oq : wq.heap[wr.heap.size]? = some (.cells #[.int .i64 x1, .string x2, .int .i64 x3, .string x4, .int .i64 x5, .bool x6, .slice dp dl dc] 34 (0, 0)) := by rw [hwq]; exact (MapKept.heap_alloc _ _).1
      obtain ⟨_, _, _, _, m2, _, _⟩ := VQ.out.boxAt
      have n0 : wq.cell? ⟨w.heap.size, 0, none⟩ = some (.slice (some ⟨b1, o1, none⟩) nw cv) := by simp only [World.cell?, xq]; rfl
      have n1 : wq.cell? ⟨w.heap.size, 1, none⟩ = some (.int .i64 pn) := by simp only [World.cell?, xq]; rfl
      have n2 : wq.cell? ⟨w.heap.size, 2, none⟩ = some (.slice (some ⟨b2, o2, none⟩) no co) := by simp only [World.cell?, xq]; rfl
      have u0 : wq.cell? ⟨wr.heap.size, 0, none⟩ = some (.int .i64 x1) := by simp only [World.cell?, oq]; rfl
      have u1 : wq.cell? ⟨wr.heap.size, 1, none⟩ = some (.string x2) := by simp only [World.cell?, oq]; rfl
      have u2 : wq.cell? ⟨wr.heap.size, 2, none⟩ = some (.int .i64 x3) := by simp only [World.cell?, oq]; rfl
      have u3 : wq.cell? ⟨wr.heap.size, 3, none⟩ = some (.string x4) := by simp only [World.cell?, oq]; rfl
      have u4 : wq.cell? ⟨wr.heap.size, 4, none⟩ = some (.int .i64 x5) := by simp only [World.cell?, oq]; rfl
      have u5 : wq.cell? ⟨wr.heap.size, 5, none⟩ = some (.bool x6) := by simp only [World.cell?, oq]; rfl
      have u6 : wq.cell? ⟨wr.heap.size, 6, none⟩ = some (.slice dp dl dc) := by simp only [World.cell?, oq]; rfl
      have ctq : wq.cell? ⟨b1, o1 + pn, none⟩ = some (.int .i64 T) := by rw [(B3.out.trans (B3q.out.mono B3.out.size)).cell (lt_of_cell CT.out)]; exact CT.out
      clear hwq bq xq oq r0 r1 r2 r3 r4 r5 r6
      go_region_held (fun w' => w'.cell? ⟨p, 2, none⟩ = some (.map (some db)) ∧ w'.cell? ⟨w.heap.size, 0, none⟩ = some (.slice (some ⟨b1, o1, none⟩) nw cv) ∧ w'.cell? ⟨w.heap.size, 1, none⟩ = some (.int .i64 pn) ∧ w'.cell? ⟨w.heap.size, 2, none⟩ = some (.slice (some ⟨b2, o2, none⟩) no co) ∧ w'.cell? ⟨wr.heap.size, 0, none⟩ = some (.int .i64 x1) ∧ w'.cell? ⟨wr.heap.size, 1, none⟩ = some (.string x2) ∧ w'.cell? ⟨wr.heap.size, 2, none⟩ = some (.int .i64 x3) ∧ w'.cell? ⟨wr.heap.size, 3, none⟩ = some (.string x4) ∧ w'.cell? ⟨wr.heap.size, 4, none⟩ = some (.int .i64 x5) ∧ w'.cell? ⟨wr.heap.size, 5, none⟩ = some (.bool x6) ∧ w'.cell? ⟨wr.heap.size, 6, none⟩ = some (.slice dp dl dc)) (go_keep) (first | (go_at_call 55; refine (dotOf_any _ b1 o1 nw cv pn T _ _ _ _ _ _ _ _ _ _ _ _ hplt ?hct).mono ?_; (case hct => first | exact ctq | exact cell_alloc ctq _); rintro e w5 ⟨rfl, hb5⟩; have up5 : ∀ {a : Addr} {v : Value}, wq.cell? a = some v → w5.cell? a = some v := (fun {a v} h => by first | (rw [hb5.cell (lt_of_cell h)]; exact h) | (rw [hb5.cell (lt_of_cell (cell_alloc h _))]; exact cell_alloc h _)); have hbq5 : Below wq.heap.size wq w5 := (by first | exact (below_draws (Below.refl wq.heap.size wq) 1).trans hb5 | exact (below_draws (below_alloc wq _) 1).trans (hb5.mono (by show wq.heap.size ≤ (wq.alloc _).heap.size; simp))); have V5 := VQ.out.moved hbq5; have hl5 : (Instr.lookup 107 (.map (some db)) (.agg #[.int .i64 pn, .int .i64 T, .int .i64 x1]) true).run Tryz.prog w5 = .ok (.tuple #[.agg #[], .bool false]) w5 := (by have h := V5.look ⟨pn, T, x1⟩ hwf.out; rw [HND.out] at h; exact h); have hl6 : ∀ o, (Instr.lookup 107 (.map (some db)) (.agg #[.int .i64 pn, .int .i64 T, .int .i64 x1]) true).run Tryz.prog (w5.alloc o) = .ok (.tuple #[.agg #[], .bool false]) (w5.alloc o) := (fun o => by have h := (V5.moved (below_alloc w5 o)).look ⟨pn, T, x1⟩ hwf.out; rw [HND.out] at h; exact h); have m2' := up5 m2; have n0' := up5 n0; have n1' := up5 n1; have n2' := up5 n2; have u0' := up5 u0; have u1' := up5 u1; have u2' := up5 u2; have u3' := up5 u3; have u4' := up5 u4; have u5' := up5 u5; have u6' := up5 u6; clear up5 V5; have HBQ5 := hid hbq5; clear hb5 hbq5))
      all_goals
        go_wp2
        refine ⟨⟨j + 1, by omega, by go_num, ?_⟩, by simp [intOf]; omega⟩
        first
          | exact (B3q.out.trans (HBQ5.out.mono B3q.out.size)).alloc (Nat.le_trans B3q.out.size HBQ5.out.size) _
          | exact B3q.out.trans (HBQ5.out.mono B3q.out.size)
    · obtain rfl : j = no := by omega
      have xj : wr.heap[w.heap.size]? = some (.cells #[.slice (some ⟨b1, o1, none⟩) nw cv, .int .i64 pn, .slice (some ⟨b2, o2, none⟩) j co] 36 (0, 0)) := (JB.out.block _ (lt_of_heap X3.out)).trans X3.out
      have g2 : wr.cell? ⟨w.heap.size, 2, none⟩ = some (.slice (some ⟨b2, o2, none⟩) j co) := by simp only [World.cell?, xj]; rfl
      have I0 : Hid (PutInv s c p mb db n f w 0 wr f) := by
        refine ⟨by rw [putTo_zero]; exact V3.out.moved JB.out, (Turn.refl w mb db f).below (B3.out.trans (JB.out.mono B3.out.size)), Keep3.of_below (B3.out.trans (JB.out.mono B3.out.size)) (Nat.le_refl _), fun k e => ?_, lt_of_heap xj⟩
        have := HV.out.few k e
        omega
      have XJ := hid xj
      obtain ⟨i28, hi28, hy0, hy1, hy2⟩ := info_parts Tryz.info28o
      clear xj
      go_wp2
      clear g2
      go_loopw [62] (fun i wr => ∃ (t : Nat) (ft : ByteArray → Value), t ≤ j ∧ i = .int .i64 t ∧ Hid (PutInv s c p mb db n f w t wr ft) ∧ Hid (wr.heap[w.heap.size]? = some (.cells #[.slice (some ⟨b1, o1, none⟩) nw cv, .int .i64 pn, .slice (some ⟨b2, o2, none⟩) j co] 36 (0, 0)))) (fun i _ => j - (intOf i).toNat)
      case atStart => exact ⟨0, f, Nat.zero_le _, rfl, I0.out, XJ.out⟩
      case round =>
        obtain ⟨t, ft, ht, rfl, TI, TX⟩ := hrel
        by_cases htl : t < j
        · have hot := HOT.out.kept TI.out.keep
          obtain ⟨ao', co', hoe', _, _, hos'⟩ := hot.at.shape
          injection hoe' with ea _ ec
          subst ec
          obtain ⟨b2', o2', eb, hos2'⟩ := hos'.resolve_left HC.out.some_
          rw [eb] at ea
          injection ea with ea
          injection ea with eb1 eb2 _
          subst eb1 eb2
          obtain ⟨dp, dc, hd, r0, r1, r2, r3, r4, r5, r6⟩ := hos2' t (by have := HNO.out; omega)
          have hmem : c.ops[t]! ∈ c.ops := by rw [getElem!_pos c.ops t (by have := HNO.out; omega)]; exact List.getElem_mem _
          have hoe := opErr_of_bad (HC.out.ops t (by have := HNO.out; omega))
          have hsmall := HSM.out _ hmem
          have hput := putTo_succ s c (j := t) (by have := HNO.out; omega)
          have hIw := (HWT.out.kept TI.out.keep.ints)
          obtain ⟨y, hy⟩ : ∃ y, y = c.ops[t]! := ⟨_, rfl⟩
          rw [← hy] at r0 r1 r2 r3 r4 r5 r6 hoe hd hsmall hput
          have hat := at_of_opErr hoe
          obtain ⟨x1, x2, x3, x4, x5, x6, ds⟩ := y
          simp only at r0 r1 r2 r3 r4 r5 r6 hat hd hsmall
          obtain ⟨dl, hdl⟩ : ∃ dl, dl = ds.length := ⟨_, rfl⟩
          rw [← hdl] at r6 hd
          have hwf : Hid (wf3 ⟨pn, T, x1⟩) := ⟨wf_i64 (by simp only; omega) (by simp only; omega), wf_i64 HTB.out.1 HTB.out.2, wf_i64 hat.1 (by simp only; omega)⟩
          have hkn := name_of_opErr hoe
          have HD := hid hd
          have HPUT := hid hput
          have HDOT : Hid (dotC c ⟨x1, x2, x3, x4, x5, x6, ds⟩ = ⟨pn, T, x1⟩) := by
            unfold dotC
            rw [HPN.out, Int.toNat_natCast, ← HT.out]
            exact rfl
          have HIW := hid hIw
          have hx16 : x2.size ≤ 16 := hkn
          have hds : ds.length ≤ 1000000 := hsmall.2
          have HDL := hid hdl
          clear hmem hoe hsmall hput hy hat hd hIw hdl hkn hot hos' hos2' eb
          go_upto_region 19 with (fail)
          obtain ⟨wq, hwq⟩ : ∃ wq, wq = wr.alloc (.cells #[.int .i64 x1, .string x2, .int .i64 x3, .string x4, .int .i64 x5, .bool x6, .slice dp dl dc] 34) := ⟨_, rfl⟩
          rw [← hwq]
          have bq : Below wr.heap.size wr wq := by rw [hwq]; exact below_alloc _ _
          have VQ := hid (TI.out.ver.moved bq)
          have BQ := hid bq
          have xq : wq.heap[w.heap.size]? = some (.cells #[.slice (some ⟨b1, o1, none⟩) nw cv, .int .i64 pn, .slice (some ⟨b2, o2, none⟩) j co] 36 (0, 0)) := (bq.block _ (lt_of_heap TX.out)).trans TX.out
          have oq : wq.heap[wr.heap.size]? = some (.cells #[.int .i64 x1, .string x2, .int .i64 x3, .string x4, .int .i64 x5, .bool x6, .slice dp dl dc] 34 (0, 0)) := by rw [hwq]; exact (MapKept.heap_alloc _ _).1
          obtain ⟨_, _, _, m1, md, _, hpx⟩ := VQ.out.boxAt
          have n0 : wq.cell? ⟨w.heap.size, 0, none⟩ = some (.slice (some ⟨b1, o1, none⟩) nw cv) := by simp only [World.cell?, xq]; rfl
          have n1 : wq.cell? ⟨w.heap.size, 1, none⟩ = some (.int .i64 pn) := by simp only [World.cell?, xq]; rfl
          have n2 : wq.cell? ⟨w.heap.size, 2, none⟩ = some (.slice (some ⟨b2, o2, none⟩) j co) := by simp only [World.cell?, xq]; rfl
          have u0 : wq.cell? ⟨wr.heap.size, 0, none⟩ = some (.int .i64 x1) := by simp only [World.cell?, oq]; rfl
          have u1 : wq.cell? ⟨wr.heap.size, 1, none⟩ = some (.string x2) := by simp only [World.cell?, oq]; rfl
          have u2 : wq.cell? ⟨wr.heap.size, 2, none⟩ = some (.int .i64 x3) := by simp only [World.cell?, oq]; rfl
          have u3 : wq.cell? ⟨wr.heap.size, 3, none⟩ = some (.string x4) := by simp only [World.cell?, oq]; rfl
          have u4 : wq.cell? ⟨wr.heap.size, 4, none⟩ = some (.int .i64 x5) := by simp only [World.cell?, oq]; rfl
          have u5 : wq.cell? ⟨wr.heap.size, 5, none⟩ = some (.bool x6) := by simp only [World.cell?, oq]; rfl
          have u6 : wq.cell? ⟨wr.heap.size, 6, none⟩ = some (.slice dp dl dc) := by simp only [World.cell?, oq]; rfl
          have ctq : wq.cell? ⟨b1, o1 + pn, none⟩ = some (.int .i64 T) := by
            have h := ints_cell HIW.out (t := pn) (by have := HNW.out; omega)
            rw [← HT.out] at h
            rw [BQ.out.cell (lt_of_cell h)]
            exact h
          have OQH := hid oq
          have XQ := hid xq
          clear hwq bq xq r0 r1 r2 r3 r4 r5 r6 oq hpx
          have hn2 : n + 2 * t < 9000000 := by omega
          go_region_held (fun w' => w'.cell? ⟨p, 2, none⟩ = some (.map (some db)) ∧ w'.cell? ⟨w.heap.size, 0, none⟩ = some (.slice (some ⟨b1, o1, none⟩) nw cv) ∧ w'.cell? ⟨w.heap.size, 1, none⟩ = some (.int .i64 pn) ∧ w'.cell? ⟨w.heap.size, 2, none⟩ = some (.slice (some ⟨b2, o2, none⟩) j co) ∧ w'.cell? ⟨wr.heap.size, 0, none⟩ = some (.int .i64 x1) ∧ w'.cell? ⟨wr.heap.size, 1, none⟩ = some (.string x2) ∧ w'.cell? ⟨wr.heap.size, 2, none⟩ = some (.int .i64 x3) ∧ w'.cell? ⟨wr.heap.size, 3, none⟩ = some (.string x4) ∧ w'.cell? ⟨wr.heap.size, 4, none⟩ = some (.int .i64 x5) ∧ w'.cell? ⟨wr.heap.size, 5, none⟩ = some (.bool x6) ∧ w'.cell? ⟨wr.heap.size, 6, none⟩ = some (.slice dp dl dc)) (go_keep) (first | (go_at_call 55; refine (dotOf_any _ b1 o1 nw cv pn T _ _ _ _ _ _ _ _ _ _ _ _ hplt ?hct).mono ?_; (case hct => exact ctq); rintro e w5 ⟨rfl, hb5⟩; have hbq5 : Below wq.heap.size wq w5 := (below_draws (Below.refl wq.heap.size wq) 1).trans hb5; have up5 : ∀ {a : Addr} {v : Value}, wq.cell? a = some v → w5.cell? a = some v := (fun {a v} h => by rw [hbq5.cell (lt_of_cell h)]; exact h); have V5 := VQ.out.moved hbq5; obtain ⟨D5, hD5, hs5⟩ := V5.dots; obtain ⟨w6, hrun6, hm6, hg6⟩ := hD5.update keyed65 Tryz.underlying107 (show n + 2 * t < maxLen from (by unfold maxLen; omega)) (key_dot ⟨pn, T, x1⟩ hwf.out) unitElem_mk; simp only at hrun6; have up6 : ∀ {a : Addr} {v : Value}, w5.cell? a = some v → w6.cell? a = some v := (fun {a v} h => hg6.cell h (fun e => cell_ne_map hD5 h (Option.some.inj e))); have mda := up5 md; have m1a := up5 m1; have n0a := up5 n0; have n1a := up5 n1; have n2a := up5 n2; have u0a := up5 u0; have u1a := up5 u1; have u2a := up5 u2; have u3a := up5 u3; have u4a := up5 u4; have u5a := up5 u5; have u6a := up5 u6; have mdb := up6 mda; have m1b := up6 m1a; have n0b := up6 n0a; have n1b := up6 n1a; have n2b := up6 n2a; have u0b := up6 u0a; have u1b := up6 u1a; have u2b := up6 u2a; have u3b := up6 u3a; have u4b := up6 u4a; have u5b := up6 u5a; have u6b := up6 u6a; have H5 := hid hbq5; have HV5 := hid V5; have HD5 := hid hD5; have HS5 := hid hs5; have HM6 := hid hm6; have HG6 := hid hg6; clear up5 up6 hb5 hbq5 V5 hD5 hs5 hm6 hg6))
          clear m1 n0 n1 n2 u0 u1 u2 u3 u4 u5 u6 md m1a n0a n1a n2a u0a u1a u2a u3a u4a u5a u6a mda mdb m1b n0b n1b n2b u0b u1b u2b u3b u4b u5b u6b
          have V6 := hid (HV5.out.addDot HD5.out HS5.out hwf.out HG6.out HM6.out)
          have hx5 : w5.heap[w.heap.size]? = some (.cells #[.slice (some ⟨b1, o1, none⟩) nw cv, .int .i64 pn, .slice (some ⟨b2, o2, none⟩) j co] 36 (0, 0)) := (H5.out.block _ (lt_of_heap XQ.out)).trans XQ.out
          have hx6 : w6.heap[w.heap.size]? = some (.cells #[.slice (some ⟨b1, o1, none⟩) nw cv, .int .i64 pn, .slice (some ⟨b2, o2, none⟩) j co] 36 (0, 0)) := (HG6.out.block _ (lt_of_heap hx5) (fun e => cells_ne_map HD5.out hx5 (Option.some.inj e))).trans hx5
          have ho5 : w5.heap[wr.heap.size]? = some (.cells #[.int .i64 x1, .string x2, .int .i64 x3, .string x4, .int .i64 x5, .bool x6, .slice dp dl dc] 34 (0, 0)) := (H5.out.block _ (lt_of_heap OQH.out)).trans OQH.out
          have ho6 : w6.heap[wr.heap.size]? = some (.cells #[.int .i64 x1, .string x2, .int .i64 x3, .string x4, .int .i64 x5, .bool x6, .slice dp dl dc] 34 (0, 0)) := (HG6.out.block _ (lt_of_heap ho5) (fun e => cells_ne_map HD5.out ho5 (Option.some.inj e))).trans ho5
          obtain ⟨ba6, bc6, _, _, _, _, hp6⟩ := V6.out.boxAt
          have HELD : Hid (∀ u : World, u.heap[p]? = w6.heap[p]? → u.heap[w.heap.size]? = w6.heap[w.heap.size]? → u.heap[wr.heap.size]? = w6.heap[wr.heap.size]? → u.cell? ⟨p, 1, none⟩ = some (.map (some mb)) ∧ u.cell? ⟨w.heap.size, 0, none⟩ = some (.slice (some ⟨b1, o1, none⟩) nw cv) ∧ u.cell? ⟨w.heap.size, 1, none⟩ = some (.int .i64 pn) ∧ u.cell? ⟨w.heap.size, 2, none⟩ = some (.slice (some ⟨b2, o2, none⟩) j co) ∧ u.cell? ⟨wr.heap.size, 0, none⟩ = some (.int .i64 x1) ∧ u.cell? ⟨wr.heap.size, 1, none⟩ = some (.string x2) ∧ u.cell? ⟨wr.heap.size, 2, none⟩ = some (.int .i64 x3) ∧ u.cell? ⟨wr.heap.size, 3, none⟩ = some (.string x4) ∧ u.cell? ⟨wr.heap.size, 4, none⟩ = some (.int .i64 x5) ∧ u.cell? ⟨wr.heap.size, 5, none⟩ = some (.bool x6) ∧ u.cell? ⟨wr.heap.size, 6, none⟩ = some (.slice dp dl dc)) := (show ∀ u : World, _ from fun u p1 p2 p3 => by
            have a1 := p1.trans hp6
            have a2 := p2.trans hx6
            have a3 := p3.trans ho6
            refine ⟨?_, ?_, ?_, ?_, ?_, ?_, ?_, ?_, ?_, ?_, ?_⟩
            · simp only [World.cell?, a1]; rfl
            · simp only [World.cell?, a2]; rfl
            · simp only [World.cell?, a2]; rfl
            · simp only [World.cell?, a2]; rfl
            all_goals (simp only [World.cell?, a3]; rfl))
          obtain ⟨rows6, hrow6, hF6⟩ := V6.out.rows x2
          obtain ⟨L, hL⟩ : ∃ L, L = (rowOf ⟨(putTo s c t).base, (putTo s c t).parts, (putTo s c t).dots ++ [⟨pn, T, x1⟩]⟩ x2).length := ⟨_, rfl⟩
          rw [← hL] at hrow6
          have hLb : L ≤ 2000000 := by
            have h1 := rowOf_putTo s c t x2
            have h2 := HRL.out x2
            have h3 : L = (rowOf (putTo s c t) x2).length := hL
            omega
          obtain ⟨fv, hfv⟩ : ∃ fv, fv = ft x2 := ⟨_, rfl⟩
          have HFV := hid hfv
          have HL := hid hL
          have HB : Hid (fv.ownBlock ≠ some p ∧ fv.ownBlock ≠ some w.heap.size ∧ fv.ownBlock ≠ some wr.heap.size ∧ p ≠ mb ∧ w.heap.size ≠ mb ∧ wr.heap.size ≠ mb ∧ p < w6.heap.size ∧ w.heap.size < w6.heap.size ∧ wr.heap.size < w6.heap.size) := (show _ ∧ _ from by
            obtain ⟨Dm, hDm, _⟩ := V6.out.map
            refine ⟨fun e => ?_, by rw [hfv]; exact TI.out.off x2, fun e => ?_, cells_ne_map hDm hp6, cells_ne_map hDm hx6, cells_ne_map hDm ho6, lt_of_heap hp6, lt_of_heap hx6, lt_of_heap ho6⟩
            · rw [hfv] at e
              obtain ⟨cs, hcs⟩ := own_type hrow6 e
              rw [hp6] at hcs
              injection hcs with hcs
              injection hcs with _ hcs
              cases hcs
            · rw [hfv] at e
              have := TI.out.ver.few x2 e
              omega)
          have LOOK : Hid (∀ W, Below w6.heap.size w6 W → (Instr.lookup 106 (.map (some mb)) (.string x2) false).run Tryz.prog W = .ok fv W) := (show ∀ W, _ → _ from fun W hW => by rw [hfv]; exact (V6.out.moved hW).row x2 (by omega))
          have hr6 := LOOK.out w6.drew (Below.refl w6.heap.size w6).drew
          have K62b : Hid (∀ W, Below w6.heap.size w6 W → Calls Tryz.prog 56 #[.agg #[.slice (some ⟨b1, o1, none⟩) nw cv, .int .i64 pn, .slice (some ⟨b2, o2, none⟩) j co], .agg #[.int .i64 x1, .string x2, .int .i64 x3, .string x4, .int .i64 x5, .bool x6, .slice dp dl dc]] W fun e w' => ∃ a1 c1 a2, e = .returned (.agg #[.slice a1 nw c1, .int .i64 pn, .slice a2 1 1]) ∧ ComT w' [.slice a1 nw c1, .int .i64 pn, .slice a2 1 1] (partC c ⟨x1, x2, x3, x4, x5, x6, ds⟩) ∧ Below W.heap.size W w') := (show ∀ W, _ → _ from fun W hW => by
            have h1 : IntsAt W (.slice (some ⟨b1, o1, none⟩) nw cv) c.when_ := by
              have h1 : IntsT w6 (.slice (some ⟨b1, o1, none⟩) nw cv) c.when_ := by
                have h := (RowT.kept (RowT.kept HIW.out (Keep3.of_below (BQ.out.trans (H5.out.mono BQ.out.size)) (Nat.le_refl _)).ints) (keep3_map HD5.out HG6.out).ints)
                rw [← HNW.out] at h
                exact h
              exact h1.at.mono hW (Nat.le_refl _)
            have h2 : DotsAt W (.slice dp dl dc) ds := (rowAt_cells (HD.out.mono (BQ.out.trans (H5.out.mono BQ.out.size)) (Nat.le_refl _)) (fun a u h => HG6.out.cell h (fun e => cell_ne_map HD5.out h (Option.some.inj e))) : DotsAt w6 (.slice dp dl dc) ds).mono hW (Nat.le_refl _)
            have h := partOf_any W ⟨c.when_, pn, c.ops⟩ ⟨x1, x2, x3, x4, x5, x6, ds⟩ (.slice (some ⟨b1, o1, none⟩) nw cv) (some ⟨b2, o2, none⟩) j co (.slice dp dl dc) h1 h2 (by simp only; omega) hds
            unfold PartRet at h
            simp only at h
            rw [← HNW.out] at h
            unfold partC
            rw [HPN.out]
            exact h)
          have STEP : Hid (∀ (w7 : World) (a7 : Option Addr) (c7 : Nat) (a8 : Option Addr), ComT w7 [.slice a7 nw c7, .int .i64 pn, .slice a8 1 1] (partC c ⟨x1, x2, x3, x4, x5, x6, ds⟩) → Below w6.heap.size w6 w7 → ∃ rs, (w7.alloc (.cells #[.slice a7 nw c7, .int .i64 pn, .slice a8 1 1] 36)).ownsRow 0 36 3 fv L rs ∧ ∀ v9 w9, w9.ownsRow 0 36 3 v9 (L + 1) (rs ++ [.slice a7 nw c7, .int .i64 pn, .slice a8 1 1]) → (w7.alloc (.cells #[.slice a7 nw c7, .int .i64 pn, .slice a8 1 1] 36)).grownBy w9 fv.ownBlock → (v9.ownBlock = fv.ownBlock ∨ v9.ownBlock = some (w7.alloc (.cells #[.slice a7 nw c7, .int .i64 pn, .slice a8 1 1] 36)).heap.size) →
              ∃ w10, (Instr.mapUpdate 106 (.map (some mb)) (.string x2) v9).run Tryz.prog w9 = .ok () w10 ∧ Stepped (w7.alloc (.cells #[.slice a7 nw c7, .int .i64 pn, .slice a8 1 1] 36)) p mb db (n + 2 * t + 1) ft ⟨(putTo s c t).base, (putTo s c t).parts, (putTo s c t).dots ++ [⟨pn, T, x1⟩]⟩ (partC c ⟨x1, x2, x3, x4, x5, x6, ds⟩) fv v9 w9 w10) := (show ∀ w7 a7 c7 a8, _ → _ → _ from fun w7 a7 c7 a8 hct7 hb67 =>
            (V6.out.moved (hb67.trans ((below_alloc w7 _).mono hb67.size))).step2 (by omega) (partC c ⟨x1, x2, x3, x4, x5, x6, ds⟩) _ _ _ (hct7.kept (Keep3.of_below (below_alloc w7 _) (Nat.le_refl _))) (show x2.size ≤ 1000000 by omega) fv hfv.symm L hL.symm)
          have K62d := hid (K62b.out w6.drew (Below.refl w6.heap.size w6).drew)
          have hk2 : L + 1 ≤ maxLen := by unfold maxLen; omega
          have hk3 : (L + 1) * 56 ≤ 140737488355328 := by omega
          have hd6 : w6.drew.heap[p]? = w6.heap[p]? := rfl
          have X6 := hid hx6
          have P6 := hid hp6
          have O6 := hid ho6
          clear hrow6 hF6 hfv hL hx5 hx6 ho5 ho6 hp6
          go_upto_region 20 with (fail)
          go_region_held_law (fun u => u.cell? ⟨p, 1, none⟩ = some (.map (some mb)) ∧ u.cell? ⟨w.heap.size, 0, none⟩ = some (.slice (some ⟨b1, o1, none⟩) nw cv) ∧ u.cell? ⟨w.heap.size, 1, none⟩ = some (.int .i64 pn) ∧ u.cell? ⟨w.heap.size, 2, none⟩ = some (.slice (some ⟨b2, o2, none⟩) j co) ∧ u.cell? ⟨wr.heap.size, 0, none⟩ = some (.int .i64 x1) ∧ u.cell? ⟨wr.heap.size, 1, none⟩ = some (.string x2) ∧ u.cell? ⟨wr.heap.size, 2, none⟩ = some (.int .i64 x3) ∧ u.cell? ⟨wr.heap.size, 3, none⟩ = some (.string x4) ∧ u.cell? ⟨wr.heap.size, 4, none⟩ = some (.int .i64 x5) ∧ u.cell? ⟨wr.heap.size, 5, none⟩ = some (.bool x6) ∧ u.cell? ⟨wr.heap.size, 6, none⟩ = some (.slice dp dl dc)) ((refine HELD.out _ ?_ ?_ ?_ <;> first | with_reducible assumption | rfl)) (first
            | (refine step_append_at rfl _ _ 116 rfl 0 36 i28 _ 3 56 Tryz.underlying116 hi28 hy0 hy1 hy2 rfl (by decide) fv L _ rfl ROW8.out _ 1 1 [.slice a7 nw c7, .int .i64 pn, .slice a8 1 1] rfl rfl (cells3_new _ _ _) ONE8.out hk2 hk3 (Nat.zero_le _) ?_; intro v9 w9 hrow9 hgr9 hat9; obtain ⟨w10, hrun10, hst10⟩ := STEP8.out v9 w9 hrow9 hgr9 hat9; have s9p : w9.heap[p]? = w6.heap[p]? := (hst10.old9 _ (Nat.lt_of_lt_of_le HB.out.2.2.2.2.2.2.1 H68.out.size) HB.out.1).trans s8p; have s9x : w9.heap[w.heap.size]? = w6.heap[w.heap.size]? := (hst10.old9 _ (Nat.lt_of_lt_of_le HB.out.2.2.2.2.2.2.2.1 H68.out.size) HB.out.2.1).trans s8x; have s9o : w9.heap[wr.heap.size]? = w6.heap[wr.heap.size]? := (hst10.old9 _ (Nat.lt_of_lt_of_le HB.out.2.2.2.2.2.2.2.2 H68.out.size) HB.out.2.2.1).trans s8o; have s10p : w10.heap[p]? = w6.heap[p]? := (hst10.old10 _ (Nat.lt_of_lt_of_le HB.out.2.2.2.2.2.2.1 H68.out.size) HB.out.2.2.2.1 HB.out.1).trans s8p; have s10x : w10.heap[w.heap.size]? = w6.heap[w.heap.size]? := (hst10.old10 _ (Nat.lt_of_lt_of_le HB.out.2.2.2.2.2.2.2.1 H68.out.size) HB.out.2.2.2.2.1 HB.out.2.1).trans s8x; have s10o : w10.heap[wr.heap.size]? = w6.heap[wr.heap.size]? := (hst10.old10 _ (Nat.lt_of_lt_of_le HB.out.2.2.2.2.2.2.2.2 H68.out.size) HB.out.2.2.2.2.2.1 HB.out.2.2.1).trans s8o; have ST10 := hid hst10; have AT9 := hid hat9; have G9 := hid hgr9; clear hst10 hat9 hgr9 hrow9)
            | (go_simp; refine K62d.out.mono ?_; rintro e w7 ⟨a7, c7, a8, rfl, hct7, hb7⟩; have hb67 : Below w6.heap.size w6 w7 := below_undrew hb7; have hr7 := LOOK.out w7 hb67; obtain ⟨rs, hrow8, hstep8⟩ := STEP.out w7 a7 c7 a8 hct7 hb67; have hb68 : Below w6.heap.size w6 (w7.alloc (.cells #[.slice a7 nw c7, .int .i64 pn, .slice a8 1 1] 36)) := hb67.trans ((below_alloc w7 _).mono hb67.size); have s7p : w7.heap[p]? = w6.heap[p]? := hb67.block _ HB.out.2.2.2.2.2.2.1; have s7x : w7.heap[w.heap.size]? = w6.heap[w.heap.size]? := hb67.block _ HB.out.2.2.2.2.2.2.2.1; have s7o : w7.heap[wr.heap.size]? = w6.heap[wr.heap.size]? := hb67.block _ HB.out.2.2.2.2.2.2.2.2; have s8p : (w7.alloc (.cells #[.slice a7 nw c7, .int .i64 pn, .slice a8 1 1] 36)).heap[p]? = w6.heap[p]? := hb68.block _ HB.out.2.2.2.2.2.2.1; have s8x : (w7.alloc (.cells #[.slice a7 nw c7, .int .i64 pn, .slice a8 1 1] 36)).heap[w.heap.size]? = w6.heap[w.heap.size]? := hb68.block _ HB.out.2.2.2.2.2.2.2.1; have s8o : (w7.alloc (.cells #[.slice a7 nw c7, .int .i64 pn, .slice a8 1 1] 36)).heap[wr.heap.size]? = w6.heap[wr.heap.size]? := hb68.block _ HB.out.2.2.2.2.2.2.2.2; have hr8 := LOOK.out (w7.alloc (.cells #[.slice a7 nw c7, .int .i64 pn, .slice a8 1 1] 36)) hb68; have ROW8 := hid hrow8; have STEP8 := hid hstep8; have H67 := hid hb67; have H68 := hid hb68; have ONE8 := hid (one3v (.slice a7 nw c7) (.slice a8 1 1) pn a7 a8 nw c7 1 1 rfl rfl); clear hct7 hb7 hb67 hb68 hrow8 hstep8; dsimp only))
          all_goals
            have PI := hid (TI.out.next (BQ.out.trans (H5.out.mono BQ.out.size)) HD5.out HG6.out H68.out HFV.out G9.out AT9.out ST10.out rfl (by rw [HPUT.out, HDOT.out]; rfl))
            go_wp2
            refine ⟨⟨t + 1, _, by omega, by go_num, PI.out, s10x.trans X6.out⟩, by simp [intOf]; omega⟩
        · obtain rfl : t = j := by omega
          have hI := TI.out
          have HF := hid hI.ver
          have HTU := hid hI.turn
          have HKE := hid hI.keep
          clear hI
          go_wp2
          go_ret
          exact ⟨rfl, ft, by rw [HNO.out] at HF; exact HF.out.more (by have := HNO.out; omega), HTU.out, HKE.out⟩
end Go.Proofs.YtefpnojanldkeaaGreatDoor
