/- withoutSpentRemoves by its contract; What ops tell, settled or not: plain mathematics; What ops tell, settled or not: plain mathematics, part 2; What ops tell, settled or not: plain mathematics, part 3; What ops tell, settled or not: plain mathematics, part 4. -/
import Derived.Test.YtdnebclemngdcaaGreatDoorFQT
import Derived.Test.YtdnebclemngdcaaGreatDoorFVOfVM
import Derived.Test.YtdnebclemngdcaaGreatDoorFVOfRA
namespace Go.Proofs.YtdnebclemngdcaaGreatDoor
open Go.RowKit Go.Maps
set_option maxRecDepth 100000
set_option linter.unusedSectionVars false
variable [Inhabited ComV] [DecidableEq D3] [Inhabited D3] [Inhabited Dd] [Inhabited Dn] [Inhabited OpV]

set_option maxHeartbeats 8000000 in
theorem withoutSpent_ok (w : World) (vp db base nd : Nat) (V : D3 → Bool) (sv ov : Value) (rs os : List Rp) (E : Nat → OpV) (D : Nat → Value) (hs : RowR w base sv rs) (ho : RowR w base ov os) (hrs : BothOk w E D rs) (hos : BothOk w E D os) (hl1 : rs.length ≤ 1000) (hl2 : os.length ≤ 1000) (x0 x1 : Value) (hvp : w.heap[vp]? = some (.cells #[x0, x1, .map (some db)] 83 (0, 0))) (hV : DotSet w db nd V) (hnd : (rs.map (·.g)).Nodup) (hap : ∀ q ∈ rs, ∀ q' ∈ rs, q.g ≠ q'.g → ∀ b, (D q.g).ownBlock = some b → (D q'.g).ownBlock ≠ some b) :
    Calls Tryz.prog 74 #[.pointer (some ⟨vp, 0, none⟩), sv, ov] w fun e w' => SpentRet V (addsT E rs ++ addsT E os) rs E D w e w' := by
  have hmm := @run_makeMap Tryz.prog
  obtain ⟨i28, hi28, hy0, hy1, hy2⟩ := info_parts Tryz.info34q
  obtain ⟨sa, sc, hse⟩ := hs.shape
  obtain ⟨oa, oc, hoe⟩ := ho.shape
  obtain ⟨w0, hw0⟩ : ∃ w0, w0 = (((w.alloc (.cells #[.pointer (some ⟨vp, 0, none⟩)] 26)).alloc (.map #[] 0)).alloc (.cells #[.map (some (w.heap.size + 1))] 154)).alloc (.cells #[sv, ov] 22) := ⟨_, rfl⟩
  obtain ⟨kv, hkv⟩ : ∃ kv, kv = w.heap.size := ⟨_, rfl⟩
  obtain ⟨mb, hmb⟩ : ∃ mb, mb = w.heap.size + 1 := ⟨_, rfl⟩
  obtain ⟨ka, hka⟩ : ∃ ka, ka = w.heap.size + 1 + 1 := ⟨_, rfl⟩
  obtain ⟨bs, hbs⟩ : ∃ bs, bs = w.heap.size + 1 + 1 + 1 := ⟨_, rfl⟩
  have A4 := alloc4 w (.cells #[.pointer (some ⟨vp, 0, none⟩)] 26) (.map #[] 0) (.cells #[.map (some (w.heap.size + 1))] 154) (.cells #[sv, ov] 22)
  rw [← hw0] at A4
  have hB0 : Below w.heap.size w w0 := by rw [hw0]; exact (((below_alloc w _).alloc (by simp) _).alloc (by simp; omega) _).alloc (by simp; omega) _
  have xkv : w0.heap[kv]? = some (.cells #[.pointer (some ⟨vp, 0, none⟩)] 26 (0, 0)) := by rw [hkv, A4.2.1]; exact (MapKept.heap_alloc _ _).1
  have xka : w0.heap[ka]? = some (.cells #[.map (some mb)] 154 (0, 0)) := by
    rw [hka, A4.2.2, hmb]
    have := (MapKept.heap_alloc ((w.alloc (.cells #[.pointer (some ⟨vp, 0, none⟩)] 26)).alloc (.map #[] 0)) (.cells #[.map (some (w.heap.size + 1))] 154)).1
    simpa using this
  have xbs : w0.heap[bs]? = some (.cells #[sv, ov] 22 (0, 0)) := by
    rw [hbs, hw0]
    have := (MapKept.heap_alloc (((w.alloc (.cells #[.pointer (some ⟨vp, 0, none⟩)] 26)).alloc (.map #[] 0)).alloc (.cells #[.map (some (w.heap.size + 1))] 154)) (.cells #[sv, ov] 22)).1
    simpa using this
  have T0 : TInv w mb [] 0 w0 := by
    refine ⟨?_, hB0⟩
    have h1 := TgtAt.start (w.alloc (.cells #[.pointer (some ⟨vp, 0, none⟩)] 26))
    rw [hw0]
    have e : (w.alloc (.cells #[.pointer (some ⟨vp, 0, none⟩)] 26)).heap.size = mb := by rw [hmb]; simp
    rw [e] at h1
    exact (h1.below (below_alloc _ _)).below (below_alloc _ _)
  have hwmb : w.heap.size ≤ mb := by omega
  have pick : ∀ q, q < 2 → ∃ la lc l, w0.cell? ⟨bs, q, none⟩ = some (.slice la l.length lc) ∧ RowR w base (.slice la l.length lc) l ∧ BothOk w E D l ∧ l.length ≤ 1000 ∧ accQ E rs os (q + 1) = accQ E rs os q ++ addsT E l := fun q hq => by
    rcases (by omega : q = 0 ∨ q = 1) with rfl | rfl
    · refine ⟨sa, sc, rs, ?_, by rw [← hse]; exact hs, hrs, hl1, rfl⟩
      rw [← hse]; simp only [World.cell?, xbs]; rfl
    · refine ⟨oa, oc, os, ?_, by rw [← hoe]; exact ho, hos, hl2, rfl⟩
      rw [← hoe]; simp only [World.cell?, xbs]; rfl
  have PICK := hid pick
  have HT0 := hid T0
  have HXKV := hid xkv
  have HXKA := hid xka
  have HXBS := hid xbs
  have HB0 := hid hB0
  have HRS := hid hrs
  have HS := hid hs
  have HVP := hid hvp
  have HV := hid hV
  have HND := hid hnd
  have HAP := hid hap
  rw [hse, hoe] at hw0 ⊢
  obtain ⟨sn, hsn⟩ : ∃ sn, sn = rs.length := ⟨_, rfl⟩
  obtain ⟨on, hon⟩ : ∃ on, on = os.length := ⟨_, rfl⟩
  rw [← hsn] at hw0 ⊢
  rw [← hon] at hw0 ⊢
  have HSE := hid hse
  have HSN := hid hsn
  have hl1' : rs.length ≤ 1000 := hl1
  rw [← hsn] at hl1'
  clear hs ho hrs hos hl1 hl2 hvp hV hnd hap A4 hB0 xkv xka xbs T0 pick hse hoe hsn hon
  go_enter Tryz.func74, Tryz.ntmps74
  go_wp2_with fail
  rw [← hw0, ← hbs, ← hka, ← hmb, ← hkv]
  have HKV := hid hkv
  clear hw0 hbs hka hmb hkv
  go_loopw [21] (fun i wr => ∃ (q n : Nat), q ≤ 2 ∧ i = .int .i64 q ∧ n ≤ q * 1000 ∧ Hid (AddW w w0 mb n (accQ E rs os q) wr)) (fun i _ => 2 - (intOf i).toNat)
  case atStart => exact ⟨0, 0, Nat.zero_le _, rfl, Nat.zero_le _, HT0.out, grown_belowQ _ (Below.refl _ _)⟩
  case round =>
    obtain ⟨q, n, hq, rfl, hn, HI⟩ := hrel
    by_cases hlt : q < 2
    · obtain ⟨la, lc, l, c0, hrow, hok, hl, hacc⟩ := PICK.out q hlt
      have c1 := cellNe HT0.out.set HI.out.grown c0
      obtain ⟨L, hL⟩ : ∃ L, L = l.length := ⟨_, rfl⟩
      rw [← hL] at c1 hrow hl
      have HROW := hid hrow
      have HOK := hid hok
      have HL := hid hL
      have HACC := hid hacc
      obtain ⟨T, hT⟩ : ∃ T, T = accQ E rs os q := ⟨_, rfl⟩
      rw [← hT] at HI HACC
      clear hT hrow hok hL hacc c0
      have hi1 : (q : Int) < 2 := by omega
      obtain ⟨w1, hw1⟩ : ∃ w1, w1 = wr := ⟨_, rfl⟩
      subst hw1
      go_wp2_with fail
      clear c1
      go_loopw [27] (fun i wr => ∃ (j m : Nat), j ≤ L ∧ i = .int .i64 j ∧ m ≤ n + j ∧ Hid (AddW w w0 mb m (T ++ addsT E (l.take j)) wr)) (fun i _ => L - (intOf i).toNat)
      case atStart => exact ⟨0, n, Nat.zero_le _, rfl, Nat.le_refl _, (by show AddW _ _ _ _ _ _; simpa [addsT] using HI.out)⟩
      case round =>
        obtain ⟨j, m, hj, rfl, hm, HJ⟩ := hrel
        by_cases hltj : j < L
        · obtain ⟨r, hr⟩ := some_of_lt (l := l) (k := j) (by rw [← HL.out]; exact hltj)
          have hrow' := HROW.out
          rw [HL.out] at hrow'
          obtain ⟨b, cap, e1, q0, q1, q2⟩ := hrow'.at hr
          injection e1 with e1 e2 e3
          subst e1 e3
          clear e2 hrow'
          have hmem := List.mem_of_getElem? hr
          have ho := HOK.out.ops r hmem
          have hd := HOK.out.dots r hmem
          have hf := HOK.out.fit r hmem
          have hv := HOK.out.vec r hmem
          obtain ⟨b1, o1, p, hwa, hpl, hpn, ct⟩ := hv.at
          have hwf := hv.wf
          have hB := HJ.out.inv.below
          have r0 := upQ hB q0
          have r1 := upQ hB q1
          have r2 := upQ hB q2
          have ctr := upQ hB ct
          have hsn := addsT_snoc E hr
          have hi2 : (j : Int) < (L : Int) := by omega
          obtain ⟨da, dc, hdve⟩ := hd.shape
          have hor : wr.heap[r.g]? = some (.cells (opC (E r.g) (D r.g)).toArray 76 (0, 0)) := by rw [hB.block _ (lt_of_heapQ ho)]; exact ho
          rw [hdve] at hor
          have hft := hf.text
          obtain ⟨bb, hbb⟩ : ∃ bb, bb = isAddQ E r := ⟨_, rfl⟩
          rw [← hbb] at hsn
          unfold isAddQ at hbb
          obtain ⟨wa, wc, wn, pl, g⟩ := r
          simp only at hwa hpl
          subst hwa hpl
          have tq : dotR E ⟨some ⟨b1, o1, none⟩, wc, wn, p, g⟩ = ⟨p, wn.getD (p : Int).toNat 0, (E g).at_⟩ := rfl
          rw [tq] at hsn hwf
          simp only at r0 r1 r2 hor ctr hpn hft hbb hsn
          obtain ⟨n1, hn1⟩ : ∃ n1, n1 = wn.length := ⟨_, rfl⟩
          obtain ⟨TT, hTT⟩ : ∃ TT, TT = wn.getD (p : Int).toNat 0 := ⟨_, rfl⟩
          rw [← hn1] at r0 hpn
          rw [← hTT] at ctr hsn hwf
          have HSNN := hid hsn
          clear q0 q1 q2 ho hd hf hv ct hr hmem hdve hn1 hTT tq hsn hB
          obtain ⟨w2, hw2⟩ : ∃ w2, w2 = wr.alloc (.cells #[.slice (some ⟨b1, o1, none⟩) n1 wc, .int .i64 p, .slice (some ⟨g, 0, none⟩) 1 1] 34) := ⟨_, rfl⟩
          have hB2 : Below wr.heap.size wr w2 := by rw [hw2]; exact below_alloc _ _
          have x2 : w2.heap[wr.heap.size]? = some (.cells #[.slice (some ⟨b1, o1, none⟩) n1 wc, .int .i64 p, .slice (some ⟨g, 0, none⟩) 1 1] 34 (0, 0)) := by rw [hw2]; exact (MapKept.heap_alloc _ _).1
          have ho2 : w2.heap[g]? = _ := (hB2.block _ (lt_of_heapQ hor)).trans hor
          have K104 := hid (isAdd_ok w2 (some ⟨b1, o1, none⟩) n1 wc p g (E g) _ ho2)
          rw [← hbb] at K104
          obtain ⟨w3, hw3⟩ : ∃ w3, w3 = w2.alloc (.cells #[.slice (some ⟨b1, o1, none⟩) n1 wc, .int .i64 p, .slice (some ⟨g, 0, none⟩) 1 1] 34) := ⟨_, rfl⟩
          rw [← hw3] at K104
          have hB3 : Below w2.heap.size w2 w3 := by rw [hw3]; exact below_alloc _ _
          have hB13 : Below wr.heap.size wr w3 := hB2.trans (hB3.mono hB2.size)
          have x3 := (hB3.block _ (lt_of_heapQ x2)).trans x2
          obtain ⟨y0, y1, y2⟩ := box3Q x3
          have J3 := HJ.out.moved hB13
          have k3 : w3.cell? ⟨ka, 0, none⟩ = some (.map (some mb)) := by
            have := OffHeap HT0.out.set J3.grown HXKA.out
            simp only [World.cell?, this]; rfl
          have HJ3 := hid J3
          obtain ⟨bx, hbx⟩ : ∃ bx, bx = wr.heap.size := ⟨_, rfl⟩
          rw [← hbx] at y0 y1 y2
          have HO3 := hid ((hB13.block _ (lt_of_heapQ hor)).trans hor)
          have HCT := hid (upQ hB13 ctr)
          have HWF := hid hwf
          have HBB := hid hbb
          go_wp2_with fail
          rw [← hw2]
          refine K104.out.mono ?_
          rintro e w' ⟨rfl, hw'⟩
          subst hw'
          rw [← hbx]
          clear hw2 hB2 x2 ho2 K104 hB3 hB13 x3 J3 r0 r1 r2 ctr hor hw3 hwf hbb hbx
          cases bb with
          | false =>
            go_wp2_with fail
            refine ⟨⟨j + 1, m, by omega, by go_num, by omega, ?_⟩, by simp [intOf]; omega⟩
            show AddW _ _ _ _ _ _
            rw [HSNN.out]
            simpa using HJ3.out
          | true =>
            go_wp2_with fail
            go_region_held (fun w' => w'.cell? ⟨ka, 0, none⟩ = some (.map (some mb)) ∧ w'.cell? ⟨bx, 0, none⟩ = some (.slice (some ⟨b1, o1, none⟩) n1 wc) ∧ w'.cell? ⟨bx, 1, none⟩ = some (.int .i64 p) ∧ w'.cell? ⟨bx, 2, none⟩ = some (.slice (some ⟨g, 0, none⟩) 1 1)) (go_keep) (first | (go_at_call 103; refine (targetOf_ok _ b1 o1 n1 wc p g TT (E g) da (E g).dots.length dc ?ho ?hp ?hc).mono ?_; (case ho => exact HO3.out); (case hp => exact hpn); (case hc => exact HCT.out); rintro e w5 ⟨rfl, hb5⟩; have hb6 : Below w'.heap.size w' w5 := (below_draws (Below.refl _ _) 1).trans hb5; have J5 := HJ3.out.moved hb6; obtain ⟨w6, hrun, hset, hg6⟩ := J5.inv.set.put ⟨p, TT, (E g).at_⟩ (E g).text HWF.out hft (by unfold maxLen; omega); have k3' := upQ hb6 k3; have y0' := upQ hb6 y0; have y1' := upQ hb6 y1; have y2' := upQ hb6 y2; have k3'' := cellNe J5.inv.set hg6 k3'; have y0'' := cellNe J5.inv.set hg6 y0'; have y1'' := cellNe J5.inv.set hg6 y1'; have y2'' := cellNe J5.inv.set hg6 y2'; have J6 : Hid (AddW w w0 mb (m + 1) ((T ++ addsT E (l.take j)) ++ [(⟨p, TT, (E g).at_⟩, (E g).text)]) w6) := ⟨J5.inv.step hwmb hset hg6, grown_transQ J5.grown hg6⟩; clear hb5 hb6 J5 hset hg6))
            clear k3 y0 y1 y2 k3' y0' y1' y2' k3'' y0'' y1'' y2'' hrun
            go_wp2_with fail
            refine ⟨⟨j + 1, m + 1, by omega, by go_num, by omega, ?_⟩, by simp [intOf]; omega⟩
            show AddW _ _ _ _ _ _
            rw [HSNN.out, if_pos trivial, ← List.append_assoc]
            exact J6.out
        · obtain rfl : j = L := by omega
          have hi3 : ¬ (j : Int) < (j : Int) := by omega
          have J : Hid (AddW w w0 mb m (accQ E rs os (q + 1)) wr) := by
            have := HJ.out
            rw [List.take_of_length_le (by rw [← HL.out]; exact Nat.le_refl _)] at this
            rw [HACC.out]
            exact this
          clear HJ
          go_wp2_with fail
          refine ⟨⟨q + 1, m, by omega, by go_num, by omega, J.out⟩, by simp [intOf]; omega⟩
    · obtain rfl : q = 2 := by omega
      have hi3 : ¬ (2 : Int) < 2 := by omega
      obtain ⟨T, hT⟩ : ∃ T, T = addsT E rs ++ addsT E os := ⟨_, rfl⟩
      have HTT := hid hT
      have hA : AddW w w0 mb n T wr := by rw [hT]; exact HI.out
      obtain ⟨w1, hw1⟩ : ∃ w1, w1 = wr := ⟨_, rfl⟩
      subst hw1
      have A0 := hid (SpW.start (f := keepD V T) HRS.out.ops HRS.out.dots hA.inv.below)
      have KV1 := hid (OffHeap HT0.out.set hA.grown HXKV.out)
      have KA1 := hid (OffHeap HT0.out.set hA.grown HXKA.out)
      have AS := hid hA.inv.set
      have AB := hid hA.inv.below
      clear hT hA HI hlt
      go_wp2_with fail
      go_loopw [12, 41] (fun kvv i wr => ∃ (k : Nat) (Dk : Nat → Value), k ≤ sn ∧ i = .int .i64 k ∧ Hid (RowR wr w.heap.size kvv (keepL (spQ V T E) 0 (rs.take k))) ∧ Hid (SpW (keepD V T) w rs E D k Dk wr) ∧ Hid (wr.heap[kv]? = some (.cells #[.pointer (some ⟨vp, 0, none⟩)] 26 (0, 0))) ∧ Hid (wr.heap[ka]? = some (.cells #[.map (some mb)] 154 (0, 0))) ∧ Hid (TgtAt wr mb n T)) (fun _ i _ => sn - (intOf i).toNat)
      case atStart => exact ⟨0, D, Nat.zero_le _, rfl, RowR.nil _ _, A0.out, KV1.out, KA1.out, AS.out⟩
      case round =>
        obtain ⟨k, Dk, hk, rfl, HR, HI, HKV2, HKA2, HTG⟩ := hrel
        by_cases hlt : k < sn
        · obtain ⟨r, hr⟩ := some_of_lt (l := rs) (k := k) (by rw [← HSN.out]; exact hlt)
          obtain ⟨b, cap, e1, q0, q1, q2⟩ := HS.out.at hr
          obtain ⟨cur34, hc34⟩ := RowR.type (by rw [← e1]; exact HS.out : RowR w base (.slice (some ⟨b, 0, none⟩) rs.length cap) rs)
          rw [HSE.out] at e1
          injection e1 with e1 e2 e3
          subst e1 e3
          clear e2
          have hmem := List.mem_of_getElem? hr
          have hbG := not_blocksG HRS.out.ops HRS.out.dots hc34 (by decide) (by decide)
          have r0 := HI.out.off.cell q0 hbG
          have r1 := HI.out.off.cell q1 hbG
          have r2 := HI.out.off.cell q2 hbG
          have ho := HI.out.ops r hmem
          have hd := HI.out.dots r hmem
          rw [trimK_old HND.out hr] at ho hd
          have hf := HRS.out.fit r hmem
          have vpG := not_blocksG HRS.out.ops HRS.out.dots HVP.out (by decide) (by decide)
          have hvpr : wr.heap[vp]? = some (.cells #[x0, x1, .map (some db)] 83 (0, 0)) := (HI.out.off.block _ (lt_of_heapQ HVP.out) vpG).trans HVP.out
          obtain ⟨des, dcl, hdo⟩ := HV.out.obj
          have hVr : DotSet wr db nd V := HV.out.off HI.out.off (map_notG HRS.out.ops HRS.out.dots hdo)
          have hs := keepL_snoc (spQ V T E) hr
          obtain ⟨dv, hdv⟩ : ∃ dv, dv = Dk r.g := ⟨_, rfl⟩
          rw [← hdv] at ho hd
          obtain ⟨da, dc, hde⟩ := hd.shape
          have hrow := HR.out
          obtain ⟨m, hm⟩ : ∃ m, m = (keepL (spQ V T E) 0 (rs.take k)).length := ⟨_, rfl⟩
          have hmk : m ≤ k := by rw [hm]; exact Nat.le_trans (keepL_sub _ _ _).length_le (by rw [List.length_take]; omega)
          unfold RowR at hrow
          rw [← hm] at hrow
          obtain ⟨va2, vc2, hve2⟩ := HR.out.shape
          rw [← hm] at hve2
          subst hve2
          have hws : w.heap.size ≤ wr.heap.size := HI.out.off.size
          obtain ⟨bb, hbb⟩ : ∃ bb, bb = spQ V T E k r := ⟨_, rfl⟩
          rw [← hbb] at hs
          unfold spQ at hbb
          have hft := hf.text
          have hfw := hf.few
          have hfd := hf.dots
          have hi5 : (k : Int) < (sn : Int) := by omega
          obtain ⟨w2, hw2⟩ : ∃ w2, w2 = wr.alloc (.cells #[.slice r.wa r.wn.length r.wc, .int .i64 r.pl, .slice (some ⟨r.g, 0, none⟩) 1 1] 34) := ⟨_, rfl⟩
          obtain ⟨w3, hw3⟩ : ∃ w3, w3 = w2.alloc (.cells #[.pointer (some ⟨r.g, 0, none⟩)] 159) := ⟨_, rfl⟩
          have hB2 : Below wr.heap.size wr w2 := by rw [hw2]; exact below_alloc _ _
          have hB3' : Below w2.heap.size w2 w3 := by rw [hw3]; exact below_alloc _ _
          have hB3 : Below wr.heap.size wr w3 := hB2.trans (hB3'.mono hB2.size)
          have hs2 : w2.heap.size = wr.heap.size + 1 := by rw [hw2]; simp
          have x2 : w3.heap[wr.heap.size]? = some (.cells #[.slice r.wa r.wn.length r.wc, .int .i64 r.pl, .slice (some ⟨r.g, 0, none⟩) 1 1] 34 (0, 0)) := by
            rw [hw3, (MapKept.heap_alloc _ _).2 _ (by omega), hw2]; exact (MapKept.heap_alloc _ _).1
          have x3 : w3.heap[wr.heap.size + 1]? = some (.cells #[.pointer (some ⟨r.g, 0, none⟩)] 159 (0, 0)) := by
            rw [hw3, ← hs2]; exact (MapKept.heap_alloc _ _).1
          have up3 : ∀ {i : Nat} {o : Obj}, wr.heap[i]? = some o → w3.heap[i]? = some o := fun {i o} h => (hB3.block _ (lt_of_heapQ h)).trans h
          have ho3 := up3 ho
          have hd3 := hd.below hB3
          have hvp3 := up3 hvpr
          have hkv3 := up3 HKV2.out
          have hka3 := up3 HKA2.out
          have hV3 := hVr.below hB3
          have hT3 := HTG.out.below hB3
          have hSp3 := HI.out.moved hB3
          have K106 : ∀ u, Below w3.heap.size w3 u → Calls Tryz.prog 106 #[dv, .func (.func 107) #[] #[.pointer (some ⟨kv, 0, none⟩), .pointer (some ⟨ka, 0, none⟩), .pointer (some ⟨wr.heap.size + 1, 0, none⟩)]] u fun e w' => ∃ dv', e = .returned dv' ∧ DotsO w' dv' (keepD V T (E r.g)) ∧ dv'.ownBlock = dv.ownBlock ∧ Off (ownL dv) u w' := fun u hu => by
            have c : ∀ {i : Nat} {cs : Array Value} {t : TypeId} {j : Nat} {v : Value}, w3.heap[i]? = some (.cells cs t (0, 0)) → cs[j]? = some v → u.cell? ⟨i, j, none⟩ = some v := fun {i cs t j v} h hj => by
              have h' := (hu.block _ (lt_of_heapQ h)).trans h
              simp only [World.cell?, h']
              exact hj
            refine spentDots_ok u dv (E r.g).dots kv ka (wr.heap.size + 1) vp db mb r.g nd n V T (E r.g).text (hd3.below hu) hfd hfw hft (c hkv3 rfl) (c hvp3 rfl) (c hka3 rfl) (c x3 rfl) (c ho3 rfl) (hV3.below hu) (hT3.below hu) fun bq hbq => ?_
            obtain ⟨cq, hcq⟩ := hd3.block hbq
            have ne : ∀ {i : Nat} {cs : Array Value} {t : TypeId}, w3.heap[i]? = some (.cells cs t (0, 0)) → t ≠ 87 → bq ≠ i := fun {i cs t} h ht e => by
              rw [← e, hcq] at h
              injection h with h
              injection h with _ h
              exact ht h.symm
            exact ⟨ne hkv3 (by decide), ne hvp3 (by decide), ne hka3 (by decide), ne x3 (by decide), ne ho3 (by decide)⟩
          have post : ∀ u w5 dv', Below w3.heap.size w3 u → DotsO w5 dv' (keepD V T (E r.g)) → dv'.ownBlock = dv.ownBlock → Off (ownL dv) u w5 → w5.heap[r.g]? = some (.cells (opC (E r.g) dv).toArray 76 (0, 0)) ∧ w5.heap[wr.heap.size]? = some (.cells #[.slice r.wa r.wn.length r.wc, .int .i64 r.pl, .slice (some ⟨r.g, 0, none⟩) 1 1] 34 (0, 0)) ∧ w5.heap[wr.heap.size + 1]? = some (.cells #[.pointer (some ⟨r.g, 0, none⟩)] 159 (0, 0)) ∧ w5.ownsRow w.heap.size 34 3 (.slice va2 m vc2) m ((keepL (spQ V T E) 0 (rs.take k)).flatMap Rp.cells) ∧ SpW (keepD V T) w rs E D (k + 1) (updD Dk r.g dv') (w5.setCell ⟨r.g, 6, none⟩ dv') ∧ w5.heap[kv]? = some (.cells #[.pointer (some ⟨vp, 0, none⟩)] 26 (0, 0)) ∧ w5.heap[ka]? = some (.cells #[.map (some mb)] 154 (0, 0)) ∧ TgtAt w5 mb n T ∧ w.heap.size ≤ w5.heap.size := fun u w5 dv' hu h1 h2 h3 => by
            have k5 : ∀ {i : Nat} {cs : Array Value} {t : TypeId}, w3.heap[i]? = some (.cells cs t (0, 0)) → t ≠ 87 → w5.heap[i]? = some (.cells cs t (0, 0)) := fun {i cs t} h ht => by
              have h' := (hu.block _ (lt_of_heapQ h)).trans h
              rw [h3.block _ (lt_of_heapQ h') (not_ownL (hd3.below hu) h' fun cs' e => by injection e with _ e; exact ht e)]
              exact h'
            refine ⟨k5 ho3 (by decide), k5 x2 (by decide), k5 x3 (by decide), ?_, ?_, k5 hkv3 (by decide), k5 hka3 (by decide), ?_, Nat.le_trans hws (Nat.le_trans hB3.size (Nat.le_trans hu.size h3.size))⟩
            · have hr3 := owns_belowQ hrow hB3
              refine ⟨hr3.1, ?_⟩
              rcases hr3.2 with h0 | ⟨g', cap', cur', e1, e2, e3, e4⟩
              · exact .inl h0
              · exact .inr ⟨g', cap', cur', e1, e2, k5 e3 (by decide), e4⟩
            · have := (hSp3.moved hu).step (w5 := w5) (dv := dv') hr HND.out HAP.out (by rw [← hdv]; exact h3) h1 (by rw [← hdv]; exact h2)
              exact this
            · have hTu := hT3.below hu
              obtain ⟨es, cl, hob⟩ := hTu.obj
              exact hTu.off h3 (not_ownL (hd3.below hu) hob fun cs' e => by cases e)
          have HPOST := hid post
          have HK106 := hid K106
          have HSS := hid hs
          have HM := hid hm
          have HBB := hid hbb
          obtain ⟨rm, hrm⟩ : ∃ rm, rm = (E r.g).rem := ⟨_, rfl⟩
          rw [← hrm] at HBB
          have o6 : w3.cell? ⟨r.g, 6, none⟩ = some dv := by simp only [World.cell?, ho3]; rfl
          have o6f : w3.frozen? ⟨r.g, 6, none⟩ = false := by simp only [World.frozen?, ho3]; simp
          have p3 : w3.cell? ⟨wr.heap.size + 1, 0, none⟩ = some (.pointer (some ⟨r.g, 0, none⟩)) := by simp only [World.cell?, x3]; rfl
          obtain ⟨ko, hko⟩ : ∃ ko, ko = wr.heap.size + 1 := ⟨_, rfl⟩
          obtain ⟨bx, hbx⟩ : ∃ bx, bx = wr.heap.size := ⟨_, rfl⟩
          rw [← hko] at HK106 HPOST p3
          rw [← hbx] at HPOST
          have HRM := hid hrm
          clear q0 q1 q2 ho hd hmem hf hvpr hVr hs hm hrow hbb hbG vpG hdo hc34 hB2 hB3' x2 x3 up3 ho3 hd3 hvp3 hkv3 hka3 hV3 hT3 hSp3 K106 post hft hfw hfd hs2 hrm hdv HR HI HKV2 HKA2 HTG
          obtain ⟨wa, wc, wn, pl, g⟩ := r
          simp only at r0 r1 r2 hw2 hw3 HK106 HPOST HSS HBB HRM p3 o6 o6f
          obtain ⟨n1, hn1⟩ : ∃ n1, n1 = wn.length := ⟨_, rfl⟩
          rw [← hn1] at r0 hw2 HPOST
          have HONE : Hid (∀ v ∈ [Value.slice wa n1 wc, .int .i64 pl, .slice (some ⟨g, 0, none⟩) 1 1], v.oneCell' = true) := by
            rw [hn1]
            exact Rp.one ⟨wa, wc, wn, pl, g⟩
          have HN1 := hid hn1
          obtain ⟨dl, hdl⟩ : ∃ dl, dl = (E g).dots.length := ⟨_, rfl⟩
          rw [← hdl] at hde
          subst hde
          have HB3 := hid hB3
          clear hn1 hdl hr hB3
          go_wp2_with fail
          rw [← hw2, ← hw3, ← hko, ← hbx]
          clear hw2 hw3 hko hbx r0 r1 r2
          have hBd : Hid (Below w3.heap.size w3 w3.drew) := (below_draws (Below.refl _ _) 1 : Below w3.heap.size w3 w3.drew)
          go_region_with (first | (go_at_call 106; refine (HK106.out _ hBd.out).mono ?_; rintro e w5 ⟨dv5, rfl, hd5, hw5, ho5⟩; obtain ⟨a5, c5, hs5⟩ := hd5.shape; have P5 := hid (HPOST.out w3.drew w5 dv5 hBd.out hd5 hw5 ho5); obtain ⟨M5, hM5⟩ : ∃ M5, M5 = (keepD V T (E g)).length := ⟨_, rfl⟩; rw [← hM5] at hs5; subst hs5; have p5 : w5.cell? ⟨ko, 0, none⟩ = some (.pointer (some ⟨g, 0, none⟩)) := (by have h := P5.out.2.2.1; simp only [World.cell?, h]; rfl); have q5 : w5.cell? ⟨g, 6, none⟩ = some (.slice da dl dc) := (by have h := P5.out.1; simp only [World.cell?, h]; rfl); have q5f : w5.frozen? ⟨g, 6, none⟩ = false := (by have h := P5.out.1; simp only [World.frozen?, h]; simp); have HM5 := hid hM5; clear hd5 hw5 ho5 hM5))
          all_goals (
            obtain ⟨w6, hw6⟩ : ∃ w6, w6 = w5.setCell ⟨g, 6, none⟩ (.slice a5 M5 c5) := ⟨_, rfl⟩
            rw [← hw6]
            obtain ⟨z1, z2, z3, z4, z5, z6, z7, z8, z9⟩ := P5.out
            rw [← hw6] at z5
            have oth : ∀ {i : Nat} {cs : Array Value} {t : TypeId}, w5.heap[i]? = some (.cells cs t (0, 0)) → t ≠ 76 → w6.heap[i]? = some (.cells cs t (0, 0)) := fun {i cs t} h ht => by
              rw [hw6, Below.heap_setCell _ _ _ _ fun e => by
                have e' : i = g := e
                rw [e', z1] at h
                injection h with h
                injection h with _ h
                exact ht h.symm]
              exact h
            have g6 : w6.heap[g]? = some (.cells ((opC (E g) (.slice da dl dc)).toArray.setIfInBounds 6 (.slice a5 M5 c5)) 76 (0, 0)) := by rw [hw6]; exact heap_setQ z1 _ _
            have y0 : w6.cell? ⟨bx, 0, none⟩ = some (.slice wa n1 wc) := by have h := oth z2 (by decide); simp only [World.cell?, h]; rfl
            have y1 : w6.cell? ⟨bx, 1, none⟩ = some (.int .i64 pl) := by have h := oth z2 (by decide); simp only [World.cell?, h]; rfl
            have y2 : w6.cell? ⟨bx, 2, none⟩ = some (.slice (some ⟨g, 0, none⟩) 1 1) := by have h := oth z2 (by decide); simp only [World.cell?, h]; rfl
            have y3 : w6.cell? ⟨ko, 0, none⟩ = some (.pointer (some ⟨g, 0, none⟩)) := by have h := oth z3 (by decide); simp only [World.cell?, h]; rfl
            have y4 : w6.cell? ⟨g, 5, none⟩ = some (.bool rm) := by rw [HRM.out]; simp only [World.cell?, g6]; rfl
            have y5 : w6.cell? ⟨g, 6, none⟩ = some (.slice a5 M5 c5) := by simp only [World.cell?, g6]; rfl
            have ROW6 : Hid (w6.ownsRow w.heap.size 34 3 (.slice va2 m vc2) m ((keepL (spQ V T E) 0 (rs.take k)).flatMap Rp.cells)) := by
              refine ⟨z4.1, ?_⟩
              rcases z4.2 with h0 | ⟨g', cap', cur', e1, e2, e3, e4⟩
              · exact .inl h0
              · exact .inr ⟨g', cap', cur', e1, e2, oth e3 (by decide), e4⟩
            have kv6 := oth z6 (by decide)
            have ka6 := oth z7 (by decide)
            have T6 : TgtAt w6 mb n T := by
              rw [hw6]
              refine z8.off (Off.set (G := [g]) (List.mem_singleton.2 rfl) _ _) fun hm => ?_
              obtain ⟨es, cl, hob⟩ := z8.obj
              rw [List.mem_singleton.1 hm, z1] at hob
              cases hob
            have hs6 : w.heap.size ≤ w6.heap.size := by rw [hw6]; simpa [World.setCell] using z9
            have fin0 : bb = false → RowR w6 w.heap.size (.slice va2 m vc2) (keepL (spQ V T E) 0 (rs.take (k + 1))) := fun h => by
              rw [HSS.out, h]
              show World.ownsRow _ _ _ _ _ _ _
              rw [if_neg (by decide), List.append_nil, ← HM.out]
              exact ROW6.out
            have fin1 : bb = true → ∀ (W' : World) (v' : Value) (o : Obj), (w6.alloc o).grownBy W' (Value.slice va2 m vc2).ownBlock → W'.ownsRow w.heap.size 34 3 v' (m + 1) ((keepL (spQ V T E) 0 (rs.take k)).flatMap Rp.cells ++ [.slice wa n1 wc, .int .i64 pl, .slice (some ⟨g, 0, none⟩) 1 1]) → RowR W' w.heap.size v' (keepL (spQ V T E) 0 (rs.take (k + 1))) ∧ SpW (keepD V T) w rs E D (k + 1) (updD Dk g (.slice a5 M5 c5)) W' ∧ W'.heap[kv]? = some (.cells #[.pointer (some ⟨vp, 0, none⟩)] 26 (0, 0)) ∧ W'.heap[ka]? = some (.cells #[.map (some mb)] 154 (0, 0)) ∧ TgtAt W' mb n T := fun h W' v' o hg ho => by
              refine ⟨?_, spent_app ROW6.out z5 kv6 ka6 T6 o hg⟩
              rw [HSS.out, h, if_pos rfl]
              refine RowR.snoc ?_
              rw [← HM.out]
              have : Rp.cells ⟨wa, wc, wn, pl, g⟩ = [.slice wa n1 wc, .int .i64 pl, .slice (some ⟨g, 0, none⟩) 1 1] := by rw [HN1.out]; rfl
              rw [this]
              exact ho
            have FIN0 := hid fin0
            have FIN1 := hid fin1
            have SP6 := hid z5
            have KV6 := hid kv6
            have KA6 := hid ka6
            have TT6 := hid T6
            have b1' : ((k : Int) == 0) = decide (k = 0) := by rw [Bool.eq_iff_iff]; simp
            obtain ⟨B1, hB1⟩ : ∃ B1, B1 = decide (k = 0) := ⟨_, rfl⟩
            rw [← hB1] at b1' HBB
            have b3 : decide (keepD V T (E g) ≠ []) = decide (0 < M5) := by
              rw [HM5.out, decide_eq_decide]
              exact (List.length_pos_iff).symm
            rw [b3] at HBB
            clear hw6 z1 z2 z3 z4 z5 z6 z7 z8 z9 oth g6 kv6 ka6 T6 fin0 fin1 p5 q5 q5f p3 o6 o6f hB1 b3 P5
            cases B1 with
            | true =>
              go_wp2_with (at_builtin; refine wpList_append_own _ rfl _ _ 22 rfl w.heap.size 34 i28 _ 3 56 Tryz.underlying22 hi28 hy0 hy1 hy2 rfl (by decide) _ _ _ rfl (ROW6.out.alloc _) ⟨w6.heap.size, 0, none⟩ 1 1 [.slice wa n1 wc, .int .i64 pl, .slice (some ⟨g, 0, none⟩) 1 1] rfl rfl (cells_newQ _ _ _ _ (by simp)) ?ho1 ?ho2 ?ho3 ?ho4 ?_; (case ho1 => exact HONE.out); (case ho2 => unfold maxLen; omega); (case ho3 => omega); (case ho4 => simp; omega); intro v9 w9 hown9 hgr9 _; have G9 := hid hgr9; have O9 := hid hown9; clear hown9 hgr9)
              obtain ⟨F1, F2, F3, F4, F5⟩ := FIN1.out HBB.out w9 v9 _ G9.out O9.out
              refine ⟨⟨k + 1, updD Dk g (.slice a5 M5 c5), by omega, by go_num, F1, F2, F3, F4, F5⟩, by simp [intOf]; omega⟩
            | false =>
              cases rm with
              | false =>
                go_wp2_with (at_builtin; refine wpList_append_own _ rfl _ _ 22 rfl w.heap.size 34 i28 _ 3 56 Tryz.underlying22 hi28 hy0 hy1 hy2 rfl (by decide) _ _ _ rfl (ROW6.out.alloc _) ⟨w6.heap.size, 0, none⟩ 1 1 [.slice wa n1 wc, .int .i64 pl, .slice (some ⟨g, 0, none⟩) 1 1] rfl rfl (cells_newQ _ _ _ _ (by simp)) ?ho1 ?ho2 ?ho3 ?ho4 ?_; (case ho1 => exact HONE.out); (case ho2 => unfold maxLen; omega); (case ho3 => omega); (case ho4 => simp; omega); intro v9 w9 hown9 hgr9 _; have G9 := hid hgr9; have O9 := hid hown9; clear hown9 hgr9)
                obtain ⟨F1, F2, F3, F4, F5⟩ := FIN1.out HBB.out w9 v9 _ G9.out O9.out
                refine ⟨⟨k + 1, updD Dk g (.slice a5 M5 c5), by omega, by go_num, F1, F2, F3, F4, F5⟩, by simp [intOf]; omega⟩
              | true =>
                by_cases hM : 0 < M5
                · have hM' : (0 : Int) < (M5 : Int) := by omega
                  rw [decide_eq_true hM] at HBB
                  clear hM
                  go_wp2_with (at_builtin; refine wpList_append_own _ rfl _ _ 22 rfl w.heap.size 34 i28 _ 3 56 Tryz.underlying22 hi28 hy0 hy1 hy2 rfl (by decide) _ _ _ rfl (ROW6.out.alloc _) ⟨w6.heap.size, 0, none⟩ 1 1 [.slice wa n1 wc, .int .i64 pl, .slice (some ⟨g, 0, none⟩) 1 1] rfl rfl (cells_newQ _ _ _ _ (by simp)) ?ho1 ?ho2 ?ho3 ?ho4 ?_; (case ho1 => exact HONE.out); (case ho2 => unfold maxLen; omega); (case ho3 => omega); (case ho4 => simp; omega); intro v9 w9 hown9 hgr9 _; have G9 := hid hgr9; have O9 := hid hown9; clear hown9 hgr9)
                  obtain ⟨F1, F2, F3, F4, F5⟩ := FIN1.out HBB.out w9 v9 _ G9.out O9.out
                  refine ⟨⟨k + 1, updD Dk g (.slice a5 M5 c5), by omega, by go_num, F1, F2, F3, F4, F5⟩, by simp [intOf]; omega⟩
                · obtain rfl : M5 = 0 := by omega
                  rw [decide_eq_false hM] at HBB
                  clear hM
                  go_wp2_with fail
                  refine ⟨⟨k + 1, updD Dk g (.slice a5 0 c5), by omega, by go_num, FIN0.out HBB.out, SP6.out, KV6.out, KA6.out, TT6.out⟩, by simp [intOf]; omega⟩)
        · obtain rfl : k = sn := by omega
          have hi4 : ¬ (k : Int) < (k : Int) := by omega
          have H1 := HR.out
          have H2 := HI.out
          rw [List.take_of_length_le (by rw [← HSN.out]; exact Nat.le_refl _)] at H1
          rw [HSN.out] at H2
          have HH1 := hid H1
          have HH2 := hid H2
          clear H1 H2 HR HI
          go_wp2
          go_ret
          refine ⟨_, Dk, rfl, ?_, ?_⟩
          · rw [← HTT.out]; exact HH1.out
          · rw [← HTT.out]; exact HH2.out
end Go.Proofs.YtdnebclemngdcaaGreatDoor
namespace Go.Proofs.YtdnebclemngdcaaGreatDoor
open Go.RowKit Go.Sort Go.Maps
set_option linter.unusedSectionVars false
variable [Inhabited ComV] [DecidableEq D3] [Inhabited D3] [Inhabited Dd] [Inhabited Dn] [Inhabited OpV]

theorem setA_ext {a b : List ByteArray} (h : ∀ t, t ∈ a ↔ t ∈ b) : setA a = setA b := by
  refine rise_unique (setA_rise a) (setA_rise b) fun x => ?_
  unfold setA
  rw [mem_compact, mem_compact, List.mem_mergeSort, List.mem_mergeSort, List.mem_map, List.mem_map]
  exact ⟨fun ⟨t, ht, e⟩ => ⟨t, (h t).1 ht, e⟩, fun ⟨t, ht, e⟩ => ⟨t, (h t).2 ht, e⟩⟩
/-- What is kept of an op however it is settled. -/
def skel (x : Dn) : D3 × Int × Int × ByteArray × Bool := (x.dot, x.wt, x.o.kind, x.o.text, x.o.rem)
theorem skel_dot {x y : Dn} (h : skel x = skel y) : x.dot = y.dot := congrArg (·.1) h
theorem skel_wt {x y : Dn} (h : skel x = skel y) : x.wt = y.wt := congrArg (·.2.1) h
theorem skel_kind {x y : Dn} (h : skel x = skel y) : x.o.kind = y.o.kind := congrArg (·.2.2.1) h
theorem skel_text {x y : Dn} (h : skel x = skel y) : x.o.text = y.o.text := congrArg (·.2.2.2.1) h
theorem skel_rem {x y : Dn} (h : skel x = skel y) : x.o.rem = y.o.rem := congrArg (·.2.2.2.2) h
theorem skel_lt {x x' y y' : Dn} (h : skel x = skel x') (h' : skel y = skel y') : ltN x y = ltN x' y' := by
  unfold ltN
  rw [skel_wt h, skel_wt h', skel_dot h, skel_dot h']
theorem ltN_irrefl (x : Dn) : ltN x x = false := by
  cases h : ltN x x with
  | false => rfl
  | true => exact absurd (ltN_asymm h) (by rw [h]; decide)

def KindIs (L : List Dn) (k : Int) : Prop := ∃ x ∈ L, x.o.kind = k ∧ ∀ y ∈ L, ltN y x = false
def RegIs (L : List Dn) (t : ByteArray) : Prop := ∃ x ∈ L, x.o.kind = 1 ∧ x.o.text = t ∧ ∀ y ∈ L, y.o.kind = 1 → ltN x y = false
def sumK (L : List Dn) : Int := sumN (L.filter fun x => decide (x.o.kind = 2))
def rmv (y : Dn) (t : ByteArray) (d : D3) : Prop := y.o.kind = 3 ∧ y.o.rem = true ∧ y.o.text = t ∧ d ∈ y.o.dots
def addd (x : Dn) (t : ByteArray) (d : D3) : Prop := x.o.kind = 3 ∧ x.o.rem = false ∧ x.o.text = t ∧ x.dot = d
def LiveIs (L : List Dn) (t : ByteArray) (d : D3) : Prop := (∃ x ∈ L, addd x t d) ∧ ¬ ∃ y ∈ L, rmv y t d
/-- Two lists of ops tell the same. -/
structure Same (L L' : List Dn) : Prop where
  kind : ∀ k, KindIs L k ↔ KindIs L' k
  reg : ∀ t, RegIs L t ↔ RegIs L' t
  sum : sumK L = sumK L'
  live : ∀ t d, LiveIs L t d ↔ LiveIs L' t d
theorem Same.refl (L : List Dn) : Same L L := ⟨fun _ => Iff.rfl, fun _ => Iff.rfl, rfl, fun _ _ => Iff.rfl⟩
theorem Same.symm {L L' : List Dn} (h : Same L L') : Same L' L := ⟨fun k => (h.kind k).symm, fun t => (h.reg t).symm, h.sum.symm, fun t d => (h.live t d).symm⟩
theorem Same.trans {L L' L'' : List Dn} (h : Same L L') (h' : Same L' L'') : Same L L'' := ⟨fun k => (h.kind k).trans (h'.kind k), fun t => (h.reg t).trans (h'.reg t), h.sum.trans h'.sum, fun t d => (h.live t d).trans (h'.live t d)⟩
theorem sumK_perm {L M : List Dn} (h : L.Perm M) : sumK L = sumK M := sum_perm (h.filter _) 0
theorem Same.perm {L M : List Dn} (h : L.Perm M) : Same L M := by
  refine ⟨fun k => ?_, fun t => ?_, sumK_perm h, fun t d => ?_⟩
  · unfold KindIs; simp only [h.mem_iff]
  · unfold RegIs; simp only [h.mem_iff]
  · unfold LiveIs; simp only [h.mem_iff]
theorem sumN_from (l : List Dn) : ∀ s : Int, l.foldl (fun s d => s + d.o.n) s = s + sumN l := by
  unfold sumN
  induction l with
  | nil => intro s; simp
  | cons x r ih => intro s; rw [List.foldl_cons, List.foldl_cons, ih, ih (0 + x.o.n)]; omega
theorem sumN_append (a b : List Dn) : sumN (a ++ b) = sumN a + sumN b := by
  unfold sumN
  rw [List.foldl_append, sumN_from b]
  rfl
theorem sumK_append (a b : List Dn) : sumK (a ++ b) = sumK a + sumK b := by
  unfold sumK
  rw [List.filter_append, sumN_append]
theorem sumK_one (x : Dn) : sumK [x] = if x.o.kind = 2 then x.o.n else 0 := by
  unfold sumK
  by_cases h : x.o.kind = 2
  · simp [h, sumN]
  · simp [h, sumN]
theorem has_most (p : Dn → Prop) : ∀ L : List Dn, (∃ x ∈ L, p x) → ∃ m ∈ L, p m ∧ ∀ y ∈ L, p y → ltN m y = false
  | [], h => by obtain ⟨x, hx, _⟩ := h; simp at hx
  | a :: L, h => by
    by_cases hL : ∃ x ∈ L, p x
    · obtain ⟨m, hm, hp, hmax⟩ := has_most p L hL
      by_cases ha : p a ∧ ltN m a = true
      · refine ⟨a, List.mem_cons_self .., ha.1, fun y hy hpy => ?_⟩
        rcases List.mem_cons.1 hy with rfl | hy
        · exact ltN_irrefl _
        · exact ltN_le_trans (hmax y hy hpy) (ltN_asymm ha.2)
      · refine ⟨m, List.mem_cons_of_mem _ hm, hp, fun y hy hpy => ?_⟩
        rcases List.mem_cons.1 hy with rfl | hy
        · cases h' : ltN m y with
          | false => rfl
          | true => exact absurd ⟨hpy, h'⟩ ha
        · exact hmax y hy hpy
    · obtain ⟨x, hx, hpx⟩ := h
      rcases List.mem_cons.1 hx with rfl | hx
      · refine ⟨x, List.mem_cons_self .., hpx, fun y hy hpy => ?_⟩
        rcases List.mem_cons.1 hy with rfl | hy
        · exact ltN_irrefl _
        · exact absurd ⟨y, hy, hpy⟩ hL
      · exact absurd ⟨x, hx, hpx⟩ hL

/-- A step of settling, beside others. -/
structure Step (S S' O : List Dn) : Prop where
  sub : (S'.map skel).Sublist (S.map skel)
  head : (S'.map skel).head? = (S.map skel).head?
  reg : ∀ x ∈ S, x.o.kind = 1 → (∀ y ∈ S, y.o.kind = 1 → ltN x y = false) → x ∈ S'
  sum : sumK S' = sumK S
  gone : ∀ x ∈ S, x.o.kind = 3 → x.o.rem = false → skel x ∈ S'.map skel ∨ ∃ y ∈ S, rmv y x.o.text x.dot
  rmv : ∀ x ∈ S' ++ O, x.o.kind = 3 → x.o.rem = false → ((∃ y ∈ S, rmv y x.o.text x.dot) ↔ ∃ y ∈ S', rmv y x.o.text x.dot)
theorem Step.back {S S' O : List Dn} (h : Step S S' O) {x : Dn} (hx : x ∈ S') : ∃ y ∈ S, skel y = skel x := by
  have := h.sub.subset (List.mem_map.2 ⟨x, hx, rfl⟩)
  obtain ⟨y, hy, e⟩ := List.mem_map.1 this
  exact ⟨y, hy, e⟩
theorem Step.kindSame {S S' O : List Dn} (h : Step S S' O) (hs : S.Pairwise fun a b => ltN a b = true) (k : Int) : KindIs (S ++ O) k ↔ KindIs (S' ++ O) k := by
  cases S with
  | nil =>
    have : S' = [] := by
      have := h.sub
      rw [List.map_nil, List.sublist_nil, List.map_eq_nil_iff] at this
      exact this
    rw [this]
  | cons s T =>
    cases S' with
    | nil => have := h.head; simp at this
    | cons s' T' =>
      have hss : skel s' = skel s := by have := h.head; simpa using this
      have hT := (List.pairwise_cons.1 hs).1
      have least : ∀ y ∈ s :: T, ltN y s = false := fun y hy => by
        rcases List.mem_cons.1 hy with rfl | hy
        · exact ltN_irrefl _
        · exact ltN_asymm (hT y hy)
      have least' : ∀ y ∈ s' :: T', ltN y s' = false := fun y hy => by
        obtain ⟨y0, hy0, e⟩ := h.back hy
        rw [skel_lt e.symm hss]
        exact least y0 hy0
      constructor
      · rintro ⟨x, hx, hk, hl⟩
        rcases List.mem_append.1 hx with hx | hx
        · have : x = s := by
            rcases List.mem_cons.1 hx with e | hx
            · exact e
            · have h1 := hT x hx
              rw [hl s (by simp)] at h1
              cases h1
          subst this
          refine ⟨s', by simp, by rw [skel_kind hss, hk], fun y hy => ?_⟩
          rcases List.mem_append.1 hy with hy | hy
          · exact least' y hy
          · rw [skel_lt rfl hss]; exact hl y (List.mem_append_right _ hy)
        · refine ⟨x, List.mem_append_right _ hx, hk, fun y hy => ?_⟩
          rcases List.mem_append.1 hy with hy | hy
          · obtain ⟨y0, hy0, e⟩ := h.back hy
            rw [skel_lt e.symm rfl]
            exact hl y0 (List.mem_append_left _ hy0)
          · exact hl y (List.mem_append_right _ hy)
      · rintro ⟨x, hx, hk, hl⟩
        rcases List.mem_append.1 hx with hx | hx
        · obtain ⟨x0, hx0, e⟩ := h.back hx
          have : skel s = skel x := by
            rcases List.mem_cons.1 hx0 with e' | hx0
            · rw [← e', e]
            · have h1 := hT x0 hx0
              have h2 := hl s' (by simp)
              rw [skel_lt hss e.symm] at h2
              rw [h2] at h1
              cases h1
          refine ⟨s, by simp, by rw [skel_kind this, hk], fun y hy => ?_⟩
          rcases List.mem_append.1 hy with hy | hy
          · exact least y hy
          · rw [skel_lt rfl this]; exact hl y (List.mem_append_right _ hy)
        · refine ⟨x, List.mem_append_right _ hx, hk, fun y hy => ?_⟩
          rcases List.mem_append.1 hy with hy | hy
          · have h1 := hl s' (by simp)
            rw [skel_lt hss rfl] at h1
            exact ltN_le_trans h1 (least y hy)
          · exact hl y (List.mem_append_right _ hy)
theorem Step.regSame {S S' O : List Dn} (h : Step S S' O) (t : ByteArray) : RegIs (S ++ O) t ↔ RegIs (S' ++ O) t := by
  constructor
  · rintro ⟨x, hx, hk, ht, hl⟩
    rcases List.mem_append.1 hx with hx | hx
    · refine ⟨x, List.mem_append_left _ (h.reg x hx hk fun y hy hy1 => hl y (List.mem_append_left _ hy) hy1), hk, ht, fun y hy hy1 => ?_⟩
      rcases List.mem_append.1 hy with hy | hy
      · obtain ⟨y0, hy0, e⟩ := h.back hy
        rw [skel_lt rfl e.symm]
        exact hl y0 (List.mem_append_left _ hy0) ((skel_kind e).trans hy1)
      · exact hl y (List.mem_append_right _ hy) hy1
    · refine ⟨x, List.mem_append_right _ hx, hk, ht, fun y hy hy1 => ?_⟩
      rcases List.mem_append.1 hy with hy | hy
      · obtain ⟨y0, hy0, e⟩ := h.back hy
        rw [skel_lt rfl e.symm]
        exact hl y0 (List.mem_append_left _ hy0) ((skel_kind e).trans hy1)
      · exact hl y (List.mem_append_right _ hy) hy1
  · rintro ⟨x, hx, hk, ht, hl⟩
    have up : ∀ y ∈ S, y.o.kind = 1 → ltN x y = false := fun y hy hy1 => by
      obtain ⟨m, hm, hm1, hmax⟩ := has_most (fun z => z.o.kind = 1) S ⟨y, hy, hy1⟩
      exact ltN_le_trans (hmax y hy hy1) (hl m (List.mem_append_left _ (h.reg m hm hm1 hmax)) hm1)
    have up2 : ∀ y ∈ S ++ O, y.o.kind = 1 → ltN x y = false := fun y hy hy1 => by
      rcases List.mem_append.1 hy with hy | hy
      · exact up y hy hy1
      · exact hl y (List.mem_append_right _ hy) hy1
    rcases List.mem_append.1 hx with hx | hx
    · obtain ⟨x0, hx0, e⟩ := h.back hx
      exact ⟨x0, List.mem_append_left _ hx0, (skel_kind e).trans hk, (skel_text e).trans ht, fun y hy hy1 => by rw [skel_lt e rfl]; exact up2 y hy hy1⟩
    · exact ⟨x, List.mem_append_right _ hx, hk, ht, up2⟩
theorem Step.liveSame {S S' O : List Dn} (h : Step S S' O) (t : ByteArray) (d : D3) : LiveIs (S ++ O) t d ↔ LiveIs (S' ++ O) t d := by
  constructor
  · rintro ⟨⟨x, hx, h3, hr, ht, hd⟩, hn⟩
    have hx' : ∃ x' ∈ S' ++ O, addd x' t d := by
      rcases List.mem_append.1 hx with hx | hx
      · rcases h.gone x hx h3 hr with h1 | ⟨y, hy, h1⟩
        · obtain ⟨x', hx', e⟩ := List.mem_map.1 h1
          exact ⟨x', List.mem_append_left _ hx', (skel_kind e).trans h3, (skel_rem e).trans hr, (skel_text e).trans ht, (skel_dot e).trans hd⟩
        · exact absurd ⟨y, List.mem_append_left _ hy, by rw [← ht, ← hd]; exact h1⟩ hn
      · exact ⟨x, List.mem_append_right _ hx, h3, hr, ht, hd⟩
    refine ⟨hx', ?_⟩
    rintro ⟨y, hy, hry⟩
    obtain ⟨x', hx', h3', hr', ht', hd'⟩ := hx'
    rcases List.mem_append.1 hy with hy | hy
    · have := (h.rmv x' hx' h3' hr').2 ⟨y, hy, by rw [ht', hd']; exact hry⟩
      obtain ⟨z, hz, hz'⟩ := this
      exact hn ⟨z, List.mem_append_left _ hz, by rw [← ht', ← hd']; exact hz'⟩
    · exact hn ⟨y, List.mem_append_right _ hy, hry⟩
  · rintro ⟨⟨x, hx, h3, hr, ht, hd⟩, hn⟩
    refine ⟨?_, ?_⟩
    · rcases List.mem_append.1 hx with hx | hx
      · obtain ⟨x0, hx0, e⟩ := h.back hx
        exact ⟨x0, List.mem_append_left _ hx0, (skel_kind e).trans h3, (skel_rem e).trans hr, (skel_text e).trans ht, (skel_dot e).trans hd⟩
      · exact ⟨x, List.mem_append_right _ hx, h3, hr, ht, hd⟩
    · rintro ⟨y, hy, hry⟩
      rcases List.mem_append.1 hy with hy | hy
      · obtain ⟨z, hz, hz'⟩ := (h.rmv x hx h3 hr).1 ⟨y, hy, by rw [ht, hd]; exact hry⟩
        exact hn ⟨z, List.mem_append_left _ hz, by rw [← ht, ← hd]; exact hz'⟩
      · exact hn ⟨y, List.mem_append_right _ hy, hry⟩
/-- A step tells the same, beside whatever others. -/
theorem Step.same {S S' O : List Dn} (h : Step S S' O) (hs : S.Pairwise fun a b => ltN a b = true) : Same (S ++ O) (S' ++ O) where
  kind := h.kindSame hs
  reg := h.regSame
  sum := by rw [sumK_append, sumK_append, h.sum]
  live := h.liveSame
/-- It keeps the order. -/
theorem Step.rise {S S' O : List Dn} (h : Step S S' O) (hs : S.Pairwise fun a b => ltN a b = true) : S'.Pairwise fun a b => ltN a b = true := by
  have key : ∀ L : List Dn, (L.Pairwise fun a b => ltN a b = true) ↔ (L.map skel).Pairwise fun a b => decide (a.2.1 < b.2.1 ∨ a.2.1 = b.2.1 ∧ ltD a.1 b.1 = true) = true := fun L => by
    rw [List.pairwise_map]
    exact Iff.rfl
  rw [key] at hs ⊢
  exact hs.sublist h.sub
end Go.Proofs.YtdnebclemngdcaaGreatDoor
namespace Go.Proofs.YtdnebclemngdcaaGreatDoor
open Go.RowKit Go.Sort Go.Maps
set_option linter.unusedSectionVars false
variable [Inhabited ComV] [DecidableEq D3] [Inhabited D3] [Inhabited Dd] [Inhabited Dn] [Inhabited OpV]

/-- A list of ops in order. -/
structure Ord (ys : List Dn) : Prop where
  rise : ys.Pairwise fun a b => ltN b a = false
  ne : ys.Pairwise fun a b => a.dot ≠ b.dot
theorem Ord.lt {ys : List Dn} (h : Ord ys) : ys.Pairwise fun a b => ltN a b = true := by
  refine (h.rise.and h.ne).imp ?_
  intro a b ⟨h1, h2⟩
  cases h3 : ltN a b with
  | true => rfl
  | false => exact absurd (ltN_total h3 h1) h2
theorem Ord.cons_least {x : Dn} {ys : List Dn} (h : Ord (x :: ys)) : ∀ y ∈ x :: ys, ltN y x = false := fun y hy => by
  rcases List.mem_cons.1 hy with rfl | hy
  · exact ltN_irrefl _
  · exact (List.pairwise_cons.1 h.rise).1 y hy
theorem Ord.kind {x : Dn} {ys : List Dn} (h : Ord (x :: ys)) {k : Int} : KindIs (x :: ys) k ↔ x.o.kind = k := by
  constructor
  · rintro ⟨z, hz, hk, hl⟩
    rcases List.mem_cons.1 hz with rfl | hz
    · exact hk
    · have h1 := (List.pairwise_cons.1 h.lt).1 z hz
      rw [hl x (by simp)] at h1
      cases h1
  · exact fun e => ⟨x, by simp, e, h.cons_least⟩
theorem kindIs_nil (k : Int) : ¬ KindIs [] k := fun ⟨_, h, _⟩ => by simp at h
theorem Ord.filter {ys : List Dn} (h : Ord ys) (p : Dn → Bool) : Ord (ys.filter p) := ⟨h.rise.filter _, h.ne.filter _⟩
theorem ofKind_cons (x : Dn) (ys : List Dn) : ofKind (x :: ys) = x :: ys.filter (fun y => decide (y.o.kind = x.o.kind)) := by
  unfold ofKind
  show (x :: ys).filter (fun y => decide (y.o.kind = x.o.kind)) = _
  rw [List.filter_cons, if_pos (by simp)]
theorem mem_ofKind {x : Dn} {ys : List Dn} {z : Dn} : z ∈ ofKind (x :: ys) ↔ z ∈ x :: ys ∧ z.o.kind = x.o.kind := by
  unfold ofKind
  show z ∈ (x :: ys).filter (fun y => decide (y.o.kind = x.o.kind)) ↔ _
  rw [List.mem_filter, decide_eq_true_eq]
theorem last_most {ys : List Dn} (h : Ord ys) (h0 : ys ≠ []) : ys[ys.length - 1]! ∈ ys ∧ ∀ y ∈ ys, ltN ys[ys.length - 1]! y = false := by
  have hl : 0 < ys.length := List.length_pos_iff.2 h0
  rw [getElem!_pos ys _ (by omega)]
  refine ⟨List.getElem_mem _, fun y hy => ?_⟩
  obtain ⟨i, hi, rfl⟩ := List.getElem_of_mem hy
  rcases Nat.lt_or_ge i (ys.length - 1) with h1 | h1
  · exact List.pairwise_iff_getElem.1 h.rise i (ys.length - 1) hi (by omega) h1
  · have e : ys[i] = ys[ys.length - 1] := by congr 1; omega
    rw [e]; exact ltN_irrefl _
/-- The register's text is the last one's. -/
theorem Ord.reg {x : Dn} {ys : List Dn} (h : Ord (x :: ys)) (hk : x.o.kind = 1) (t : ByteArray) : RegIs (x :: ys) t ↔ (ofKind (x :: ys))[(ofKind (x :: ys)).length - 1]!.o.text = t := by
  have ho : Ord (ofKind (x :: ys)) := h.filter _
  have h0 : ofKind (x :: ys) ≠ [] := by rw [ofKind_cons]; simp
  obtain ⟨h1, h2⟩ := last_most ho h0
  obtain ⟨h3, h4⟩ := mem_ofKind.1 h1
  constructor
  · rintro ⟨z, hz, hz1, hzt, hl⟩
    have hz' : z ∈ ofKind (x :: ys) := mem_ofKind.2 ⟨hz, hz1.trans hk.symm⟩
    have e1 := hl _ h3 (h4.trans hk)
    have e2 := h2 z hz'
    have e := ltN_total e1 e2
    have : z = (ofKind (x :: ys))[(ofKind (x :: ys)).length - 1]! := by
      obtain ⟨i, hi, ei⟩ := List.getElem_of_mem hz'
      obtain ⟨j, hj, ej⟩ := List.getElem_of_mem h1
      rcases Nat.lt_trichotomy i j with q | q | q
      · have := List.pairwise_iff_getElem.1 ho.ne i j hi hj q
        rw [ei, ej] at this
        exact absurd e this
      · subst q; rw [← ei, ← ej]
      · have := List.pairwise_iff_getElem.1 ho.ne j i hj hi q
        rw [ei, ej] at this
        exact absurd e.symm this
    rw [← this]
    exact hzt
  · intro e
    refine ⟨_, h3, h4.trans hk, e, fun y hy hy1 => h2 y (mem_ofKind.2 ⟨hy, hy1.trans hk.symm⟩)⟩
/-- What is known of ops in which nothing is wrong. -/
structure Plain (ys : List Dn) : Prop where
  kind : ∀ x ∈ ys, x.o.kind = 1 ∨ x.o.kind = 2 ∨ x.o.kind = 3
  rem : ∀ x ∈ ys, x.o.rem = false → x.o.dots = []
theorem mem_stand {x : Dn} {ys : List Dn} (h : Ord (x :: ys)) (hp : Plain (x :: ys)) (hk : x.o.kind = 3) {z : Dn} : z ∈ standA (ofKind (x :: ys)) ↔ (z ∈ x :: ys ∧ z.o.kind = 3 ∧ z.o.rem = false) ∧ ¬ ∃ y ∈ x :: ys, rmv y z.o.text z.dot := by
  have ho : Ord (ofKind (x :: ys)) := h.filter _
  have hr : ∀ y ∈ ofKind (x :: ys), y.o.rem = false → y.o.dots = [] := fun y hy => hp.rem y (mem_ofKind.1 hy).1
  unfold standA
  rw [List.mem_filter]
  constructor
  · rintro ⟨h1, h2⟩
    rw [live_final ho.ne hr z h1] at h2
    obtain ⟨h3, h4⟩ := mem_ofKind.1 h1
    unfold liveB at h2
    rw [Bool.and_eq_true, Bool.not_eq_true', Bool.not_eq_true', List.any_eq_false] at h2
    refine ⟨⟨h3, h4.trans hk, h2.1⟩, ?_⟩
    rintro ⟨y, hy, hy3, hyr, hyt, hyd⟩
    refine h2.2 y (mem_ofKind.2 ⟨hy, hy3.trans hk.symm⟩) ?_
    simp [hyr, hyt, hyd]
  · rintro ⟨⟨h1, h2, h3⟩, h4⟩
    have hm : z ∈ ofKind (x :: ys) := mem_ofKind.2 ⟨h1, h2.trans hk.symm⟩
    refine ⟨hm, ?_⟩
    rw [live_final ho.ne hr z hm]
    unfold liveB
    rw [Bool.and_eq_true, Bool.not_eq_true', Bool.not_eq_true', List.any_eq_false]
    refine ⟨h3, fun y hy e => h4 ⟨y, (mem_ofKind.1 hy).1, (mem_ofKind.1 hy).2.trans hk, ?_⟩⟩
    simp only [Bool.and_eq_true, decide_eq_true_eq] at e
    exact ⟨e.1, e.2.1, e.2.2⟩
theorem mem_stand_live {x : Dn} {ys : List Dn} (h : Ord (x :: ys)) (hp : Plain (x :: ys)) (hk : x.o.kind = 3) (t : ByteArray) (d : D3) : (∃ z ∈ standA (ofKind (x :: ys)), z.o.text = t ∧ z.dot = d) ↔ LiveIs (x :: ys) t d := by
  constructor
  · rintro ⟨z, hz, rfl, rfl⟩
    obtain ⟨⟨h1, h2, h3⟩, h4⟩ := (mem_stand h hp hk).1 hz
    exact ⟨⟨z, h1, h2, h3, rfl, rfl⟩, h4⟩
  · rintro ⟨⟨z, hz, h3, hr, rfl, rfl⟩, h4⟩
    exact ⟨z, (mem_stand h hp hk).2 ⟨⟨hz, h3, hr⟩, h4⟩, rfl, rfl⟩
/-- What tells the same is the same value. -/
theorem same_val {ys ys' : List Dn} (h : Ord ys) (h' : Ord ys') (hp : Plain ys) (hp' : Plain ys') (hs : Same ys ys') : valA (ofKind ys) = valA (ofKind ys') := by
  cases ys with
  | nil =>
    cases ys' with
    | nil => rfl
    | cons x' ys' => exact absurd ((hs.kind x'.o.kind).2 (h'.kind.2 rfl)) (kindIs_nil _)
  | cons x ys =>
    cases ys' with
    | nil => exact absurd ((hs.kind x.o.kind).1 (h.kind.2 rfl)) (kindIs_nil _)
    | cons x' ys' =>
      have hk : x'.o.kind = x.o.kind := h'.kind.1 ((hs.kind x.o.kind).1 (h.kind.2 rfl))
      have g : ∀ (x : Dn) (ys : List Dn), valA (ofKind (x :: ys)) = if x.o.kind = 1 then ⟨1, (ofKind (x :: ys))[(ofKind (x :: ys)).length - 1]!.o.text, 0, []⟩ else if x.o.kind = 2 then ⟨2, ByteArray.empty, sumN (ofKind (x :: ys)), []⟩ else ⟨3, ByteArray.empty, 0, setA ((standA (ofKind (x :: ys))).map (·.o.text))⟩ := fun x ys => by
        unfold valA
        rw [if_neg (by rw [ofKind_cons]; simp)]
        have : (ofKind (x :: ys))[0]!.o.kind = x.o.kind := by rw [ofKind_cons]; rfl
        rw [this]
      rw [g, g, hk]
      by_cases h1 : x.o.kind = 1
      · rw [if_pos h1, if_pos h1]
        have := (h'.reg (hk.trans h1) _).1 ((hs.reg _).1 ((h.reg h1 _).2 rfl))
        rw [this]
      · rw [if_neg h1, if_neg h1]
        by_cases h2 : x.o.kind = 2
        · rw [if_pos h2, if_pos h2]
          have e : ∀ (x : Dn) (ys : List Dn), x.o.kind = 2 → ofKind (x :: ys) = (x :: ys).filter fun y => decide (y.o.kind = 2) := fun x ys hx => by
            unfold ofKind
            show (x :: ys).filter (fun y => decide (y.o.kind = x.o.kind)) = _
            rw [hx]
          rw [e x ys h2, e x' ys' (hk.trans h2)]
          have := hs.sum
          unfold sumK at this
          rw [this]
        · rw [if_neg h2, if_neg h2]
          have h3 : x.o.kind = 3 := by have := hp.kind x (by simp); omega
          congr 1
          refine setA_ext fun t => ?_
          rw [List.mem_map, List.mem_map]
          constructor
          · rintro ⟨z, hz, e⟩
            obtain ⟨z', hz', e', _⟩ := (mem_stand_live h' hp' (hk.trans h3) t z.dot).2 ((hs.live t z.dot).1 ((mem_stand_live h hp h3 t z.dot).1 ⟨z, hz, e, rfl⟩))
            exact ⟨z', hz', e'⟩
          · rintro ⟨z, hz, e⟩
            obtain ⟨z', hz', e', _⟩ := (mem_stand_live h hp h3 t z.dot).2 ((hs.live t z.dot).2 ((mem_stand_live h' hp' (hk.trans h3) t z.dot).1 ⟨z, hz, e, rfl⟩))
            exact ⟨z', hz', e'⟩
theorem stand_ne {ys : List Dn} (h : Ord ys) (p : Dn → Bool) : ((ys.filter p).map (·.dot)).Pairwise (· ≠ ·) := by
  rw [List.pairwise_map]
  exact h.ne.filter _
theorem dotsUp_same {x x' : Dn} {ys ys' : List Dn} (h : Ord (x :: ys)) (h' : Ord (x' :: ys')) (hp : Plain (x :: ys)) (hp' : Plain (x' :: ys')) (hs : Same (x :: ys) (x' :: ys')) (hk : x.o.kind = 3) (hk' : x'.o.kind = 3) (text : ByteArray) : (dotsUp text (ofKind (x :: ys))).Perm (dotsUp text (ofKind (x' :: ys'))) := by
  unfold dotsUp
  have ne : ∀ (x : Dn) (ys : List Dn), Ord (x :: ys) → (((standA (ofKind (x :: ys))).filter fun z => decide (z.o.text = text)).map (·.dot)).Pairwise (· ≠ ·) := fun x ys h => stand_ne (ys := standA (ofKind (x :: ys))) ((h.filter _).filter _) _
  refine perm_of_mem (ne x ys h) (ne x' ys' h') fun d => ?_
  simp only [List.mem_map, List.mem_filter, decide_eq_true_eq]
  constructor
  · rintro ⟨z, ⟨hz, e⟩, rfl⟩
    obtain ⟨z', hz', e', e2⟩ := (mem_stand_live h' hp' hk' text z.dot).2 ((hs.live text z.dot).1 ((mem_stand_live h hp hk text z.dot).1 ⟨z, hz, e, rfl⟩))
    exact ⟨z', ⟨hz', e'⟩, e2⟩
  · rintro ⟨z, ⟨hz, e⟩, rfl⟩
    obtain ⟨z', hz', e', e2⟩ := (mem_stand_live h hp hk text z.dot).2 ((hs.live text z.dot).2 ((mem_stand_live h' hp' hk' text z.dot).1 ⟨z, hz, e, rfl⟩))
    exact ⟨z', ⟨hz', e'⟩, e2⟩
/-- What tells the same has the same dots. -/
theorem same_dots {ys ys' : List Dn} (h : Ord ys) (h' : Ord ys') (hp : Plain ys) (hp' : Plain ys') (hs : Same ys ys') {text : ByteArray} {out : List D3} (hd : IsDots text (ofKind ys) out) : IsDots text (ofKind ys') out := by
  cases ys with
  | nil =>
    cases ys' with
    | nil => exact hd
    | cons x' ys' => exact absurd ((hs.kind x'.o.kind).2 (h'.kind.2 rfl)) (kindIs_nil _)
  | cons x ys =>
    cases ys' with
    | nil => exact absurd ((hs.kind x.o.kind).1 (h.kind.2 rfl)) (kindIs_nil _)
    | cons x' ys' =>
      have hk : x'.o.kind = x.o.kind := h'.kind.1 ((hs.kind x.o.kind).1 (h.kind.2 rfl))
      have e : (ofKind (x :: ys))[0]!.o.kind = x.o.kind := by rw [ofKind_cons]; rfl
      have e' : (ofKind (x' :: ys'))[0]!.o.kind = x.o.kind := by rw [ofKind_cons, ← hk]; rfl
      have n : ofKind (x :: ys) ≠ [] := by rw [ofKind_cons]; simp
      have n' : ofKind (x' :: ys') ≠ [] := by rw [ofKind_cons]; simp
      unfold IsDots at hd ⊢
      rw [e] at hd
      rw [e']
      rcases hd with ⟨h1, h2⟩ | ⟨⟨_, h1⟩, h2, h3⟩
      · exact .inl ⟨.inr (h1.resolve_left n), h2⟩
      · exact .inr ⟨⟨n', h1⟩, h2.trans (dotsUp_same h h' hp hp' hs h1 (hk.trans h1) text), h3⟩
end Go.Proofs.YtdnebclemngdcaaGreatDoor
namespace Go.Proofs.YtdnebclemngdcaaGreatDoor
open Go.RowKit Go.Sort Go.Maps
set_option linter.unusedSectionVars false
variable [Inhabited ComV] [DecidableEq D3] [Inhabited D3] [Inhabited Dd] [Inhabited Dn] [Inhabited OpV]

/-- The op of a part. -/
def k1 (c : ComV) : OpV := c.ops[0]!
def dn1 (c : ComV) : Dn := dnOf c (k1 c)
def withOp (c : ComV) (o : OpV) : ComV := ⟨c.when_, c.place, [o]⟩
theorem k1_withOp (c : ComV) (o : OpV) : k1 (withOp c o) = o := rfl
/-- Which are kept, by their number and by what they are. -/
def keepI (p : Nat → ComV → Bool) (l : List ComV) : Nat → List ComV
  | 0 => []
  | k + 1 => keepI p l k ++ (if p k l[k]! then [l[k]!] else [])
theorem keepI_mem {p : Nat → ComV → Bool} {l : List ComV} {c : ComV} : ∀ {k : Nat}, c ∈ keepI p l k ↔ ∃ i, i < k ∧ p i l[i]! = true ∧ l[i]! = c
  | 0 => by simp [keepI]
  | k + 1 => by
    unfold keepI
    rw [List.mem_append, keepI_mem]
    constructor
    · rintro (⟨i, h1, h2, h3⟩ | h)
      · exact ⟨i, by omega, h2, h3⟩
      · split at h
        · rename_i hp
          exact ⟨k, by omega, hp, (List.mem_singleton.1 h).symm⟩
        · simp at h
    · rintro ⟨i, h1, h2, h3⟩
      rcases Nat.lt_or_ge i k with h | h
      · exact .inl ⟨i, h, h2, h3⟩
      · obtain rfl : i = k := by omega
        rw [if_pos h2]
        exact .inr (List.mem_singleton.2 h3.symm)
theorem take_snoc {α : Type} [Inhabited α] {l : List α} {k : Nat} (h : k < l.length) : l.take (k + 1) = l.take k ++ [l[k]!] := by
  rw [List.take_succ_eq_append_getElem h, getElem!_pos l k h]
theorem keepI_sub (p : Nat → ComV → Bool) (l : List ComV) : ∀ k, k ≤ l.length → (keepI p l k).Sublist (l.take k)
  | 0, _ => by simp [keepI]
  | k + 1, h => by
    unfold keepI
    rw [take_snoc (by omega)]
    refine (keepI_sub p l k (by omega)).append ?_
    split
    · exact List.Sublist.refl _
    · exact List.nil_sublist _
theorem keepI_head {p : Nat → ComV → Bool} (l : List ComV) (h0 : ∀ c, p 0 c = true) : ∀ k, 0 < k → k ≤ l.length → (keepI p l k).head? = l.head?
  | 0, h, _ => by omega
  | 1, _, h => by
    have e : keepI p l 1 = [l[0]!] := by
      show [] ++ _ = _
      rw [List.nil_append, if_pos (h0 _)]
    cases l with
    | nil => simp at h
    | cons a r => rw [e]; rfl
  | k + 2, _, h => by
    have ih := keepI_head l h0 (k + 1) (by omega) (by omega)
    show (keepI p l (k + 1) ++ _).head? = _
    rw [List.head?_append, ih]
    cases l with
    | nil => simp at h
    | cons a r => rfl
theorem keepI_all {p : Nat → ComV → Bool} {l : List ComV} : (keepI p l l.length).Sublist l := by
  have := keepI_sub p l l.length (Nat.le_refl _)
  rwa [List.take_length] at this
theorem keepI_head_all {p : Nat → ComV → Bool} {l : List ComV} (h0 : ∀ c, p 0 c = true) : (keepI p l l.length).head? = l.head? := by
  cases l with
  | nil => rfl
  | cons a r => exact keepI_head _ h0 _ (by simp) (Nat.le_refl _)
theorem keepI_sum {p : Nat → ComV → Bool} {l : List ComV} (h : ∀ i, i < l.length → p i l[i]! = false → (k1 l[i]!).kind ≠ 2) : ∀ k, k ≤ l.length → sumK ((keepI p l k).map dn1) = sumK ((l.take k).map dn1)
  | 0, _ => rfl
  | k + 1, hk => by
    rw [take_snoc (by omega)]
    show sumK ((keepI p l k ++ _).map dn1) = _
    rw [List.map_append, List.map_append, sumK_append, sumK_append, keepI_sum h k (by omega)]
    congr 1
    split
    · rfl
    · rename_i hp
      have := h k (by omega) (by simpa using hp)
      rw [List.map_nil, List.map_cons, List.map_nil, sumK_one, if_neg (by exact this)]
      rfl
theorem keepI_sum_all {p : Nat → ComV → Bool} {l : List ComV} (h : ∀ i, i < l.length → p i l[i]! = false → (k1 l[i]!).kind ≠ 2) : sumK ((keepI p l l.length).map dn1) = sumK (l.map dn1) := by
  rw [keepI_sum h _ (Nat.le_refl _), List.take_length]
theorem get_mem {α : Type} [Inhabited α] {l : List α} {c : α} (h : c ∈ l) : ∃ i, i < l.length ∧ l[i]! = c := by
  obtain ⟨i, hi, rfl⟩ := List.getElem_of_mem h
  exact ⟨i, hi, getElem!_pos l i hi⟩
/-- A step that keeps some, the first one among them. -/
theorem keepI_step {p : Nat → ComV → Bool} {l : List ComV} (O : List Dn) (h0 : ∀ c, p 0 c = true)
    (hreg : ∀ i, i < l.length → p i l[i]! = false → (k1 l[i]!).kind = 1 → ∃ j, j < l.length ∧ (k1 l[j]!).kind = 1 ∧ ltN (dn1 l[i]!) (dn1 l[j]!) = true)
    (hcnt : ∀ i, i < l.length → p i l[i]! = false → (k1 l[i]!).kind ≠ 2)
    (hadd : ∀ i, i < l.length → p i l[i]! = false → (k1 l[i]!).kind = 3 → (k1 l[i]!).rem = false → ∃ y ∈ l.map dn1, rmv y (k1 l[i]!).text (dn1 l[i]!).dot)
    (hrem : ∀ i, i < l.length → p i l[i]! = false → (k1 l[i]!).kind = 3 → (k1 l[i]!).rem = true → (k1 l[i]!).dots = []) : Step (l.map dn1) ((keepI p l l.length).map dn1) O where
  sub := (keepI_all.map _).map _
  head := by rw [List.head?_map, List.head?_map, List.head?_map, List.head?_map, keepI_head_all h0]
  reg := by
    intro x hx hk hl
    obtain ⟨c, hc, rfl⟩ := List.mem_map.1 hx
    obtain ⟨i, hi, rfl⟩ := get_mem hc
    refine List.mem_map.2 ⟨_, keepI_mem.2 ⟨i, hi, ?_, rfl⟩, rfl⟩
    cases hp : p i l[i]! with
    | true => rfl
    | false =>
      obtain ⟨j, hj, hj1, hlt⟩ := hreg i hi hp hk
      have := hl (dn1 l[j]!) (List.mem_map.2 ⟨_, by rw [getElem!_pos l j hj]; exact List.getElem_mem _, rfl⟩) hj1
      rw [this] at hlt
      cases hlt
  sum := keepI_sum_all hcnt
  gone := by
    intro x hx hk hr
    obtain ⟨c, hc, rfl⟩ := List.mem_map.1 hx
    obtain ⟨i, hi, rfl⟩ := get_mem hc
    cases hp : p i l[i]! with
    | true => exact .inl (List.mem_map.2 ⟨_, List.mem_map.2 ⟨_, keepI_mem.2 ⟨i, hi, hp, rfl⟩, rfl⟩, rfl⟩)
    | false => exact .inr (hadd i hi hp hk hr)
  rmv := by
    intro x _ _ _
    constructor
    · rintro ⟨y, hy, h3, hr, ht, hd⟩
      obtain ⟨c, hc, rfl⟩ := List.mem_map.1 hy
      obtain ⟨i, hi, rfl⟩ := get_mem hc
      refine ⟨_, List.mem_map.2 ⟨_, keepI_mem.2 ⟨i, hi, ?_, rfl⟩, rfl⟩, h3, hr, ht, hd⟩
      cases hp : p i l[i]! with
      | true => rfl
      | false =>
        have e := hrem i hi hp h3 hr
        have : (dn1 l[i]!).o.dots = [] := e
        rw [this] at hd
        simp at hd
    · rintro ⟨y, hy, h⟩
      obtain ⟨c, hc, rfl⟩ := List.mem_map.1 hy
      exact ⟨_, List.mem_map.2 ⟨c, keepI_all.subset hc, rfl⟩, h⟩

/-- The number of the last register among the first so many. -/
def lastIx (l : List ComV) : Nat → Int
  | 0 => -1
  | k + 1 => if (k1 l[k]!).kind = 1 then (k : Int) else lastIx l k
theorem lastIx_reg {l : List ComV} : ∀ {k i : Nat}, i < k → (k1 l[i]!).kind = 1 → ∃ j : Nat, lastIx l k = j ∧ i ≤ j ∧ j < k ∧ (k1 l[j]!).kind = 1
  | 0, _, h, _ => by omega
  | k + 1, i, h, h1 => by
    unfold lastIx
    by_cases hk : (k1 l[k]!).kind = 1
    · rw [if_pos hk]
      exact ⟨k, rfl, by omega, by omega, hk⟩
    · rw [if_neg hk]
      have : i < k := by
        rcases Nat.lt_or_ge i k with h' | h'
        · exact h'
        · obtain rfl : i = k := by omega
          exact absurd h1 hk
      obtain ⟨j, e, h2, h3, h4⟩ := lastIx_reg this h1
      exact ⟨j, e, h2, by omega, h4⟩
def regP (l : List ComV) (i : Nat) (c : ComV) : Bool := decide (i = 0) || (decide ((i : Int) = lastIx l l.length) || !decide ((k1 c).kind = 1))
def lastReg (l : List ComV) : List ComV := keepI (regP l) l l.length
theorem regP_false {l : List ComV} {i : Nat} {c : ComV} (h : regP l i c = false) : i ≠ 0 ∧ (i : Int) ≠ lastIx l l.length ∧ (k1 c).kind = 1 := by
  unfold regP at h
  rw [Bool.or_eq_false_iff, Bool.or_eq_false_iff, decide_eq_false_iff_not, decide_eq_false_iff_not, Bool.not_eq_false', decide_eq_true_eq] at h
  exact ⟨h.1, h.2.1, h.2.2⟩
theorem lastReg_step {l : List ComV} (hs : (l.map dn1).Pairwise fun a b => ltN a b = true) (O : List Dn) : Step (l.map dn1) ((lastReg l).map dn1) O := by
  refine keepI_step O (fun c => by simp [regP]) (fun i hi hp h1 => ?_) (fun i hi hp => ?_) (fun i hi hp h3 => ?_) (fun i hi hp h3 => ?_)
  · obtain ⟨_, h2, _⟩ := regP_false hp
    obtain ⟨j, e, hij, hj, hj1⟩ := lastIx_reg hi h1
    have hlt : i < j := by omega
    refine ⟨j, hj, hj1, ?_⟩
    rw [List.pairwise_map, List.pairwise_iff_getElem] at hs
    rw [getElem!_pos l i hi, getElem!_pos l j hj]
    exact hs i j hi hj hlt
  · rw [(regP_false hp).2.2]; decide
  · rw [(regP_false hp).2.2] at h3; exact absurd h3 (by decide)
  · rw [(regP_false hp).2.2] at h3; exact absurd h3 (by decide)

def isAddB (c : ComV) : Bool := decide ((k1 c).kind = 3) && !(k1 c).rem
/-- Does one of these take this text at this dot away? -/
def removedB (l : List ComV) (d : D3) (t : ByteArray) : Bool := l.any fun c => decide ((k1 c).text = t) && decide (d ∈ (k1 c).dots)
def wrP (l : List ComV) (i : Nat) (c : ComV) : Bool := decide (i = 0) || (!isAddB c || !removedB l (dn1 c).dot (k1 c).text)
def withoutRem (l : List ComV) : List ComV := keepI (wrP l) l l.length
/-- What is known of parts in which nothing is wrong. -/
structure PartOk (c : ComV) : Prop where
  one : c.ops.length = 1
  kind : (k1 c).kind = 1 ∨ (k1 c).kind = 2 ∨ (k1 c).kind = 3
  rem : (k1 c).dots ≠ [] → (k1 c).kind = 3 ∧ (k1 c).rem = true
theorem wrP_false {l : List ComV} {i : Nat} {c : ComV} (h : wrP l i c = false) : i ≠ 0 ∧ (k1 c).kind = 3 ∧ (k1 c).rem = false ∧ removedB l (dn1 c).dot (k1 c).text = true := by
  unfold wrP isAddB at h
  rw [Bool.or_eq_false_iff, Bool.or_eq_false_iff, decide_eq_false_iff_not, Bool.not_eq_false', Bool.not_eq_false', Bool.and_eq_true, decide_eq_true_eq, Bool.not_eq_true'] at h
  exact ⟨h.1, h.2.1.1, h.2.1.2, h.2.2⟩
theorem withoutRem_step {l : List ComV} (hl : ∀ c ∈ l, PartOk c) (O : List Dn) : Step (l.map dn1) ((withoutRem l).map dn1) O := by
  refine keepI_step O (fun c => by simp [wrP]) (fun i hi hp h1 => ?_) (fun i hi hp => ?_) (fun i hi hp h3 hr => ?_) (fun i hi hp h3 hr => ?_)
  · rw [(wrP_false hp).2.1] at h1; exact absurd h1 (by decide)
  · rw [(wrP_false hp).2.1]; decide
  · obtain ⟨_, _, _, hx⟩ := wrP_false hp
    unfold removedB at hx
    obtain ⟨c, hc, h⟩ := List.any_eq_true.1 hx
    simp only [Bool.and_eq_true, decide_eq_true_eq] at h
    have hne : (k1 c).dots ≠ [] := fun e => by rw [e] at h; simp at h
    obtain ⟨h4, h5⟩ := (hl c hc).rem hne
    exact ⟨_, List.mem_map.2 ⟨c, hc, rfl⟩, h4, h5, h.1, h.2⟩
  · rw [(wrP_false hp).2.2.1] at hr; cases hr

/-- Is this text added at this dot? -/
def addsB (l : List ComV) (d : D3) (t : ByteArray) : Bool := l.any fun c => isAddB c && (decide ((dn1 c).dot = d) && decide ((k1 c).text = t))
def spentB (V : D3 → Bool) (A : List ComV) (t : ByteArray) (d : D3) : Bool := V d && !addsB A d t
def trim (V : D3 → Bool) (A : List ComV) (c : ComV) : ComV := withOp c { k1 c with dots := (k1 c).dots.filter fun d => !spentB V A (k1 c).text d }
def spP (i : Nat) (c : ComV) : Bool := decide (i = 0) || (!(k1 c).rem || decide ((k1 c).dots ≠ []))
def spentL (V : D3 → Bool) (S O : List ComV) : List ComV := keepI spP (S.map (trim V (S ++ O))) S.length
theorem trim_skel (V : D3 → Bool) (A : List ComV) (c : ComV) : skel (dn1 (trim V A c)) = skel (dn1 c) := rfl
theorem trim_step {S : List ComV} (V : D3 → Bool) (A : List ComV) (hA : ∀ c ∈ S, c ∈ A) (hS : ∀ c ∈ S, PartOk c) (O : List Dn) (hO : ∀ x ∈ O, V x.dot = true → x.o.kind = 3 → x.o.rem = false → addsB A x.dot x.o.text = true) : Step (S.map dn1) ((S.map (trim V A)).map dn1) O := by
  have e : ((S.map (trim V A)).map dn1).map skel = (S.map dn1).map skel := by
    rw [List.map_map, List.map_map, List.map_map]
    rfl
  refine ⟨by rw [e]; exact List.Sublist.refl _, by rw [e], fun x hx hk _ => ?_, ?_, fun x hx _ _ => .inl (by rw [e]; exact List.mem_map.2 ⟨x, hx, rfl⟩), fun x hx h3 hr => ?_⟩
  · obtain ⟨c, hc, rfl⟩ := List.mem_map.1 hx
    refine List.mem_map.2 ⟨trim V A c, List.mem_map.2 ⟨c, hc, rfl⟩, ?_⟩
    have h0 : (k1 c).dots = [] := by
      rcases Decidable.em ((k1 c).dots = []) with h | h
      · exact h
      · have := ((hS c hc).rem h).1
        have hk' : (k1 c).kind = 1 := hk
        omega
    unfold trim
    rw [h0, List.filter_nil, ← h0]
    rfl
  · clear hS e
    induction S with
    | nil => rfl
    | cons a r ih =>
      have := ih (fun c hc => hA c (by simp [hc]))
      rw [List.map_cons, List.map_cons, List.map_cons, ← List.singleton_append, ← List.singleton_append (l := r.map dn1), sumK_append, sumK_append, this, sumK_one, sumK_one]
      rfl
  · have hadd : V x.dot = true → addsB A x.dot x.o.text = true := fun hv => by
      rcases List.mem_append.1 hx with hx | hx
      · obtain ⟨c', hc', rfl⟩ := List.mem_map.1 hx
        obtain ⟨c, hc, rfl⟩ := List.mem_map.1 hc'
        refine List.any_eq_true.2 ⟨c, hA c hc, ?_⟩
        have h3' : (k1 c).kind = 3 := h3
        have hr' : (k1 c).rem = false := hr
        unfold isAddB
        rw [h3', hr']
        simp only [decide_true, Bool.not_false, Bool.true_and, Bool.and_eq_true, decide_eq_true_eq]
        exact ⟨rfl, rfl⟩
      · exact hO x hx hv h3 hr
    constructor
    · rintro ⟨y, hy, h3', hr', ht', hd'⟩
      obtain ⟨c, hc, rfl⟩ := List.mem_map.1 hy
      refine ⟨dn1 (trim V A c), List.mem_map.2 ⟨_, List.mem_map.2 ⟨c, hc, rfl⟩, rfl⟩, h3', hr', ht', ?_⟩
      refine List.mem_filter.2 ⟨hd', ?_⟩
      unfold spentB
      cases hv : V x.dot with
      | false => rfl
      | true =>
        have e1 : (k1 c).text = x.o.text := ht'
        rw [e1, hadd hv]
        rfl
    · rintro ⟨y, hy, h3', hr', ht', hd'⟩
      obtain ⟨c', hc', rfl⟩ := List.mem_map.1 hy
      obtain ⟨c, hc, rfl⟩ := List.mem_map.1 hc'
      exact ⟨dn1 c, List.mem_map.2 ⟨c, hc, rfl⟩, h3', hr', ht', (List.mem_filter.1 hd').1⟩
theorem spP_false {i : Nat} {c : ComV} (h : spP i c = false) : i ≠ 0 ∧ (k1 c).rem = true ∧ (k1 c).dots = [] := by
  unfold spP at h
  rw [Bool.or_eq_false_iff, Bool.or_eq_false_iff, decide_eq_false_iff_not, decide_eq_false_iff_not, Bool.not_eq_false'] at h
  exact ⟨h.1, h.2.1, by simpa using h.2.2⟩
theorem keepSp_step {l : List ComV} (hl : ∀ c ∈ l, (k1 c).rem = true → (k1 c).kind = 3) (O : List Dn) : Step (l.map dn1) ((keepI spP l l.length).map dn1) O := by
  have g : ∀ i, i < l.length → l[i]! ∈ l := fun i hi => by rw [getElem!_pos l i hi]; exact List.getElem_mem _
  refine keepI_step O (fun c => by simp [spP]) (fun i hi hp h1 => ?_) (fun i hi hp => ?_) (fun i hi hp h3 hr => ?_) (fun i hi hp h3 hr => (spP_false hp).2.2)
  · have := hl _ (g i hi) (spP_false hp).2.1
    omega
  · have := hl _ (g i hi) (spP_false hp).2.1
    omega
  · rw [(spP_false hp).2.1] at hr; cases hr
end Go.Proofs.YtdnebclemngdcaaGreatDoor
namespace Go.Proofs.YtdnebclemngdcaaGreatDoor
open Go.RowKit Go.Sort Go.Maps
set_option linter.unusedSectionVars false
variable [Inhabited ComV] [DecidableEq D3] [Inhabited D3] [Inhabited Dd] [Inhabited Dn] [Inhabited OpV]

/-- So much more. -/
def addN (c : ComV) (n : Int) : ComV := withOp c { k1 c with n := (k1 c).n + n }
def sumOkB (n : Int) : Bool := decide (-1099511627776 ≤ n ∧ n ≤ 1099511627776)
/-- What is kept of the first so many, and where the sum stands. -/
def sumSt (l : List ComV) : Nat → List ComV × Option Nat
  | 0 => ([], none)
  | k + 1 =>
    if (k1 l[k]!).kind = 2 then
      match (sumSt l k).2 with
      | none => ((sumSt l k).1 ++ [l[k]!], some (sumSt l k).1.length)
      | some j => if sumOkB ((k1 (sumSt l k).1[j]!).n + (k1 l[k]!).n) = true then ((sumSt l k).1.set j (addN (sumSt l k).1[j]! (k1 l[k]!).n), some j) else ((sumSt l k).1 ++ [l[k]!], some (sumSt l k).1.length)
    else ((sumSt l k).1 ++ [l[k]!], (sumSt l k).2)
def sumC (l : List ComV) : List ComV := (sumSt l l.length).1
theorem addN_skel (c : ComV) (n : Int) : skel (dn1 (addN c n)) = skel (dn1 c) := rfl
theorem sumK_set {l : List ComV} {j : Nat} (hj : j < l.length) (c : ComV) (n : Int) (h2 : (k1 l[j]!).kind = 2) (hc : (k1 c).kind = 2) (hn : (k1 c).n = (k1 l[j]!).n + n) : sumK ((l.set j c).map dn1) = sumK (l.map dn1) + n := by
  rw [getElem!_pos l j hj] at h2 hn
  have e1 : l = l.take j ++ l[j] :: l.drop (j + 1) := by
    rw [← List.drop_eq_getElem_cons hj, List.take_append_drop]
  have e2 : l.set j c = l.take j ++ c :: l.drop (j + 1) := by
    rw [List.set_eq_take_append_cons_drop, if_pos hj]
  have s : ∀ (a : ComV) (u v : List ComV), sumK ((u ++ a :: v).map dn1) = sumK (u.map dn1) + (sumK [dn1 a] + sumK (v.map dn1)) := fun a u v => by
    rw [List.map_append, List.map_cons, sumK_append, ← List.singleton_append, sumK_append]
  have t : ∀ a : ComV, (k1 a).kind = 2 → sumK [dn1 a] = (k1 a).n := fun a ha => by
    rw [sumK_one, if_pos (show (dn1 a).o.kind = 2 from ha)]
    rfl
  have g1 := s l[j] (l.take j) (l.drop (j + 1))
  rw [← e1] at g1
  rw [e2, s, g1, t c hc, t _ h2]
  omega
/-- What is known while counters are summed. -/
structure SumInv (l : List ComV) (k : Nat) (st : List ComV × Option Nat) : Prop where
  sub : ((st.1.map dn1).map skel).Sublist (((l.take k).map dn1).map skel)
  head : ((st.1.map dn1).map skel).head? = (((l.take k).map dn1).map skel).head?
  sum : sumK (st.1.map dn1) = sumK ((l.take k).map dn1)
  other : ∀ c, (k1 c).kind ≠ 2 → (c ∈ st.1 ↔ c ∈ l.take k)
  pos : ∀ j, st.2 = some j → j < st.1.length ∧ (k1 st.1[j]!).kind = 2
  ok : (∀ c ∈ l, PartOk c) → ∀ c ∈ st.1, PartOk c
theorem head_snoc {α : Type} {a b : List α} (h : a.head? = b.head?) (x : α) : (a ++ [x]).head? = (b ++ [x]).head? := by
  rw [List.head?_append, List.head?_append, h]
theorem SumInv.snoc {l : List ComV} {k : Nat} {st : List ComV × Option Nat} (h : SumInv l k st) (hk : k < l.length) (pos : Option Nat) (hpos : ∀ j, pos = some j → j < (st.1 ++ [l[k]!]).length ∧ (k1 (st.1 ++ [l[k]!])[j]!).kind = 2) : SumInv l (k + 1) (st.1 ++ [l[k]!], pos) := by
  have ht := take_snoc (l := l) hk
  refine ⟨?_, ?_, ?_, fun c hc => ?_, hpos, fun ho c hc => ?_⟩
  · rw [ht]
    simp only [List.map_append]
    exact h.sub.append (List.Sublist.refl _)
  · rw [ht]
    simp only [List.map_append]
    exact head_snoc h.head _
  · rw [ht]
    simp only [List.map_append]
    rw [sumK_append, sumK_append, h.sum]
  · rw [ht, List.mem_append, List.mem_append, h.other c hc]
  · rcases List.mem_append.1 hc with hc | hc
    · exact h.ok ho c hc
    · rw [List.mem_singleton.1 hc, getElem!_pos l k hk]
      exact ho _ (List.getElem_mem _)
theorem get_snoc_old {l : List ComV} {x : ComV} {j : Nat} (h : j < l.length) : (l ++ [x])[j]! = l[j]! := by
  rw [getElem!_pos (l ++ [x]) j (by simp; omega), getElem!_pos l j h, List.getElem_append_left h]
theorem get_snoc_new {l : List ComV} {x : ComV} : (l ++ [x])[l.length]! = x := by
  rw [getElem!_pos (l ++ [x]) l.length (by simp)]
  simp
theorem partOk_addN {c : ComV} (h : PartOk c) (n : Int) : PartOk (addN c n) := ⟨rfl, h.kind, h.rem⟩
theorem set_map_skel {l : List ComV} {j : Nat} {c : ComV} (hj : j < l.length) (h : skel (dn1 c) = skel (dn1 l[j]!)) : ((l.set j c).map dn1).map skel = (l.map dn1).map skel := by
  rw [getElem!_pos l j hj] at h
  rw [List.map_set, List.map_set, h]
  refine List.ext_getElem (by simp) fun i h1 h2 => ?_
  rw [List.getElem_set]
  split
  · rename_i e; subst e; simp
  · rfl
theorem sumInv (l : List ComV) : ∀ k, k ≤ l.length → SumInv l k (sumSt l k)
  | 0, _ => by
    refine ⟨?_, rfl, rfl, fun c _ => ?_, fun j hj => ?_, fun _ c hc => ?_⟩
    · exact List.nil_sublist _
    · simp [sumSt]
    · cases hj
    · simp [sumSt] at hc
  | k + 1, hk => by
    have ih := sumInv l k (by omega)
    have hk' : k < l.length := by omega
    unfold sumSt
    by_cases h2 : (k1 l[k]!).kind = 2
    · rw [if_pos h2]
      have new : ∀ j, some (sumSt l k).1.length = some j → j < ((sumSt l k).1 ++ [l[k]!]).length ∧ (k1 ((sumSt l k).1 ++ [l[k]!])[j]!).kind = 2 := fun j hj => by
        cases hj
        exact ⟨by simp, by rw [get_snoc_new]; exact h2⟩
      cases hp : (sumSt l k).2 with
      | none => exact ih.snoc hk' _ new
      | some j =>
        obtain ⟨hj, hj2⟩ := ih.pos j hp
        dsimp only
        by_cases ho : sumOkB ((k1 (sumSt l k).1[j]!).n + (k1 l[k]!).n) = true
        · rw [if_pos ho]
          have es := set_map_skel (l := (sumSt l k).1) hj (addN_skel (sumSt l k).1[j]! (k1 l[k]!).n)
          have ht := take_snoc (l := l) hk'
          refine ⟨?_, ?_, ?_, fun c hc => ?_, fun i hi => ?_, fun hok c hc => ?_⟩
          · rw [es, ht]
            simp only [List.map_append]
            exact ih.sub.trans (List.sublist_append_left _ _)
          · rw [es, ht]
            simp only [List.map_append]
            rw [List.head?_append, ← ih.head]
            cases hz : (sumSt l k).1 with
            | nil => rw [hz] at hj; simp at hj
            | cons a r => rfl
          · have e3 := sumK_set hj (addN (sumSt l k).1[j]! (k1 l[k]!).n) (k1 l[k]!).n hj2 hj2 rfl
            dsimp only
            rw [e3, ht]
            simp only [List.map_append]
            rw [sumK_append, ih.sum]
            show _ = _ + sumK [dn1 l[k]!]
            rw [sumK_one, if_pos (show (dn1 l[k]!).o.kind = 2 from h2)]
            rfl
          · rw [ht, List.mem_append]
            constructor
            · intro hm
              obtain ⟨i, hi, e⟩ := List.getElem_of_mem hm
              rw [List.getElem_set] at e
              split at e
              · rw [← e] at hc; exact absurd hj2 hc
              · exact .inl ((ih.other c hc).1 (by rw [← e]; exact List.getElem_mem _))
            · rintro (hm | hm)
              · obtain ⟨i, hi, e⟩ := List.getElem_of_mem ((ih.other c hc).2 hm)
                have hij : j ≠ i := fun q => by
                  subst q
                  rw [getElem!_pos _ j hj, e] at hj2
                  exact hc hj2
                rw [List.mem_iff_getElem]
                exact ⟨i, by simpa using hi, by rw [List.getElem_set, if_neg hij, e]⟩
              · rw [List.mem_singleton.1 hm] at hc; exact absurd h2 hc
          · cases hi
            refine ⟨by simpa using hj, ?_⟩
            rw [getElem!_pos _ j (by simpa using hj), List.getElem_set_self]
            exact hj2
          · obtain ⟨i, hi, e⟩ := List.getElem_of_mem hc
            rw [List.getElem_set] at e
            split at e
            · rw [← e]
              refine partOk_addN (ih.ok hok _ ?_) _
              rw [getElem!_pos _ j hj]; exact List.getElem_mem _
            · rw [← e]; exact ih.ok hok _ (List.getElem_mem _)
        · rw [if_neg ho]
          exact ih.snoc hk' _ new
    · rw [if_neg h2]
      refine ih.snoc hk' _ fun j hj => ?_
      obtain ⟨h3, h4⟩ := ih.pos j hj
      exact ⟨by simp; omega, by rw [get_snoc_old h3]; exact h4⟩
theorem sumC_step (l : List ComV) (O : List Dn) : Step (l.map dn1) ((sumC l).map dn1) O := by
  have h := sumInv l l.length (Nat.le_refl _)
  have ht : l.take l.length = l := List.take_length
  have oth : ∀ x : Dn, x.o.kind ≠ 2 → (x ∈ l.map dn1 ↔ x ∈ (sumC l).map dn1) := fun x hx => by
    rw [List.mem_map, List.mem_map]
    constructor
    · rintro ⟨c, hc, rfl⟩
      exact ⟨c, (h.other c hx).2 (by rw [ht]; exact hc), rfl⟩
    · rintro ⟨c, hc, rfl⟩
      exact ⟨c, by have := (h.other c hx).1 hc; rwa [ht] at this, rfl⟩
  have hs := h.sub
  have hh := h.head
  have hu := h.sum
  rw [ht] at hs hh hu
  refine ⟨hs, hh, fun x hx hk _ => (oth x (by omega)).1 hx, hu, fun x hx hk _ => .inl (List.mem_map.2 ⟨x, (oth x (by omega)).1 hx, rfl⟩), fun x _ _ _ => ?_⟩
  constructor
  · rintro ⟨y, hy, h3⟩
    exact ⟨y, (oth y (by rw [h3.1]; decide)).1 hy, h3⟩
  · rintro ⟨y, hy, h3⟩
    exact ⟨y, (oth y (by rw [h3.1]; decide)).2 hy, h3⟩
theorem sumC_ok {l : List ComV} (h : ∀ c ∈ l, PartOk c) : ∀ c ∈ sumC l, PartOk c := (sumInv l l.length (Nat.le_refl _)).ok h
theorem keepI_ok {p : Nat → ComV → Bool} {l : List ComV} (h : ∀ c ∈ l, PartOk c) : ∀ c ∈ keepI p l l.length, PartOk c := fun c hc => h c (keepI_all.subset hc)
theorem trim_ok {V : D3 → Bool} {A : List ComV} {c : ComV} (h : PartOk c) : PartOk (trim V A c) := ⟨rfl, h.kind, fun hne => h.rem fun e => hne (by
  show ((k1 c).dots.filter _) = []
  rw [e]; rfl)⟩
/-- What the settled ones come to, which are in order. -/
def settled (V : D3 → Bool) (S O : List ComV) : List ComV := spentL V (withoutRem (sumC (lastReg S))) O
/-- A remove is a set's. -/
def RemOk (c : ComV) : Prop := (k1 c).rem = true → (k1 c).kind = 3
/-- Settled or not: the same is told beside all that may be seen besides. -/
theorem settled_same {S O : List ComV} (V : D3 → Bool) (hs : (S.map dn1).Pairwise fun a b => ltN a b = true) (hS : ∀ c ∈ S, PartOk c) (hR : ∀ c ∈ S, RemOk c) (X : List Dn)
    (hX : ∀ x ∈ X, V x.dot = true → x ∈ O.map dn1) : Same (S.map dn1 ++ X) ((settled V S O).map dn1 ++ X) := by
  have s1 := lastReg_step hs X
  have r1 := s1.rise hs
  have o1 : ∀ c ∈ lastReg S, PartOk c := keepI_ok hS
  have s2 := sumC_step (lastReg S) X
  have r2 := s2.rise r1
  have o2 := sumC_ok o1
  have s3 := withoutRem_step o2 X
  have r3 := s3.rise r2
  have o3 : ∀ c ∈ withoutRem (sumC (lastReg S)), PartOk c := keepI_ok o2
  have s4 := trim_step V (withoutRem (sumC (lastReg S)) ++ O) (fun c hc => List.mem_append_left _ hc) o3 X (fun x hx hv h3 hr => by
    obtain ⟨c, hc, rfl⟩ := List.mem_map.1 (hX x hx hv)
    refine List.any_eq_true.2 ⟨c, List.mem_append_right _ hc, ?_⟩
    have h3' : (k1 c).kind = 3 := h3
    have hr' : (k1 c).rem = false := hr
    unfold isAddB
    rw [h3', hr', decide_eq_true (show (dn1 c).dot = (dn1 c).dot from rfl), decide_eq_true (show (k1 c).text = (dn1 c).o.text from rfl)]
    rfl)
  have r4 := s4.rise r3
  have q2 : ∀ c ∈ withoutRem (sumC (lastReg S)), RemOk c := by
    have h1 : ∀ c ∈ lastReg S, RemOk c := fun c hc => hR c (keepI_all.subset hc)
    have h2 : ∀ c ∈ sumC (lastReg S), RemOk c := fun c hc hr => by
      obtain ⟨y, hy, e⟩ := s2.back (List.mem_map.2 ⟨c, hc, rfl⟩)
      obtain ⟨c0, hc0, rfl⟩ := List.mem_map.1 hy
      have := h1 c0 hc0 ((skel_rem e).trans hr)
      exact (skel_kind e).symm.trans this
    exact fun c hc => h2 c (keepI_all.subset hc)
  have s5 := keepSp_step (l := (withoutRem (sumC (lastReg S))).map (trim V (withoutRem (sumC (lastReg S)) ++ O))) (fun c hc => by
    obtain ⟨c0, hc0, rfl⟩ := List.mem_map.1 hc
    exact q2 c0 hc0) X
  have := (((s1.same hs).trans (s2.same r1)).trans (s3.same r2)).trans ((s4.same r3).trans (s5.same r4))
  rw [List.length_map] at this
  exact this
end Go.Proofs.YtdnebclemngdcaaGreatDoor
