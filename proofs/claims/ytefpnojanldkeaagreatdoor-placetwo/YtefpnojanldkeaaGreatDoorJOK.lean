/- PlaceTwo: the walk. -/
import Derived.Test.YtefpnojanldkeaaGreatDoorJNA
import Derived.Test.YtefpnojanldkeaaGreatDoorJECode
import Derived.Test.YtefpnojanldkeaaGreatDoorJNC
namespace Go.Proofs.YtefpnojanldkeaaGreatDoor
open Go.RowKit Go.Maps
set_option maxRecDepth 100000
set_option linter.unusedSectionVars false
variable [Inhabited ComV] [DecidableEq D3] [Inhabited D3] [Inhabited Dd] [Inhabited Dn] [Inhabited OpV]

set_option maxHeartbeats 16000000 in
theorem two_in (A : Nat → Addr) (w : World) (hS : Sents A w.heap.size w) (k : Nat) (k1 : 1 ≤ k) (k6 : k ≤ 6) (fs ss : List OpV) (n1 : fs.length ≤ 8) (n2 : ss.length ≤ 8) (fa sa : Option Addr) (fc sc : Nat) (hf : OpsAt w (.slice fa fs.length fc) fs) (hs : OpsAt w (.slice sa ss.length sc) ss) (hfz : ∀ o ∈ fs, o.dots.length ≤ 9223372036854775807 ∧ o.text.size ≤ 9223372036854775807) (hsz : ∀ o ∈ ss, o.dots.length ≤ 9223372036854775807 ∧ o.text.size ≤ 9223372036854775807) (key : ByteArray) (hk : key.size ≤ 60) :
    Calls Tryz.prog 5 #[.int .i64 k, .slice fa fs.length fc, .slice sa ss.length sc, .string key] w fun e w' => e = .returned (.bool true) ∧ Below w.heap.size w w' := by
  have K6 := hid (placed_any A _ w hS.sen)
  have K70 := hid (fun W => new_w0 W k k1 k6)
  have K71 := hid (fun W => new_w1 W k k1 k6)
  have HS := hid hS
  have HF := hid hf
  have HSS := hid hs
  have HFZ := hid hfz
  have HSZ := hid hsz
  have H12 : Hid (12 ≤ w.heap.size) := (show _ ≤ _ from by have := hS.gl; omega)
  have i1 : (1 : Int) ≤ k := by omega
  have i2 : (k : Int) ≤ 6 := by omega
  obtain ⟨fn, hfn⟩ : ∃ fn, fn = fs.length := ⟨_, rfl⟩
  obtain ⟨sn, hsn⟩ : ∃ sn, sn = ss.length := ⟨_, rfl⟩
  rw [← hfn] at n1
  rw [← hsn] at n2
  rw [← hfn, ← hsn]
  have HFN := hid hfn
  have HSN := hid hsn
  have i3 : (fn : Int) ≤ 8 := by omega
  have i4 : (sn : Int) ≤ 8 := by omega
  have i5 : (key.size : Int) ≤ 60 := by omega
  clear hS hf hs hfn hsn hfz hsz
  go_enter Tryz.func5, Tryz.ntmps5
  go_wp2_with fail
  refine K6.out.mono ?_
  rintro e w1 ⟨rfl, hb1⟩
  go_wp2_with fail
  refine (K70.out w1).mono ?_
  rintro e w2 ⟨hp, rfl, hPp, hfp, hb2, hnp, hxp⟩
  go_wp2_with fail
  refine (K71.out w2).mono ?_
  rintro e w3 ⟨hq, rfl, hPq, hfq, hb3, hnq, hxq⟩
  have T3 : Hid (TwI w hp (pv0 0 2 k) hq (pv0 1 2 k) w3) := (show TwI _ _ _ _ _ _ from ⟨(hb1.trans (hb2.mono hb1.size)).trans (hb3.mono (Nat.le_trans hb1.size hb2.size)), hPp.below hb3, hPq, fun q hq => Nat.le_trans hb1.size (hfp q hq), fun q hq => Nat.le_trans (Nat.le_trans hb1.size hb2.size) (hfq q hq), fun q h1 h2 => by have := hPp.lt h1; have := hfq q h2; omega⟩)
  have CP := hid (cmS0 fs hp hnp hxp)
  have CQ := hid (cmS0 ss hq hnq hxq)
  clear hb1 hb2 hb3 hPp hPq hfp hfq hnp hxp hnq hxq K6 K70 K71
  go_upto_block 0 with fail
  go_cut [14] (fun _ wx => ∃ (hp' : PlH) (vp' : PlV) (hq' : PlH) (vq' : PlV), hp'.pb = hp.pb ∧ hq'.pb = hq.pb ∧ Hid (TwI w hp' vp' hq' vq' wx ∧ CmS 0 k fs fn hp' vp' ∧ CmS 1 k ss sn hq' vq' ∧ (∀ t, t < fn → opErr (fs.getD t default) 2 = 0) ∧ ∀ t, t < sn → opErr (ss.getD t default) 2 = 0))
  case first =>
    go_wp2_with fail
    go_loopw [14] (fun i wr => ∃ (m : Nat) (hp' : PlH) (vp' : PlV) (hq' : PlH) (vq' : PlV), m ≤ 8 ∧ i = .int .i64 m ∧ hp'.pb = hp.pb ∧ hq'.pb = hq.pb ∧ Hid (TwI w hp' vp' hq' vq' wr ∧ CmS 0 k fs (min m fn) hp' vp' ∧ CmS 1 k ss (min m sn) hq' vq' ∧ (∀ t, t < min m fn → opErr (fs.getD t default) 2 = 0) ∧ ∀ t, t < min m sn → opErr (ss.getD t default) 2 = 0)) (fun i _ => 8 - (intOf i).toNat)
    case atStart => exact ⟨0, hp, _, hq, _, Nat.zero_le _, rfl, rfl, rfl, ⟨T3.out, by rw [Nat.zero_min]; exact CP.out, by rw [Nat.zero_min]; exact CQ.out, fun t ht => by omega, fun t ht => by omega⟩⟩
    case round =>
      clear T3 CP CQ
      obtain ⟨m, hp', vp', hq', vq', hm, rfl, hpb, hqb, HI⟩ := hrel
      by_cases hend : m < fn ∨ m < sn
      · have hm8 : m < 8 := by omega
        by_cases hlt : m < fn
        · have hj1 : (m : Int) < (fn : Int) := by omega
          go_upto_if 91 with fail
          go_cut [14] (fun x wx => x = .int .i64 m ∧ ∃ (hp2 : PlH) (vp2 : PlV), hp2.pb = hp.pb ∧ Hid (TwI w hp2 vp2 hq' vq' wx ∧ CmS 0 k fs (min (m + 1) fn) hp2 vp2 ∧ ∀ t, t < min (m + 1) fn → opErr (fs.getD t default) 2 = 0))
          case first =>
            obtain ⟨I1, I2, I3, I4, I5⟩ := HI.out
            have hl := hlt
            obtain ⟨b, off, dc, dp, o, er, rfl, hfc, hoe, her, r0, r1, r2, r3, r4, r5, r6, K15, HC4⟩ := two_op (fn := fn) (by rw [HFN.out]; exact HF.out) HFN.out I1.bel hl HFZ.out
            have BR := hid (I1.bel)
            by_cases he0 : er = 0
            · subst he0
              have hO0 : opErr (fs.getD m default) 2 = 0 := by rw [← hoe]; exact her.symm
              have hL0 := op_light hO0
              have hdl : ∀ o' ∈ [o], o'.dots.length ≤ 70 := fun o' ho' => by
                rw [List.mem_singleton] at ho'
                rw [ho', hoe]
                omega
              have K16 := hid (fun W (hW : Below wr.heap.size wr W) => own_ops W (some ⟨b, off + m * 7, none⟩) 1 (fc - m) [o] (HC4.out W hW) (by show 1 ≤ 20; decide) hdl)
              obtain ⟨hrr, hgo⟩ := two_go A HS.out I1 I2 (by decide) HFN.out n1 hlt I4 hO0 hpb
              rw [← hoe] at hgo
              have HGO := hid hgo
              have HRR := hid hrr
              have hc1 : (m : Int) ≤ (fc : Int) := by omega
              have hc2 : (m : Int) + 1 ≤ (fc : Int) := by omega
              have hc3 : (m : Int) < (fc : Int) := by omega
              have hc4 : (0 : Int) ≤ (m : Int) + 1 := by omega
              have hc9 : ((m : Int) + 1).toNat = m + 1 := by omega
              have hwr : IntKind.i64.wrap ((m : Int) + 1) = (m : Int) + 1 := wrap_64 ⟨by omega, by omega⟩
              have hcm : ¬ fc = m := by omega
              have hcd : m + 1 - m = 1 := by omega
              clear I1 I2 I3 I4 I5 HI hO0 hL0 hdl hrr hgo hoe her HC4 HF HSS
              go_upto_region 14 with (go_at_call 15; refine K15.out.mono ?_; rintro e w4 ⟨rfl, hb4⟩; have B4 := hid hb4; clear hb4)
              clear r0 r1 r2 r3 r4 r5 r6 K15
              go_region_held (fun _ => True) (trivial) (first
                | (go_at_call 12; refine ((HGO.out _ ?hb).1).mono ?_; (case hb => first | exact B4.out.drew | exact B4.out); rintro e w5 ⟨rfl, hb5, hi5⟩; have HB5 : Hid (Below wr.heap.size wr w5) := (show Below _ _ _ from by first | exact (below_draws B4.out 1).trans (hb5.mono B4.out.size) | exact B4.out.trans (hb5.mono B4.out.size)); have HI5 := hid hi5; clear hb5 hi5)
                | (go_at_call 16; refine (K16.out _ ?hb).mono ?_; (case hb => exact HB5.out); rintro e w6 ⟨oa, oc, rfl, hO6, hb6⟩; have HB6 := hid (HB5.out.trans (hb6.mono HB5.out.size)); have HI6 := hid (HI5.out.mono hb6 (Nat.le_refl _)); have HO6 := hid hO6; clear hb6 hO6)
                | (go_at_call 9; refine ((HGO.out _ HB6.out).2 _ _ _ _ HI6.out HO6.out).mono ?_; rintro e w7 ⟨a3, a4, c3, c4, ra, rn, rc, rfl, hX⟩; have HX := hid hX; clear hX))
              go_wp2_with fail
              go_meet
              obtain ⟨hp2, vp2, x1, x2, x3⟩ := HX.out
              exact ⟨rfl, hp2, vp2, x1, ⟨x2, x3, HRR.out⟩⟩
            · have he1 : (0 : Int) < ((er : Nat) : Int) := by omega
              clear hoe her HC4 HF HSS HI I1 I2 I3 I4 I5
              go_wp2_with (go_at_call 15; refine K15.out.mono ?_; rintro e w4 ⟨rfl, hb4⟩; have B4 := hid hb4; clear hb4)
              go_ret
              exact ⟨rfl, BR.out.trans (B4.out.mono BR.out.size)⟩
          case rest =>
            by_cases hlt2 : m < sn
            · obtain ⟨rfl, hp2, vp2, hpb2, HI2⟩ := hcut
              have hl := hlt2
              have hj2 : (m : Int) < (sn : Int) := by omega
              obtain ⟨J1, J2, J3⟩ := HI2.out
              obtain ⟨_, _, I3, _, I5⟩ := HI.out
              have HJ := hid J2
              have HJ3 := hid J3
              obtain ⟨b, off, dc, dp, o, er, rfl, hfc, hoe, her, r0, r1, r2, r3, r4, r5, r6, K15, HC4⟩ := two_op (fn := sn) (by rw [HSN.out]; exact HSS.out) HSN.out J1.bel hl HSZ.out
              have BR := hid (J1.bel)
              by_cases he0 : er = 0
              · subst he0
                have hO0 : opErr (ss.getD m default) 2 = 0 := by rw [← hoe]; exact her.symm
                have hL0 := op_light hO0
                have hdl : ∀ o' ∈ [o], o'.dots.length ≤ 70 := fun o' ho' => by
                  rw [List.mem_singleton] at ho'
                  rw [ho', hoe]
                  omega
                have K16 := hid (fun W (hW : Below wc.heap.size wc W) => own_ops W (some ⟨b, off + m * 7, none⟩) 1 (sc - m) [o] (HC4.out W hW) (by show 1 ≤ 20; decide) hdl)
                obtain ⟨hrr, hgo⟩ := two_go A HS.out J1.flip I3 (by decide) HSN.out n2 hlt2 I5 hO0 hqb
                rw [← hoe] at hgo
                have HGO := hid hgo
                have HRR := hid hrr
                have hc1 : (m : Int) ≤ (sc : Int) := by omega
                have hc2 : (m : Int) + 1 ≤ (sc : Int) := by omega
                have hc3 : (m : Int) < (sc : Int) := by omega
                have hc4 : (0 : Int) ≤ (m : Int) + 1 := by omega
                have hc9 : ((m : Int) + 1).toNat = m + 1 := by omega
                have hwr : IntKind.i64.wrap ((m : Int) + 1) = (m : Int) + 1 := wrap_64 ⟨by omega, by omega⟩
                have hcm : ¬ sc = m := by omega
                have hcd : m + 1 - m = 1 := by omega
                clear J1 J2 J3 I3 I5 HI HI2 hO0 hL0 hdl hrr hgo hoe her HC4 HF HSS
                go_upto_region 18 with (go_at_call 15; refine K15.out.mono ?_; rintro e w4 ⟨rfl, hb4⟩; have B4 := hid hb4; clear hb4)
                clear r0 r1 r2 r3 r4 r5 r6 K15
                go_region_held (fun _ => True) (trivial) (first
                  | (go_at_call 12; refine ((HGO.out _ ?hb).1).mono ?_; (case hb => first | exact B4.out.drew | exact B4.out); rintro e w5 ⟨rfl, hb5, hi5⟩; have HB5 : Hid (Below wc.heap.size wc w5) := (show Below _ _ _ from by first | exact (below_draws B4.out 1).trans (hb5.mono B4.out.size) | exact B4.out.trans (hb5.mono B4.out.size)); have HI5 := hid hi5; clear hb5 hi5)
                  | (go_at_call 16; refine (K16.out _ ?hb).mono ?_; (case hb => exact HB5.out); rintro e w6 ⟨oa, oc, rfl, hO6, hb6⟩; have HB6 := hid (HB5.out.trans (hb6.mono HB5.out.size)); have HI6 := hid (HI5.out.mono hb6 (Nat.le_refl _)); have HO6 := hid hO6; clear hb6 hO6)
                  | (go_at_call 9; refine ((HGO.out _ HB6.out).2 _ _ _ _ HI6.out HO6.out).mono ?_; rintro e w7 ⟨a3, a4, c3, c4, ra, rn, rc, rfl, hX⟩; have HX := hid hX; clear hX))
                go_wp2_with fail
                obtain ⟨hq2, vq2, x1, x2, x3⟩ := HX.out
                exact ⟨⟨m + 1, hp2, vp2, hq2, vq2, by omega, by go_num, hpb2, x1, ⟨x2.flip, HJ.out, x3, HJ3.out, HRR.out⟩⟩, by simp [intOf]; omega⟩
              · have he1 : (0 : Int) < ((er : Nat) : Int) := by omega
                clear hoe her HC4 HF HSS HI HI2 J1 J2 J3 I3 I5
                go_wp2_with (go_at_call 15; refine K15.out.mono ?_; rintro e w4 ⟨rfl, hb4⟩; have B4 := hid hb4; clear hb4)
                go_ret
                exact ⟨rfl, BR.out.trans (B4.out.mono BR.out.size)⟩
            · obtain ⟨rfl, hp2, vp2, hpb2, HI2⟩ := hcut
              have hj2 : ¬ (m : Int) < (sn : Int) := by omega
              have HZ : Hid (TwI w hp2 vp2 hq' vq' wc ∧ CmS 0 k fs (min (m + 1) fn) hp2 vp2 ∧ CmS 1 k ss (min (m + 1) sn) hq' vq' ∧ (∀ t, t < min (m + 1) fn → opErr (fs.getD t default) 2 = 0) ∧ ∀ t, t < min (m + 1) sn → opErr (ss.getD t default) 2 = 0) := (show _ ∧ _ from by
                obtain ⟨J1, J2, J3⟩ := HI2.out
                obtain ⟨_, _, I3, _, I5⟩ := HI.out
                rw [Nat.min_eq_right (by omega : sn ≤ m)] at I3 I5
                refine ⟨J1, J2, ?_, J3, ?_⟩
                · rw [Nat.min_eq_right (by omega : sn ≤ m + 1)]; exact I3
                · rw [Nat.min_eq_right (by omega : sn ≤ m + 1)]; exact I5)
              clear HI HI2
              go_wp2_with fail
              exact ⟨⟨m + 1, hp2, vp2, hq', vq', by omega, by go_num, hpb2, hqb, HZ⟩, by simp [intOf]; omega⟩
        · have hj1 : ¬ (m : Int) < (fn : Int) := by omega
          have hlt2 : m < sn := by omega
          have hjs : (m : Int) < (sn : Int) := by omega
          go_upto_if 91 with fail
          go_cut [14] (fun x wx => x = .int .i64 m ∧ ∃ (hp2 : PlH) (vp2 : PlV), hp2.pb = hp.pb ∧ Hid (TwI w hp2 vp2 hq' vq' wx ∧ CmS 0 k fs (min (m + 1) fn) hp2 vp2 ∧ ∀ t, t < min (m + 1) fn → opErr (fs.getD t default) 2 = 0))
          case first =>
            have HZ : Hid (TwI w hp' vp' hq' vq' wr ∧ CmS 0 k fs (min (m + 1) fn) hp' vp' ∧ ∀ t, t < min (m + 1) fn → opErr (fs.getD t default) 2 = 0) := (show _ ∧ _ from by
              obtain ⟨I1, I2, I3, I4, I5⟩ := HI.out
              rw [Nat.min_eq_right (by omega : fn ≤ m)] at I2 I4
              refine ⟨I1, ?_, ?_⟩
              · rw [Nat.min_eq_right (by omega : fn ≤ m + 1)]; exact I2
              · rw [Nat.min_eq_right (by omega : fn ≤ m + 1)]; exact I4)
            go_wp2_with fail
            go_meet
            exact ⟨rfl, hp', vp', hpb, HZ⟩
          case rest =>
            obtain ⟨rfl, hp2, vp2, hpb2, HI2⟩ := hcut
            have hl := hlt2
            obtain ⟨J1, J2, J3⟩ := HI2.out
            obtain ⟨_, _, I3, _, I5⟩ := HI.out
            have HJ := hid J2
            have HJ3 := hid J3
            obtain ⟨b, off, dc, dp, o, er, rfl, hfc, hoe, her, r0, r1, r2, r3, r4, r5, r6, K15, HC4⟩ := two_op (fn := sn) (by rw [HSN.out]; exact HSS.out) HSN.out J1.bel hl HSZ.out
            have BR := hid (J1.bel)
            by_cases he0 : er = 0
            · subst he0
              have hO0 : opErr (ss.getD m default) 2 = 0 := by rw [← hoe]; exact her.symm
              have hL0 := op_light hO0
              have hdl : ∀ o' ∈ [o], o'.dots.length ≤ 70 := fun o' ho' => by
                rw [List.mem_singleton] at ho'
                rw [ho', hoe]
                omega
              have K16 := hid (fun W (hW : Below wc.heap.size wc W) => own_ops W (some ⟨b, off + m * 7, none⟩) 1 (sc - m) [o] (HC4.out W hW) (by show 1 ≤ 20; decide) hdl)
              obtain ⟨hrr, hgo⟩ := two_go A HS.out J1.flip I3 (by decide) HSN.out n2 hlt2 I5 hO0 hqb
              rw [← hoe] at hgo
              have HGO := hid hgo
              have HRR := hid hrr
              have hc1 : (m : Int) ≤ (sc : Int) := by omega
              have hc2 : (m : Int) + 1 ≤ (sc : Int) := by omega
              have hc3 : (m : Int) < (sc : Int) := by omega
              have hc4 : (0 : Int) ≤ (m : Int) + 1 := by omega
              have hc9 : ((m : Int) + 1).toNat = m + 1 := by omega
              have hwr : IntKind.i64.wrap ((m : Int) + 1) = (m : Int) + 1 := wrap_64 ⟨by omega, by omega⟩
              have hcm : ¬ sc = m := by omega
              have hcd : m + 1 - m = 1 := by omega
              clear J1 J2 J3 I3 I5 HI HI2 hO0 hL0 hdl hrr hgo hoe her HC4 HF HSS
              go_upto_region 18 with (go_at_call 15; refine K15.out.mono ?_; rintro e w4 ⟨rfl, hb4⟩; have B4 := hid hb4; clear hb4)
              clear r0 r1 r2 r3 r4 r5 r6 K15
              go_region_held (fun _ => True) (trivial) (first
                | (go_at_call 12; refine ((HGO.out _ ?hb).1).mono ?_; (case hb => first | exact B4.out.drew | exact B4.out); rintro e w5 ⟨rfl, hb5, hi5⟩; have HB5 : Hid (Below wc.heap.size wc w5) := (show Below _ _ _ from by first | exact (below_draws B4.out 1).trans (hb5.mono B4.out.size) | exact B4.out.trans (hb5.mono B4.out.size)); have HI5 := hid hi5; clear hb5 hi5)
                | (go_at_call 16; refine (K16.out _ ?hb).mono ?_; (case hb => exact HB5.out); rintro e w6 ⟨oa, oc, rfl, hO6, hb6⟩; have HB6 := hid (HB5.out.trans (hb6.mono HB5.out.size)); have HI6 := hid (HI5.out.mono hb6 (Nat.le_refl _)); have HO6 := hid hO6; clear hb6 hO6)
                | (go_at_call 9; refine ((HGO.out _ HB6.out).2 _ _ _ _ HI6.out HO6.out).mono ?_; rintro e w7 ⟨a3, a4, c3, c4, ra, rn, rc, rfl, hX⟩; have HX := hid hX; clear hX))
              go_wp2_with fail
              obtain ⟨hq2, vq2, x1, x2, x3⟩ := HX.out
              exact ⟨⟨m + 1, hp2, vp2, hq2, vq2, by omega, by go_num, hpb2, x1, ⟨x2.flip, HJ.out, x3, HJ3.out, HRR.out⟩⟩, by simp [intOf]; omega⟩
            · have he1 : (0 : Int) < ((er : Nat) : Int) := by omega
              clear hoe her HC4 HF HSS HI HI2 J1 J2 J3 I3 I5
              go_wp2_with (go_at_call 15; refine K15.out.mono ?_; rintro e w4 ⟨rfl, hb4⟩; have B4 := hid hb4; clear hb4)
              go_ret
              exact ⟨rfl, BR.out.trans (B4.out.mono BR.out.size)⟩
      · have e1 : ¬ (m : Int) < (fn : Int) := by omega
        have e2 : ¬ (m : Int) < (sn : Int) := by omega
        have F : Hid (TwI w hp' vp' hq' vq' wr ∧ CmS 0 k fs fn hp' vp' ∧ CmS 1 k ss sn hq' vq' ∧ (∀ t, t < fn → opErr (fs.getD t default) 2 = 0) ∧ ∀ t, t < sn → opErr (ss.getD t default) 2 = 0) := (show _ ∧ _ from by
          have h := HI.out
          rw [Nat.min_eq_right (by omega : fn ≤ m), Nat.min_eq_right (by omega : sn ≤ m)] at h
          exact h)
        clear HI hend
        go_wp2_with fail
        go_meet
        exact ⟨hp', vp', hq', vq', hpb, hqb, F⟩
  case rest =>
    obtain ⟨hp', vp', hq', vq', hpb, hqb, HI⟩ := hcut
    obtain ⟨hT, hCP, hCQ, hr1, hr2⟩ := HI.out
    obtain ⟨O, hO0, hO1⟩ : ∃ O : Nat → List OpV, O 0 = fs ∧ O 1 = ss := ⟨fun j => if j = 0 then fs else ss, rfl, rfl⟩
    have hOR : ∀ j, j < 2 → OpsR (O j) := fun j hj => by
      rcases (by omega : j = 0 ∨ j = 1) with rfl | rfl
      · rw [hO0]; exact ⟨by have := HFN.out; omega, fun t ht => hr1 t (by have := HFN.out; omega)⟩
      · rw [hO1]; exact ⟨by have := HSN.out; omega, fun t ht => hr2 t (by have := HSN.out; omega)⟩
    have HOR := hid hOR
    have K10 := hid (two_beat (O := O) (id := 0) (k := k) hT (by rw [hO0, ← HFN.out]; exact hCP) (by decide) (hOR 0 (by decide)))
    have CQ' := hid (show CmS 1 k (O 1) (O 1).length hq' vq' by rw [hO1, ← HSN.out]; exact hCQ)
    rw [hpb] at K10
    clear hT hCP hCQ hr1 hr2 HI hO0 hO1 hOR T3 CP CQ
    go_wp2_with fail
    refine K10.out.mono ?_
    rintro e w4 ⟨hp4, vp4, ra4, rn4, rc4, rfl, hpb4, hT4, hB4⟩
    have BP := hid hB4
    have K10' := hid (two_beat (O := O) hT4.flip CQ'.out (by decide) (HOR.out 1 (by decide)))
    rw [hqb] at K10'
    clear hB4 hT4 K10
    go_wp2_with fail
    refine K10'.out.mono ?_
    rintro e w5 ⟨hq5, vq5, ra5, rn5, rc5, rfl, hpb5, hT5, hB5⟩
    have BQ := hid hB5
    have K17 := hid (two_again (O := O) hT5.flip BP.out.vid BP.out.vn BP.out.vk (fun j s q => (BP.out.ln j s q).2.2.2) BP.out.all (by decide) (HOR.out 0 (by decide)))
    rw [hpb4] at K17
    clear hB5 hT5 K10' CQ'
    go_wp2_with fail
    refine K17.out.mono ?_
    rintro e w6 ⟨la, lc, rs, rfl, hR6⟩
    have hlen : rs.length = offO 1 k O k := f2_len hR6.own
    have hoff : ∀ id, id < 2 → ∀ n, offO id k O n ≤ 9 * n := fun id hid_ n => by
      induction n with
      | zero => exact Nat.le_refl _
      | succ n ih => rw [offO_succ]; have := mO_few (k := k) HOR.out hid_ n; omega
    have hl54 : rs.length ≤ 54 := by rw [hlen]; have := hoff 1 (by decide) k; omega
    have R6 := hid hR6
    have H6 := hid (BQ.out.start (by decide) k1)
    have V6 : Hid (RvAll 1 k O (offO 1 k O k) vq5) := (show RvAll _ _ _ _ _ from rvAll_start fun s hs => by
      have := BQ.out.ln 0 s ⟨by rw [BQ.out.vn]; decide, by rw [BQ.out.vid]; decide, by rw [BQ.out.vk]; exact hs⟩
      exact ⟨this.1, this.2.1, this.2.2.1⟩)
    have M6 : Hid (∀ j s, vq5.line j s → (vq5.Y j s).ms = mB 1 (O 1) k s (O 1).length) := (show ∀ j s, _ from fun j s q => (BQ.out.ln j s q).2.2.2)
    obtain ⟨ln, hln⟩ : ∃ ln, ln = rs.length := ⟨_, rfl⟩
    rw [← hln] at R6 hl54 hlen
    rw [← hln]
    rw [← hlen] at V6
    have HLN := hid hln
    have HOFF := hid hoff
    have HLE := hid hlen
    have A6 := hid BQ.out.all
    clear hR6 hln hlen K17 hoff
    go_upto_block 2 with fail
    go_cut [16] (fun _ wx => ∃ (hq7 : PlH) (vq7 : PlV), hq7.pb = hq.pb ∧ Hid (TwR w hp4 vp4 hq7 vq7 (.slice la ln lc) rs (rowO 1 k O k) wx ∧ HrS 1 k O ln hq7 vq7 ∧ RvAll 1 k O 0 vq7 ∧ (∀ j s, vq7.line j s → (vq7.Y j s).ms = mB 1 (O 1) k s (O 1).length) ∧ ∀ j s, (vq7.Y j s).ms.length ≤ 1000))
    case first =>
      go_wp2_with fail
      go_loopw [16] (fun i wr => ∃ (m : Nat) (hq7 : PlH) (vq7 : PlV), m ≤ ln ∧ i = .int .i64 ((m : Int) - 1) ∧ hq7.pb = hq.pb ∧ Hid (TwR w hp4 vp4 hq7 vq7 (.slice la ln lc) rs (rowO 1 k O k) wr ∧ HrS 1 k O (ln - m) hq7 vq7 ∧ RvAll 1 k O m vq7 ∧ (∀ j s, vq7.line j s → (vq7.Y j s).ms = mB 1 (O 1) k s (O 1).length) ∧ ∀ j s, (vq7.Y j s).ms.length ≤ 1000)) (fun i _ => (intOf i + 1).toNat)
      case atStart => exact ⟨ln, hq5, vq5, Nat.le_refl _, rfl, hpb5, ⟨R6.out, by rw [Nat.sub_self]; exact H6.out, V6.out, M6.out, A6.out⟩⟩
      case round =>
        clear R6 H6 V6 M6 A6
        obtain ⟨m, h, v, hm, rfl, hpb7, HI7⟩ := hrel
        cases m with
        | zero =>
          go_wp2_with fail
          go_meet
          exact ⟨h, v, hpb7, ⟨HI7.out.1, HI7.out.2.1, HI7.out.2.2.1, HI7.out.2.2.2⟩⟩
        | succ m =>
          have e1 : (((m + 1 : Nat) : Int) - 1) = (m : Int) := by omega
          rw [e1]
          have z0 : (0 : Int) ≤ (m : Int) := by omega
          have z4 : (m : Int) < (ln : Int) := by omega
          obtain ⟨I1, I2, I3, I4, I5⟩ := HI7.out
          obtain ⟨r, hr⟩ : ∃ r, rs[m]? = some r := ⟨_, List.getElem?_eq_getElem (by have := HLN.out; omega)⟩
          have hrow := I1.row
          rw [← HLN.out] at hrow
          obtain ⟨lb, hla, _, hcell⟩ := row_raw hrow HLN.out.symm hr
          subst hla
          have x0 : wr.cell? ⟨lb, m * 9, none⟩ = some (.int .i64 r.x1) := hcell 0 _ rfl
          have x1 : wr.cell? ⟨lb, m * 9 + 1, none⟩ = some (.int .i64 r.x2) := hcell 1 _ rfl
          have x2 : wr.cell? ⟨lb, m * 9 + 2, none⟩ = some (.int .i64 r.x3) := hcell 2 _ rfl
          have x3 : wr.cell? ⟨lb, m * 9 + 3, none⟩ = some (.int .i64 r.x4) := hcell 3 _ rfl
          have x4 : wr.cell? ⟨lb, m * 9 + 4, none⟩ = some (.int .i64 r.x5) := hcell 4 _ rfl
          have x5 : wr.cell? ⟨lb, m * 9 + 5, none⟩ = some (.bool r.x6) := hcell 5 _ rfl
          have x6 : wr.cell? ⟨lb, m * 9 + 6, none⟩ = some (.slice r.a1 r.n1 r.c1) := hcell 6 _ rfl
          have x7 : wr.cell? ⟨lb, m * 9 + 7, none⟩ = some (.int .i64 r.p) := hcell 7 _ rfl
          have x8 : wr.cell? ⟨lb, m * 9 + 8, none⟩ = some (.slice r.a2 r.n2 r.c2) := hcell 8 _ rfl
          obtain ⟨mm, hmm, hown⟩ := f2_idx I1.own m r hr
          have hE : E4 A wr := (HS.out.sen.below I1.tw.bel).e4
          have hsz := I1.tw.bel.size
          have K11 := hid (hear_rev A wr hE (by have := H12.out; omega) h v I1.tw.q (fun b hb => by have := I1.tw.lq b hb; have := H12.out; omega) I2 (by omega) HOR.out (by decide) I3 hmm r hown)
          rw [hpb7] at K11
          have HI1 := hid I1
          have HVN := hid I2
          have HI4 := hid I4
          have HI5 := hid I5
          clear hcell hrow hr hmm hown I1 I2 I3 I4 I5 HI7 hE e1
          go_wp2_with (go_at_call 11; refine K11.out.mono ?_; rintro e w7 ⟨h8, v8, a6, c6, rfl, hP8, hM8, hpb8, hH8, hV8, hms8⟩; have I8 : Hid (TwR w hp4 vp4 h8 v8 (.slice (some ⟨lb, 0, none⟩) ln lc) rs (rowO 1 k O k) w7 ∧ HrS 1 k O (ln - m) h8 v8 ∧ RvAll 1 k O m v8 ∧ (∀ j s, v8.line j s → (v8.Y j s).ms = mB 1 (O 1) k s (O 1).length) ∧ ∀ j s, (v8.Y j s).ms.length ≤ 1000) := (show _ ∧ _ from ⟨HI1.out.moveQ hP8 hM8, by rw [show ln - m = ln - (m + 1) + 1 by omega]; exact hH8, hV8, fun j s q => (hms8 j s).trans (HI4.out j s ⟨by have := q.1; rw [hH8.vn] at this; rw [HVN.out.vn]; exact this, by have := q.2.1; rw [hH8.vid] at this; rw [HVN.out.vid]; exact this, by have := q.2.2; rw [hH8.vk] at this; rw [HVN.out.vk]; exact this⟩), fun j s => by rw [hms8]; exact HI5.out j s⟩); clear hP8 hM8 hH8 hV8 hms8)
          exact ⟨⟨m, h8, v8, by omega, by go_num, hpb8, I8⟩, by simp [intOf]⟩
    case rest =>
      obtain ⟨hq7, vq7, hpb7, HI7⟩ := hcut
      obtain ⟨I1, I2, I3, I4, I5⟩ := HI7.out
      have HQ := hid I2
      have DQ := hid (rvAll_end I3)
      have K17 := hid (two_again (O := O) I1.tw.flip I2.vid I2.vn I2.vk I4 I5 (by decide) (HOR.out 1 (by decide)))
      rw [hpb7] at K17
      clear I1 I2 I3 I4 I5 HI7 R6 H6 V6 M6 A6
      go_wp2_with fail
      refine K17.out.mono ?_
      rintro e w8 ⟨la2, lc2, r2, rfl, hR8⟩
      have hlen2 : r2.length = offO 0 k O k := f2_len hR8.own
      have hl2 : r2.length ≤ 54 := by rw [hlen2]; have := HOFF.out 0 (by decide) k; omega
      have R8 := hid hR8
      have H8 := hid (BP.out.start (by decide) k1)
      have V8 : Hid (FwAll 0 k O 0 vp4) := (show FwAll _ _ _ _ _ from fwAll_start fun s hs => by
        have := BP.out.ln 1 s ⟨by rw [BP.out.vn]; decide, by rw [BP.out.vid]; decide, by rw [BP.out.vk]; exact hs⟩
        exact ⟨this.1, this.2.1, this.2.2.1⟩)
      obtain ⟨l2, hl2e⟩ : ∃ l2, l2 = r2.length := ⟨_, rfl⟩
      rw [← hl2e] at R8 hl2 hlen2
      rw [← hl2e]
      have HL2 := hid hl2e
      have HLE2 := hid hlen2
      clear hR8 hl2e hlen2 K17 HLE HLN hl54
      go_upto_block 4 with fail
      go_cut [20] (fun _ wx => ∃ (hp9 : PlH) (vp9 : PlV), hp9.pb = hp.pb ∧ Hid (TwI w hq7 vq7 hp9 vp9 wx ∧ HrS 0 k O l2 hp9 vp9 ∧ FwAll 0 k O l2 vp9))
      case first =>
        go_wp2_with fail
        go_loopw [20] (fun i wr => ∃ (m : Nat) (hp9 : PlH) (vp9 : PlV), m ≤ l2 ∧ i = .int .i64 m ∧ hp9.pb = hp.pb ∧ Hid (TwR w hq7 vq7 hp9 vp9 (.slice la2 l2 lc2) r2 (rowO 0 k O k) wr ∧ HrS 0 k O m hp9 vp9 ∧ FwAll 0 k O m vp9)) (fun i _ => l2 - (intOf i).toNat)
        case atStart => exact ⟨0, hp4, vp4, Nat.zero_le _, rfl, hpb4, ⟨R8.out, H8.out, V8.out⟩⟩
        case round =>
          clear R8 H8 V8
          obtain ⟨m, h, v, hm, rfl, hpb9, HI9⟩ := hrel
          by_cases hlt : m < l2
          · have z4 : (m : Int) < (l2 : Int) := by omega
            obtain ⟨I1, I2, I3⟩ := HI9.out
            obtain ⟨r, hr⟩ : ∃ r, r2[m]? = some r := ⟨_, List.getElem?_eq_getElem (by have := HL2.out; omega)⟩
            have hrow := I1.row
            rw [← HL2.out] at hrow
            obtain ⟨lb, hla, _, hcell⟩ := row_raw hrow HL2.out.symm hr
            subst hla
            have x0 : wr.cell? ⟨lb, m * 9, none⟩ = some (.int .i64 r.x1) := hcell 0 _ rfl
            have x1 : wr.cell? ⟨lb, m * 9 + 1, none⟩ = some (.int .i64 r.x2) := hcell 1 _ rfl
            have x2 : wr.cell? ⟨lb, m * 9 + 2, none⟩ = some (.int .i64 r.x3) := hcell 2 _ rfl
            have x3 : wr.cell? ⟨lb, m * 9 + 3, none⟩ = some (.int .i64 r.x4) := hcell 3 _ rfl
            have x4 : wr.cell? ⟨lb, m * 9 + 4, none⟩ = some (.int .i64 r.x5) := hcell 4 _ rfl
            have x5 : wr.cell? ⟨lb, m * 9 + 5, none⟩ = some (.bool r.x6) := hcell 5 _ rfl
            have x6 : wr.cell? ⟨lb, m * 9 + 6, none⟩ = some (.slice r.a1 r.n1 r.c1) := hcell 6 _ rfl
            have x7 : wr.cell? ⟨lb, m * 9 + 7, none⟩ = some (.int .i64 r.p) := hcell 7 _ rfl
            have x8 : wr.cell? ⟨lb, m * 9 + 8, none⟩ = some (.slice r.a2 r.n2 r.c2) := hcell 8 _ rfl
            obtain ⟨mm, hmm, hown⟩ := f2_idx I1.own m r hr
            have hE : E4 A wr := (HS.out.sen.below I1.tw.bel).e4
            have hsz := I1.tw.bel.size
            have K11 := hid (hear_fwd A wr hE (by have := H12.out; omega) h v I1.tw.q (fun b hb => by have := I1.tw.lq b hb; have := H12.out; omega) I2 (by omega) HOR.out (by decide) I3 hmm r hown)
            rw [hpb9] at K11
            have HI1 := hid I1
            clear hcell hrow hr hmm hown I1 I2 I3 HI9 hE
            go_wp2_with (go_at_call 11; refine K11.out.mono ?_; rintro e w9 ⟨h8, v8, a6, c6, rfl, hP8, hM8, hpb8, hH8, hV8, _⟩; have I8 : Hid (TwR w hq7 vq7 h8 v8 (.slice (some ⟨lb, 0, none⟩) l2 lc2) r2 (rowO 0 k O k) w9 ∧ HrS 0 k O (m + 1) h8 v8 ∧ FwAll 0 k O (m + 1) v8) := (show _ ∧ _ from ⟨HI1.out.moveQ hP8 hM8, hH8, hV8⟩); clear hP8 hM8 hH8 hV8)
            exact ⟨⟨m + 1, h8, v8, by omega, by go_num, hpb8, I8⟩, by simp [intOf]; omega⟩
          · obtain rfl : m = l2 := by omega
            go_wp2_with fail
            go_meet
            exact ⟨h, v, hpb9, ⟨HI9.out.1.tw, HI9.out.2.1, HI9.out.2.2⟩⟩
      case rest =>
        obtain ⟨hp9, vp9, hpb9, HI9⟩ := hcut
        obtain ⟨I1, I2, I3⟩ := HI9.out
        rw [HLE2.out] at I3
        obtain ⟨s1, D1, hn1, hD1, hst1⟩ := I2.full (by decide) k1 HOR.out (fwAll_end I3)
        obtain ⟨s2, D2, hn2, hD2, hst2⟩ := HQ.out.full (by decide) k1 HOR.out DQ.out
        have P1 := hid I2
        have S1 := hid s1
        have S2 := hid s2
        have T9 := hid I1
        have F1 := hid (show D1.Nodup ∧ (∀ p, p ∈ D1 ↔ p.1 < 2 ∧ p.2 < (O p.1).length) ∧ vp9.st = stOf 2 (D1.map (CT O)) from ⟨hn1, hD1, hst1⟩)
        have F2' := hid (show D2.Nodup ∧ (∀ p, p ∈ D2 ↔ p.1 < 2 ∧ p.2 < (O p.1).length) ∧ vq7.st = stOf 2 (D2.map (CT O)) from ⟨hn2, hD2, hst2⟩)
        clear I1 I2 I3 HI9 s1 s2 hn1 hn2 hD1 hD2 hst1 hst2 R8 H8 V8 DQ
        have K12 := hid (snapshot_any wc hp9 vp9 T9.out.q)
        rw [P1.out.vn, hpb9] at K12
        go_wp2_with fail
        refine K12.out.mono ?_
        rintro e w10 ⟨rfl, hb10, hbl10⟩
        have T10 := hid (T9.out.below hbl10)
        have i10 : IntsAt w10 (.slice (some ⟨wc.heap.size, 0, none⟩) 2 2) (snapV vp9) := by
          have := ints_heap (c := 2) hb10
          rw [snapV_len, P1.out.vn] at this
          exact this
        have I10 := hid i10
        have K12' := hid (snapshot_any w10 hq7 vq7 T10.out.p)
        rw [HQ.out.vn, hpb7] at K12'
        clear K12 hb10 hbl10 i10 T9
        go_wp2_with fail
        refine K12'.out.mono ?_
        rintro e w11 ⟨rfl, hb11, hbl11⟩
        have T11 := hid (T10.out.below hbl11)
        have i11 : IntsAt w11 (.slice (some ⟨w10.heap.size, 0, none⟩) 2 2) (snapV vq7) := by
          have := ints_heap (c := 2) hb11
          rw [snapV_len, HQ.out.vn] at this
          exact this
        have K18 := hid (sameInts_same w11 (.slice (some ⟨wc.heap.size, 0, none⟩) 2 2) (.slice (some ⟨w10.heap.size, 0, none⟩) 2 2) (snapV vp9) (I10.out.mono hbl11 (Nat.le_refl _)) (by rw [S1.out, ← S2.out]; exact i11) (by rw [snapV_len, P1.out.vn]; decide))
        clear K12' hb11 hbl11 i11 T10 I10
        go_wp2_with fail
        refine K18.out.mono ?_
        rintro e w12 ⟨rfl, hb12⟩
        have T12 := hid (T11.out.below hb12)
        clear K18 T11 hb12
        have K12 := hid (snapshot_any w12 hp9 vp9 T12.out.q)
        rw [P1.out.vn, hpb9] at K12
        go_wp2_with fail
        refine K12.out.mono ?_
        rintro e w13 ⟨rfl, hb13, hbl13⟩
        have T13 := hid (T12.out.below hbl13)
        have i13 : IntsAt w13 (.slice (some ⟨w12.heap.size, 0, none⟩) 2 2) (snapV vp9) := by
          have := ints_heap (c := 2) hb13
          rw [snapV_len, P1.out.vn] at this
          exact this
        have I13 := hid i13
        clear K12 hb13 hbl13 i13 T12
        cases hnm : nameB key with
        | false =>
          have K13 := hid (fun W pb va vn vc (hW : Below w.heap.size w W) => read_badName A W (HS.out.below hW).e5 pb key hnm va vn vc)
          have K19 := hid (fun W (hW : Below w.heap.size w W) => coded_sentS A w.heap.size W 3 4 (HS.out.below hW) (by decide) (by decide))
          go_wp2_with fail
          refine (K13.out _ _ _ _ _ T13.out.bel).mono ?_
          rintro e w14 ⟨rfl, hb14⟩
          obtain ⟨w15, hw15⟩ : ∃ w15, w15 = w14.alloc (.cells #[.int .i64 0, .string ⟨#[]⟩, .int .i64 0, .slice none 0 0] 47) := ⟨_, rfl⟩
          have b15 : Below w14.heap.size w14 w15 := by rw [hw15]; exact below_alloc _ _
          have T15 := hid ((T13.out.below hb14).below b15)
          have K12 := hid (snapshot_any w15 hq7 vq7 T15.out.p)
          rw [HQ.out.vn, hpb7] at K12
          clear hb14 b15 I13 T13
          go_upto_region 38 with (fail)
          rw [← hw15]
          clear hw15
          go_wp2_with fail
          refine K12.out.mono ?_
          rintro e w16 ⟨rfl, hb16, hbl16⟩
          have T16 := hid (T15.out.below hbl16)
          clear K12 hb16 hbl16 T15
          go_wp2_with fail
          refine (K13.out _ _ _ _ _ T16.out.bel).mono ?_
          rintro e w17 ⟨rfl, hb17⟩
          obtain ⟨w18, hw18⟩ : ∃ w18, w18 = w17.alloc (.cells #[.int .i64 0, .string ⟨#[]⟩, .int .i64 0, .slice none 0 0] 47) := ⟨_, rfl⟩
          have b18 : Below w17.heap.size w17 w18 := by rw [hw18]; exact below_alloc _ _
          have B18 : Hid (Below w.heap.size w w18) := (show Below _ _ _ from ((T16.out.below hb17).below b18).bel)
          clear hb17 b18 T16 K13
          go_upto_region 39 with (fail)
          rw [← hw18]
          clear hw18
          go_wp2_with fail
          refine (K19.out _ B18.out).mono ?_
          rintro e w19 ⟨rfl, hb19⟩
          have B19 : Hid (Below w.heap.size w w19) := (show Below _ _ _ from B18.out.trans (hb19.mono B18.out.size))
          clear hb19
          go_wp2_with fail
          refine (K19.out _ B19.out).mono ?_
          rintro e w20 ⟨rfl, hb20⟩
          have B20 : Hid (Below w.heap.size w w20) := (show Below _ _ _ from B19.out.trans (hb20.mono B19.out.size))
          clear hb20
          go_wp2_with fail
          go_ret
          exact ⟨rfl, B20.out⟩
        | true =>
          have K13 := hid (full_read A (HS.out.sen.below T13.out.bel).e4 (Nat.le_trans H12.out T13.out.bel.size) T13.out.q P1.out.vn HOR.out S1.out F1.out.1 F1.out.2.1 F1.out.2.2 key hnm (some ⟨w12.heap.size, 0, none⟩) 2 I13.out)
          rw [hpb9] at K13
          go_wp2_with fail
          refine K13.out.mono ?_
          rintro e w14 ⟨ds, sv, rfl, hd1, hss1, hsl1, hb14⟩
          obtain ⟨sa1, sc1, hsv⟩ : ∃ sa1 sc1, sv = .slice sa1 (valA ds).set.length sc1 := by obtain ⟨sa1, sc1, hsv, _⟩ := hss1; exact ⟨sa1, sc1, hsv⟩
          subst hsv
          obtain ⟨x, hx⟩ : ∃ x, x = valA ds := ⟨_, rfl⟩
          rw [← hx] at hss1 hsl1 ⊢
          obtain ⟨w15, hw15⟩ : ∃ w15, w15 = w14.alloc (.cells #[.int .i64 x.kind, .string x.text, .int .i64 x.n, .slice sa1 x.set.length sc1] 47) := ⟨_, rfl⟩
          have b15 : Below w14.heap.size w14 w15 := by rw [hw15]; exact below_alloc _ _
          have g15 : w15.heap[w14.heap.size]? = some (.cells #[.int .i64 x.kind, .string x.text, .int .i64 x.n, .slice sa1 x.set.length sc1] 47 (0, 0)) := by rw [hw15]; exact heap_new _ _
          have T15 := hid ((T13.out.below hb14).below b15)
          have SS1 := hid (hss1.mono b15 (Nat.le_refl _))
          have HD1 := hid hd1
          have HX := hid hx
          have K12 := hid (snapshot_any w15 hq7 vq7 T15.out.p)
          rw [HQ.out.vn, hpb7] at K12
          clear hss1 hd1 hx hb14 b15 K13 I13 T13
          go_upto_region 38 with (fail)
          rw [← hw15]
          clear hw15
          go_wp2_with fail
          refine K12.out.mono ?_
          rintro e w16 ⟨rfl, hb16, hbl16⟩
          have T16 := hid (T15.out.below hbl16)
          have i16 : IntsAt w16 (.slice (some ⟨w15.heap.size, 0, none⟩) 2 2) (snapV vq7) := by
            have := ints_heap (c := 2) hb16
            rw [snapV_len, HQ.out.vn] at this
            exact this
          have K13 := hid (full_read A (HS.out.sen.below T16.out.bel).e4 (Nat.le_trans H12.out T16.out.bel.size) T16.out.p HQ.out.vn HOR.out S2.out F2'.out.1 F2'.out.2.1 F2'.out.2.2 key hnm (some ⟨w15.heap.size, 0, none⟩) 2 i16)
          rw [hpb7] at K13
          have g16 := (hbl16.block _ (lt_of_heap g15)).trans g15
          have SS2 := hid (SS1.out.mono hbl16 (Nat.le_refl _))
          clear K12 hb16 hbl16 i16 T15 g15 SS1
          go_wp2_with fail
          refine K13.out.mono ?_
          rintro e w17 ⟨ds2, sv2, rfl, hd2, hss2, _, hb17⟩
          have hds : ds2 = ds := full_same HOR.out F1.out.1 F1.out.2.1 F2'.out.2.1 HD1.out (by rw [S1.out, ← S2.out]; exact hd2)
          subst hds
          obtain ⟨sa2, sc2, hsv2⟩ : ∃ sa2 sc2, sv2 = .slice sa2 (valA ds2).set.length sc2 := by obtain ⟨sa2, sc2, hsv2, _⟩ := hss2; exact ⟨sa2, sc2, hsv2⟩
          subst hsv2
          rw [← HX.out] at hss2 ⊢
          obtain ⟨w18, hw18⟩ : ∃ w18, w18 = w17.alloc (.cells #[.int .i64 x.kind, .string x.text, .int .i64 x.n, .slice sa2 x.set.length sc2] 47) := ⟨_, rfl⟩
          have b18 : Below w17.heap.size w17 w18 := by rw [hw18]; exact below_alloc _ _
          have g18 : w18.heap[w17.heap.size]? = some (.cells #[.int .i64 x.kind, .string x.text, .int .i64 x.n, .slice sa2 x.set.length sc2] 47 (0, 0)) := by rw [hw18]; exact heap_new _ _
          have g18' : w18.heap[w14.heap.size]? = _ := (b18.block _ (Nat.lt_of_lt_of_le (lt_of_heap g16) hb17.size)).trans ((hb17.block _ (lt_of_heap g16)).trans g16)
          have BE : Hid (Below w.heap.size w w18) := (show Below _ _ _ from ((T16.out.below hb17).below b18).bel)
          have K20 := hid (sameValue_same w18 x.kind x.text x.n (.slice sa1 x.set.length sc1) (.slice sa2 x.set.length sc2) x.set ((SS2.out.mono hb17 (Nat.le_refl _)).mono b18 (Nat.le_refl _)) (hss2.mono b18 (Nat.le_refl _)) hsl1)
          have y0 : w18.cell? ⟨w14.heap.size, 0, none⟩ = some (.int .i64 x.kind) := (cell_of g18').trans rfl
          have y1 : w18.cell? ⟨w14.heap.size, 1, none⟩ = some (.string x.text) := (cell_of g18').trans rfl
          have y2 : w18.cell? ⟨w14.heap.size, 2, none⟩ = some (.int .i64 x.n) := (cell_of g18').trans rfl
          have y3 : w18.cell? ⟨w14.heap.size, 3, none⟩ = some (.slice sa1 x.set.length sc1) := (cell_of g18').trans rfl
          have u0 : w18.cell? ⟨w17.heap.size, 0, none⟩ = some (.int .i64 x.kind) := (cell_of g18).trans rfl
          have u1 : w18.cell? ⟨w17.heap.size, 1, none⟩ = some (.string x.text) := (cell_of g18).trans rfl
          have u2 : w18.cell? ⟨w17.heap.size, 2, none⟩ = some (.int .i64 x.n) := (cell_of g18).trans rfl
          have u3 : w18.cell? ⟨w17.heap.size, 3, none⟩ = some (.slice sa2 x.set.length sc2) := (cell_of g18).trans rfl
          clear hss2 hd2 hb17 b18 g16 g18 g18' K13 HD1 SS2 T16
          go_upto_region 39 with (fail)
          rw [← hw18]
          clear hw18
          go_wp2_with (go_at_call 20; refine K20.out.mono ?_; rintro e w19 ⟨rfl, hb19⟩)
          go_ret
          exact ⟨rfl, BE.out.trans (hb19.mono BE.out.size)⟩
end Go.Proofs.YtefpnojanldkeaaGreatDoor
