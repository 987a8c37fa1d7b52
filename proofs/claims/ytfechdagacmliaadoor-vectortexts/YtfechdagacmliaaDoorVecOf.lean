/- The reference's VectorOf, by its contract. -/
import Derived.Test.YtfechdagacmliaaDoorDec
import Derived.Test.YtfechdagacmliaaDoorPair
import Derived.Test.YtfechdagacmliaaDoorOwn
namespace Go.Proofs.YtfechdagacmliaaDoor
open Go.RowKit
set_option maxRecDepth 100000

theorem oneI' (x : Int) : ∀ u ∈ [Value.int .i64 x], u.oneCell' = true := fun u hu => by simp at hu; subst hu; rfl

theorem drop_s (s : ByteArray) (k : Nat) (h : k < s.size) : s.data.toList.drop k = s[k] :: s.data.toList.drop (k + 1) := by
  rw [List.drop_eq_getElem_cons (show k < s.data.toList.length by rw [Array.length_toList]; exact h)]
  rfl
theorem vo_digit {s : ByteArray} {k nn dd : Nat} {o : List Int} (h : k < s.size) (h1 : 48 ≤ (s[k].toNat : Int)) (h2 : (s[k].toNat : Int) ≤ 57) (hb : ¬ ((0 < dd ∧ nn = 0) ∨ 13 < dd)) :
    vo (s.data.toList.drop k) o nn dd = vo (s.data.toList.drop (k + 1)) o (10 * nn + (s[k].toNat - 48)) (dd + 1) := by
  rw [drop_s s k h]
  simp only [vo]
  rw [if_pos (by omega), if_neg hb]
theorem vo_digit_bad {s : ByteArray} {k nn dd : Nat} {o : List Int} (h : k < s.size) (h1 : 48 ≤ (s[k].toNat : Int)) (h2 : (s[k].toNat : Int) ≤ 57) (hb : (0 < dd ∧ nn = 0) ∨ 13 < dd) :
    vo (s.data.toList.drop k) o nn dd = none := by
  rw [drop_s s k h]
  simp only [vo]
  rw [if_pos (by omega), if_pos hb]
theorem u8_46 {c : UInt8} : c = 46 ↔ (c.toNat : Int) = 46 := by
  constructor
  · intro h; rw [h]; rfl
  · intro h; apply UInt8.toNat.inj; have : c.toNat = 46 := by omega
    rw [this]; rfl
theorem vo_dot {s : ByteArray} {k nn dd : Nat} {o : List Int} (h : k < s.size) (h1 : (s[k].toNat : Int) = 46) (hb : dd ≠ 0) :
    vo (s.data.toList.drop k) o nn dd = vo (s.data.toList.drop (k + 1)) (o ++ [(nn : Int)]) 0 0 := by
  rw [drop_s s k h]
  simp only [vo]
  rw [if_neg (by omega), if_neg (fun e => e.elim (fun e => e (u8_46.2 h1)) hb)]
theorem vo_dot_bad {s : ByteArray} {k nn dd : Nat} {o : List Int} (h : k < s.size) (hd : ¬ (48 ≤ (s[k].toNat : Int) ∧ (s[k].toNat : Int) ≤ 57)) (hb : (s[k].toNat : Int) ≠ 46 ∨ dd = 0) :
    vo (s.data.toList.drop k) o nn dd = none := by
  rw [drop_s s k h]
  simp only [vo]
  rw [if_neg (by omega), if_pos (hb.imp (fun e e2 => e (u8_46.1 e2)) id)]
theorem vo_end {s : ByteArray} {k nn dd : Nat} {o : List Int} (h : k = s.size) (hb : dd ≠ 0) : vo (s.data.toList.drop k) o nn dd = some (o ++ [(nn : Int)]) := by
  rw [List.drop_of_length_le (show s.data.toList.length ≤ k by rw [Array.length_toList]; exact Nat.le_of_eq h.symm)]
  simp only [vo]
  rw [if_neg hb]
theorem vo_end_bad {s : ByteArray} {k nn dd : Nat} {o : List Int} (h : k = s.size) (hb : dd = 0) : vo (s.data.toList.drop k) o nn dd = none := by
  rw [List.drop_of_length_le (show s.data.toList.length ≤ k by rw [Array.length_toList]; exact Nat.le_of_eq h.symm)]
  simp only [vo]
  rw [if_pos hb]
theorem pow_step {nn dd d : Nat} (h : nn < 10 ^ dd) (hd : d < 10) : 10 * nn + d < 10 ^ (dd + 1) := by rw [Nat.pow_succ]; omega

/-- What VectorOf hands back. -/
def VoRet (l : List UInt8) (w : World) (e : Ending) (w' : World) : Prop :=
  ∃ v b, e = .returned (.tuple #[v, .bool b]) ∧ (b = true → ∃ o, IntsAt w' v o ∧ chk o = 0 ∧ vo l [] 0 0 = some o) ∧ (b = false → ∀ o, chk o = 0 → vo l [] 0 0 ≠ some o) ∧ Below w.heap.size w w'
theorem VoRet.no {l : List UInt8} {w w' : World} {v : Value} (h : vo l [] 0 0 = none) (hb : Below w.heap.size w w') : VoRet l w (.returned (.tuple #[v, .bool false])) w' :=
  ⟨_, false, rfl, (fun h => by cases h), (fun _ o _ e => by rw [h] at e; cases e), hb⟩
theorem VoRet.yes {l : List UInt8} {w w' : World} {v : Value} {o : List Int} (h : vo l [] 0 0 = some o) (hk : chk o = 0) (hv : IntsAt w' v o) (hb : Below w.heap.size w w') : VoRet l w (.returned (.tuple #[v, .bool true])) w' :=
  ⟨_, true, rfl, (fun _ => ⟨o, hv, hk, h⟩), (fun h => by cases h), hb⟩
theorem VoRet.bad {l : List UInt8} {w w' : World} {v : Value} {o : List Int} (h : vo l [] 0 0 = some o) (hk : chk o ≠ 0) (hb : Below w.heap.size w w') : VoRet l w (.returned (.tuple #[v, .bool false])) w' :=
  ⟨_, false, rfl, (fun h => by cases h), (fun _ u hu e => hk (by rw [h] at e; rw [Option.some.inj e]; exact hu)), hb⟩

set_option maxHeartbeats 8000000 in
theorem vectorOf_any (w : World) (s : ByteArray) (hs : s.size ≤ 1000) :
    Calls Tryd.prog 31 #[.string s] w fun e w' => VoRet s.data.toList w e w' := by
  obtain ⟨i0, hi, hz0, hz1, hz2⟩ := info_parts Tryd.info3
  go_enter Tryd.func31, Tryd.ntmps31
  go_wp2
  go_loopw [4, 5, 6, 7] (fun v a d i wr => ∃ (k nn dd : Nat) (o : List Int), k ≤ s.size + 1 ∧ i = .int .i64 k ∧ a = .int .i64 nn ∧ d = .int .i64 dd ∧ o.length ≤ k ∧ dd ≤ 14 ∧ nn < 10 ^ dd ∧
      (k ≤ s.size → vo (s.data.toList.drop k) o nn dd = vo s.data.toList [] 0 0) ∧ (k = s.size + 1 → vo s.data.toList [] 0 0 = some o) ∧
      wr.ownsRow w.heap.size 3 1 v o.length (o.map (Value.int .i64)) ∧ Below w.heap.size w wr) (fun _ _ _ i _ => s.size + 1 - (intOf i).toNat)
  case atStart => exact ⟨0, 0, 0, [], Nat.zero_le _, rfl, rfl, rfl, Nat.zero_le _, Nat.zero_le _, by decide, fun _ => rfl, fun h => by omega, World.ownsRow_nil _ _ _ _, Below.refl _ _⟩
  case round =>
    obtain ⟨k, nn, dd, o, hk, rfl, rfl, rfl, hol, hdd, hnn, hvo, hfin, hown, hbl⟩ := hrel
    have HV := hid hvo
    have HF := hid hfin
    have HOW := hid hown
    have HBL := hid hbl
    have HNN := hid hnn
    have hsz := hbl.size
    have hnb : nn < 100000000000000 := Nat.lt_of_lt_of_le hnn (Nat.pow_le_pow_right (by decide) hdd)
    clear hvo hfin hown hbl hnn
    by_cases hlt : k < s.size
    · by_cases hdig : 48 ≤ (s[k].toNat : Int) ∧ (s[k].toNat : Int) ≤ 57
      · obtain ⟨hd1, hd2⟩ := hdig
        by_cases hbad : (0 < dd ∧ nn = 0) ∨ 13 < dd
        · have NONE : Hid (vo s.data.toList [] 0 0 = none) := (HV.out (by omega)).symm.trans (vo_digit_bad hlt hd1 hd2 hbad)
          have HBAD := hid hbad
          go_wp2
          all_goals first
            | (go_ret2; exact VoRet.no NONE.out HBL.out)
            | (exfalso; have := HBAD.out; simp at *; omega)
        · have HBAD := hid hbad
          have HV1 := hid ((HV.out (by omega)).symm.trans (vo_digit hlt hd1 hd2 hbad))
          have hP := hid (pow_step (d := s[k].toNat - 48) HNN.out (by omega))
          clear hbad
          by_cases hd0 : dd = 0
          · subst hd0
            go_wp2
            go_roundw
            case rel => exact ⟨k + 1, 10 * nn + (s[k].toNat - 48), 1, o, by omega, by go_num, by go_num, by go_num, by omega, by omega, hP.out, fun _ => HV1.out.symm, fun h => by omega, HOW.out, HBL.out⟩
            case measure => simp [intOf]; omega
          · have hnz : nn ≠ 0 := fun e => HBAD.out (.inl ⟨by omega, e⟩)
            have hnb2 : ((nn : Int) == 0) = false := beq_eq_false_iff_ne.2 (by omega)
            have h13 : ¬ 13 < dd := fun e => HBAD.out (.inr e)
            have hpos : 0 < dd := by omega
            go_wp2
            go_roundw
            case rel => exact ⟨k + 1, 10 * nn + (s[k].toNat - 48), dd + 1, o, by omega, by go_num, by go_num, by go_num, by omega, by omega, hP.out, fun _ => HV1.out.symm, fun h => by omega, HOW.out, HBL.out⟩
            case measure => simp [intOf]; omega
      · have HDIG := hid hdig
        by_cases hc : (s[k].toNat : Int) = 46 ∧ dd ≠ 0
        · have HV1 := hid ((HV.out (by omega)).symm.trans (vo_dot hlt hc.1 hc.2))
          obtain ⟨hc1, hc2⟩ := hc
          have hcl : ¬ (48 ≤ (s[k].toNat : Int)) := by omega
          have hcb : ((s[k].toNat : Int) != 46) = false := by rw [bne_eq_false_iff_eq]; exact hc1
          have hdb : ((dd : Int) == 0) = false := beq_eq_false_iff_ne.2 (by omega)
          have HC1 := hid hc1
          clear hdig hc1
          have hm1 : o.length + 1 ≤ maxLen := by unfold maxLen; omega
          have hm2 : (o.length + 1) * 8 ≤ 140737488355328 := by omega
          have hs5 : ∀ x, w.heap.size ≤ (wr.alloc x).heap.size := fun x => by simp; omega
          go_wp2_with (at_builtin; refine wpList_append_own _ rfl _ _ 22 rfl w.heap.size 3 i0 (.int .i64 0) 1 8 Tryd.underlying22 hi hz0 hz1 hz2 rfl (by decide) _ _ _ rfl (HOW.out.alloc _) ⟨wr.heap.size, 0, none⟩ 1 1 [.int .i64 nn] rfl rfl (cell_one_new _ _ _) (oneI' _) hm1 hm2 (hs5 _) ?_)
          intro v' w1 hown' hgrow' _
          have HO1 : Hid (w1.ownsRow w.heap.size 3 1 v' (o ++ [(nn : Int)]).length ((o ++ [(nn : Int)]).map (Value.int .i64))) := by
            have e : (o ++ [(nn : Int)]).map (Value.int .i64) = o.map (Value.int .i64) ++ [.int .i64 nn] := by simp
            rw [e, List.length_append]; exact hown'
          have HB1 : Hid (Below w.heap.size w w1) := (HBL.out.alloc hsz _).grown hgrow' (by simp; omega) (fun j hj => (HOW.out.lt j hj).1)
          clear hown' hgrow'
          go_wp2
          go_roundw
          case rel => exact ⟨k + 1, 0, 0, o ++ [(nn : Int)], by omega, by go_num, rfl, rfl, by rw [List.length_append, List.length_singleton]; omega, by omega, by decide, fun _ => HV1.out.symm, fun h => by omega, HO1.out, HB1.out⟩
          case measure => simp [intOf]; omega
        · have NONE : Hid (vo s.data.toList [] 0 0 = none) := (HV.out (by omega)).symm.trans (vo_dot_bad hlt hdig (by omega))
          have HC := hid hc
          by_cases h57 : 57 < (s[k].toNat : Int)
          · have hcb : ((s[k].toNat : Int) != 46) = true := by rw [bne_iff_ne]; omega
            have hge : 48 ≤ (s[k].toNat : Int) := by omega
            clear hdig hc
            go_wp2
            go_ret2
            exact VoRet.no NONE.out HBL.out
          · have hcl : (s[k].toNat : Int) < 48 := by omega
            by_cases hc46 : (s[k].toNat : Int) = 46
            · have hcb : ((s[k].toNat : Int) != 46) = false := by rw [bne_eq_false_iff_eq]; exact hc46
              have hd0 : dd = 0 := by omega
              subst hd0
              clear hdig hc hc46
              go_wp2
              go_ret2
              exact VoRet.no NONE.out HBL.out
            · have hcb : ((s[k].toNat : Int) != 46) = true := by rw [bne_iff_ne]; exact hc46
              clear hdig hc hc46
              go_wp2
              go_ret2
              exact VoRet.no NONE.out HBL.out
    · by_cases hle : k = s.size
      · by_cases hd0 : dd = 0
        · have NONE : Hid (vo s.data.toList [] 0 0 = none) := (HV.out (by omega)).symm.trans (vo_end_bad hle hd0)
          subst hd0
          have HLE := hid hle
          have hle2 : k ≤ s.size := by omega
          clear hle
          go_wp2
          go_ret2
          exact VoRet.no NONE.out HBL.out
        · have HV1 := hid ((HV.out (by omega)).symm.trans (vo_end hle hd0))
          have hdb : ((dd : Int) == 0) = false := beq_eq_false_iff_ne.2 (by omega)
          have HLE := hid hle
          have hle2 : k ≤ s.size := by omega
          clear hle
          have hm1 : o.length + 1 ≤ maxLen := by unfold maxLen; omega
          have hm2 : (o.length + 1) * 8 ≤ 140737488355328 := by omega
          have hs5 : ∀ x, w.heap.size ≤ (wr.alloc x).heap.size := fun x => by simp; omega
          go_wp2_with (at_builtin; refine wpList_append_own _ rfl _ _ 22 rfl w.heap.size 3 i0 (.int .i64 0) 1 8 Tryd.underlying22 hi hz0 hz1 hz2 rfl (by decide) _ _ _ rfl (HOW.out.alloc _) ⟨wr.heap.size, 0, none⟩ 1 1 [.int .i64 nn] rfl rfl (cell_one_new _ _ _) (oneI' _) hm1 hm2 (hs5 _) ?_)
          intro v' w1 hown' hgrow' _
          have HO1 : Hid (w1.ownsRow w.heap.size 3 1 v' (o ++ [(nn : Int)]).length ((o ++ [(nn : Int)]).map (Value.int .i64))) := by
            have e : (o ++ [(nn : Int)]).map (Value.int .i64) = o.map (Value.int .i64) ++ [.int .i64 nn] := by simp
            rw [e, List.length_append]; exact hown'
          have HB1 : Hid (Below w.heap.size w w1) := (HBL.out.alloc hsz _).grown hgrow' (by simp; omega) (fun j hj => (HOW.out.lt j hj).1)
          clear hown' hgrow'
          go_wp2
          go_roundw
          case rel => exact ⟨k + 1, 0, 0, o ++ [(nn : Int)], by omega, by go_num, rfl, rfl, by rw [List.length_append, List.length_singleton]; omega, by omega, by decide, fun h => by have := HLE.out; omega, fun _ => HV1.out, HO1.out, HB1.out⟩
          case measure => simp [intOf]; omega
      · have hfull := HF.out (by omega)
        have HFULL := hid hfull
        have hgt : ¬ k ≤ s.size := by omega
        have KE := hid (vectorError wr _ o (ints_of_row HOW.out) (by omega))
        clear hfull
        by_cases hk0 : chk o = 0
        · have hkb : (chk o == 0) = true := beq_iff_eq.2 hk0
          have HK0 := hid hk0
          clear hk0
          go_wp2_with fail
          refine KE.out.mono ?_
          rintro e wx ⟨rfl, hw⟩
          rw [hw]
          clear hw wx
          go_wp2
          go_ret2
          exact VoRet.yes HFULL.out HK0.out (ints_of_row HOW.out) HBL.out
        · have hkb : (chk o == 0) = false := beq_eq_false_iff_ne.2 hk0
          have HK0 := hid hk0
          clear hk0
          go_wp2_with fail
          refine KE.out.mono ?_
          rintro e wx ⟨rfl, hw⟩
          rw [hw]
          clear hw wx
          go_wp2
          go_ret2
          exact VoRet.bad HFULL.out HK0.out HBL.out
end Go.Proofs.YtfechdagacmliaaDoor
