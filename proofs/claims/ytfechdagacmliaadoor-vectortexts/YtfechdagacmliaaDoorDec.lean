/- The reference's Byte, below, Decimal and VectorText, by their contracts. -/
import Derived.Test.YtfechdagacmliaaDoorParse
import Derived.Test.YtfechdagacmliaaDoorInts
import Derived.WalkLawsBesides
import Derived.WalkSpells
namespace Go.Proofs.YtfechdagacmliaaDoor
open Go.RowKit
set_option maxRecDepth 100000

theorem u8_of {n : Int} (h0 : 48 ≤ n) (h9 : n ≤ 57) : ((UInt8.ofNat n.toNat).toNat : Int) = n := by
  rw [UInt8.toNat_ofNat']
  omega
theorem byte_any (n : Int) (h0 : 48 ≤ n) (h9 : n ≤ 57) (w : World) : Calls Tryd.prog 75 #[.int .i64 n] w fun e w' => e = .returned (.string ⟨#[UInt8.ofNat n.toNat]⟩) ∧ Below w.heap.size w w' := by
  have hc := run_convert_bytes_back (P := Tryd.prog) (w.alloc (.cells #[.int .u8 n] 5)) 89 9 5 ⟨w.heap.size, 0, none⟩ 1 [UInt8.ofNat n.toNat] Tryd.underlying89 Tryd.underlying5 Tryd.underlying9 (fun j hj => by
    have h1 : j < 1 := hj
    obtain rfl : j = 0 := by omega
    simp [Addr.add]; omega)
  simp only [List.length_singleton] at hc
  go_enter Tryd.func75, Tryd.ntmps75
  go_wp2
  go_ret
  exact ⟨rfl, below_alloc _ _⟩

theorem ba_app (a b : List UInt8) : (⟨a.toArray⟩ : ByteArray) ++ ⟨b.toArray⟩ = ⟨(a ++ b).toArray⟩ := by
  apply ByteArray.ext
  simp [ByteArray.data_append]
theorem ret_str {a b : ByteArray} (h : a = b) : Ending.returned (.string a) = .returned (.string b) := by rw [h]

set_option maxHeartbeats 1000000 in
theorem below_any : ∀ (k m : Nat), m < k → m ≤ 1099511627776 → ∀ w : World, Calls Tryd.prog 61 #[.int .i64 (-(m : Int))] w fun e w' => e = .returned (.string ⟨(Lib.decDigits m).toArray⟩) ∧ Below w.heap.size w w'
  | 0, m, h, _, _ => absurd h (Nat.not_lt_zero _)
  | k + 1, m, h, hb, w => by
    by_cases h10 : m < 10
    · have H10 := hid h10
      have hlt : -(10 : Int) < -(m : Int) := by omega
      go_enter Tryd.func61, Tryd.ntmps61
      go_wp2_with (go_at_call 75; refine (byte_any _ (by omega) (by omega) _).mono ?_; rintro e w1 ⟨rfl, hb1⟩)
      go_ret
      refine ⟨ret_str ?_, hb1⟩
      rw [dd_small H10.out, show (48 + (m : Int)).toNat = 48 + m by omega]
    · have IH := hid (below_any k (m / 10) (by omega) (by omega))
      have H10 := hid h10
      have hge : ¬ (-(10 : Int) < -(m : Int)) := by omega
      go_enter Tryd.func61, Tryd.ntmps61
      go_wp2_with fail
      rw [show -((m : Int) / 10) = -((m / 10 : Nat) : Int) by omega]
      refine (IH.out _).mono ?_
      rintro e w1 ⟨rfl, hb1⟩
      have HB1 := hid hb1
      obtain ⟨d, hd⟩ : ∃ d : ByteArray, d = ⟨(Lib.decDigits (m / 10)).toArray⟩ := ⟨_, rfl⟩
      have hl : d.size ≤ 13 := by rw [hd]; have := dd_len 12 (m / 10) (by omega); simpa [ByteArray.size] using this
      rw [← hd]
      have HD := hid hd
      clear hb1 hd
      go_wp2_with fail
      refine (byte_any _ (by omega) (by omega) _).mono ?_
      rintro e w2 ⟨rfl, hb2⟩
      have HB2 : Hid (Below w.heap.size w w2) := HB1.out.trans (hb2.mono HB1.out.size)
      clear hb2
      go_wp2
      go_ret
      refine ⟨ret_str ?_, HB2.out⟩
      rw [HD.out, dd_big H10.out]
      exact ba_app _ [_]

theorem decimal_any (z : Int) (h0 : 0 ≤ z) (h1 : z ≤ 1099511627776) (w : World) : Calls Tryd.prog 45 #[.int .i64 z] w fun e w' => e = .returned (.string ⟨(Lib.itoa z).toArray⟩) ∧ Below w.heap.size w w' := by
  obtain ⟨m, rfl⟩ := Int.eq_ofNat_of_zero_le h0
  have K := hid (below_any _ m (Nat.lt_succ_self m) (by omega) w)
  go_enter Tryd.func45, Tryd.ntmps45
  go_wp2_with fail
  refine K.out.mono ?_
  rintro e w1 ⟨rfl, hb1⟩
  go_wp2
  go_ret
  exact ⟨ret_str (by rw [itoa_nat (by omega), Int.toNat_natCast]), hb1⟩

set_option maxHeartbeats 2000000 in
theorem vectorText_n (w : World) (b o n c : Nat) (zs : List Int) (hz : zs.length = n) (h0 : chk zs = 0)
    (hc : ∀ t, t < n → w.cell? ⟨b, o + t, none⟩ = some (.int .i64 (zs.getD t 0))) :
    Calls Tryd.prog 30 #[.slice (some ⟨b, o, none⟩) n c] w fun e w' => e = .returned (.string ⟨(textOf zs).toArray⟩) ∧ Below w.heap.size w w' := by
  have a0 := chk_zero.1 h0
  have h6 : n ≤ 6 := by omega
  have HA := hid (chk_mem h0).2
  have HR := hid a0.2.2
  have HZ := hid hz
  have HC := hid hc
  clear hz hc h0 a0
  go_enter Tryd.func30, Tryd.ntmps30
  go_wp2
  go_loopw [3, 4] (fun s i wr => ∃ k : Nat, k ≤ n ∧ i = .int .i64 k ∧ s = .string ⟨(textOf (zs.take k)).toArray⟩ ∧ Below w.heap.size w wr) (fun _ i _ => n - (intOf i).toNat)
  case atStart => exact ⟨0, Nat.zero_le _, rfl, rfl, Below.refl _ _⟩
  case round =>
    obtain ⟨k, hk, rfl, rfl, hbl⟩ := hrel
    have HBL := hid hbl
    have hsz := hbl.size
    by_cases hlt : k < n
    · have e1 : wr.cell? ⟨b, o + k, none⟩ = some (.int .i64 (zs.getD k 0)) := by rw [hbl.cell (p := ⟨b, o + k, none⟩) (lt_of_cell (HC.out k hlt))]; exact HC.out k hlt
      have hr := HR.out k (by have := HZ.out; omega)
      have ht : zs.take (k + 1) = zs.take k ++ [zs.getD k 0] := by
        have hkl : k < zs.length := by have := HZ.out; omega
        rw [List.take_succ_eq_append_getElem hkl, List.getD_eq_getElem?_getD, List.getElem?_eq_getElem hkl]
        rfl
      obtain ⟨z, hzz⟩ : ∃ z, z = zs.getD k 0 := ⟨_, rfl⟩
      rw [← hzz] at e1 hr ht
      have KD := hid (decimal_any z hr.1 hr.2)
      obtain ⟨d, hd⟩ : ∃ d : ByteArray, d = ⟨(Lib.itoa z).toArray⟩ := ⟨_, rfl⟩
      obtain ⟨p, hp⟩ : ∃ p : ByteArray, p = ⟨(textOf (zs.take k)).toArray⟩ := ⟨_, rfl⟩
      have hdl : d.size ≤ 13 := by
        rw [hd, itoa_nat hr.1]
        have := dd_len 12 z.toNat (by omega)
        simpa [ByteArray.size] using this
      have hpl : p.size ≤ 84 := by
        rw [hp]
        have h1 := text_len14 (zs.take k) (fun x hx => HA.out x (List.mem_of_mem_take hx))
        have h2 : (zs.take k).length ≤ 6 := by rw [List.length_take]; omega
        have h3 : (textOf (zs.take k)).length ≤ 84 := by omega
        simpa [ByteArray.size] using h3
      rw [← hd] at KD
      rw [← hp]
      have HD := hid hd
      have HP := hid hp
      have HT := hid ht
      clear hd hp ht hzz hbl hr
      by_cases hk0 : k = 0
      · subst hk0
        rw [Nat.add_zero] at e1
        go_wp2_with fail
        refine (KD.out _).mono ?_
        rintro e w1 ⟨rfl, hb1⟩
        have HB1 : Hid (Below w.heap.size w w1) := HBL.out.trans (hb1.mono hsz)
        clear hb1
        go_wp2
        go_roundw
        case rel =>
          refine ⟨1, by omega, by go_num, ?_, HB1.out⟩
          rw [HP.out, HD.out, HT.out, ba_app]
          simp [textOf, Lib.join_nil, Lib.join_one]
        case measure => simp [intOf]; omega
      · have hpos : 0 < k := by omega
        go_wp2_with fail
        refine (KD.out _).mono ?_
        rintro e w1 ⟨rfl, hb1⟩
        have HB1 : Hid (Below w.heap.size w w1) := HBL.out.trans (hb1.mono hsz)
        clear hb1
        go_wp2
        go_roundw
        case rel =>
          refine ⟨k + 1, by omega, by go_num, ?_, HB1.out⟩
          have hne : zs.take k ≠ [] := fun e => by
            have h1 := congrArg List.length e
            rw [List.length_take, Nat.min_eq_left (by have := HZ.out; omega)] at h1
            simp at h1
            omega
          rw [HP.out, HD.out, HT.out, text_app hne, show (⟨#[46]⟩ : ByteArray) = ⟨[46].toArray⟩ from rfl, ba_app, ba_app, List.append_assoc]
          rfl
        case measure => simp [intOf]; omega
    · obtain rfl : k = n := by omega
      clear hbl
      go_wp2
      go_ret
      exact ⟨ret_str (by rw [List.take_of_length_le (by have := HZ.out; omega)]), HBL.out⟩
end Go.Proofs.YtfechdagacmliaaDoor
