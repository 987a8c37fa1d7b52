/- causewaylaw1.VectorTexts answers true, at any vector and any text. -/
import Derived.Test.YtfechdagacmliaaDoorRead
import Derived.Test.YtfechdagacmliaaDoorVecOf
import Derived.Test.YtfechdagacmliaaDoorTimed
import Derived.Test.YtfechdagacmliaaDoorTwoWalk
namespace Go.Proofs.YtfechdagacmliaaDoor
open Go.RowKit
set_option maxRecDepth 100000

theorem vectorText_any (w : World) (v : Value) (zs : List Int) (h : IntsAt w v zs) (h0 : chk zs = 0) :
    Calls Tryd.prog 30 #[v] w fun e w' => e = .returned (.string ⟨(textOf zs).toArray⟩) ∧ Below w.heap.size w w' := by
  obtain ⟨b, o, c, rfl, hc⟩ := h.some (chk_zero.1 h0).1
  exact vectorText_n w b o zs.length c zs rfl h0 hc

set_option maxHeartbeats 4000000 in
theorem texts_long (A : Nat → Addr) (w : World) (hE : E2 A w) (v : Value) (s : ByteArray) (za : List Int) (ha : IntsAt w v za) (h20 : 20 < za.length ∨ 200 < s.size) :
    Calls Tryd.prog 7 #[v, .string s] w fun e w' => e = .returned (.bool true) ∧ Below w.heap.size w w' := by
  obtain ⟨a1, c1, rfl⟩ := ha.slice
  by_cases h1 : 20 < za.length
  · go_enter Tryd.func7, Tryd.ntmps7
    go_wp2_with (go_at_call 13; refine (timed_any A _ hE).mono ?_; rintro e w1 ⟨rfl, hb1⟩)
    go_ret
    exact ⟨rfl, hb1⟩
  · have h2 : 200 < s.size := by omega
    go_enter Tryd.func7, Tryd.ntmps7
    go_wp2_with (go_at_call 13; refine (timed_any A _ hE).mono ?_; rintro e w1 ⟨rfl, hb1⟩)
    go_ret
    exact ⟨rfl, hb1⟩

set_option maxHeartbeats 16000000 in
theorem texts_bad (A : Nat → Addr) (w : World) (hS : Sents A w.heap.size w) (hT : TW A w) (v : Value) (s : ByteArray) (za : List Int) (ha : IntsAt w v za) (h1 : za.length ≤ 20) (h2 : s.size ≤ 200) (hk : chk za ≠ 0) :
    Calls Tryd.prog 7 #[v, .string s] w fun e w' => e = .returned (.bool true) ∧ Below w.heap.size w w' := by
  have hE := hS.e2
  have h3 : 3 ≤ w.heap.size := lt_of_cell hE.shape
  have h17 := hT.size
  have hs1000 : s.size ≤ 1000 := by omega
  obtain ⟨a1, c1, rfl⟩ := ha.slice
  have HB0 : Hid (Below w.heap.size w w) := Below.refl _ _
  have HT := hid hT
  have hla : za.length ≤ 1000000 := by omega
  have HK := hid hk
  obtain ⟨c, hc⟩ : ∃ c, c = chk za := ⟨_, rfl⟩
  have hc0 : 0 < c := by rw [hc]; rcases chk_cases za with e | e | e <;> omega
  have C := hid hc
  have NK := hid (num_of_chk hk)
  rw [← hc] at NK
  clear hc hk
  go_enter Tryd.func7, Tryd.ntmps7
  go_wp2_with fail
  refine (timed_any A _ hE).mono ?_
  rintro e w1 ⟨rfl, hb⟩
  have HB1 : Hid (Below w.heap.size w w1) := HB0.out.trans (hb.mono HB0.out.size)
  clear hb
  go_wp2_with fail
  refine (own_any _ _ za (ha.mono HB1.out (Nat.le_refl _)) hla).mono ?_
  rintro e w2 ⟨v2, rfl, hv, hb⟩
  have HB2 : Hid (Below w.heap.size w w2) := HB1.out.trans (hb.mono HB1.out.size)
  have L1 := hid hv
  clear hv hb
  go_wp2_with fail
  refine (text_bad A _ (hE.below HB2.out h3) _ za L1.out hla HK.out).mono ?_
  rintro e wx ⟨rfl, hw⟩
  rw [hw]
  clear hw wx
  rw [← C.out]
  clear L1
  go_wp2_with fail
  refine (vectorError _ _ za (ha.mono HB2.out (Nat.le_refl _)) hla).mono ?_
  rintro e wx ⟨rfl, hw⟩
  rw [hw]
  clear hw wx
  rw [← C.out]
  go_wp2_with fail
  refine (coded_sent A _ _ _ _ (hS.below (HB2.out.mono hS.size)) NK.out.1 NK.out.2).mono ?_
  rintro e w3 ⟨rfl, hb⟩
  have HB3 : Hid (Below w.heap.size w w3) := HB2.out.trans (hb.mono HB2.out.size)
  clear hb
  go_wp2_with fail
  refine (read_any A _ (HT.out.below HB3.out h17) s hs1000).mono ?_
  intro e w4 hr
  rcases hr with ⟨r4, o, rfl, hv, hxk, hxt, hb⟩ | ⟨rfl, hn, hb⟩
  · have HB4 : Hid (Below w.heap.size w w4) := HB3.out.trans (hb.mono HB3.out.size)
    have LX := hid hv
    have HXK := hid hxk
    have HXT := hid hxt
    clear hv hb hxk hxt
    go_wp2_with fail
    refine (vectorOf_any _ s hs1000).mono ?_
    rintro e w5 ⟨v5, bb, rfl, hyes, hno, hb⟩
    have L3 := hid (LX.out.mono hb (Nat.le_refl _))
    clear LX
    have HB5 : Hid (Below w.heap.size w w5) := HB4.out.trans (hb.mono HB4.out.size)
    clear hb
    have HVO : Hid (vo s.data.toList [] 0 0 = some o) := by rw [← HXT.out]; exact vo_of_text HXK.out
    cases bb with
    | false => exact absurd HVO.out (hno rfl o HXK.out)
    | true =>
      obtain ⟨o2, hv2, hk2, ht2⟩ := hyes rfl
      obtain rfl : o2 = o := Option.some.inj (ht2.symm.trans HVO.out)
      have HV2 := hid hv2
      have hol : o2.length ≤ 1000000 := by have := (chk_zero.1 hk2).2.1; omega
      clear hyes hno hv2 hk2 ht2
      go_wp2_with fail
      refine (sameInts _ _ _ o2 o2 L3.out HV2.out hol).mono ?_
      rintro e w6 ⟨rfl, dq, hq⟩
      have hb : Below w5.heap.size w5 w6 := by rw [hq]; exact below_draws (Below.refl _ _) dq
      clear hq
      have L4 := hid (L3.out.mono hb (Nat.le_refl _))
      clear L3
      have HB6 : Hid (Below w.heap.size w w6) := HB5.out.trans (hb.mono HB5.out.size)
      clear hb
      rw [show decide (o2 = o2) = true from decide_eq_true rfl]
      go_wp2
      go_ret
      exact ⟨rfl, HB6.out⟩
  · have HB4 : Hid (Below w.heap.size w w4) := HB3.out.trans (hb.mono HB3.out.size)
    have HNO := hid hn
    clear hb hn
    go_wp2_with fail
    refine (vectorOf_any _ s hs1000).mono ?_
    rintro e w5 ⟨v5, bb, rfl, hyes, hno, hb⟩
    have HB5 : Hid (Below w.heap.size w w5) := HB4.out.trans (hb.mono HB4.out.size)
    clear hb
    cases bb with
    | true =>
      obtain ⟨o2, hv2, hk2, ht2⟩ := hyes rfl
      exact absurd (text_of_vo ht2) (HNO.out o2 hk2)
    | false =>
      clear hyes hno
      go_wp2_with fail
      refine (coded_sent A _ _ 0 _ (hS.below (HB5.out.mono hS.size)) (by decide) (by decide)).mono ?_
      rintro e w6 ⟨rfl, hb⟩
      have HB6 : Hid (Below w.heap.size w w6) := HB5.out.trans (hb.mono HB5.out.size)
      clear hb
      go_wp2
      go_ret
      exact ⟨rfl, HB6.out⟩

set_option maxHeartbeats 16000000 in
theorem texts_ok (A : Nat → Addr) (w : World) (hS : Sents A w.heap.size w) (hT : TW A w) (v : Value) (s : ByteArray) (za : List Int) (ha : IntsAt w v za) (h1 : za.length ≤ 20) (h2 : s.size ≤ 200) (hk : chk za = 0) :
    Calls Tryd.prog 7 #[v, .string s] w fun e w' => e = .returned (.bool true) ∧ Below w.heap.size w w' := by
  have hE := hS.e2
  have h3 : 3 ≤ w.heap.size := lt_of_cell hE.shape
  have h17 := hT.size
  have hs1000 : s.size ≤ 1000 := by omega
  obtain ⟨a1, c1, rfl⟩ := ha.slice
  have HB0 : Hid (Below w.heap.size w w) := Below.refl _ _
  have HT := hid hT
  have hla : za.length ≤ 1000000 := by omega
  have HK := hid hk
  have htl : (⟨(textOf za).toArray⟩ : ByteArray).size ≤ 1000 := by
    have := text_len hk
    show (textOf za).toArray.size ≤ 1000
    rw [List.size_toArray]
    omega
  have htd : (⟨(textOf za).toArray⟩ : ByteArray).data.toList = textOf za := by simp
  obtain ⟨t, ht⟩ : ∃ t : ByteArray, t = ⟨(textOf za).toArray⟩ := ⟨_, rfl⟩
  rw [← ht] at htl htd
  have HTT := hid ht
  have HTD := hid htd
  clear ht htd hk
  go_enter Tryd.func7, Tryd.ntmps7
  go_wp2_with fail
  refine (timed_any A _ hE).mono ?_
  rintro e w1 ⟨rfl, hb⟩
  have HB1 : Hid (Below w.heap.size w w1) := HB0.out.trans (hb.mono HB0.out.size)
  clear hb
  go_wp2_with fail
  refine (own_any _ _ za (ha.mono HB1.out (Nat.le_refl _)) hla).mono ?_
  rintro e w2 ⟨v2, rfl, hv, hb⟩
  have HB2 : Hid (Below w.heap.size w w2) := HB1.out.trans (hb.mono HB1.out.size)
  have L1 := hid hv
  clear hv hb
  go_wp2_with fail
  refine (text_ok A _ (HT.out.below HB2.out h17) _ za L1.out HK.out).mono ?_
  rintro e w3 ⟨rfl, hb⟩
  have L2 := hid (L1.out.mono hb (Nat.le_refl _))
  clear L1
  have HB3 : Hid (Below w.heap.size w w3) := HB2.out.trans (hb.mono HB2.out.size)
  clear hb
  rw [← HTT.out]
  clear L2
  go_wp2_with fail
  refine (vectorError _ _ za (ha.mono HB3.out (Nat.le_refl _)) hla).mono ?_
  rintro e wx ⟨rfl, hw⟩
  rw [hw]
  clear hw wx
  rw [HK.out]
  go_wp2_with fail
  refine (read_any A _ (HT.out.below HB3.out h17) t htl).mono ?_
  intro e w4 hr0
  rcases hr0 with ⟨rb, ob, rfl, hv, hxk, hxt, hb⟩ | ⟨rfl, hn, hb⟩
  rotate_left
  · exact absurd HTD.out.symm (hn za HK.out)
  obtain rfl : ob = za := text_inj hxk HK.out (hxt.trans HTD.out)
  have HB4 : Hid (Below w.heap.size w w4) := HB3.out.trans (hb.mono HB3.out.size)
  have LB := hid hv
  clear hv hb hxk hxt
  go_wp2_with fail
  refine (vectorText_any _ _ ob (ha.mono HB4.out (Nat.le_refl _)) HK.out).mono ?_
  rintro e w5 ⟨rfl, hb⟩
  have L3 := hid (LB.out.mono hb (Nat.le_refl _))
  clear LB
  have HB5 : Hid (Below w.heap.size w w5) := HB4.out.trans (hb.mono HB4.out.size)
  clear hb
  rw [← HTT.out]
  go_wp2_with fail
  refine (sameInts _ _ _ ob ob L3.out (ha.mono HB5.out (Nat.le_refl _)) hla).mono ?_
  rintro e w6 ⟨rfl, dq, hq⟩
  have hb : Below w5.heap.size w5 w6 := by rw [hq]; exact below_draws (Below.refl _ _) dq
  clear hq
  have L4 := hid (L3.out.mono hb (Nat.le_refl _))
  clear L3
  have HB6 : Hid (Below w.heap.size w w6) := HB5.out.trans (hb.mono HB5.out.size)
  clear hb
  clear L4
  rw [show decide (ob = ob) = true from decide_eq_true rfl]
  go_wp2_with fail
  refine (read_any A _ (HT.out.below HB6.out h17) s hs1000).mono ?_
  intro e w7 hr
  rcases hr with ⟨r7, o, rfl, hv, hxk, hxt, hb⟩ | ⟨rfl, hn, hb⟩
  · have HB7 : Hid (Below w.heap.size w w7) := HB6.out.trans (hb.mono HB6.out.size)
    have LX := hid hv
    have HXK := hid hxk
    have HXT := hid hxt
    clear hv hb hxk hxt
    go_wp2_with fail
    refine (vectorOf_any _ s hs1000).mono ?_
    rintro e w8 ⟨v8, bb, rfl, hyes, hno, hb⟩
    have L6 := hid (LX.out.mono hb (Nat.le_refl _))
    clear LX
    have HB8 : Hid (Below w.heap.size w w8) := HB7.out.trans (hb.mono HB7.out.size)
    clear hb
    have HVO : Hid (vo s.data.toList [] 0 0 = some o) := by rw [← HXT.out]; exact vo_of_text HXK.out
    cases bb with
    | false => exact absurd HVO.out (hno rfl o HXK.out)
    | true =>
      obtain ⟨o2, hv2, hk2, ht2⟩ := hyes rfl
      obtain rfl : o2 = o := Option.some.inj (ht2.symm.trans HVO.out)
      have HV2 := hid hv2
      have hol : o2.length ≤ 1000000 := by have := (chk_zero.1 hk2).2.1; omega
      clear hyes hno hv2 hk2 ht2
      go_wp2_with fail
      refine (sameInts _ _ _ o2 o2 L6.out HV2.out hol).mono ?_
      rintro e w9 ⟨rfl, dq, hq⟩
      have hb : Below w8.heap.size w8 w9 := by rw [hq]; exact below_draws (Below.refl _ _) dq
      clear hq
      have L7 := hid (L6.out.mono hb (Nat.le_refl _))
      clear L6
      have HB9 : Hid (Below w.heap.size w w9) := HB8.out.trans (hb.mono HB8.out.size)
      clear hb
      rw [show decide (o2 = o2) = true from decide_eq_true rfl]
      go_wp2
      go_ret
      exact ⟨rfl, HB9.out⟩
  · have HB7 : Hid (Below w.heap.size w w7) := HB6.out.trans (hb.mono HB6.out.size)
    have HNO := hid hn
    clear hb hn
    go_wp2_with fail
    refine (vectorOf_any _ s hs1000).mono ?_
    rintro e w8 ⟨v8, bb, rfl, hyes, hno, hb⟩
    have HB8 : Hid (Below w.heap.size w w8) := HB7.out.trans (hb.mono HB7.out.size)
    clear hb
    cases bb with
    | true =>
      obtain ⟨o2, hv2, hk2, ht2⟩ := hyes rfl
      exact absurd (text_of_vo ht2) (HNO.out o2 hk2)
    | false =>
      clear hyes hno
      go_wp2_with fail
      refine (coded_sent A _ _ 0 _ (hS.below (HB8.out.mono hS.size)) (by decide) (by decide)).mono ?_
      rintro e w9 ⟨rfl, hb⟩
      have HB9 : Hid (Below w.heap.size w w9) := HB8.out.trans (hb.mono HB8.out.size)
      clear hb
      go_wp2
      go_ret
      exact ⟨rfl, HB9.out⟩


/-- VectorTexts: any slice, any text. -/
theorem texts_any (A : Nat → Addr) (w : World) (hS : Sents A w.heap.size w) (hT : TW A w) (v : Value) (s : ByteArray) (za : List Int) (ha : IntsAt w v za) :
    Calls Tryd.prog 7 #[v, .string s] w fun e w' => e = .returned (.bool true) ∧ Below w.heap.size w w' := by
  by_cases h : 20 < za.length ∨ 200 < s.size
  · exact texts_long A w hS.e2 v s za ha h
  · by_cases hk : chk za = 0
    · exact texts_ok A w hS hT v s za ha (by omega) (by omega) hk
    · exact texts_bad A w hS hT v s za ha (by omega) (by omega) hk
end Go.Proofs.YtfechdagacmliaaDoor
