/- ValuesOf: the walk. -/
import Derived.Test.YtilonnkohcocoaaGreatDoorJVOfRV
import Derived.Test.YtilonnkohcocoaaGreatDoorJVOfRX
import Derived.Test.YtilonnkohcocoaaGreatDoorJVOfRF
import Derived.Test.YtilonnkohcocoaaGreatDoorJVOfRL
import Derived.Test.YtilonnkohcocoaaGreatDoorJVAddsW
import Derived.Test.YtilonnkohcocoaaGreatDoorJVFlt
import Derived.Deep.RegionHeld
namespace Go.Proofs.YtilonnkohcocoaaGreatDoor
open Go.RowKit Go.Sort Go.Maps
set_option maxRecDepth 100000
set_option linter.unusedSectionVars false
variable [Inhabited ComV] [DecidableEq D3] [Inhabited D3] [Inhabited Dd] [Inhabited Dn] [Inhabited OpV]

theorem row2 {w : World} {g : Nat} {a b : Value} {t : TypeId} (h : w.heap[g]? = some (.cells #[a, b] t (0, 0))) : (∀ j, j < 2 → (w.cell? ⟨g, 0 + j, none⟩).isSome = true) ∧ ∀ j, j < 2 → w.frozen? ⟨g, 0 + j, none⟩ = false := by
  refine ⟨fun j hj => ?_, fun j hj => ?_⟩
  · rcases (by omega : j = 0 ∨ j = 1) with rfl | rfl <;> simp [World.cell?, h]
  · simp [World.frozen?, h]
theorem set2 {w : World} {g : Nat} {a b : Value} {t : TypeId} (h : w.heap[g]? = some (.cells #[a, b] t (0, 0))) (vs : List Value) (hl : vs.length = 2) : ∀ j (hj : j < vs.length), (w.setCells g 0 vs).cell? ⟨g, j, none⟩ = some vs[j] := fun j hj => by
  have := World.cell?_setCells_in g vs 0 w (fun q hq => (row2 h).1 q (by omega)) j hj
  rwa [Nat.zero_add] at this
theorem errOf_le (key : ByteArray) (l : List ComV) : (errOf key l).1 ≤ 12 := by
  unfold errOf
  split
  · decide
  · exact scan_le (listBad_le l)
theorem errOf_hz (key : ByteArray) (l : List ComV) : (errOf key l).1 = 0 → errOf key l = (0, none) := fun h => by
  unfold errOf at h ⊢
  split at h
  · exact absurd h (by decide)
  · rename_i hn
    rw [if_neg hn]
    exact scan_fst_zero h
set_option maxHeartbeats 8000000 in
theorem of_walk (A : Nat → Addr) (B : Nat) (w : World) (hS : Sents A B w) (key text : ByteArray) (v : Value) (l : List ComV) (hv : ComsAt w v l) :
    Calls Tryz.prog 4 #[.string key, .string text, v] w fun e w' => e = .returned (.bool true) ∧ Below w.heap.size w w' := by
  have h13 : 13 ≤ w.heap.size := Nat.le_trans hS.gl hS.size
  have hsB := hS.size
  have K8 := worth_true A w hS.e4 (by omega)
  obtain ⟨av, cv, hve⟩ : ∃ av cv, v = .slice av l.length cv := by obtain ⟨a, c, h, _⟩ := hv.shape; exact ⟨a, c, h⟩
  obtain ⟨lm, hlm⟩ : ∃ lm, lm = l.length := ⟨_, rfl⟩
  rw [← hlm] at hve
  subst hve
  have HS := hid hS
  have HV := hid hv
  have HE : Hid (∀ w', Below w.heap.size w w' → E5 A w') := fun w' h => hS.e5.below h h13
  clear hS hv hlm
  by_cases h2 : (60 : Int) < key.size
  · go_enter Tryz.func4, Tryz.ntmps4
    go_wp2_with (go_at_call 9; refine K8.mono ?_; rintro e w' ⟨rfl, hb⟩)
    go_ret
    exact ⟨rfl, hb⟩
  by_cases h3 : (200 : Int) < text.size
  · go_enter Tryz.func4, Tryz.ntmps4
    go_wp2_with (go_at_call 9; refine K8.mono ?_; rintro e w' ⟨rfl, hb⟩)
    go_ret
    exact ⟨rfl, hb⟩
  have d2 : decide ((60 : Int) < (key.size : Int)) = false := decide_eq_false h2
  have d3 : decide ((200 : Int) < (text.size : Int)) = false := decide_eq_false h3
  clear h2 h3
  go_enter Tryz.func4, Tryz.ntmps4
  go_wp2_with fail
  refine K8.mono ?_
  rintro e w0 ⟨rfl, hb0⟩
  have K17 := heavy_ok w0 (.slice av lm cv) l (HV.out.mono hb0 (Nat.le_refl _))
  have B0 := hid hb0
  clear hb0 K8
  go_wp2_with fail
  refine K17.mono ?_
  rintro e w1 ⟨rfl, hb1⟩
  have B1 := hid (B0.out.trans (hb1.mono B0.out.size))
  clear hb1 K17 B0
  cases hh : heavyL l with
  | true =>
    go_wp2
    go_ret
    exact ⟨rfl, B1.out⟩
  | false =>
    have HH := hid hh
    have HL := hid (small_of_light hh)
    have hl30 := (light hh).1
    clear hh
    have K19 := ownCommits w1 (.slice av lm cv) l (HV.out.mono B1.out (Nat.le_refl _)) HH.out
    go_wp2_with fail
    refine K19.mono ?_
    rintro e w2 ⟨v2, rfl, hv2, hb2⟩
    have B2 := hid (B1.out.trans (hb2.mono B1.out.size))
    obtain ⟨a2, c2, hs2⟩ : ∃ a2 c2, v2 = .slice a2 l.length c2 := by obtain ⟨a, c, h, _⟩ := hv2.shape; exact ⟨a, c, h⟩
    subst hs2
    clear K19 hb2 d2 d3
    cases hk : (errOf key l).1 with
    | succ kk =>
      have K18 := of_err A w2 (HE.out w2 B2.out) key _ l hv2 (by omega) HL.out kk hk
      clear hv2
      go_wp2_with fail
      refine K18.mono ?_
      rintro e w3 ⟨t3, p3, rfl, her3, hb3⟩
      have B3 := hid (B2.out.trans (hb3.mono B2.out.size))
      have HER3 := hid her3
      unfold zeroV
      obtain ⟨w4, hw4⟩ : ∃ w4, w4 = w3.alloc (.cells #[.int .i64 0, .string ByteArray.empty, .int .i64 0, .slice none 0 0] 47) := ⟨_, rfl⟩
      have hb34 : Below w3.heap.size w3 w4 := by rw [hw4]; exact below_alloc _ _
      have B4 := hid (B3.out.trans (hb34.mono B3.out.size))
      have H34 := hid hb34
      have hbox : w4.heap[w3.heap.size]? = some (.cells #[.int .i64 0, .string ByteArray.empty, .int .i64 0, .slice none 0 0] 47 (0, 0)) := by rw [hw4]; exact (MapKept.heap_alloc _ _).1
      have hs34 : w3.heap.size < w4.heap.size := lt_of_heap hbox
      have HBX := hid hbox
      have K19b := ownCommits w4 (.slice av lm cv) l (HV.out.mono B4.out (Nat.le_refl _)) HH.out
      clear K18 hb3 her3 hb34 hbox
      go_wp2_with fail
      rw [← hw4]
      refine K19b.mono ?_
      rintro e w5 ⟨v5, rfl, hv5, hb5⟩
      have B5 := hid (B4.out.trans (hb5.mono B4.out.size))
      have H45 := hid hb5
      obtain ⟨a5, c5, hs5⟩ : ∃ a5 c5, v5 = .slice a5 l.length c5 := by obtain ⟨a, c, h, _⟩ := hv5.shape; exact ⟨a, c, h⟩
      subst hs5
      have K20 := dots_err A w5 (HE.out w5 B5.out) key text _ l hv5 (by omega) HL.out kk hk
      clear K19b hb5 hv5 hw4
      go_wp2_with fail
      refine K20.mono ?_
      rintro e w6 ⟨t6, p6, rfl, her6, hb6⟩
      have B6 := hid (B5.out.trans (hb6.mono B5.out.size))
      have H46 := hid (H45.out.trans (hb6.mono H45.out.size))
      have H36 := hid (H34.out.trans (H46.out.mono H34.out.size))
      have HER6 := hid her6
      have K22 := rListFault w6 (.slice av lm cv) l (HV.out.mono B6.out (Nat.le_refl _)) (by omega) HL.out
      clear K20 hb6 her6 H45
      go_wp2_with fail
      refine K22.mono ?_
      rintro e w7 ⟨rfl, hb7⟩
      have B7 := hid (B6.out.trans (hb7.mono B6.out.size))
      have H47 := hid (H46.out.trans (hb7.mono H46.out.size))
      have H67 := hid hb7
      have H37 := hid (H36.out.trans (hb7.mono H36.out.size))
      clear K22 hb7 H46
      obtain ⟨code, hcode⟩ : ∃ code : Int, code = ((listErr l).1 : Int) := ⟨_, rfl⟩
      obtain ⟨place, hplace⟩ : ∃ place : Int, place = faultAt (listErr l).2 := ⟨_, rfl⟩
      rw [← hcode, ← hplace]
      have HCODE := hid hcode
      have HPLACE := hid hplace
      clear hcode hplace
      obtain ⟨w8, hw8⟩ : ∃ w8, w8 = w7.alloc (.cells #[.int .i64 code, .int .i64 place] 40) := ⟨_, rfl⟩
      have hb78 : Below w7.heap.size w7 w8 := by rw [hw8]; exact below_alloc _ _
      have B8 := hid (B7.out.trans (hb78.mono B7.out.size))
      have H78 := hid hb78
      have hfb : w8.heap[w7.heap.size]? = some (.cells #[.int .i64 code, .int .i64 place] 40 (0, 0)) := by rw [hw8]; exact (MapKept.heap_alloc _ _).1
      have K23 := rIsName w8 key
      have HFB := hid hfb
      have hs78 : w7.heap.size < w8.heap.size := lt_of_heap hfb
      clear hb78 hfb
      go_wp2_with fail
      rw [← hw8]
      refine K23.mono ?_
      rintro e wn ⟨rfl, hwn⟩
      rw [hwn]
      clear hwn hw8 K23
      cases hn : nameB key with
      | false =>
        have her : errOf key l = (4, none) := if_pos hn
        have HER := hid her
        have K24 := bare_any w8 4
        clear her hn hk
        go_wp2_with fail
        refine K24.mono ?_
        rintro e w9 ⟨rfl, hb9⟩
        have hfb : w9.heap[w7.heap.size]? = some (.cells #[.int .i64 code, .int .i64 place] 40 (0, 0)) := by rw [hb9.block _ hs78]; exact HFB.out
        have R2 := hid (row2 hfb)
        have S2 := hid (set2 hfb [.int .i64 4, .int .i64 (-1)] rfl)
        have H79 := hid (H78.out.trans (hb9.mono H78.out.size))
        obtain ⟨wc, hwc⟩ : ∃ wc, wc = w9.setCells w7.heap.size 0 [.int .i64 4, .int .i64 (-1)] := ⟨_, rfl⟩
        have HC7 : Hid (Below w7.heap.size w7 wc) := by rw [hwc]; exact below_setCells (Nat.le_refl _) _ _ H79.out
        have g0 : wc.cell? ⟨w7.heap.size, 0, none⟩ = some (.int .i64 4) := by rw [hwc]; exact S2.out 0 (by decide)
        have g1 : wc.cell? ⟨w7.heap.size, 1, none⟩ = some (.int .i64 (-1)) := by rw [hwc]; exact S2.out 1 (by decide)
        clear hfb hb9 K24 S2 H79
        go_upto_region 10 with (refine wpList_store_k _ rfl (.tmp 12) (.tmp 53) 40 rfl w7.heap.size 0 [.int .i64 4, .int .i64 (-1)] rfl rfl 2 rfl Tryz.sizeOf40 rfl _ ?hW R2.out.1 R2.out.2 ?_; case hW => rfl)
        rw [← hwc]
        clear hwc R2
        have hb12 := HC7.out
        have K14a : Calls Tryz.prog 14 #[.iface t3 (.pointer (some p3)), .agg #[.int .i64 4, .int .i64 (-1)]] wc fun e w' => e = .returned (.bool true) ∧ Below wc.heap.size wc w' := by
          have := faulted_err A B wc (HS.out.below ((B7.out.trans (HC7.out.mono B7.out.size)).mono hsB)) _ (errOf key l) (errAt_mono HER3.out (H37.out.trans (HC7.out.mono H37.out.size)) (Nat.le_refl _)) (errOf_le key l) (errOf_hz key l)
          rw [HER.out] at this
          exact this
        clear hb12
        go_wp2_with fail
        refine K14a.mono ?_
        rintro e w9 ⟨rfl, hb9⟩
        have HC9 := hid (HC7.out.trans (hb9.mono HC7.out.size))
        have hx9 : w9.heap[w3.heap.size]? = some (.cells #[.int .i64 0, .string ByteArray.empty, .int .i64 0, .slice none 0 0] 47 (0, 0)) := by rw [(H47.out.trans (HC9.out.mono H47.out.size)).block _ hs34]; exact HBX.out
        have q0 : w9.cell? ⟨w3.heap.size, 0, none⟩ = some (.int .i64 0) := by simp only [World.cell?, hx9]; rfl
        have q1 : w9.cell? ⟨w3.heap.size, 1, none⟩ = some (.string ByteArray.empty) := by simp only [World.cell?, hx9]; rfl
        have q2 : w9.cell? ⟨w3.heap.size, 2, none⟩ = some (.int .i64 0) := by simp only [World.cell?, hx9]; rfl
        have q3 : w9.cell? ⟨w3.heap.size, 3, none⟩ = some (.slice none 0 0) := by simp only [World.cell?, hx9]; rfl
        have K25 := sameValue_same w9 0 ByteArray.empty 0 (.slice none 0 0) (.slice none 0 0) [] (strs_nil _) (strs_nil _) (by simp)
        have k0 : w9.cell? ⟨w7.heap.size, 0, none⟩ = some (.int .i64 4) := by rw [hb9.cell (lt_of_cell g0)]; exact g0
        have k1 : w9.cell? ⟨w7.heap.size, 1, none⟩ = some (.int .i64 (-1)) := by rw [hb9.cell (lt_of_cell g1)]; exact g1
        clear K14a hb9 hx9 g0 g1
        go_wp2_with fail
        refine K25.mono ?_
        rintro e w10 ⟨rfl, hb10⟩
        have HC10 := hid (HC9.out.trans (hb10.mono HC9.out.size))
        have m0 : w10.cell? ⟨w7.heap.size, 0, none⟩ = some (.int .i64 4) := by rw [hb10.cell (lt_of_cell k0)]; exact k0
        have m1 : w10.cell? ⟨w7.heap.size, 1, none⟩ = some (.int .i64 (-1)) := by rw [hb10.cell (lt_of_cell k1)]; exact k1
        have K14b : Calls Tryz.prog 14 #[.iface t6 (.pointer (some p6)), .agg #[.int .i64 4, .int .i64 (-1)]] w10 fun e w' => e = .returned (.bool true) ∧ Below w10.heap.size w10 w' := by
          have := faulted_err A B w10 (HS.out.below ((B7.out.trans (HC10.out.mono B7.out.size)).mono hsB)) _ (errOf key l) (errAt_mono HER6.out (H67.out.trans (HC10.out.mono H67.out.size)) (Nat.le_refl _)) (errOf_le key l) (errOf_hz key l)
          rw [HER.out] at this
          exact this
        clear K25 hb10 q0 q1 q2 q3 k0 k1
        go_wp2_with fail
        refine K14b.mono ?_
        rintro e w11 ⟨rfl, hb11⟩
        have HB11 := hid (B7.out.trans ((HC10.out.trans (hb11.mono HC10.out.size)).mono B7.out.size))
        clear K14b hb11 m0 m1
        go_wp2
        go_ret
        exact ⟨rfl, HB11.out⟩
      | true =>
        have her : errOf key l = listErr l := if_neg (by rw [hn]; decide)
        have HER := hid her
        have hcp : 0 < code := by rw [HCODE.out, ← her, hk]; omega
        obtain ⟨wc, hwc⟩ : ∃ wc : World, wc = w8 := ⟨w8, rfl⟩
        have HC7 : Hid (Below w7.heap.size w7 wc) := by rw [hwc]; exact H78.out
        have g0 : wc.cell? ⟨w7.heap.size, 0, none⟩ = some (.int .i64 code) := by rw [hwc]; simp only [World.cell?, HFB.out]; rfl
        have g1 : wc.cell? ⟨w7.heap.size, 1, none⟩ = some (.int .i64 place) := by rw [hwc]; simp only [World.cell?, HFB.out]; rfl
        rw [← hwc]
        clear hwc her hn hk
        have hb12 := HC7.out
        have K14a : Calls Tryz.prog 14 #[.iface t3 (.pointer (some p3)), .agg #[.int .i64 code, .int .i64 place]] wc fun e w' => e = .returned (.bool true) ∧ Below wc.heap.size wc w' := by
          have := faulted_err A B wc (HS.out.below ((B7.out.trans (HC7.out.mono B7.out.size)).mono hsB)) _ (errOf key l) (errAt_mono HER3.out (H37.out.trans (HC7.out.mono H37.out.size)) (Nat.le_refl _)) (errOf_le key l) (errOf_hz key l)
          rw [HER.out, ← HCODE.out, ← HPLACE.out] at this
          exact this
        clear hb12
        go_wp2_with fail
        refine K14a.mono ?_
        rintro e w9 ⟨rfl, hb9⟩
        have HC9 := hid (HC7.out.trans (hb9.mono HC7.out.size))
        have hx9 : w9.heap[w3.heap.size]? = some (.cells #[.int .i64 0, .string ByteArray.empty, .int .i64 0, .slice none 0 0] 47 (0, 0)) := by rw [(H47.out.trans (HC9.out.mono H47.out.size)).block _ hs34]; exact HBX.out
        have q0 : w9.cell? ⟨w3.heap.size, 0, none⟩ = some (.int .i64 0) := by simp only [World.cell?, hx9]; rfl
        have q1 : w9.cell? ⟨w3.heap.size, 1, none⟩ = some (.string ByteArray.empty) := by simp only [World.cell?, hx9]; rfl
        have q2 : w9.cell? ⟨w3.heap.size, 2, none⟩ = some (.int .i64 0) := by simp only [World.cell?, hx9]; rfl
        have q3 : w9.cell? ⟨w3.heap.size, 3, none⟩ = some (.slice none 0 0) := by simp only [World.cell?, hx9]; rfl
        have K25 := sameValue_same w9 0 ByteArray.empty 0 (.slice none 0 0) (.slice none 0 0) [] (strs_nil _) (strs_nil _) (by simp)
        have k0 : w9.cell? ⟨w7.heap.size, 0, none⟩ = some (.int .i64 code) := by rw [hb9.cell (lt_of_cell g0)]; exact g0
        have k1 : w9.cell? ⟨w7.heap.size, 1, none⟩ = some (.int .i64 place) := by rw [hb9.cell (lt_of_cell g1)]; exact g1
        clear K14a hb9 hx9 g0 g1
        go_wp2_with fail
        refine K25.mono ?_
        rintro e w10 ⟨rfl, hb10⟩
        have HC10 := hid (HC9.out.trans (hb10.mono HC9.out.size))
        have m0 : w10.cell? ⟨w7.heap.size, 0, none⟩ = some (.int .i64 code) := by rw [hb10.cell (lt_of_cell k0)]; exact k0
        have m1 : w10.cell? ⟨w7.heap.size, 1, none⟩ = some (.int .i64 place) := by rw [hb10.cell (lt_of_cell k1)]; exact k1
        have K14b : Calls Tryz.prog 14 #[.iface t6 (.pointer (some p6)), .agg #[.int .i64 code, .int .i64 place]] w10 fun e w' => e = .returned (.bool true) ∧ Below w10.heap.size w10 w' := by
          have := faulted_err A B w10 (HS.out.below ((B7.out.trans (HC10.out.mono B7.out.size)).mono hsB)) _ (errOf key l) (errAt_mono HER6.out (H67.out.trans (HC10.out.mono H67.out.size)) (Nat.le_refl _)) (errOf_le key l) (errOf_hz key l)
          rw [HER.out, ← HCODE.out, ← HPLACE.out] at this
          exact this
        clear K25 hb10 q0 q1 q2 q3 k0 k1
        go_wp2_with fail
        refine K14b.mono ?_
        rintro e w11 ⟨rfl, hb11⟩
        have HB11 := hid (B7.out.trans ((HC10.out.trans (hb11.mono HC10.out.size)).mono B7.out.size))
        clear K14b hb11 m0 m1
        go_wp2
        go_ret
        exact ⟨rfl, HB11.out⟩
    | zero =>
      obtain ⟨hnm, hok⟩ := errOf_zero hk
      have HOK := hid hok
      have K18 := of_ok A w2 (HE.out w2 B2.out).e4 (by have := B2.out.size; omega) key hnm _ l hv2 (by omega) HL.out hok
      clear hv2
      go_wp2_with fail
      refine K18.mono ?_
      rintro e w3 ⟨v3, ds3, rfl, hds3, hv3, hb3⟩
      have B3 := hid (B2.out.trans (hb3.mono B2.out.size))
      obtain ⟨sv3, rfl, hsv3⟩ := hv3
      obtain ⟨sa, sc, hse⟩ := hsv3.len
      subst hse
      have hdsR : ds3 = opsR key l := isOps_same hds3 (opsR_isOps key l)
      have hsl : (valA ds3).set.length ≤ 1000000 := set_few hds3 HOK.out (by omega)
      rw [hdsR] at hsv3 hsl
      rw [hdsR]
      obtain ⟨X, hX⟩ : ∃ X, X = valA (opsR key l) := ⟨_, rfl⟩
      have HX := hid hX
      rw [← hX] at hsv3 hsl ⊢
      obtain ⟨X1, X2, X3, X4⟩ := X
      simp only at hsv3 hsl ⊢
      have HSV := hid hsv3
      obtain ⟨w4, hw4⟩ : ∃ w4, w4 = w3.alloc (.cells #[.int .i64 X1, .string X2, .int .i64 X3, .slice sa X4.length sc] 47) := ⟨_, rfl⟩
      have hb34 : Below w3.heap.size w3 w4 := by rw [hw4]; exact below_alloc _ _
      have B4 := hid (B3.out.trans (hb34.mono B3.out.size))
      have H34 := hid hb34
      have hbox : w4.heap[w3.heap.size]? = some (.cells #[.int .i64 X1, .string X2, .int .i64 X3, .slice sa X4.length sc] 47 (0, 0)) := by rw [hw4]; exact (MapKept.heap_alloc _ _).1
      have hs34 : w3.heap.size < w4.heap.size := lt_of_heap hbox
      have HBX := hid hbox
      have K19b := ownCommits w4 (.slice av lm cv) l (HV.out.mono B4.out (Nat.le_refl _)) HH.out
      clear K18 hb3 hb34 hbox hds3 hdsR hX hsv3
      go_wp2_with fail
      rw [← hw4]
      refine K19b.mono ?_
      rintro e w5 ⟨v5, rfl, hv5, hb5⟩
      have B5 := hid (B4.out.trans (hb5.mono B4.out.size))
      have H45 := hid hb5
      obtain ⟨a5, c5, hs5⟩ : ∃ a5 c5, v5 = .slice a5 l.length c5 := by obtain ⟨a, c, h, _⟩ := hv5.shape; exact ⟨a, c, h⟩
      subst hs5
      have K20 := dots_ok A w5 (HE.out w5 B5.out).e4 (by have := B5.out.size; omega) key text hnm _ l hv5 (by omega) HL.out HOK.out
      clear K19b hb5 hv5 hw4
      go_wp2_with fail
      refine K20.mono ?_
      rintro e w6 ⟨v6, ds6, out6, rfl, hds6, hid6, hda6, hb6⟩
      have hds6' : ds6 = opsR key l := isOps_same hds6 (opsR_isOps key l)
      rw [hds6'] at hid6
      have HID6 := hid hid6
      have HDA6 := hid hda6
      have B6 := hid (B5.out.trans (hb6.mono B5.out.size))
      have H46 := hid (H45.out.trans (hb6.mono H45.out.size))
      obtain ⟨a6, c6, hs6⟩ := hda6.len
      subst hs6
      have hol : out6.length ≤ 1000000 := by
        have h1 := isOps_len hds6 (fun c hc => ((listOk_com HOK.out).1 c hc).few)
        have h2 := dotsTo_len text (opsR key l) (opsR key l).length
        have h3 := isDots_same hid6 (dotsTo_all (text := text) (opsR_isOps key l) (comOk_list HOK.out))
        rw [h3]
        rw [hds6'] at h1
        omega
      have K22 := rListFault w6 (.slice av lm cv) l (HV.out.mono B6.out (Nat.le_refl _)) (by omega) HL.out
      have hle : listErr l = (0, none) := by
        have := errOf_hz key l hk
        unfold errOf at this
        rwa [if_neg (by rw [hnm]; decide)] at this
      unfold FltRet at K22
      rw [hle] at K22
      clear K20 hb6 hds6 hds6' hid6 hda6 H45 hle hk
      go_wp2_with fail
      refine K22.mono ?_
      rintro e w7 ⟨rfl, hb7⟩
      have B7 := hid (B6.out.trans (hb7.mono B6.out.size))
      have H47 := hid (H46.out.trans (hb7.mono H46.out.size))
      have H67 := hid hb7
      clear K22 hb7 H46
      obtain ⟨w8, hw8⟩ : ∃ w8, w8 = w7.alloc (.cells #[.int .i64 0, .int .i64 (-1)] 40) := ⟨_, rfl⟩
      have hb78 : Below w7.heap.size w7 w8 := by rw [hw8]; exact below_alloc _ _
      have B8 := hid (B7.out.trans (hb78.mono B7.out.size))
      have H48 := hid (H47.out.trans (hb78.mono H47.out.size))
      have H68 := hid (H67.out.trans (hb78.mono H67.out.size))
      have hfb : w8.heap[w7.heap.size]? = some (.cells #[.int .i64 0, .int .i64 (-1)] 40 (0, 0)) := by rw [hw8]; exact (MapKept.heap_alloc _ _).1
      have g0 : w8.cell? ⟨w7.heap.size, 0, none⟩ = some (.int .i64 0) := by simp only [World.cell?, hfb]; rfl
      have K23 := rIsName w8 key
      rw [hnm] at K23
      clear hb78 hfb H47 H67 hnm
      go_wp2_with fail
      show Calls Tryz.prog 23 #[.string key] (w7.alloc (.cells #[.int .i64 0, .int .i64 (-1)] 40)) _
      rw [← hw8]
      refine K23.mono ?_
      rintro e wn ⟨rfl, hwn⟩
      rw [hwn]
      clear hwn hw8 K23
      have hx8 : w8.heap[w3.heap.size]? = some (.cells #[.int .i64 X1, .string X2, .int .i64 X3, .slice sa X4.length sc] 47 (0, 0)) := by rw [H48.out.block _ hs34]; exact HBX.out
      have q0 : w8.cell? ⟨w3.heap.size, 0, none⟩ = some (.int .i64 X1) := by simp only [World.cell?, hx8]; rfl
      have q1 : w8.cell? ⟨w3.heap.size, 1, none⟩ = some (.string X2) := by simp only [World.cell?, hx8]; rfl
      have q2 : w8.cell? ⟨w3.heap.size, 2, none⟩ = some (.int .i64 X3) := by simp only [World.cell?, hx8]; rfl
      have q3 : w8.cell? ⟨w3.heap.size, 3, none⟩ = some (.slice sa X4.length sc) := by simp only [World.cell?, hx8]; rfl
      have H38 := hid (H34.out.trans (H48.out.mono H34.out.size))
      have K26 : ∀ W, Below w8.heap.size w8 W → Calls Tryz.prog 26 #[.string key, .slice av lm cv] W fun e w' => ∃ sv, e = .returned (.agg #[.int .i64 X1, .string X2, .int .i64 X3, sv]) ∧ StrsAt w' sv X4 ∧ Below W.heap.size W w' := fun W hW => by
        refine (valueOf_any W key _ l (HV.out.mono (B8.out.trans (hW.mono B8.out.size)) (Nat.le_refl _)) (by omega) HOK.out).mono ?_
        rintro e w' ⟨rv, rfl, hva, hb⟩
        rw [← HX.out] at hva
        obtain ⟨sv, rfl, hsv⟩ := hva
        exact ⟨sv, rfl, hsv, hb⟩
      have K28 : ∀ W, Below w8.heap.size w8 W → Calls Tryz.prog 28 #[.string key, .string text, .slice av lm cv] W fun e w' => ∃ rv, e = .returned rv ∧ DotsAt w' rv out6 ∧ Below W.heap.size W w' := fun W hW => by
        refine (dotsOf_any W key text _ l (HV.out.mono (B8.out.trans (hW.mono B8.out.size)) (Nat.le_refl _)) (by omega) HOK.out).mono ?_
        rintro e w' ⟨rv, out, rfl, hda, hdi, hb⟩
        rw [isDots_same hdi HID6.out] at hda
        exact ⟨rv, rfl, hda, hb⟩
      clear hx8
      go_upto_region 12 with (fail)
      go_region_held (fun w' => w'.cell? ⟨w3.heap.size, 0, none⟩ = some (.int .i64 X1) ∧ w'.cell? ⟨w3.heap.size, 1, none⟩ = some (.string X2) ∧ w'.cell? ⟨w3.heap.size, 2, none⟩ = some (.int .i64 X3) ∧ w'.cell? ⟨w3.heap.size, 3, none⟩ = some (.slice sa X4.length sc)) (go_keep) (first
        | (go_at_call 26; refine (K26 _ ?hb26).mono ?_; (case hb26 => exact below_draws (Below.refl _ _) 1); rintro e w9 ⟨sv9, rfl, hsv9, hb9⟩; obtain ⟨a9, c9, hse9⟩ := hsv9.len; subst hse9; have m0 : w9.cell? ⟨w3.heap.size, 0, none⟩ = some (.int .i64 X1) := (by rw [hb9.cell (p := ⟨w3.heap.size, 0, none⟩) (lt_of_cell q0)]; exact q0); have m1 : w9.cell? ⟨w3.heap.size, 1, none⟩ = some (.string X2) := (by rw [hb9.cell (p := ⟨w3.heap.size, 1, none⟩) (lt_of_cell q1)]; exact q1); have m2 : w9.cell? ⟨w3.heap.size, 2, none⟩ = some (.int .i64 X3) := (by rw [hb9.cell (p := ⟨w3.heap.size, 2, none⟩) (lt_of_cell q2)]; exact q2); have m3 : w9.cell? ⟨w3.heap.size, 3, none⟩ = some (.slice sa X4.length sc) := (by rw [hb9.cell (p := ⟨w3.heap.size, 3, none⟩) (lt_of_cell q3)]; exact q3); have HB9 : Hid (Below w8.heap.size w8 w9) := (below_draws (Below.refl w8.heap.size w8) 1).trans hb9)
        | (go_at_call 25; refine (sameValue_same w9 X1 X2 X3 _ _ X4 (HSV.out.mono (H38.out.trans (HB9.out.mono H38.out.size)) (Nat.le_refl _)) hsv9 hsl).mono ?_; rintro e w10 ⟨rfl, hb10⟩; have n0 : w10.cell? ⟨w3.heap.size, 0, none⟩ = some (.int .i64 X1) := (by rw [hb10.cell (p := ⟨w3.heap.size, 0, none⟩) (lt_of_cell m0)]; exact m0); have n1 : w10.cell? ⟨w3.heap.size, 1, none⟩ = some (.string X2) := (by rw [hb10.cell (p := ⟨w3.heap.size, 1, none⟩) (lt_of_cell m1)]; exact m1); have n2 : w10.cell? ⟨w3.heap.size, 2, none⟩ = some (.int .i64 X3) := (by rw [hb10.cell (p := ⟨w3.heap.size, 2, none⟩) (lt_of_cell m2)]; exact m2); have n3 : w10.cell? ⟨w3.heap.size, 3, none⟩ = some (.slice sa X4.length sc) := (by rw [hb10.cell (p := ⟨w3.heap.size, 3, none⟩) (lt_of_cell m3)]; exact m3); have HB10 : Hid (Below w8.heap.size w8 w10) := HB9.out.trans (hb10.mono HB9.out.size))
        | (go_at_call 28; refine (K28 w10 HB10.out).mono ?_; rintro e w11 ⟨rv11, rfl, hda11, hb11⟩; obtain ⟨a11, c11, hs11⟩ := hda11.len; subst hs11; have o0 : w11.cell? ⟨w3.heap.size, 0, none⟩ = some (.int .i64 X1) := (by rw [hb11.cell (p := ⟨w3.heap.size, 0, none⟩) (lt_of_cell n0)]; exact n0); have o1 : w11.cell? ⟨w3.heap.size, 1, none⟩ = some (.string X2) := (by rw [hb11.cell (p := ⟨w3.heap.size, 1, none⟩) (lt_of_cell n1)]; exact n1); have o2 : w11.cell? ⟨w3.heap.size, 2, none⟩ = some (.int .i64 X3) := (by rw [hb11.cell (p := ⟨w3.heap.size, 2, none⟩) (lt_of_cell n2)]; exact n2); have o3 : w11.cell? ⟨w3.heap.size, 3, none⟩ = some (.slice sa X4.length sc) := (by rw [hb11.cell (p := ⟨w3.heap.size, 3, none⟩) (lt_of_cell n3)]; exact n3); have HB11 : Hid (Below w8.heap.size w8 w11) := HB10.out.trans (hb11.mono HB10.out.size))
        | (go_at_call 27; refine (sameDots_same w11 _ _ out6 (HDA6.out.mono (H68.out.trans (HB11.out.mono H68.out.size)) (Nat.le_refl _)) hda11 hol).mono ?_; rintro e w12 ⟨rfl, q, rfl⟩))
      go_wp2
      go_ret
      exact ⟨rfl, below_draws (B8.out.trans (HB11.out.mono B8.out.size)) q⟩
end Go.Proofs.YtilonnkohcocoaaGreatDoor
