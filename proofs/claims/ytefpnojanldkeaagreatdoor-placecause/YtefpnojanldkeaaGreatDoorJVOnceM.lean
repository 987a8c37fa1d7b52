/- vector.weigh, Weight and the reference's Weight, by their contracts; slices.DeleteFunc over ops with their dots; Contracts of Go's library at this program's numbers, by the kit's own layings; slices.SortFunc over ops with their dots, and over dots; What once makes of a list of commits: plain mathematics, and the walk's relation. -/
import Derived.Test.YtefpnojanldkeaaGreatDoorJVVec
import Derived.Test.YtefpnojanldkeaaGreatDoorJVOp
import Derived.Test.YtefpnojanldkeaaGreatDoorJVMap
import Derived.Shelf.SlicesE.DeleteFunc
import Derived.Test.YtefpnojanldkeaaGreatDoorProg
import Derived.Shelf.SlSortCmp.WholeK
import Derived.Shelf.SlGeneric
import Derived.Ground.SlsfProg
import Derived.Shelf.SlSortCmp.NoneTotal
import Derived.Maps.AppendAt
namespace Go.Proofs.YtefpnojanldkeaaGreatDoor
open Go.RowKit

/-- All times together. -/
def sum (zs : List Int) : Int := sumTo zs zs.length
set_option maxHeartbeats 1000000 in
theorem weigh_n (w : World) (b o n c : Nat) (zs : List Int) (hz : zs.length = n) (h6 : n ≤ 6) (hr : ∀ t, t < zs.length → 0 ≤ zs.getD t 0 ∧ zs.getD t 0 ≤ 1099511627776)
    (hc : ∀ t, t < n → w.cell? ⟨b, o + t, none⟩ = some (.int .i64 (zs.getD t 0))) :
    Calls Tryz.prog 125 #[.slice (some ⟨b, o, none⟩) n c] w fun e w' => e = .returned (.int .i64 (sum zs)) ∧ w' = w := by
  have HZ : Hid (zs.length = n) := hz
  have HC := hid hc
  have HR := hid hr
  have HB := hid (sumTo_bd hr)
  clear hz hc hr
  go_enter Tryz.func125, Tryz.ntmps125
  go_wp2
  go_loop [3, 8] (fun s i => ∃ k : Nat, k ≤ n ∧ i = .int .i64 k ∧ s = .int .i64 (sumTo zs k)) (fun _ i => n - (intOf i).toNat)
  case atStart => exact ⟨0, Nat.zero_le _, rfl, rfl⟩
  case round =>
    obtain ⟨k, hk, rfl, rfl⟩ := hrel
    obtain ⟨s, hs⟩ : ∃ s, s = sumTo zs k := ⟨_, rfl⟩
    have hb := HB.out k (by have := HZ.out; omega)
    rw [← hs] at hb ⊢
    have HS := hid hs
    clear hs
    by_cases hlt : k < n
    · have e1 := HC.out k hlt
      obtain ⟨z, hzz⟩ : ∃ z, z = zs.getD k 0 := ⟨_, rfl⟩
      have hzr := HR.out k (by have := HZ.out; omega)
      rw [← hzz] at e1 hzr
      have HZZ := hid hzz
      obtain ⟨hz1, hz2⟩ := hzr
      obtain ⟨hb1, hb2⟩ := hb
      clear hzz
      go_wp2
      go_round
      case rel => exact ⟨k + 1, by omega, by go_num, by simp only [sumTo]; rw [← HS.out, ← HZZ.out]⟩
      case measure => simp [intOf]; omega
    · obtain rfl : k = n := by omega
      go_wp2
      go_ret
      exact ⟨ret_int (by rw [HS.out, ← HZ.out]; rfl), rfl⟩
theorem weigh_any (w : World) (v : Value) (zs : List Int) (h : IntsAt w v zs) (h0 : chk zs = 0) :
    Calls Tryz.prog 125 #[v] w fun e w' => e = .returned (.int .i64 (sum zs)) ∧ w' = w := by
  obtain ⟨ad, c, rfl, _, h⟩ := h
  have hz := chk_zero.1 h0
  rcases h with rfl | ⟨b, o, rfl, h⟩
  · simp at hz
  · exact weigh_n w b o zs.length c zs rfl hz.2.1 hz.2.2 h
theorem Weight_ok (A : Nat → Addr) (w : World) (hE : E4 A w) (v : Value) (zs : List Int) (h : IntsAt w v zs) (h0 : chk zs = 0) :
    Calls Tryz.prog 119 #[v] w fun e w' => e = .returned (.tuple #[.int .i64 (sum zs), .nilIface]) ∧ w' = w := by
  have K1 := hid (check_ok A w hE v zs h h0)
  have K2 := hid (weigh_any w v zs h h0)
  clear h0
  go_enter Tryz.func119, Tryz.ntmps119
  go_wp2_with fail
  refine K1.out.mono ?_
  rintro e w' ⟨rfl, rfl⟩
  go_wp2_with fail
  refine K2.out.mono ?_
  rintro e w' ⟨rfl, rfl⟩
  go_wp2
  go_ret2
  exact ⟨rfl, rfl⟩
end Go.Proofs.YtefpnojanldkeaaGreatDoor
namespace Go.Proofs.YtefpnojanldkeaaGreatDoor
open Go.RowKit Go.Sort Go.Lib
set_option linter.unusedSectionVars false
variable [Inhabited ComV] [DecidableEq D3] [Inhabited D3] [Inhabited Dd] [Inhabited OpV]

theorem zero85 (w : World) : (zeroValue 148).run Tryz.prog w = .ok (.agg #[.int .i64 0, .string ByteArray.empty, .int .i64 0, .string ByteArray.empty, .int .i64 0, .bool false, .slice none 0 0, .int .i64 0, .int .i64 0, .int .i64 0, .int .i64 0]) w := by kernel_rfl
theorem zeros_one (n : Nat) : ∀ v ∈ (Builtin.zeroCells (Value.cells (.agg #[.int .i64 0, .string ByteArray.empty, .int .i64 0, .string ByteArray.empty, .int .i64 0, .bool false, .slice none 0 0, .int .i64 0, .int .i64 0, .int .i64 0, .int .i64 0])) n).toList, v.oneCell' = true := by
  intro v hv
  simp only [Builtin.zeroCells, Value.cells] at hv
  rw [Array.mem_toList_iff, Array.mem_map] at hv
  obtain ⟨i, _, rfl⟩ := hv
  obtain ⟨j, hj⟩ : ∃ j, j = i % 11 := ⟨_, rfl⟩
  have hl : j < 11 := by omega
  show (#[Value.int .i64 0, .string ByteArray.empty, .int .i64 0, .string ByteArray.empty, .int .i64 0, .bool false, .slice none 0 0, .int .i64 0, .int .i64 0, .int .i64 0, .int .i64 0][i % 11]!).oneCell' = true
  rw [← hj]
  rcases (by omega : j = 0 ∨ j = 1 ∨ j = 2 ∨ j = 3 ∨ j = 4 ∨ j = 5 ∨ j = 6 ∨ j = 7 ∨ j = 8 ∨ j = 9 ∨ j = 10) with h | h | h | h | h | h | h | h | h | h | h <;> rw [h] <;> rfl
set_option maxHeartbeats 1000000 in
set_option maxRecDepth 100000 in
theorem deleteFunc_some (w : World) (B g cap gf : Nat) (lb : Array Value) (p : Dd → Bool) (d : Array Dd) (eg : ∀ args w, (callFunc gf args).run Tryz.prog w = .ok (.enter gf args) w) (S : World → Prop)
    (hSd : ∀ W, Below w.heap.size w W → S W) (hSa : ∀ W o, S W → S (W.alloc o)) (hSs : ∀ W o vs, S W → S (W.setCells g o vs))
    (hp : ∀ (W : World) (x : Dd), S W → Calls Tryz.prog gf (#[.agg x.enc.toArray] ++ lb) W fun e w' => e = .returned (.bool (p x)) ∧ w' = W.alloc (.cells x.enc.toArray 148))
    (hB : B ≤ g) (hg : g < w.heap.size) (hH : HoldsK Dd.enc 11 w g 0 d) (hcap : d.size ≤ cap) (hsz : d.size ≤ 1000000) :
    Calls Tryz.prog 105 #[.slice (some ⟨g, 0, none⟩) d.size cap, .func (.func gf) #[] lb] w fun e w' => e = .returned (.slice (some ⟨g, 0, none⟩) (d.toList.filter fun x => !p x).length cap) ∧ HoldsK Dd.enc 11 w' g 0 (d.toList.filter fun x => !p x).toArray ∧ Below B w w' ∧ g < w'.heap.size := by
  have tl : ∀ j, j < d.size → d.toList[j]! = d[j]! := fun j hj => by rw [getElem!_pos d j hj, getElem!_pos d.toList j (by simpa using hj)]; simp
  have hIF := AnyQ.slices_IndexFunc Tryz.idxDd 11 Tryz.isAgg148 Tryz.sizeOf148 Dd.enc Dd.enc_length p gf lb eg g 0 d.size cap d.toList w
    (fun W x hb => (hp W x (hSd W hb)).mono fun _ _ ⟨he, hw⟩ => ⟨he, by rw [hw]; exact hb.alloc hb.size _⟩) (by simp) (by omega) hg (fun j hj i v hi => by
      have hj' : j < d.size := by simpa using hj
      have hi' : i < 11 := by have := (List.getElem?_eq_some_iff.1 hi).1; rw [Dd.enc_length] at this; exact this
      rw [Nat.zero_add, (holdsK_iff.1 hH j hj' i hi').1, ← tl j hj', List.getElem!_eq_getElem?_getD (l := (d.toList[j]!).enc), hi]
      rfl)
  change Calls Tryz.prog 120 _ _ _ at hIF
  rw [show d.toList.take d.size = d.toList from List.take_of_length_le (by simp)] at hIF
  obtain ⟨kp, HK⟩ : ∃ kp : Nat → Bool, Hid (kp = fun j => !p d[j]!) := ⟨_, rfl⟩
  have hfil : (d.toList.filter fun x => !p x) = keptUpTo kp d d.size := by rw [HK.out]; exact (keptUpTo_filter (fun x => !p x) d).symm
  rw [hfil]
  rcases idxByFrom_spec (fun _ y => p y) default d.toList 0 with ⟨e1, hall⟩ | ⟨k0, hk0, e1, ht, hall⟩
  · have e2 : Lib.idxBy (fun _ y => p y) d.toList default = -1 := e1
    rw [e2] at hIF
    have hkeep : ∀ j, j < d.size → kp j = true := fun j hj => by rw [HK.out]; show (!p d[j]!) = true; rw [← tl j hj, hall j (by simpa using hj)]; rfl
    have e3 : keptUpTo kp d d.size = d.toList := by rw [keptUpTo_all kp d _ hkeep, range_map_get]
    have HH := hid hH
    clear hH hp hSd hSa hSs
    go_enter Tryz.func105, Tryz.ntmps105
    go_wp2_with (go_at_call 120; refine hIF.mono ?_; rintro e w' ⟨rfl, hb'⟩)
    go_ret
    rw [e3]
    exact ⟨by simp, by simpa using holdsK_below HH.out hb' hg, hb'.mono (by omega), Nat.lt_of_lt_of_le hg hb'.size⟩
  · have hk0' : k0 < d.size := by simpa using hk0
    have e2 : Lib.idxBy (fun _ y => p y) d.toList default = (k0 : Int) := by unfold Lib.idxBy; rw [e1]; simp
    rw [e2] at hIF
    have hkeep : ∀ j, j < k0 → kp j = true := fun j hj => by rw [HK.out]; show (!p d[j]!) = true; rw [← tl j (by omega), hall j hj]; rfl
    have hdrop : kp k0 = false := by rw [HK.out]; show (!p d[k0]!) = false; rw [← tl k0 hk0']; rw [show p d.toList[k0]! = true from ht]; rfl
    have hne1 : ((k0 : Int) == -1) = false := beq_eq_false_iff_ne.2 (by omega)
    have HC := hid hp
    have HH := hid hH
    have HSd := hid hSd
    have HSa := hid hSa
    have HSs := hid hSs
    clear hp hH hall ht e1 e2 tl hSd hSa hSs
    go_enter Tryz.func105, Tryz.ntmps105
    go_wp2_with (go_at_call 120; refine hIF.mono ?_; rintro e w' ⟨rfl, hb'⟩)
    have HB := hid hb'
    clear hb' hIF hfil
    go_loopg [5, 6, 7] d.size (fun gg s5 s6 _ wr => ∃ (i j : Nat) (dk : Array Dd), s5 = .int .i64 i ∧ s6 = .int .i64 j ∧ j ≤ d.size ∧ d.size - j ≤ gg ∧ Hid (HoldsK Dd.enc 11 wr g 0 dk) ∧ Hid (Below B w wr) ∧ g < wr.heap.size ∧ Hid (KeptInv kp d j i dk) ∧ Hid (S wr))
    case atStart => exact ⟨k0, k0 + 1, d, rfl, by go_num, by omega, by omega, holdsK_below HH.out HB.out hg, HB.out.mono (by omega), Nat.lt_of_lt_of_le hg HB.out.size, KeptInv.start hkeep hdrop, HSd.out _ HB.out⟩
    case round =>
      obtain ⟨i, j, dk, rfl, rfl, hjd, hgg, HD, BW, hgw, I2, JS⟩ := hrel
      have hij := I2.out.lt
      have hds := I2.out.size
      by_cases hlt : j < d.size
      · have hltz : (j : Int) < (d.size : Int) := by omega
        obtain ⟨u, hu⟩ : ∃ u, u = d[j]! := ⟨_, rfl⟩
        obtain ⟨c0, c1, c2, c3, c4, c5, c6, c7, c8, c9, c10⟩ := holdsK_cells HD.out (j := j) (u := u) (by omega) (by rw [I2.out.high j (by omega)]; exact hu.symm)
        have HU := hid hu
        clear hu
        have hX : HoldsK Dd.enc 11 ((wr.alloc (.cells u.enc.toArray 148)).alloc (.cells u.enc.toArray 148)) g 0 dk := holdsK_below HD.out ((below_alloc _ _).trans ((below_alloc _ _).mono (by simp))) hgw
        have hcall := HC.out (wr.alloc (.cells u.enc.toArray 148)) u (HSa.out _ _ JS.out)
        cases hq : p u with
        | false =>
          rw [hq] at hcall
          have HQ := hid hq
          clear hq
          obtain ⟨u1, u2, u3, u4, u5, u6, up, ul, uc, ⟨u8, u9, u10⟩, u11, u12⟩ := u
          have hc := hid (holdsK_some hX (j := i) (by omega))
          have hf := hid (holdsK_frz hX (j := i) (by omega))
          have HHc : Hid (∀ q, q < 11 → (((wr.alloc (.cells #[.int .i64 u1, .string u2, .int .i64 u3, .string u4, .int .i64 u5, .bool u6, .slice up ul uc, .int .i64 u8, .int .i64 u9, .int .i64 u10, .int .i64 u11] 148)).alloc (.cells #[.int .i64 u1, .string u2, .int .i64 u3, .string u4, .int .i64 u5, .bool u6, .slice up ul uc, .int .i64 u8, .int .i64 u9, .int .i64 u10, .int .i64 u11] 148)).cell? ⟨g, i * 11 + q, none⟩).isSome = true) := hc
          have HHf : Hid (∀ q, q < 11 → ((wr.alloc (.cells #[.int .i64 u1, .string u2, .int .i64 u3, .string u4, .int .i64 u5, .bool u6, .slice up ul uc, .int .i64 u8, .int .i64 u9, .int .i64 u10, .int .i64 u11] 148)).alloc (.cells #[.int .i64 u1, .string u2, .int .i64 u3, .string u4, .int .i64 u5, .bool u6, .slice up ul uc, .int .i64 u8, .int .i64 u9, .int .i64 u10, .int .i64 u11] 148)).frozen? ⟨g, i * 11 + q, none⟩ = false) := hf
          simp only [Dd.enc] at hcall
          have hS := holdsK_set hX (i := i) (by omega) ⟨u1, u2, u3, u4, u5, u6, up, ul, uc, ⟨u8, u9, u10⟩, u11, u12⟩
          simp only [Dd.enc] at hS
          have HS := hid hS
          clear hX hc hf hS
          go_wp2_with (first
            | (go_at_fn gf; refine hcall.mono ?_; rintro e w' ⟨rfl, rfl⟩)
            | (refine wpList_store_k _ rfl (.tmp 33) (.tmp 32) 148 rfl g (i * 11) [.int .i64 u1, .string u2, .int .i64 u3, .string u4, .int .i64 u5, .bool u6, .slice up ul uc, .int .i64 u8, .int .i64 u9, .int .i64 u10, .int .i64 u11] rfl rfl 11 rfl Tryz.sizeOf148 rfl _ ?hW HHc.out HHf.out ?_; case hW => rfl))
          go_roundg (d.size - (j + 1))
          case measure => omega
          case rel =>
            refine ⟨i + 1, j + 1, dk.setIfInBounds i ⟨u1, u2, u3, u4, u5, u6, up, ul, uc, ⟨u8, u9, u10⟩, u11, u12⟩, by go_num, by go_num, by omega, Nat.le_refl _, ?_, ?_, ?_, ?_, HSs.out _ _ _ (HSa.out _ _ (HSa.out _ _ JS.out))⟩
            · exact HS.out
            · exact below_setCells hB _ _ ((BW.out.alloc (by omega) _).alloc (by simp; omega) _)
            · rw [setCells_size]; simp; omega
            · have := I2.out.keep hlt (by rw [HK.out]; show (!p d[j]!) = true; rw [← HU.out, HQ.out]; rfl)
              rw [← HU.out] at this
              exact this
        | true =>
          rw [hq] at hcall
          have HQ := hid hq
          clear hq hX
          obtain ⟨u1, u2, u3, u4, u5, u6, up, ul, uc, ⟨u8, u9, u10⟩, u11, u12⟩ := u
          simp only [Dd.enc] at hcall
          go_wp2_with (go_at_fn gf; refine hcall.mono ?_; rintro e w' ⟨rfl, rfl⟩)
          go_roundg (d.size - (j + 1))
          case measure => omega
          case rel =>
            refine ⟨i, j + 1, dk, rfl, by go_num, by omega, Nat.le_refl _, ?_, ?_, ?_, ?_, HSa.out _ _ (HSa.out _ _ JS.out)⟩
            · exact holdsK_below HD.out ((below_alloc _ _).trans ((below_alloc _ _).mono (by simp))) hgw
            · exact (BW.out.alloc (by omega) _).alloc (by simp; omega) _
            · simp; omega
            · exact I2.out.skip (by rw [HK.out]; show (!p d[j]!) = false; rw [← HU.out, HQ.out]; rfl)
      · obtain rfl : j = d.size := by omega
        have hltz : ¬ (d.size : Int) < (d.size : Int) := by omega
        obtain ⟨vs, hvs⟩ : ∃ vs, vs = (Builtin.zeroCells (Value.cells (.agg #[.int .i64 0, .string ByteArray.empty, .int .i64 0, .string ByteArray.empty, .int .i64 0, .bool false, .slice none 0 0, .int .i64 0, .int .i64 0, .int .i64 0, .int .i64 0])) (d.size - i)).toList := ⟨_, rfl⟩
        have hvl : vs.length = (d.size - i) * 11 := by rw [hvs]; simp [Builtin.zeroCells, Value.cells]; try omega
        have hcl : ∀ ty, (Builtin.clear_ #[144] ty #[.slice (some ⟨g, i * 11, none⟩) (d.size - i) (cap - i)]).run Tryz.prog wr = .ok (.tuple #[]) (wr.setCells g (i * 11) vs) := fun ty =>
          run_clear_k wr 144 148 ty _ Tryz.underlying144 zero85 g (i * 11) (d.size - i) (cap - i) (by omega) vs hvs.symm (by rw [hvs]; exact zeros_one _) (fun q hq => by
            rw [hvl] at hq
            have := holdsK_some HD.out (j := i + q / 11) (by omega) (q % 11) (by omega)
            rwa [show (i + q / 11) * 11 + q % 11 = i * 11 + q by omega] at this) (fun q hq => by
            rw [hvl] at hq
            have := holdsK_frz HD.out (j := i + q / 11) (by omega) (q % 11) (by omega)
            rwa [show (i + q / 11) * 11 + q % 11 = i * 11 + q by omega] at this)
        have HV := hid hvs
        have HL := hid hvl
        clear hvs hvl
        go_wp2
        go_ret
        have hI := I2.out
        rw [hI.len]
        refine ⟨rfl, ?_, below_setCells hB _ _ BW.out, by rw [setCells_size]; exact hgw⟩
        refine holdsK_tail (holdsK_cut HD.out (by simp [hI.len]; omega) (fun q hq => ?_)) _ _ (by simp [hI.len])
        have hq' : q < i := by simpa [hI.len] using hq
        have := hI.low q hq'
        obtain ⟨h1, h2⟩ := List.getElem?_eq_some_iff.1 this
        rw [← h2]
        simp [h1]
theorem deleteFunc_none (w : World) (p : Option Addr) (fv : Value) : Calls Tryz.prog 105 #[.slice p 0 0, fv] w fun e w' => e = .returned (.slice p 0 0) ∧ w' = w := by
  go_enter Tryz.func105, Tryz.ntmps105
  go_wp2_with (go_at_call 120; refine (indexFunc_none _ _ _ _).mono ?_; rintro e w' ⟨rfl, rfl⟩)
  go_ret
  exact ⟨rfl, rfl⟩
/-- slices.DeleteFunc over a row, with a function that has captured the variable in block kb. -/
theorem deleteFunc_row (w : World) (B gf kb : Nat) (val : Value) (p : Dd → Bool) (v : Value) (xs : List Dd) (eg : ∀ args w, (callFunc gf args).run Tryz.prog w = .ok (.enter gf args) w)
    (hp : ∀ (W : World) (x : Dd), W.cell? ⟨kb, 0, none⟩ = some val → Calls Tryz.prog gf #[.agg x.enc.toArray, .pointer (some ⟨kb, 0, none⟩)] W fun e w' => e = .returned (.bool (p x)) ∧ w' = W.alloc (.cells x.enc.toArray 148))
    (hc : w.cell? ⟨kb, 0, none⟩ = some val) (hr : RowD w B v xs) (hkb : ∀ g n c, v = .slice (some ⟨g, 0, none⟩) n c → g ≠ kb) (hsz : xs.length ≤ 1000000) :
    Calls Tryz.prog 105 #[v, .func (.func gf) #[] #[.pointer (some ⟨kb, 0, none⟩)]] w fun e w' => ∃ v', e = .returned v' ∧ RowD w' B v' (xs.filter fun x => !p x) ∧ Below B w w' ∧ v'.ownBlock = v.ownBlock := by
  rcases hr with ⟨rfl, rfl⟩ | ⟨g, cap, rfl, hB, hg, hcap, hH⟩
  · refine (deleteFunc_none w none _).mono ?_
    rintro e w' ⟨rfl, rfl⟩
    exact ⟨_, rfl, .inl ⟨rfl, rfl⟩, Below.refl _ _, rfl⟩
  · have hne : g ≠ kb := hkb g _ _ rfl
    have := deleteFunc_some w B g cap gf #[.pointer (some ⟨kb, 0, none⟩)] p xs.toArray eg (fun W => W.cell? ⟨kb, 0, none⟩ = some val) (fun W hb => by rw [hb.cell (p := ⟨kb, 0, none⟩) (lt_of_cell hc)]; exact hc) (fun W o h => cell_alloc h o)
      (fun W o vs h => by rw [World.cell?_setCells_out g vs o W ⟨kb, 0, none⟩ (fun e => absurd e.symm hne)]; exact h) hp hB hg hH (by simpa using hcap) (by simpa using hsz)
    simp only [List.size_toArray] at this
    refine this.mono ?_
    rintro e w' ⟨rfl, h1, h2, h3⟩
    exact ⟨_, rfl, .inr ⟨g, cap, rfl, hB, h3, Nat.le_trans (List.length_filter_le _ _) hcap, h1⟩, h2, rfl⟩
end Go.Proofs.YtefpnojanldkeaaGreatDoor
namespace Go.Proofs
open Go.Shelf
def Tryz.sortDd_ren : Go.Shelf.Ren := ⟨fun | 6 => 107 | 15 => 122 | 14 => 121 | 28 => 134 | 29 => 135 | 20 => 126 | 21 => 127 | 22 => 128 | 23 => 129 | 24 => 130 | 25 => 131 | 26 => 132 | 27 => 133 | 46 => 145 | 47 => 146 | 48 => 147 | 49 => 148 | 50 => 149 | 57 => 154 | n => n, fun | 22 => 144 | 24 => 148 | 25 => 181 | 3 => 3 | 39 => 202 | 0 => 0 | 53 => 171 | 55 => 220 | 4 => 4 | 46 => 213 | 45 => 212 | 50 => 185 | 5 => 5 | 9 => 9 | 66 => 227 | 70 => 231 | 76 => 235 | 77 => 93 | n => n, fun | n => n⟩
theorem Tryz.sortDd : Go.Proofs.SlLaysF0.n6 Tryz.prog Tryz.sortDd_ren := {
  mixed := by kernel_rfl
  f6 := ⟨Tryz.f107.name, by decide, Tryz.func107.trans (congrArg some (by kernel_rfl))⟩
  f14 := ⟨Tryz.f121.name, by decide, Tryz.func121.trans (congrArg some (by kernel_rfl))⟩
  f15 := Tryz.func122.trans (congrArg some (by kernel_rfl))
  f20 := ⟨Tryz.f126.name, by decide, Tryz.func126.trans (congrArg some (by kernel_rfl))⟩
  f21 := ⟨Tryz.f127.name, by decide, Tryz.func127.trans (congrArg some (by kernel_rfl))⟩
  f22 := ⟨Tryz.f128.name, by decide, Tryz.func128.trans (congrArg some (by kernel_rfl))⟩
  f23 := ⟨Tryz.f129.name, by decide, Tryz.func129.trans (congrArg some (by kernel_rfl))⟩
  f24 := ⟨Tryz.f130.name, by decide, Tryz.func130.trans (congrArg some (by kernel_rfl))⟩
  f25 := ⟨Tryz.f131.name, by decide, Tryz.func131.trans (congrArg some (by kernel_rfl))⟩
  f26 := ⟨Tryz.f132.name, by decide, Tryz.func132.trans (congrArg some (by kernel_rfl))⟩
  f27 := ⟨Tryz.f133.name, by decide, Tryz.func133.trans (congrArg some (by kernel_rfl))⟩
  f28 := Tryz.func134.trans (congrArg some (by kernel_rfl))
  f29 := Tryz.func135.trans (congrArg some (by kernel_rfl))
  f46 := ⟨Tryz.f145.name, by decide, Tryz.func145.trans (congrArg some (by kernel_rfl))⟩
  f47 := Tryz.func146.trans (congrArg some (by kernel_rfl))
  f48 := Tryz.func147.trans (congrArg some (by kernel_rfl))
  f49 := ⟨Tryz.f148.name, by decide, Tryz.func148.trans (congrArg some (by kernel_rfl))⟩
  f50 := ⟨Tryz.f149.name, by decide, Tryz.func149.trans (congrArg some (by kernel_rfl))⟩
  f57 := ⟨Tryz.f154.name, by decide, Tryz.func154.trans (congrArg some (by kernel_rfl))⟩
  t0 := Tryz.underlying0
  a0 := Tryz.isAgg0
  z0 := Tryz.sizeOf0
  v0 := Tryz.zeroValue0
  t3 := Tryz.underlying3
  a3 := Tryz.isAgg3
  z3 := Tryz.sizeOf3
  v3 := Tryz.zeroValue3
  t4 := Tryz.underlying4
  a4 := Tryz.isAgg4
  z4 := Tryz.sizeOf4
  v4 := Tryz.zeroValue4
  t5 := Tryz.underlying5
  a5 := Tryz.isAgg5
  z5 := Tryz.sizeOf5
  v5 := Tryz.zeroValue5
  t9 := Tryz.underlying9
  a9 := Tryz.isAgg9
  z9 := Tryz.sizeOf9
  v9 := Tryz.zeroValue9
  t22 := Tryz.underlying144
  a22 := Tryz.isAgg144
  z22 := Tryz.sizeOf144
  v22 := Tryz.zeroValue144
  t25 := Tryz.underlying181
  a25 := Tryz.isAgg181
  z25 := Tryz.sizeOf181
  v25 := Tryz.zeroValue181
  t39 := Tryz.underlying202
  a39 := Tryz.isAgg202
  z39 := Tryz.sizeOf202
  v39 := Tryz.zeroValue202
  t45 := Tryz.underlying212
  a45 := Tryz.isAgg212
  z45 := Tryz.sizeOf212
  v45 := Tryz.zeroValue212
  t46 := Tryz.underlying213
  a46 := Tryz.isAgg213
  z46 := Tryz.sizeOf213
  v46 := Tryz.zeroValue213
  t50 := Tryz.underlying185
  a50 := Tryz.isAgg185
  z50 := Tryz.sizeOf185
  v50 := Tryz.zeroValue185
  t53 := Tryz.underlying171
  a53 := Tryz.isAgg171
  z53 := Tryz.sizeOf171
  v53 := Tryz.zeroValue171
  t55 := Tryz.underlying220
  a55 := Tryz.isAgg220
  z55 := Tryz.sizeOf220
  v55 := Tryz.zeroValue220
  t66 := Tryz.underlying227
  a66 := Tryz.isAgg227
  z66 := Tryz.sizeOf227
  v66 := Tryz.zeroValue227
  t70 := Tryz.underlying231
  a70 := Tryz.isAgg231
  z70 := Tryz.sizeOf231
  v70 := Tryz.zeroValue231
  t76 := Tryz.underlying235
  a76 := Tryz.isAgg235
  z76 := Tryz.sizeOf235
  v76 := Tryz.zeroValue235
  t77 := Tryz.underlying93
  a77 := Tryz.isAgg93
  z77 := Tryz.sizeOf93
  v77 := Tryz.zeroValue93 }
end Go.Proofs
namespace Go.Proofs.YtefpnojanldkeaaGreatDoor
open Go.RowKit Go.Sort Go.Lib Go.Shelf
set_option linter.unusedSectionVars false
variable [Inhabited ComV] [DecidableEq D3] [Inhabited D3] [Inhabited Dd] [Inhabited OpV]

theorem cmpI_lt (x y : Int) : cmpI x y < 0 ↔ x < y := by
  unfold cmpI
  split
  · omega
  · split <;> omega
theorem cmpI_eq (x y : Int) : cmpI x y = 0 ↔ x = y := by
  unfold cmpI
  split
  · omega
  · split <;> omega
/-- Which of two dots comes first. -/
def ltD (a b : D3) : Bool := decide (a.p < b.p ∨ a.p = b.p ∧ (a.t < b.t ∨ a.t = b.t ∧ a.a < b.a))
theorem cmpD_lt (a b : D3) : cmpD a b < 0 ↔ ltD a b = true := by
  unfold cmpD ltD
  simp only [orI, cmpI_eq, decide_eq_true_eq]
  have h1 := cmpI_lt a.p b.p
  have h2 := cmpI_lt a.t b.t
  have h3 := cmpI_lt a.a b.a
  by_cases e1 : a.p = b.p
  · rw [if_pos e1]
    by_cases e2 : a.t = b.t
    · rw [if_pos e2]
      by_cases e3 : a.a = b.a
      · rw [if_pos e3]; omega
      · rw [if_neg e3]; omega
    · rw [if_neg e2]; omega
  · rw [if_neg e1]; omega
theorem cmpD_eq (a b : D3) : cmpD a b = 0 ↔ a = b := by
  unfold cmpD
  simp only [orI, cmpI_eq]
  obtain ⟨a1, a2, a3⟩ := a
  obtain ⟨b1, b2, b3⟩ := b
  simp only [D3.mk.injEq]
  have q1 := cmpI_eq a1 b1
  have q2 := cmpI_eq a2 b2
  have q3 := cmpI_eq a3 b3
  by_cases e1 : a1 = b1
  · rw [if_pos e1]
    by_cases e2 : a2 = b2
    · rw [if_pos e2]
      by_cases e3 : a3 = b3
      · rw [if_pos e3]; simp [e1, e2, e3]
      · rw [if_neg e3]; simp [e3]; omega
    · rw [if_neg e2]; simp [e2]; omega
  · rw [if_neg e1]; simp [e1]; omega
/-- Which of two ops counts first. -/
def ltW (x y : Dd) : Bool := decide (x.wt < y.wt ∨ x.wt = y.wt ∧ ltD x.dot y.dot = true)
theorem ltOf_cmpW : ltOf cmpW = ltW := by
  funext x y
  unfold ltOf cmpW ltW
  simp only [orI, cmpI_eq]
  have h1 := cmpI_lt x.wt y.wt
  have h2 := cmpD_lt x.dot y.dot
  have h3 := cmpD_eq x.dot y.dot
  by_cases e1 : x.wt = y.wt
  · rw [if_pos e1]
    by_cases e2 : cmpD x.dot y.dot = 0
    · rw [if_pos e2]
      congr 1
      rw [← h2]
      apply propext
      omega
    · rw [if_neg e2]
      congr 1
      rw [← h2]
      apply propext
      omega
  · rw [if_neg e1]
    congr 1
    apply propext
    omega
theorem swoD : SWO ltD where
  irrefl x := by simp [ltD]
  trans x y z h1 h2 := by simp only [ltD, decide_eq_true_eq] at *; omega
  ntrans x y z h1 h2 := by simp only [ltD, decide_eq_false_iff_not] at *; omega
theorem swoW : SWO ltW where
  irrefl x := by simp [ltW, ltD]
  trans x y z h1 h2 := by simp only [ltW, ltD, decide_eq_true_eq] at *; omega
  ntrans x y z h1 h2 := by simp only [ltW, ltD, decide_eq_true_eq, decide_eq_false_iff_not] at *; omega
theorem below_sortWorld {α : Type} [Inhabited α] (enc : α → List Value) (k : Nat) {B : Nat} (w : World) (blk n : Nat) (d : Array α) (os : Array Obj) (hB : B ≤ blk) (hblk : blk < w.heap.size) : Below B w (sortWorldK enc k w blk 0 n d os) := by
  refine ⟨rfl, rfl, rfl, by unfold sortWorldK putRowK putRow mapBlock; simp [Sort.ahead]; try omega, fun i hi => ?_⟩
  unfold sortWorldK
  rw [heap_grow_old _ _ (by unfold putRowK putRow mapBlock; simp [Sort.ahead]; omega)]
  unfold putRowK putRow mapBlock
  simp only [Sort.ahead]
  simp [Array.getElem?_modify, show blk ≠ i by omega]
theorem perm_of_permIn {α : Type} [Inhabited α] {d d' : Array α} (h : PermIn 0 d.size d d') : d'.toList.Perm d.toList := by
  obtain ⟨h1, _, h3⟩ := h
  rw [Array.extract_eq_self_of_le (Nat.le_refl _)] at h3
  rw [← h1, Array.extract_eq_self_of_le (Nat.le_refl _)] at h3
  exact h3
theorem pairwise_of_sortedIn {α : Type} [Inhabited α] {lt : α → α → Bool} {d : Array α} (h : SortedIn lt 0 d.size d) : d.toList.Pairwise (fun a b => lt b a = false) := by
  rw [List.pairwise_iff_getElem]
  intro i j hi hj hij
  have := h i j (Nat.zero_le _) hij (by simpa using hj)
  rw [getElem!_pos d j (by simpa using hj), getElem!_pos d i (by simpa using hi)] at this
  simpa using this
theorem sortFunc_row (w : World) (B : Nat) (v : Value) (xs : List Dd) (hr : RowD w B v xs) (hsz : xs.length ≤ 1000000) :
    Calls Tryz.prog 107 #[v, .func (.func 108) #[] #[]] w fun e w' => e = .returned (.tuple #[]) ∧ ∃ ys : List Dd, ys.Perm xs ∧ ys.Pairwise (fun a b => ltW b a = false) ∧ RowD w' B v ys ∧ Below B w w' := by
  by_cases h0 : xs = []
  · subst h0
    have : ∃ p cap, v = .slice p 0 cap := by
      rcases hr with ⟨rfl, _⟩ | ⟨g, cap, rfl, _⟩
      · exact ⟨_, _, rfl⟩
      · exact ⟨_, _, rfl⟩
    obtain ⟨p, cap, rfl⟩ := this
    have hn := AnyF.slices_SortFunc_none (P := Tryz.prog) (ρ := Tryz.sortDd_ren) { Tryz.sortDd with } p cap (.func (.func 108) #[] #[]) w
    change Calls Tryz.prog 107 _ _ _ at hn
    refine hn.mono ?_
    rintro e w' ⟨rfl, rfl⟩
    exact ⟨rfl, [], List.Perm.refl _, List.Pairwise.nil, hr, Below.refl _ _⟩
  · rcases hr with ⟨_, h⟩ | ⟨g, cap, rfl, hB, hg, hcap, hH⟩
    · exact absurd h h0
    · have hcon := AnyQ.slices_SortFunc Tryz.sortDd 11 Tryz.isAgg148 Tryz.sizeOf148 Dd.enc Dd.enc_length Dd.enc_one cmpW (by rw [ltOf_cmpW]; exact swoW) 108 #[] g 0 cap xs.toArray w (enters_of Tryz.func108 (by kernel_rfl) rfl)
        (fun _ _ _ _ x y => sortCmp_any _ x y) hH hg (by simp; omega)
      change Calls Tryz.prog 107 _ _ _ at hcon
      rw [ltOf_cmpW] at hcon
      simp only [List.size_toArray] at hcon
      refine hcon.mono ?_
      rintro e w' ⟨rfl, d', n, os, hp, hs, rfl⟩
      have hp' : PermIn 0 xs.toArray.size xs.toArray d' := by simpa using hp
      have hsz' : d'.size = xs.length := by simpa using hp'.1
      refine ⟨rfl, d'.toList, by simpa using perm_of_permIn hp', pairwise_of_sortedIn (by rw [hsz']; exact hs), .inr ⟨g, cap, by simp [hsz'], hB, lt_sortWorldK _ _ _ _ _ _ _ _ hg, by simp [hsz']; exact hcap, ?_⟩, below_sortWorld _ _ _ _ _ _ _ hB hg⟩
      simpa using holdsK_sortWorldK Dd.enc 11 w g 0 n xs.toArray d' os hg hH (by simpa using hsz')
end Go.Proofs.YtefpnojanldkeaaGreatDoor
namespace Go.Proofs.YtefpnojanldkeaaGreatDoor
open Go.RowKit Go.Maps
set_option linter.unusedSectionVars false
variable [Inhabited ComV] [DecidableEq D3] [Inhabited D3] [Inhabited Dd] [Inhabited OpV]

/-- An op with its dot, and its commit's weight. -/
structure Dn where
  o : OpV
  dot : D3
  wt : Int
variable [Inhabited Dn]
def Dd.abs (x : Dd) : Dn := ⟨⟨x.at_, x.key, x.kind, x.text, x.n, x.rem, x.ds⟩, x.dot, x.wt⟩
def dnOf (c : ComV) (o : OpV) : Dn := ⟨o, ⟨c.place, c.when_.getD c.place.toNat 0, o.at_⟩, sum c.when_⟩
def hasDot (acc : List Dn) (d : D3) : Bool := acc.any fun x => decide (x.dot = d)
def addDn (acc : List Dn) (d : Dn) : List Dn := if hasDot acc d.dot = true then acc else acc ++ [d]
def addCom (acc : List Dn) (c : ComV) : List Dn := (c.ops.map (dnOf c)).foldl addDn acc
/-- Each op once, the first one of its dot. -/
def onceA (l : List ComV) : List Dn := l.foldl addCom []
def addTo (acc : List Dn) (c : ComV) (j : Nat) : List Dn := ((c.ops.take j).map (dnOf c)).foldl addDn acc
theorem addTo_zero (acc : List Dn) (c : ComV) : addTo acc c 0 = acc := rfl
theorem addTo_succ (acc : List Dn) (c : ComV) {j : Nat} (h : j < c.ops.length) : addTo acc c (j + 1) = addDn (addTo acc c j) (dnOf c c.ops[j]!) := by
  unfold addTo
  rw [List.take_succ_eq_append_getElem h, List.map_append, List.foldl_append, getElem!_pos c.ops j h]
  rfl
theorem addTo_all (acc : List Dn) (c : ComV) : addTo acc c c.ops.length = addCom acc c := by
  unfold addTo addCom
  rw [List.take_length]
theorem once_succ {l : List ComV} {k : Nat} (h : k < l.length) : (l.take (k + 1)).foldl addCom [] = addCom ((l.take k).foldl addCom []) l[k]! := by
  rw [List.take_succ_eq_append_getElem h, List.foldl_append, getElem!_pos l k h]
  rfl
theorem hasDot_append (acc : List Dn) (x : Dn) (d : D3) : hasDot (acc ++ [x]) d = (hasDot acc d || decide (x.dot = d)) := by simp [hasDot]
def GoodD (w : World) (x : Dd) : Prop := DotsAt w (.slice x.dp x.dl x.dc) x.ds
/-- Where once stands: the row holds acc, the map acc's dots. -/
structure OnceInv (w wr : World) (v : Value) (acc : List Dn) (n : Nat) : Prop where
  row : ∃ xs : List Dd, wr.ownsRow (w.heap.size + 1) 148 11 v xs.length (xs.flatMap Dd.enc) ∧ xs.map Dd.abs = acc ∧ ∀ x ∈ xs, GoodD w x
  map : ∃ D : DataW Unit, wr.ownsMap Tryz.prog 90 unitElem w.heap.size n D ∧ ∀ d, wf3 d → Maps.has D (klD d) = hasDot acc d
  below : Below w.heap.size w wr
  size : w.heap.size + 1 ≤ wr.heap.size
  len : acc.length ≤ n
theorem OnceInv.alloc {w wr : World} {v : Value} {acc : List Dn} {n : Nat} (h : OnceInv w wr v acc n) (o : Obj) : OnceInv w (wr.alloc o) v acc n where
  row := let ⟨xs, h1, h2⟩ := h.row; ⟨xs, h1.alloc o, h2⟩
  map := let ⟨D, h1, h2⟩ := h.map; ⟨D, h1.alloc o, h2⟩
  below := h.below.alloc (by have := h.size; omega) o
  size := by have := h.size; simp; omega
  len := h.len
theorem OnceInv.draw {w wr : World} {v : Value} {acc : List Dn} {n : Nat} (h : OnceInv w wr v acc n) (q : Nat) : OnceInv w (wr.drewN q) v acc n where
  row := h.row
  map := h.map
  below := below_draws h.below q
  size := h.size
  len := h.len
theorem OnceInv.mono {w wr : World} {v : Value} {acc : List Dn} {n n' : Nat} (h : OnceInv w wr v acc n) (hn : n ≤ n') : OnceInv w wr v acc n' where
  row := h.row
  map := let ⟨D, h1, h2⟩ := h.map; ⟨D, h1.mono hn, h2⟩
  below := h.below
  size := h.size
  len := Nat.le_trans h.len hn
theorem run_makeMap_room {t k e : TypeId} (hu : Tryz.prog.underlying t = some (.map k e)) (m : Nat) (w : World) : (Instr.makeMap t (some (.int .i64 m))).run Tryz.prog w = .ok (.map (some w.heap.size)) (w.alloc (.map #[] 0)) := by
  simp [Instr.makeMap, run_underlying hu, asInt, asIntOf, Result.andThen]
theorem OnceInv.start (w wm : World) (v : Value) (hr : wm.ownsRow (w.heap.size + 1) 148 11 v 0 []) (hg : (w.alloc (.map #[] 0)).grownBy wm none) : OnceInv w wm v [] 0 where
  row := ⟨[], hr, rfl, fun x hx => by simp at hx⟩
  map := ⟨.map [], (World.ownsMap_made _ _ _ _).kept hg (by simp), fun d _ => rfl⟩
  below := (below_alloc _ _).grown hg (by simp) (fun j hj => by cases hj)
  size := by have := hg.size; simpa using this
  len := Nat.le_refl _
/-- A new op: into the map, and to the row's end. -/
theorem OnceInv.step {w wr w1 w2 : World} {v v' : Value} {acc : List Dn} {n : Nat} {o1 o2 : Obj} {D : DataW Unit} {xs : List Dd} {x : Dd} (hx : GoodD w x) (hs : w.heap.size + 1 ≤ wr.heap.size) (hb : Below w.heap.size w wr) (hlen : acc.length ≤ n)
    (hrow : wr.ownsRow (w.heap.size + 1) 148 11 v xs.length (xs.flatMap Dd.enc)) (habs : xs.map Dd.abs = acc) (hgood : ∀ x ∈ xs, GoodD w x)
    (hD : ∀ d, wf3 d → Maps.has D (klD d) = hasDot acc d) (hwf : wf3 x.dot) (his : IsMap D)
    (hg1 : (wr.alloc o1).grownBy w1 (some w.heap.size)) (hm1 : w1.ownsMap Tryz.prog 90 unitElem w.heap.size (n + 1) (D.put (klD x.dot) (.agg [])))
    (hg2 : (w1.alloc o2).grownBy w2 v.ownBlock) (hr2 : w2.ownsRow (w.heap.size + 1) 148 11 v' (xs.length + 1) (xs.flatMap Dd.enc ++ x.enc)) : OnceInv w w2 v' (acc ++ [x.abs]) (n + 1) where
  row := ⟨xs ++ [x], by simpa using hr2, by simp [habs], fun y hy => by
    rcases List.mem_append.1 hy with h | h
    · exact hgood y h
    · rw [List.mem_singleton.1 h]; exact hx⟩
  map := ⟨_, (hm1.alloc o2).kept hg2 (fun e => by have := (hrow.lt w.heap.size e.symm).1; omega), fun d hd => by
    rw [hasDot_append]
    by_cases e : x.dot = d
    · subst e
      rw [has_put_same his (klD_key _), decide_eq_true (show x.abs.dot = x.dot from rfl), Bool.or_true]
    · rw [has_put_other (fun h => e (klD_inj hd hwf h).symm), hD d hd, decide_eq_false (show ¬ x.abs.dot = d from e), Bool.or_false]⟩
  below := by
    have s1 := hg1.size
    have b1 : Below w.heap.size w w1 := (hb.alloc (by omega) o1).grown hg1 (by simp; omega) (fun j hj => by cases hj; exact Nat.le_refl _)
    exact (b1.alloc (by simp at s1; omega) o2).grown hg2 (by simp at s1 ⊢; omega) (fun j hj => Nat.le_trans (Nat.le_succ _) (hrow.lt j hj).1)
  size := by have s1 := hg1.size; have s2 := hg2.size; simp at s1 s2; omega
  len := by simp; omega
end Go.Proofs.YtefpnojanldkeaaGreatDoor
