/- vector.weigh, Weight and the reference's Weight, by their contracts; slices.DeleteFunc over ops with their dots; Contracts of Go's library at this program's numbers, by the kit's own layings; slices.SortFunc of nothing, at this program's numbers. -/
import Derived.Test.YtngjooemanapnaaGreatDoorJVCom
import Derived.Test.YtngjooemanapnaaGreatDoorJVCmpD
import Derived.Test.YtngjooemanapnaaGreatDoorJVLayI
import Derived.Shelf.SlicesE.DeleteFunc
import Derived.Test.YtngjooemanapnaaGreatDoorProg
import Derived.Shelf.SlSortCmp.WholeK
import Derived.Shelf.SlGeneric
import Derived.Ground.SlsfProg
namespace Go.Proofs.YtngjooemanapnaaGreatDoor
open Go.RowKit

/-- All times together. -/
def sum (zs : List Int) : Int := sumTo zs zs.length
set_option maxHeartbeats 1000000 in
theorem weigh_n (w : World) (b o n c : Nat) (zs : List Int) (hz : zs.length = n) (h6 : n ≤ 6) (hr : ∀ t, t < zs.length → 0 ≤ zs.getD t 0 ∧ zs.getD t 0 ≤ 1099511627776)
    (hc : ∀ t, t < n → w.cell? ⟨b, o + t, none⟩ = some (.int .i64 (zs.getD t 0))) :
    Calls Tryz.prog 117 #[.slice (some ⟨b, o, none⟩) n c] w fun e w' => e = .returned (.int .i64 (sum zs)) ∧ w' = w := by
  have HZ : Hid (zs.length = n) := hz
  have HC := hid hc
  have HR := hid hr
  have HB := hid (sumTo_bd hr)
  clear hz hc hr
  go_enter Tryz.func117, Tryz.ntmps117
  go_wp2
  go_loop [3, 8] (fun s i => ∃ k : Nat, k ≤ n ∧ i = .int .i64 k ∧ s = .int .i64 (sumTo zs k)) (fun _ i => n - (intOf i).toNat)
  case atStart => exact ⟨0, Nat.zero_le _, rfl, rfl⟩
  case round =>
    obtain ⟨k, hk, rfl, rfl⟩ := hrel
    obtain ⟨s, hs⟩ : ∃ s, s = sumTo zs k := ⟨_, rfl⟩
    have hb := HB.out k (by have := HZ.out; omega)
    rw [← hs] at hb ⊢
    have HS := hid hs
    clear hs
    by_cases hlt : k < n
    · have e1 := HC.out k hlt
      obtain ⟨z, hzz⟩ : ∃ z, z = zs.getD k 0 := ⟨_, rfl⟩
      have hzr := HR.out k (by have := HZ.out; omega)
      rw [← hzz] at e1 hzr
      have HZZ := hid hzz
      obtain ⟨hz1, hz2⟩ := hzr
      obtain ⟨hb1, hb2⟩ := hb
      clear hzz
      go_wp2
      go_round
      case rel => exact ⟨k + 1, by omega, by go_num, by simp only [sumTo]; rw [← HS.out, ← HZZ.out]⟩
      case measure => simp [intOf]; omega
    · obtain rfl : k = n := by omega
      go_wp2
      go_ret
      exact ⟨ret_int (by rw [HS.out, ← HZ.out]; rfl), rfl⟩
set_option maxHeartbeats 1000000 in
theorem refWeight_n (w : World) (b o n c : Nat) (zs : List Int) (hz : zs.length = n) (h6 : n ≤ 6) (hr : ∀ t, t < zs.length → 0 ≤ zs.getD t 0 ∧ zs.getD t 0 ≤ 1099511627776)
    (hc : ∀ t, t < n → w.cell? ⟨b, o + t, none⟩ = some (.int .i64 (zs.getD t 0))) :
    Calls Tryz.prog 95 #[.slice (some ⟨b, o, none⟩) n c] w fun e w' => e = .returned (.int .i64 (sum zs)) ∧ w' = w := by
  have HZ : Hid (zs.length = n) := hz
  have HC := hid hc
  have HR := hid hr
  have HB := hid (sumTo_bd hr)
  clear hz hc hr
  go_enter Tryz.func95, Tryz.ntmps95
  go_wp2
  go_loop [3, 4] (fun s i => ∃ k : Nat, k ≤ n ∧ i = .int .i64 k ∧ s = .int .i64 (sumTo zs k)) (fun _ i => n - (intOf i).toNat)
  case atStart => exact ⟨0, Nat.zero_le _, rfl, rfl⟩
  case round =>
    obtain ⟨k, hk, rfl, rfl⟩ := hrel
    obtain ⟨s, hs⟩ : ∃ s, s = sumTo zs k := ⟨_, rfl⟩
    have hb := HB.out k (by have := HZ.out; omega)
    rw [← hs] at hb ⊢
    have HS := hid hs
    clear hs
    by_cases hlt : k < n
    · have e1 := HC.out k hlt
      obtain ⟨z, hzz⟩ : ∃ z, z = zs.getD k 0 := ⟨_, rfl⟩
      have hzr := HR.out k (by have := HZ.out; omega)
      rw [← hzz] at e1 hzr
      have HZZ := hid hzz
      obtain ⟨hz1, hz2⟩ := hzr
      obtain ⟨hb1, hb2⟩ := hb
      clear hzz
      go_wp2
      go_round
      case rel => exact ⟨k + 1, by omega, by go_num, by simp only [sumTo]; rw [← HS.out, ← HZZ.out]⟩
      case measure => simp [intOf]; omega
    · obtain rfl : k = n := by omega
      go_wp2
      go_ret
      exact ⟨ret_int (by rw [HS.out, ← HZ.out]; rfl), rfl⟩
theorem weigh_any (w : World) (v : Value) (zs : List Int) (h : IntsAt w v zs) (h0 : chk zs = 0) :
    Calls Tryz.prog 117 #[v] w fun e w' => e = .returned (.int .i64 (sum zs)) ∧ w' = w := by
  obtain ⟨ad, c, rfl, _, h⟩ := h
  have hz := chk_zero.1 h0
  rcases h with rfl | ⟨b, o, rfl, h⟩
  · simp at hz
  · exact weigh_n w b o zs.length c zs rfl hz.2.1 hz.2.2 h
theorem refWeight_any (w : World) (v : Value) (zs : List Int) (h : IntsAt w v zs) (h0 : chk zs = 0) :
    Calls Tryz.prog 95 #[v] w fun e w' => e = .returned (.int .i64 (sum zs)) ∧ w' = w := by
  obtain ⟨ad, c, rfl, _, h⟩ := h
  have hz := chk_zero.1 h0
  rcases h with rfl | ⟨b, o, rfl, h⟩
  · simp at hz
  · exact refWeight_n w b o zs.length c zs rfl hz.2.1 hz.2.2 h
theorem Weight_ok (A : Nat → Addr) (w : World) (hE : E4 A w) (v : Value) (zs : List Int) (h : IntsAt w v zs) (h0 : chk zs = 0) :
    Calls Tryz.prog 111 #[v] w fun e w' => e = .returned (.tuple #[.int .i64 (sum zs), .nilIface]) ∧ w' = w := by
  have K1 := hid (check_ok A w hE v zs h h0)
  have K2 := hid (weigh_any w v zs h h0)
  clear h0
  go_enter Tryz.func111, Tryz.ntmps111
  go_wp2_with fail
  refine K1.out.mono ?_
  rintro e w' ⟨rfl, rfl⟩
  go_wp2_with fail
  refine K2.out.mono ?_
  rintro e w' ⟨rfl, rfl⟩
  go_wp2
  go_ret2
  exact ⟨rfl, rfl⟩
theorem Weight_bad (A : Nat → Addr) (w : World) (hE : E4 A w) (v : Value) (zs : List Int) (h : IntsAt w v zs) (hl : zs.length ≤ 1000000) (h0 : chk zs ≠ 0) :
    Calls Tryz.prog 111 #[v] w fun e w' => e = .returned (.tuple #[.int .i64 0, .iface 223 (.pointer (some (A ((chk zs).toNat - 1))))]) ∧ w' = w := by
  have K1 := hid (check_bad A w hE v zs h hl h0)
  clear h0
  go_enter Tryz.func111, Tryz.ntmps111
  go_wp2_with fail
  refine K1.out.mono ?_
  rintro e w' ⟨rfl, rfl⟩
  go_wp2
  go_ret2
  exact ⟨rfl, rfl⟩
end Go.Proofs.YtngjooemanapnaaGreatDoor
namespace Go.Proofs.YtngjooemanapnaaGreatDoor
open Go.RowKit Go.Sort Go.Lib
set_option linter.unusedSectionVars false
variable [DecidableEq D3] [Inhabited D3] [Inhabited Dd]

theorem zero85 (w : World) : (zeroValue 166).run Tryz.prog w = .ok (.agg #[.int .i64 0, .string ByteArray.empty, .int .i64 0, .string ByteArray.empty, .int .i64 0, .bool false, .slice none 0 0, .int .i64 0, .int .i64 0, .int .i64 0, .int .i64 0]) w := by kernel_rfl
theorem zeros_one (n : Nat) : ∀ v ∈ (Builtin.zeroCells (Value.cells (.agg #[.int .i64 0, .string ByteArray.empty, .int .i64 0, .string ByteArray.empty, .int .i64 0, .bool false, .slice none 0 0, .int .i64 0, .int .i64 0, .int .i64 0, .int .i64 0])) n).toList, v.oneCell' = true := by
  intro v hv
  simp only [Builtin.zeroCells, Value.cells] at hv
  rw [Array.mem_toList_iff, Array.mem_map] at hv
  obtain ⟨i, _, rfl⟩ := hv
  obtain ⟨j, hj⟩ : ∃ j, j = i % 11 := ⟨_, rfl⟩
  have hl : j < 11 := by omega
  show (#[Value.int .i64 0, .string ByteArray.empty, .int .i64 0, .string ByteArray.empty, .int .i64 0, .bool false, .slice none 0 0, .int .i64 0, .int .i64 0, .int .i64 0, .int .i64 0][i % 11]!).oneCell' = true
  rw [← hj]
  rcases (by omega : j = 0 ∨ j = 1 ∨ j = 2 ∨ j = 3 ∨ j = 4 ∨ j = 5 ∨ j = 6 ∨ j = 7 ∨ j = 8 ∨ j = 9 ∨ j = 10) with h | h | h | h | h | h | h | h | h | h | h <;> rw [h] <;> rfl
set_option maxHeartbeats 1000000 in
set_option maxRecDepth 100000 in
theorem deleteFunc_some (w : World) (B g cap gf : Nat) (lb : Array Value) (p : Dd → Bool) (d : Array Dd) (eg : ∀ args w, (callFunc gf args).run Tryz.prog w = .ok (.enter gf args) w) (S : World → Prop)
    (hSd : ∀ W, Below w.heap.size w W → S W) (hSa : ∀ W o, S W → S (W.alloc o)) (hSs : ∀ W o vs, S W → S (W.setCells g o vs))
    (hp : ∀ (W : World) (x : Dd), S W → Calls Tryz.prog gf (#[.agg x.enc.toArray] ++ lb) W fun e w' => e = .returned (.bool (p x)) ∧ w' = W.alloc (.cells x.enc.toArray 166))
    (hB : B ≤ g) (hg : g < w.heap.size) (hH : HoldsK Dd.enc 11 w g 0 d) (hcap : d.size ≤ cap) (hsz : d.size ≤ 1000000) :
    Calls Tryz.prog 101 #[.slice (some ⟨g, 0, none⟩) d.size cap, .func (.func gf) #[] lb] w fun e w' => e = .returned (.slice (some ⟨g, 0, none⟩) (d.toList.filter fun x => !p x).length cap) ∧ HoldsK Dd.enc 11 w' g 0 (d.toList.filter fun x => !p x).toArray ∧ Below B w w' ∧ g < w'.heap.size := by
  have tl : ∀ j, j < d.size → d.toList[j]! = d[j]! := fun j hj => by rw [getElem!_pos d j hj, getElem!_pos d.toList j (by simpa using hj)]; simp
  have hIF := AnyQ.slices_IndexFunc Tryz.idxDd 11 Tryz.isAgg166 Tryz.sizeOf166 Dd.enc Dd.enc_length p gf lb eg g 0 d.size cap d.toList w
    (fun W x hb => (hp W x (hSd W hb)).mono fun _ _ ⟨he, hw⟩ => ⟨he, by rw [hw]; exact hb.alloc hb.size _⟩) (by simp) (by omega) hg (fun j hj i v hi => by
      have hj' : j < d.size := by simpa using hj
      have hi' : i < 11 := by have := (List.getElem?_eq_some_iff.1 hi).1; rw [Dd.enc_length] at this; exact this
      rw [Nat.zero_add, (holdsK_iff.1 hH j hj' i hi').1, ← tl j hj', List.getElem!_eq_getElem?_getD (l := (d.toList[j]!).enc), hi]
      rfl)
  change Calls Tryz.prog 112 _ _ _ at hIF
  rw [show d.toList.take d.size = d.toList from List.take_of_length_le (by simp)] at hIF
  obtain ⟨kp, HK⟩ : ∃ kp : Nat → Bool, Hid (kp = fun j => !p d[j]!) := ⟨_, rfl⟩
  have hfil : (d.toList.filter fun x => !p x) = keptUpTo kp d d.size := by rw [HK.out]; exact (keptUpTo_filter (fun x => !p x) d).symm
  rw [hfil]
  rcases idxByFrom_spec (fun _ y => p y) default d.toList 0 with ⟨e1, hall⟩ | ⟨k0, hk0, e1, ht, hall⟩
  · have e2 : Lib.idxBy (fun _ y => p y) d.toList default = -1 := e1
    rw [e2] at hIF
    have hkeep : ∀ j, j < d.size → kp j = true := fun j hj => by rw [HK.out]; show (!p d[j]!) = true; rw [← tl j hj, hall j (by simpa using hj)]; rfl
    have e3 : keptUpTo kp d d.size = d.toList := by rw [keptUpTo_all kp d _ hkeep, range_map_get]
    have HH := hid hH
    clear hH hp hSd hSa hSs
    go_enter Tryz.func101, Tryz.ntmps101
    go_wp2_with (go_at_call 112; refine hIF.mono ?_; rintro e w' ⟨rfl, hb'⟩)
    go_ret
    rw [e3]
    exact ⟨by simp, by simpa using holdsK_below HH.out hb' hg, hb'.mono (by omega), Nat.lt_of_lt_of_le hg hb'.size⟩
  · have hk0' : k0 < d.size := by simpa using hk0
    have e2 : Lib.idxBy (fun _ y => p y) d.toList default = (k0 : Int) := by unfold Lib.idxBy; rw [e1]; simp
    rw [e2] at hIF
    have hkeep : ∀ j, j < k0 → kp j = true := fun j hj => by rw [HK.out]; show (!p d[j]!) = true; rw [← tl j (by omega), hall j hj]; rfl
    have hdrop : kp k0 = false := by rw [HK.out]; show (!p d[k0]!) = false; rw [← tl k0 hk0']; rw [show p d.toList[k0]! = true from ht]; rfl
    have hne1 : ((k0 : Int) == -1) = false := beq_eq_false_iff_ne.2 (by omega)
    have HC := hid hp
    have HH := hid hH
    have HSd := hid hSd
    have HSa := hid hSa
    have HSs := hid hSs
    clear hp hH hall ht e1 e2 tl hSd hSa hSs
    go_enter Tryz.func101, Tryz.ntmps101
    go_wp2_with (go_at_call 112; refine hIF.mono ?_; rintro e w' ⟨rfl, hb'⟩)
    have HB := hid hb'
    clear hb' hIF hfil
    go_loopg [5, 6, 7] d.size (fun gg s5 s6 _ wr => ∃ (i j : Nat) (dk : Array Dd), s5 = .int .i64 i ∧ s6 = .int .i64 j ∧ j ≤ d.size ∧ d.size - j ≤ gg ∧ Hid (HoldsK Dd.enc 11 wr g 0 dk) ∧ Hid (Below B w wr) ∧ g < wr.heap.size ∧ Hid (KeptInv kp d j i dk) ∧ Hid (S wr))
    case atStart => exact ⟨k0, k0 + 1, d, rfl, by go_num, by omega, by omega, holdsK_below HH.out HB.out hg, HB.out.mono (by omega), Nat.lt_of_lt_of_le hg HB.out.size, KeptInv.start hkeep hdrop, HSd.out _ HB.out⟩
    case round =>
      obtain ⟨i, j, dk, rfl, rfl, hjd, hgg, HD, BW, hgw, I2, JS⟩ := hrel
      have hij := I2.out.lt
      have hds := I2.out.size
      by_cases hlt : j < d.size
      · have hltz : (j : Int) < (d.size : Int) := by omega
        obtain ⟨u, hu⟩ : ∃ u, u = d[j]! := ⟨_, rfl⟩
        obtain ⟨c0, c1, c2, c3, c4, c5, c6, c7, c8, c9, c10⟩ := holdsK_cells HD.out (j := j) (u := u) (by omega) (by rw [I2.out.high j (by omega)]; exact hu.symm)
        have HU := hid hu
        clear hu
        have hX : HoldsK Dd.enc 11 ((wr.alloc (.cells u.enc.toArray 166)).alloc (.cells u.enc.toArray 166)) g 0 dk := holdsK_below HD.out ((below_alloc _ _).trans ((below_alloc _ _).mono (by simp))) hgw
        have hcall := HC.out (wr.alloc (.cells u.enc.toArray 166)) u (HSa.out _ _ JS.out)
        cases hq : p u with
        | false =>
          rw [hq] at hcall
          have HQ := hid hq
          clear hq
          obtain ⟨u1, u2, u3, u4, u5, u6, up, ul, uc, ⟨u8, u9, u10⟩, u11, u12⟩ := u
          have hc := hid (holdsK_some hX (j := i) (by omega))
          have hf := hid (holdsK_frz hX (j := i) (by omega))
          have HHc : Hid (∀ q, q < 11 → (((wr.alloc (.cells #[.int .i64 u1, .string u2, .int .i64 u3, .string u4, .int .i64 u5, .bool u6, .slice up ul uc, .int .i64 u8, .int .i64 u9, .int .i64 u10, .int .i64 u11] 166)).alloc (.cells #[.int .i64 u1, .string u2, .int .i64 u3, .string u4, .int .i64 u5, .bool u6, .slice up ul uc, .int .i64 u8, .int .i64 u9, .int .i64 u10, .int .i64 u11] 166)).cell? ⟨g, i * 11 + q, none⟩).isSome = true) := hc
          have HHf : Hid (∀ q, q < 11 → ((wr.alloc (.cells #[.int .i64 u1, .string u2, .int .i64 u3, .string u4, .int .i64 u5, .bool u6, .slice up ul uc, .int .i64 u8, .int .i64 u9, .int .i64 u10, .int .i64 u11] 166)).alloc (.cells #[.int .i64 u1, .string u2, .int .i64 u3, .string u4, .int .i64 u5, .bool u6, .slice up ul uc, .int .i64 u8, .int .i64 u9, .int .i64 u10, .int .i64 u11] 166)).frozen? ⟨g, i * 11 + q, none⟩ = false) := hf
          simp only [Dd.enc] at hcall
          have hS := holdsK_set hX (i := i) (by omega) ⟨u1, u2, u3, u4, u5, u6, up, ul, uc, ⟨u8, u9, u10⟩, u11, u12⟩
          simp only [Dd.enc] at hS
          have HS := hid hS
          clear hX hc hf hS
          go_wp2_with (first
            | (go_at_fn gf; refine hcall.mono ?_; rintro e w' ⟨rfl, rfl⟩)
            | (refine wpList_store_k _ rfl (.tmp 33) (.tmp 32) 166 rfl g (i * 11) [.int .i64 u1, .string u2, .int .i64 u3, .string u4, .int .i64 u5, .bool u6, .slice up ul uc, .int .i64 u8, .int .i64 u9, .int .i64 u10, .int .i64 u11] rfl rfl 11 rfl Tryz.sizeOf166 rfl _ ?hW HHc.out HHf.out ?_; case hW => rfl))
          go_roundg (d.size - (j + 1))
          case measure => omega
          case rel =>
            refine ⟨i + 1, j + 1, dk.setIfInBounds i ⟨u1, u2, u3, u4, u5, u6, up, ul, uc, ⟨u8, u9, u10⟩, u11, u12⟩, by go_num, by go_num, by omega, Nat.le_refl _, ?_, ?_, ?_, ?_, HSs.out _ _ _ (HSa.out _ _ (HSa.out _ _ JS.out))⟩
            · exact HS.out
            · exact below_setCells hB _ _ ((BW.out.alloc (by omega) _).alloc (by simp; omega) _)
            · rw [setCells_size]; simp; omega
            · have := I2.out.keep hlt (by rw [HK.out]; show (!p d[j]!) = true; rw [← HU.out, HQ.out]; rfl)
              rw [← HU.out] at this
              exact this
        | true =>
          rw [hq] at hcall
          have HQ := hid hq
          clear hq hX
          obtain ⟨u1, u2, u3, u4, u5, u6, up, ul, uc, ⟨u8, u9, u10⟩, u11, u12⟩ := u
          simp only [Dd.enc] at hcall
          go_wp2_with (go_at_fn gf; refine hcall.mono ?_; rintro e w' ⟨rfl, rfl⟩)
          go_roundg (d.size - (j + 1))
          case measure => omega
          case rel =>
            refine ⟨i, j + 1, dk, rfl, by go_num, by omega, Nat.le_refl _, ?_, ?_, ?_, ?_, HSa.out _ _ (HSa.out _ _ JS.out)⟩
            · exact holdsK_below HD.out ((below_alloc _ _).trans ((below_alloc _ _).mono (by simp))) hgw
            · exact (BW.out.alloc (by omega) _).alloc (by simp; omega) _
            · simp; omega
            · exact I2.out.skip (by rw [HK.out]; show (!p d[j]!) = false; rw [← HU.out, HQ.out]; rfl)
      · obtain rfl : j = d.size := by omega
        have hltz : ¬ (d.size : Int) < (d.size : Int) := by omega
        obtain ⟨vs, hvs⟩ : ∃ vs, vs = (Builtin.zeroCells (Value.cells (.agg #[.int .i64 0, .string ByteArray.empty, .int .i64 0, .string ByteArray.empty, .int .i64 0, .bool false, .slice none 0 0, .int .i64 0, .int .i64 0, .int .i64 0, .int .i64 0])) (d.size - i)).toList := ⟨_, rfl⟩
        have hvl : vs.length = (d.size - i) * 11 := by rw [hvs]; simp [Builtin.zeroCells, Value.cells]; try omega
        have hcl : ∀ ty, (Builtin.clear_ #[162] ty #[.slice (some ⟨g, i * 11, none⟩) (d.size - i) (cap - i)]).run Tryz.prog wr = .ok (.tuple #[]) (wr.setCells g (i * 11) vs) := fun ty =>
          run_clear_k wr 162 166 ty _ Tryz.underlying162 zero85 g (i * 11) (d.size - i) (cap - i) (by omega) vs hvs.symm (by rw [hvs]; exact zeros_one _) (fun q hq => by
            rw [hvl] at hq
            have := holdsK_some HD.out (j := i + q / 11) (by omega) (q % 11) (by omega)
            rwa [show (i + q / 11) * 11 + q % 11 = i * 11 + q by omega] at this) (fun q hq => by
            rw [hvl] at hq
            have := holdsK_frz HD.out (j := i + q / 11) (by omega) (q % 11) (by omega)
            rwa [show (i + q / 11) * 11 + q % 11 = i * 11 + q by omega] at this)
        have HV := hid hvs
        have HL := hid hvl
        clear hvs hvl
        go_wp2
        go_ret
        have hI := I2.out
        rw [hI.len]
        refine ⟨rfl, ?_, below_setCells hB _ _ BW.out, by rw [setCells_size]; exact hgw⟩
        refine holdsK_tail (holdsK_cut HD.out (by simp [hI.len]; omega) (fun q hq => ?_)) _ _ (by simp [hI.len])
        have hq' : q < i := by simpa [hI.len] using hq
        have := hI.low q hq'
        obtain ⟨h1, h2⟩ := List.getElem?_eq_some_iff.1 this
        rw [← h2]
        simp [h1]
theorem deleteFunc_none (w : World) (p : Option Addr) (fv : Value) : Calls Tryz.prog 101 #[.slice p 0 0, fv] w fun e w' => e = .returned (.slice p 0 0) ∧ w' = w := by
  go_enter Tryz.func101, Tryz.ntmps101
  go_wp2_with (go_at_call 112; refine (indexFunc_none _ _ _ _).mono ?_; rintro e w' ⟨rfl, rfl⟩)
  go_ret
  exact ⟨rfl, rfl⟩
/-- slices.DeleteFunc over a row, with a function that has captured the variable in block kb. -/
theorem deleteFunc_row (w : World) (B gf kb : Nat) (val : Value) (p : Dd → Bool) (v : Value) (xs : List Dd) (eg : ∀ args w, (callFunc gf args).run Tryz.prog w = .ok (.enter gf args) w)
    (hp : ∀ (W : World) (x : Dd), W.cell? ⟨kb, 0, none⟩ = some val → Calls Tryz.prog gf #[.agg x.enc.toArray, .pointer (some ⟨kb, 0, none⟩)] W fun e w' => e = .returned (.bool (p x)) ∧ w' = W.alloc (.cells x.enc.toArray 166))
    (hc : w.cell? ⟨kb, 0, none⟩ = some val) (hr : RowD w B v xs) (hkb : ∀ g n c, v = .slice (some ⟨g, 0, none⟩) n c → g ≠ kb) (hsz : xs.length ≤ 1000000) :
    Calls Tryz.prog 101 #[v, .func (.func gf) #[] #[.pointer (some ⟨kb, 0, none⟩)]] w fun e w' => ∃ v', e = .returned v' ∧ RowD w' B v' (xs.filter fun x => !p x) ∧ Below B w w' ∧ v'.ownBlock = v.ownBlock := by
  rcases hr with ⟨rfl, rfl⟩ | ⟨g, cap, rfl, hB, hg, hcap, hH⟩
  · refine (deleteFunc_none w none _).mono ?_
    rintro e w' ⟨rfl, rfl⟩
    exact ⟨_, rfl, .inl ⟨rfl, rfl⟩, Below.refl _ _, rfl⟩
  · have hne : g ≠ kb := hkb g _ _ rfl
    have := deleteFunc_some w B g cap gf #[.pointer (some ⟨kb, 0, none⟩)] p xs.toArray eg (fun W => W.cell? ⟨kb, 0, none⟩ = some val) (fun W hb => by rw [hb.cell (p := ⟨kb, 0, none⟩) (lt_of_cell hc)]; exact hc) (fun W o h => cell_alloc h o)
      (fun W o vs h => by rw [World.cell?_setCells_out g vs o W ⟨kb, 0, none⟩ (fun e => absurd e.symm hne)]; exact h) hp hB hg hH (by simpa using hcap) (by simpa using hsz)
    simp only [List.size_toArray] at this
    refine this.mono ?_
    rintro e w' ⟨rfl, h1, h2, h3⟩
    exact ⟨_, rfl, .inr ⟨g, cap, rfl, hB, h3, Nat.le_trans (List.length_filter_le _ _) hcap, h1⟩, h2, rfl⟩
end Go.Proofs.YtngjooemanapnaaGreatDoor
namespace Go.Proofs
open Go.Shelf
def Tryz.sortDd_ren : Go.Shelf.Ren := ⟨fun | 6 => 103 | 15 => 114 | 14 => 113 | 28 => 126 | 29 => 127 | 20 => 118 | 21 => 119 | 22 => 120 | 23 => 121 | 24 => 122 | 25 => 123 | 26 => 124 | 27 => 125 | 46 => 137 | 47 => 138 | 48 => 139 | 49 => 140 | 50 => 141 | 57 => 146 | n => n, fun | 22 => 162 | 24 => 166 | 25 => 180 | 3 => 3 | 39 => 193 | 0 => 0 | 53 => 203 | 55 => 205 | 4 => 4 | 46 => 197 | 45 => 196 | 50 => 184 | 5 => 5 | 9 => 9 | 66 => 212 | 70 => 216 | 76 => 220 | 77 => 58 | n => n, fun | n => n⟩
theorem Tryz.sortDd : Go.Proofs.SlLaysF0.n6 Tryz.prog Tryz.sortDd_ren := {
  mixed := by kernel_rfl
  f6 := ⟨Tryz.f103.name, by decide, Tryz.func103.trans (congrArg some (by kernel_rfl))⟩
  f14 := ⟨Tryz.f113.name, by decide, Tryz.func113.trans (congrArg some (by kernel_rfl))⟩
  f15 := Tryz.func114.trans (congrArg some (by kernel_rfl))
  f20 := ⟨Tryz.f118.name, by decide, Tryz.func118.trans (congrArg some (by kernel_rfl))⟩
  f21 := ⟨Tryz.f119.name, by decide, Tryz.func119.trans (congrArg some (by kernel_rfl))⟩
  f22 := ⟨Tryz.f120.name, by decide, Tryz.func120.trans (congrArg some (by kernel_rfl))⟩
  f23 := ⟨Tryz.f121.name, by decide, Tryz.func121.trans (congrArg some (by kernel_rfl))⟩
  f24 := ⟨Tryz.f122.name, by decide, Tryz.func122.trans (congrArg some (by kernel_rfl))⟩
  f25 := ⟨Tryz.f123.name, by decide, Tryz.func123.trans (congrArg some (by kernel_rfl))⟩
  f26 := ⟨Tryz.f124.name, by decide, Tryz.func124.trans (congrArg some (by kernel_rfl))⟩
  f27 := ⟨Tryz.f125.name, by decide, Tryz.func125.trans (congrArg some (by kernel_rfl))⟩
  f28 := Tryz.func126.trans (congrArg some (by kernel_rfl))
  f29 := Tryz.func127.trans (congrArg some (by kernel_rfl))
  f46 := ⟨Tryz.f137.name, by decide, Tryz.func137.trans (congrArg some (by kernel_rfl))⟩
  f47 := Tryz.func138.trans (congrArg some (by kernel_rfl))
  f48 := Tryz.func139.trans (congrArg some (by kernel_rfl))
  f49 := ⟨Tryz.f140.name, by decide, Tryz.func140.trans (congrArg some (by kernel_rfl))⟩
  f50 := ⟨Tryz.f141.name, by decide, Tryz.func141.trans (congrArg some (by kernel_rfl))⟩
  f57 := ⟨Tryz.f146.name, by decide, Tryz.func146.trans (congrArg some (by kernel_rfl))⟩
  t0 := Tryz.underlying0
  a0 := Tryz.isAgg0
  z0 := Tryz.sizeOf0
  v0 := Tryz.zeroValue0
  t3 := Tryz.underlying3
  a3 := Tryz.isAgg3
  z3 := Tryz.sizeOf3
  v3 := Tryz.zeroValue3
  t4 := Tryz.underlying4
  a4 := Tryz.isAgg4
  z4 := Tryz.sizeOf4
  v4 := Tryz.zeroValue4
  t5 := Tryz.underlying5
  a5 := Tryz.isAgg5
  z5 := Tryz.sizeOf5
  v5 := Tryz.zeroValue5
  t9 := Tryz.underlying9
  a9 := Tryz.isAgg9
  z9 := Tryz.sizeOf9
  v9 := Tryz.zeroValue9
  t22 := Tryz.underlying162
  a22 := Tryz.isAgg162
  z22 := Tryz.sizeOf162
  v22 := Tryz.zeroValue162
  t25 := Tryz.underlying180
  a25 := Tryz.isAgg180
  z25 := Tryz.sizeOf180
  v25 := Tryz.zeroValue180
  t39 := Tryz.underlying193
  a39 := Tryz.isAgg193
  z39 := Tryz.sizeOf193
  v39 := Tryz.zeroValue193
  t45 := Tryz.underlying196
  a45 := Tryz.isAgg196
  z45 := Tryz.sizeOf196
  v45 := Tryz.zeroValue196
  t46 := Tryz.underlying197
  a46 := Tryz.isAgg197
  z46 := Tryz.sizeOf197
  v46 := Tryz.zeroValue197
  t50 := Tryz.underlying184
  a50 := Tryz.isAgg184
  z50 := Tryz.sizeOf184
  v50 := Tryz.zeroValue184
  t53 := Tryz.underlying203
  a53 := Tryz.isAgg203
  z53 := Tryz.sizeOf203
  v53 := Tryz.zeroValue203
  t55 := Tryz.underlying205
  a55 := Tryz.isAgg205
  z55 := Tryz.sizeOf205
  v55 := Tryz.zeroValue205
  t66 := Tryz.underlying212
  a66 := Tryz.isAgg212
  z66 := Tryz.sizeOf212
  v66 := Tryz.zeroValue212
  t70 := Tryz.underlying216
  a70 := Tryz.isAgg216
  z70 := Tryz.sizeOf216
  v70 := Tryz.zeroValue216
  t76 := Tryz.underlying220
  a76 := Tryz.isAgg220
  z76 := Tryz.sizeOf220
  v76 := Tryz.zeroValue220
  t77 := Tryz.underlying58
  a77 := Tryz.isAgg58
  z77 := Tryz.sizeOf58
  v77 := Tryz.zeroValue58 }
end Go.Proofs
namespace Go.Proofs.YtngjooemanapnaaGreatDoor
open Go.RowKit Go.Sort Go.Shelf
set_option maxRecDepth 100000

theorem bitsLen_zero (W : World) : Calls Tryz.prog 114 #[.int .u64 0] W fun e w' => e = .returned (.int .i64 (Lib.bitLen 0 : Nat)) ∧ w' = W := by
  have h := Any.bits_Len (SlLaysF0.n15.bits (P := Tryz.prog) (ρ := Tryz.sortDd_ren) { Tryz.sortDd with }) 0 W (by omega) (by omega)
  exact h
set_option maxHeartbeats 2000000 in
theorem insDd_none (p : Option Addr) (cap : Nat) (fv : Value) (w : World) : Calls Tryz.prog 118 #[.slice p 0 cap, .int .i64 0, .int .i64 0, fv] w fun e w' => e = .returned (.tuple #[]) ∧ w' = w := by
  go_enter Tryz.func118, Tryz.ntmps118
  go_wp2
  refine wp_loop_rounds 1 ?_
  rw [rounds_succ]
  go_wp2
  go_end0
  exact ⟨rfl, rfl⟩
set_option maxHeartbeats 2000000 in
theorem pdqDd_none (p : Option Addr) (cap : Nat) (lim : Int) (fv : Value) (w : World) : Calls Tryz.prog 113 #[.slice p 0 cap, .int .i64 0, .int .i64 0, .int .i64 lim, fv] w fun e w' => e = .returned (.tuple #[]) ∧ w' = w := by
  have hi := fun W => insDd_none p cap fv W
  go_enter Tryz.func113, Tryz.ntmps113
  go_wp2
  refine wp_loop_rounds 1 ?_
  rw [rounds_succ]
  go_wp2_with (go_at_call 118; refine (hi _).mono ?_; rintro e w' ⟨rfl, rfl⟩)
  (try simp only [Exit.inBlock, Exit.then]); refine bodyPost_ret (results_none rfl _ _ _) rfl ?_
  exact ⟨rfl, rfl⟩
set_option maxHeartbeats 2000000 in
theorem sortDd_none (p : Option Addr) (cap : Nat) (fv : Value) (w : World) : Calls Tryz.prog 103 #[.slice p 0 cap, fv] w fun e w' => e = .returned (.tuple #[]) ∧ w' = w := by
  have hl := fun W => bitsLen_zero W
  have hp := fun lim W => pdqDd_none p cap lim fv W
  go_enter Tryz.func103, Tryz.ntmps103
  go_wp2_with (first | (go_at_call 114; refine (hl _).mono ?_; rintro e w' ⟨rfl, rfl⟩) | (go_at_call 113; refine (hp _ _).mono ?_; rintro e w' ⟨rfl, rfl⟩))
  go_end0
  exact ⟨rfl, rfl⟩
end Go.Proofs.YtngjooemanapnaaGreatDoor
