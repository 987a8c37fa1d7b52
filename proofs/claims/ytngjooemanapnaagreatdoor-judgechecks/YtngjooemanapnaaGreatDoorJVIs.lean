/- Commits as they lie in a row of one's own: slices.DeleteFunc over it; errors.Is and errors.As by their contracts, at errors of errors.New's make and at one api.Fault around such an error. -/
import Derived.Test.YtngjooemanapnaaGreatDoorJJL
import Derived.Test.YtngjooemanapnaaGreatDoorJVSortN
import Derived.Test.YtngjooemanapnaaGreatDoorJVOnceM
import Derived.Test.YtngjooemanapnaaGreatDoorJVCom
import Derived.Test.YtngjooemanapnaaGreatDoorProg
import Derived.WalkKit
import Derived.LaidEql
import Derived.Stop.Asserts
import Derived.RowKitTokens
namespace Go.Proofs.YtngjooemanapnaaGreatDoor
open Go.RowKit Go.Sort Go.Lib
set_option linter.unusedSectionVars false
variable [Inhabited ComV] [DecidableEq D3] [Inhabited D3] [Inhabited Dd] [Inhabited Dn] [Inhabited OpV]

/-- The cells of a commit, and what they read as. -/
structure Cm where
  wa : Option Addr
  wn : Nat
  wc : Nat
  p : Int
  oa : Option Addr
  on : Nat
  oc : Nat
  c : ComV
def Cm.enc (x : Cm) : List Value := [.slice x.wa x.wn x.wc, .int .i64 x.p, .slice x.oa x.on x.oc]
theorem Cm.enc_one (x : Cm) : ∀ v ∈ x.enc, v.oneCell' = true := fun v hv => by
  simp only [Cm.enc, List.mem_cons, List.not_mem_nil, or_false] at hv
  rcases hv with rfl | rfl | rfl <;> rfl
/-- Those of which G holds. -/
def CmG (G : Cm → Prop) := { x : Cm // G x }
def encG {G : Cm → Prop} (x : CmG G) : List Value := x.1.enc
theorem encG_length {G : Cm → Prop} (x : CmG G) : (encG x).length = 3 := rfl
theorem holdsC_iff {G : Cm → Prop} [Inhabited (CmG G)] {w : World} {g : Nat} {d : Array (CmG G)} : HoldsK encG 3 w g 0 d ↔ ∀ j, j < d.size → ∀ i, i < 3 → w.cell? ⟨g, j * 3 + i, none⟩ = some ((encG d[j]!)[i]!) ∧ w.frozen? ⟨g, j * 3 + i, none⟩ = false := by
  constructor
  · intro h j hj i hi
    have := h (j * 3 + i) (by rw [size_flatK]; omega)
    rw [get_flatK _ _ _ _ (by omega), show (j * 3 + i) / 3 = j by omega, show (j * 3 + i) % 3 = i by omega, Nat.zero_add] at this
    exact this
  · intro h t ht
    rw [size_flatK] at ht
    rw [get_flatK _ _ _ _ ht, Nat.zero_add]
    have := h (t / 3) (by omega) (t % 3) (by omega)
    rw [show t / 3 * 3 + t % 3 = t by omega] at this
    exact this
theorem holdsC_cells {G : Cm → Prop} [Inhabited (CmG G)] {w : World} {g : Nat} {d : Array (CmG G)} (h : HoldsK encG 3 w g 0 d) {j : Nat} (hj : j < d.size) {u : CmG G} (hu : d[j]! = u) : w.cell? ⟨g, j * 3, none⟩ = some (.slice u.1.wa u.1.wn u.1.wc) ∧ w.cell? ⟨g, j * 3 + 1, none⟩ = some (.int .i64 u.1.p) ∧ w.cell? ⟨g, j * 3 + 2, none⟩ = some (.slice u.1.oa u.1.on u.1.oc) := by
  rw [holdsC_iff] at h
  have hh := fun i hi => (h j hj i hi).1
  rw [hu] at hh
  exact ⟨hh 0 (by omega), hh 1 (by omega), hh 2 (by omega)⟩
theorem holdsC_some {G : Cm → Prop} [Inhabited (CmG G)] {w : World} {g : Nat} {d : Array (CmG G)} (h : HoldsK encG 3 w g 0 d) {j : Nat} (hj : j < d.size) : ∀ q, q < 3 → (w.cell? ⟨g, j * 3 + q, none⟩).isSome = true := fun q hq => by
  rw [(holdsC_iff.1 h j hj q hq).1]; rfl
theorem holdsC_frz {G : Cm → Prop} [Inhabited (CmG G)] {w : World} {g : Nat} {d : Array (CmG G)} (h : HoldsK encG 3 w g 0 d) {j : Nat} (hj : j < d.size) : ∀ q, q < 3 → w.frozen? ⟨g, j * 3 + q, none⟩ = false := fun q hq => (holdsC_iff.1 h j hj q hq).2
theorem holdsC_set {G : Cm → Prop} [Inhabited (CmG G)] {w : World} {g : Nat} {d : Array (CmG G)} (h : HoldsK encG 3 w g 0 d) {i : Nat} (hi : i < d.size) (x : CmG G) : HoldsK encG 3 (w.setCells g (i * 3) (encG x)) g 0 (d.setIfInBounds i x) := by
  rw [holdsC_iff] at h ⊢
  intro j hj t ht
  have hj' : j < d.size := by simpa using hj
  rw [World.frozen?_setCells]
  refine ⟨?_, (h j hj' t ht).2⟩
  by_cases e : j = i
  · subst e
    have := World.cell?_setCells_in g (encG x) (j * 3) w (fun q hq => by rw [(h j hj' q (by simpa [encG_length] using hq)).1]; rfl) t (by rw [encG_length]; exact ht)
    have e2 : (d.setIfInBounds j x)[j]! = x := by simp [hj']
    rw [this, e2, getElem!_pos (encG x) t (by rw [encG_length]; exact ht)]
  · rw [World.cell?_setCells_out g (encG x) (i * 3) w _ (fun _ _ => by rw [encG_length]; simp only; omega), (h j hj' t ht).1]
    have e2 : (d.setIfInBounds i x)[j]! = d[j]! := by simp [hj', Ne.symm e]
    rw [e2]
theorem holdsC_cut {G : Cm → Prop} [Inhabited (CmG G)] {w : World} {g : Nat} {d d' : Array (CmG G)} (h : HoldsK encG 3 w g 0 d) (hs : d'.size ≤ d.size) (he : ∀ j, j < d'.size → d'[j]! = d[j]!) : HoldsK encG 3 w g 0 d' := by
  rw [holdsC_iff] at h ⊢
  intro j hj t ht
  rw [he j hj]
  exact h j (by omega) t ht
theorem holdsC_tail {G : Cm → Prop} [Inhabited (CmG G)] {w : World} {g : Nat} {d : Array (CmG G)} (h : HoldsK encG 3 w g 0 d) (o : Nat) (vs : List Value) (ho : d.size * 3 ≤ o) : HoldsK encG 3 (w.setCells g o vs) g 0 d := by
  rw [holdsC_iff] at h ⊢
  intro j hj t ht
  rw [World.frozen?_setCells, World.cell?_setCells_out g vs o w _ (fun _ _ => .inl (by simp only; omega))]
  exact h j hj t ht
theorem holdsC_below {G : Cm → Prop} [Inhabited (CmG G)] {w w' : World} {B g : Nat} {d : Array (CmG G)} (h : HoldsK encG 3 w g 0 d) (hb : Below B w w') (hg : g < B) : HoldsK encG 3 w' g 0 d := by
  rw [holdsC_iff] at h ⊢
  intro j hj t ht
  have e := hb.block g hg
  have := h j hj t ht
  simp only [World.cell?, World.frozen?, e]
  simpa only [World.cell?, World.frozen?] using this
/-- slices.IndexFunc over no op. -/
theorem indexFuncC_none (w : World) (p : Option Addr) (cap : Nat) (fv : Value) : Calls Tryz.prog 72 #[.slice p 0 cap, fv] w fun e w' => e = .returned (.int .i64 (-1)) ∧ w' = w := by
  go_enter Tryz.func72, Tryz.ntmps72
  go_wp2
  refine wp_loop_rounds 1 ?_
  rw [rounds_succ]
  go_wp2
  go_ret
  exact ⟨rfl, rfl⟩
theorem zeroC41 (w : World) : (zeroValue 41).run Tryz.prog w = .ok (.agg #[.slice none 0 0, .int .i64 0, .slice none 0 0]) w := by kernel_rfl
theorem zerosC_one (n : Nat) : ∀ v ∈ (Builtin.zeroCells (Value.cells (.agg #[.slice none 0 0, .int .i64 0, .slice none 0 0])) n).toList, v.oneCell' = true := by
  intro v hv
  simp only [Builtin.zeroCells, Value.cells] at hv
  rw [Array.mem_toList_iff, Array.mem_map] at hv
  obtain ⟨i, _, rfl⟩ := hv
  obtain ⟨j, hj⟩ : ∃ j, j = i % 3 := ⟨_, rfl⟩
  have hl : j < 3 := by omega
  show (#[Value.slice none 0 0, .int .i64 0, .slice none 0 0][i % 3]!).oneCell' = true
  rw [← hj]
  rcases (by omega : j = 0 ∨ j = 1 ∨ j = 2) with h | h | h <;> rw [h] <;> rfl
set_option maxHeartbeats 1000000 in
set_option maxRecDepth 100000 in
theorem deleteFuncC_some {G : Cm → Prop} [Inhabited (CmG G)] (w : World) (B g cap gf : Nat) (lb : Array Value) (p : CmG G → Bool) (d : Array (CmG G)) (eg : ∀ args w, (callFunc gf args).run Tryz.prog w = .ok (.enter gf args) w) (S : World → Prop)
    (hSd : ∀ W, Below w.heap.size w W → S W) (hSa : ∀ W o, S W → S (W.alloc o)) (hSs : ∀ W o vs, S W → S (W.setCells g o vs)) (hSn : ∀ W n, S W → S (W.drewN n))
    (hp : ∀ (W : World) (x : CmG G), S W → Calls Tryz.prog gf (#[.agg (encG x).toArray] ++ lb) W fun e w' => e = .returned (.bool (p x)) ∧ ∃ n, w' = (W.alloc (.cells (encG x).toArray 41)).drewN n)
    (hB : B ≤ g) (hg : g < w.heap.size) (hH : HoldsK encG 3 w g 0 d) (hcap : d.size ≤ cap) (hsz : d.size ≤ 1000000) :
    Calls Tryz.prog 48 #[.slice (some ⟨g, 0, none⟩) d.size cap, .func (.func gf) #[] lb] w fun e w' => e = .returned (.slice (some ⟨g, 0, none⟩) (d.toList.filter fun x => !p x).length cap) ∧ HoldsK encG 3 w' g 0 (d.toList.filter fun x => !p x).toArray ∧ Below B w w' ∧ g < w'.heap.size := by
  have tl : ∀ j, j < d.size → d.toList[j]! = d[j]! := fun j hj => by rw [getElem!_pos d j hj, getElem!_pos d.toList j (by simpa using hj)]; simp
  have hIF := AnyQ.slices_IndexFunc Tryz.idxCm 3 Tryz.isAgg41 Tryz.sizeOf41 encG encG_length p gf lb eg g 0 d.size cap d.toList w
    (fun W x hb => (hp W x (hSd W hb)).mono fun _ _ ⟨he, n, hw⟩ => ⟨he, by rw [hw]; exact below_draws (hb.alloc hb.size _) n⟩) (by simp) (by omega) hg (fun j hj i v hi => by
      have hj' : j < d.size := by simpa using hj
      have hi' : i < 3 := by have := (List.getElem?_eq_some_iff.1 hi).1; rw [encG_length] at this; exact this
      rw [Nat.zero_add, (holdsC_iff.1 hH j hj' i hi').1, ← tl j hj', List.getElem!_eq_getElem?_getD (l := (encG (d.toList[j]!))), hi]
      rfl)
  change Calls Tryz.prog 72 _ _ _ at hIF
  rw [show d.toList.take d.size = d.toList from List.take_of_length_le (by simp)] at hIF
  obtain ⟨kp, HK⟩ : ∃ kp : Nat → Bool, Hid (kp = fun j => !p d[j]!) := ⟨_, rfl⟩
  have hfil : (d.toList.filter fun x => !p x) = keptUpTo kp d d.size := by rw [HK.out]; exact (keptUpTo_filter (fun x => !p x) d).symm
  rw [hfil]
  rcases idxByFrom_spec (fun _ y => p y) default d.toList 0 with ⟨e1, hall⟩ | ⟨k0, hk0, e1, ht, hall⟩
  · have e2 : Lib.idxBy (fun _ y => p y) d.toList default = -1 := e1
    rw [e2] at hIF
    have hkeep : ∀ j, j < d.size → kp j = true := fun j hj => by rw [HK.out]; show (!p d[j]!) = true; rw [← tl j hj, hall j (by simpa using hj)]; rfl
    have e3 : keptUpTo kp d d.size = d.toList := by rw [keptUpTo_all kp d _ hkeep, range_map_get]
    have HH := hid hH
    clear hH hp hSd hSa hSs hSn
    go_enter Tryz.func48, Tryz.ntmps48
    go_wp2_with (go_at_call 72; refine hIF.mono ?_; rintro e w' ⟨rfl, hb'⟩)
    go_ret
    rw [e3]
    exact ⟨by simp, by simpa using holdsC_below HH.out hb' hg, hb'.mono (by omega), Nat.lt_of_lt_of_le hg hb'.size⟩
  · have hk0' : k0 < d.size := by simpa using hk0
    have e2 : Lib.idxBy (fun _ y => p y) d.toList default = (k0 : Int) := by unfold Lib.idxBy; rw [e1]; simp
    rw [e2] at hIF
    have hkeep : ∀ j, j < k0 → kp j = true := fun j hj => by rw [HK.out]; show (!p d[j]!) = true; rw [← tl j (by omega), hall j hj]; rfl
    have hdrop : kp k0 = false := by rw [HK.out]; show (!p d[k0]!) = false; rw [← tl k0 hk0']; rw [show p d.toList[k0]! = true from ht]; rfl
    have hne1 : ((k0 : Int) == -1) = false := beq_eq_false_iff_ne.2 (by omega)
    have HC := hid hp
    have HH := hid hH
    have HSd := hid hSd
    have HSa := hid hSa
    have HSs := hid hSs
    have HSn := hid hSn
    clear hp hH hall ht e1 e2 tl hSd hSa hSs hSn
    go_enter Tryz.func48, Tryz.ntmps48
    go_wp2_with (go_at_call 72; refine hIF.mono ?_; rintro e w' ⟨rfl, hb'⟩)
    have HB := hid hb'
    clear hb' hIF hfil
    go_loopg [5, 6, 7] d.size (fun gg s5 s6 _ wr => ∃ (i j : Nat) (dk : Array (CmG G)), s5 = .int .i64 i ∧ s6 = .int .i64 j ∧ j ≤ d.size ∧ d.size - j ≤ gg ∧ Hid (HoldsK encG 3 wr g 0 dk) ∧ Hid (Below B w wr) ∧ g < wr.heap.size ∧ Hid (KeptInv kp d j i dk) ∧ Hid (S wr))
    case atStart => exact ⟨k0, k0 + 1, d, rfl, by go_num, by omega, by omega, holdsC_below HH.out HB.out hg, HB.out.mono (by omega), Nat.lt_of_lt_of_le hg HB.out.size, KeptInv.start hkeep hdrop, HSd.out _ HB.out⟩
    case round =>
      obtain ⟨i, j, dk, rfl, rfl, hjd, hgg, HD, BW, hgw, I2, JS⟩ := hrel
      have hij := I2.out.lt
      have hds := I2.out.size
      by_cases hlt : j < d.size
      · have hltz : (j : Int) < (d.size : Int) := by omega
        obtain ⟨u, hu⟩ : ∃ u, u = d[j]! := ⟨_, rfl⟩
        obtain ⟨c0, c1, c2⟩ := holdsC_cells HD.out (j := j) (u := u) (by omega) (by rw [I2.out.high j (by omega)]; exact hu.symm)
        have HU := hid hu
        clear hu
        have hX : ∀ n, HoldsK encG 3 (((wr.alloc (.cells (encG u).toArray 41)).alloc (.cells (encG u).toArray 41)).drewN n) g 0 dk := fun n => holdsC_below HD.out (below_draws ((below_alloc _ _).trans ((below_alloc _ _).mono (by simp))) n) hgw
        have hcall := HC.out (wr.alloc (.cells (encG u).toArray 41)) u (HSa.out _ _ JS.out)
        cases hq : p u with
        | false =>
          rw [hq] at hcall
          have HQ := hid hq
          clear hq
          obtain ⟨⟨u1, u2, u3, u4, u5, u6, u7, u8⟩, uG⟩ := u
          have hc := hid (fun n => holdsC_some (hX n) (j := i) (by omega))
          have hf := hid (fun n => holdsC_frz (hX n) (j := i) (by omega))
          have HHc : Hid (∀ n q, q < 3 → ((((wr.alloc (.cells #[.slice u1 u2 u3, .int .i64 u4, .slice u5 u6 u7] 41)).alloc (.cells #[.slice u1 u2 u3, .int .i64 u4, .slice u5 u6 u7] 41)).drewN n).cell? ⟨g, i * 3 + q, none⟩).isSome = true) := hc
          have HHf : Hid (∀ n q, q < 3 → (((wr.alloc (.cells #[.slice u1 u2 u3, .int .i64 u4, .slice u5 u6 u7] 41)).alloc (.cells #[.slice u1 u2 u3, .int .i64 u4, .slice u5 u6 u7] 41)).drewN n).frozen? ⟨g, i * 3 + q, none⟩ = false) := hf
          simp only [encG, Cm.enc] at hcall
          have hS := fun n => holdsC_set (hX n) (i := i) (by omega) ⟨⟨u1, u2, u3, u4, u5, u6, u7, u8⟩, uG⟩
          simp only [encG, Cm.enc] at hS
          have HS := hid hS
          clear hX hc hf hS
          go_wp2_with (first
            | (go_at_fn gf; refine hcall.mono ?_; rintro e w' ⟨rfl, n, rfl⟩)
            | (refine wpList_store_k _ rfl (.tmp 33) (.tmp 32) 41 rfl g (i * 3) [.slice u1 u2 u3, .int .i64 u4, .slice u5 u6 u7] rfl rfl 3 rfl Tryz.sizeOf41 rfl _ ?hW (HHc.out ?nn) (HHf.out ?nn) ?_; case hW => rfl))
          go_roundg (d.size - (j + 1))
          case measure => omega
          case rel =>
            refine ⟨i + 1, j + 1, dk.setIfInBounds i ⟨⟨u1, u2, u3, u4, u5, u6, u7, u8⟩, uG⟩, by go_num, by go_num, by omega, Nat.le_refl _, ?_, ?_, ?_, ?_, HSs.out _ _ _ (HSn.out _ _ (HSa.out _ _ (HSa.out _ _ JS.out)))⟩
            · exact HS.out _
            · exact below_setCells hB _ _ (below_draws ((BW.out.alloc (by omega) _).alloc (by simp; omega) _) _)
            · rw [setCells_size]; exact Nat.lt_of_lt_of_le hgw (below_draws ((below_alloc _ _).trans ((below_alloc _ _).mono (by simp))) _).size
            · have := I2.out.keep hlt (by rw [HK.out]; show (!p d[j]!) = true; rw [← HU.out, HQ.out]; rfl)
              rw [← HU.out] at this
              exact this
        | true =>
          rw [hq] at hcall
          have HQ := hid hq
          clear hq hX
          obtain ⟨⟨u1, u2, u3, u4, u5, u6, u7, u8⟩, uG⟩ := u
          simp only [encG, Cm.enc] at hcall
          go_wp2_with (go_at_fn gf; refine hcall.mono ?_; rintro e w' ⟨rfl, n, rfl⟩)
          go_roundg (d.size - (j + 1))
          case measure => omega
          case rel =>
            refine ⟨i, j + 1, dk, rfl, by go_num, by omega, Nat.le_refl _, ?_, ?_, ?_, ?_, HSn.out _ _ (HSa.out _ _ (HSa.out _ _ JS.out))⟩
            · exact holdsC_below HD.out (below_draws ((below_alloc _ _).trans ((below_alloc _ _).mono (by simp))) _) hgw
            · exact below_draws ((BW.out.alloc (by omega) _).alloc (by simp; omega) _) _
            · exact Nat.lt_of_lt_of_le hgw (below_draws ((below_alloc _ _).trans ((below_alloc _ _).mono (by simp))) _).size
            · exact I2.out.skip (by rw [HK.out]; show (!p d[j]!) = false; rw [← HU.out, HQ.out]; rfl)
      · obtain rfl : j = d.size := by omega
        have hltz : ¬ (d.size : Int) < (d.size : Int) := by omega
        obtain ⟨vs, hvs⟩ : ∃ vs, vs = (Builtin.zeroCells (Value.cells (.agg #[.slice none 0 0, .int .i64 0, .slice none 0 0])) (d.size - i)).toList := ⟨_, rfl⟩
        have hvl : vs.length = (d.size - i) * 3 := by rw [hvs]; simp [Builtin.zeroCells, Value.cells]; try omega
        have hcl : ∀ ty, (Builtin.clear_ #[96] ty #[.slice (some ⟨g, i * 3, none⟩) (d.size - i) (cap - i)]).run Tryz.prog wr = .ok (.tuple #[]) (wr.setCells g (i * 3) vs) := fun ty =>
          run_clear_k wr 96 41 ty _ Tryz.underlying96 zeroC41 g (i * 3) (d.size - i) (cap - i) (by omega) vs hvs.symm (by rw [hvs]; exact zerosC_one _) (fun q hq => by
            rw [hvl] at hq
            have := holdsC_some HD.out (j := i + q / 3) (by omega) (q % 3) (by omega)
            rwa [show (i + q / 3) * 3 + q % 3 = i * 3 + q by omega] at this) (fun q hq => by
            rw [hvl] at hq
            have := holdsC_frz HD.out (j := i + q / 3) (by omega) (q % 3) (by omega)
            rwa [show (i + q / 3) * 3 + q % 3 = i * 3 + q by omega] at this)
        have HV := hid hvs
        have HL := hid hvl
        clear hvs hvl
        go_wp2
        go_ret
        have hI := I2.out
        rw [hI.len]
        refine ⟨rfl, ?_, below_setCells hB _ _ BW.out, by rw [setCells_size]; exact hgw⟩
        refine holdsC_tail (holdsC_cut HD.out (by simp [hI.len]; omega) (fun q hq => ?_)) _ _ (by simp [hI.len])
        have hq' : q < i := by simpa [hI.len] using hq
        have := hI.low q hq'
        obtain ⟨h1, h2⟩ := List.getElem?_eq_some_iff.1 this
        rw [← h2]
        simp [h1]
theorem deleteFuncC_none (w : World) (p : Option Addr) (fv : Value) : Calls Tryz.prog 48 #[.slice p 0 0, fv] w fun e w' => e = .returned (.slice p 0 0) ∧ w' = w := by
  go_enter Tryz.func48, Tryz.ntmps48
  go_wp2_with (go_at_call 72; refine (indexFuncC_none _ _ _ _).mono ?_; rintro e w' ⟨rfl, rfl⟩)
  go_ret
  exact ⟨rfl, rfl⟩
end Go.Proofs.YtngjooemanapnaaGreatDoor
namespace Go.Proofs.YtngjooemanapnaaGreatDoor
open Go.RowKit Go.Extern.Stop Go.Stop Go.Extern

/-- The model's entry for a function without a body. -/
def ent (f : Func) : Array Value → Sem Value := (Extern.find f).getD fun _ => pure .nilIface
theorem Tryz.isTypeOf (v : Value) (w : World) : (Extern.ReflectliteType.typeOf #[.iface 223 v]).run Tryz.prog w = .ok (.iface 143 (.agg #[.pointer (some ⟨13, 223, none⟩)])) w := by kernel_rfl
theorem Tryz.isComparable (w : World) : ((ent Tryz.f172) #[.agg #[.pointer (some ⟨13, 223, none⟩)]]).run Tryz.prog w = .ok (.bool true) w := by kernel_rfl
theorem Tryz.isMethodComparable (v : Value) (w : World) : (Go.method 355 143 v "Comparable").run Tryz.prog w = .ok (172, v) w := by kernel_rfl
theorem Tryz.isComp : (Tryz.prog.info? 223).map (·.comparable) = some true := by kernel_rfl
theorem Tryz.isSize : (Tryz.prog.info? 244).map (·.size) = some 1 := by kernel_rfl
theorem Tryz.noIsE (v : Value) (xT : TypeId) (w : World) : (Instr.typeAssert (.iface 223 v) xT 154 true).run Tryz.prog w = .ok (.tuple #[.nilIface, .bool false]) w := run_typeAssert_lacksB Tryz.underlying154 (by kernel_rfl) (by kernel_rfl) v xT w
theorem Tryz.noUnwrapE (v : Value) (xT : TypeId) (w : World) : (Instr.typeAssert (.iface 223 v) xT 150 true).run Tryz.prog w = .ok (.tuple #[.nilIface, .bool false]) w := run_typeAssert_lacksB Tryz.underlying150 (by kernel_rfl) (by kernel_rfl) v xT w
theorem Tryz.noUnwrapsE (v : Value) (xT : TypeId) (w : World) : (Instr.typeAssert (.iface 223 v) xT 152 true).run Tryz.prog w = .ok (.tuple #[.nilIface, .bool false]) w := run_typeAssert_lacksB Tryz.underlying152 (by kernel_rfl) (by kernel_rfl) v xT w
theorem Tryz.noAsE (v : Value) (xT : TypeId) (w : World) : (Instr.typeAssert (.iface 223 v) xT 147 true).run Tryz.prog w = .ok (.tuple #[.nilIface, .bool false]) w := run_typeAssert_lacksB Tryz.underlying147 (by kernel_rfl) (by kernel_rfl) v xT w
theorem Tryz.noIsF (v : Value) (xT : TypeId) (w : World) : (Instr.typeAssert (.iface 81 v) xT 154 true).run Tryz.prog w = .ok (.tuple #[.nilIface, .bool false]) w := run_typeAssert_lacksB Tryz.underlying154 (by kernel_rfl) (by kernel_rfl) v xT w
theorem Tryz.hasUnwrapF (v : Value) (xT : TypeId) (w : World) : (Instr.typeAssert (.iface 81 v) xT 150 true).run Tryz.prog w = .ok (.tuple #[.iface 81 v, .bool true]) w := run_typeAssert_hasB Tryz.underlying150 (by kernel_rfl) v xT w
theorem Tryz.methodUnwrap (v : Value) (w : World) : (Go.method 355 81 v "Unwrap").run Tryz.prog w = .ok (166, v) w := by kernel_rfl
/-- errors.Is(x, x). -/
theorem is_same (a : Addr) (w : World) :
    Calls Tryz.prog 37 #[.iface 223 (.pointer (some a)), .iface 223 (.pointer (some a))] w fun e w' => e = .returned (.bool true) ∧ w' = w := by
  obtain ⟨i, hi, hcmp⟩ := Option.map_eq_some_iff.1 Tryz.isComp
  obtain ⟨j, hj, hjs⟩ := Option.map_eq_some_iff.1 Tryz.isSize
  have h50 := @run_callFunc_extern Tryz.prog 69 _ Extern.ReflectliteType.typeOf Tryz.func69 (by kernel_rfl) (by kernel_rfl) (by kernel_rfl) (by kernel_rfl)
  have h130 := @run_callFunc_extern Tryz.prog 172 _ (ent Tryz.f172) Tryz.func172 (by kernel_rfl) (by kernel_rfl) (by kernel_rfl) (by kernel_rfl)
  have tT := Tryz.isTypeOf
  have cT := Tryz.isComparable
  have mR := Tryz.isMethodComparable
  have nE := Tryz.noIsE
  have uE := Tryz.noUnwrapE
  have vE := Tryz.noUnwrapsE
  have nF := Tryz.noIsF
  have uF := Tryz.hasUnwrapF
  have mU := Tryz.methodUnwrap
  have heq := run_eql_iface_ptr_same (P := Tryz.prog) w a Tryz.underlying27 Tryz.underlying223 hi hcmp hj
  go_enter Tryz.func37, Tryz.ntmps37
  go_wp2
  refine wp_loop_rounds 1 ?_
  rw [rounds_succ]
  go_wp2
  go_ret
  exact ⟨rfl, rfl⟩
/-- errors.Is(x, y), two pointers. -/
theorem is_other (a b : Addr) (ca cb : Array Value) (ta tb : TypeId) (w : World) (hne : a ≠ b) (ha : w.heap[a.block]? = some (.cells ca ta (0, 0))) (hb : w.heap[b.block]? = some (.cells cb tb (0, 0))) :
    Calls Tryz.prog 37 #[.iface 223 (.pointer (some a)), .iface 223 (.pointer (some b))] w fun e w' => e = .returned (.bool false) ∧ w' = w := by
  obtain ⟨i, hi, hcmp⟩ := Option.map_eq_some_iff.1 Tryz.isComp
  obtain ⟨j, hj, hjs⟩ := Option.map_eq_some_iff.1 Tryz.isSize
  have h50 := @run_callFunc_extern Tryz.prog 69 _ Extern.ReflectliteType.typeOf Tryz.func69 (by kernel_rfl) (by kernel_rfl) (by kernel_rfl) (by kernel_rfl)
  have h130 := @run_callFunc_extern Tryz.prog 172 _ (ent Tryz.f172) Tryz.func172 (by kernel_rfl) (by kernel_rfl) (by kernel_rfl) (by kernel_rfl)
  have tT := Tryz.isTypeOf
  have cT := Tryz.isComparable
  have mR := Tryz.isMethodComparable
  have nE := Tryz.noIsE
  have uE := Tryz.noUnwrapE
  have vE := Tryz.noUnwrapsE
  have nF := Tryz.noIsF
  have uF := Tryz.hasUnwrapF
  have mU := Tryz.methodUnwrap
  have heq := run_eql_iface_ptr_other (P := Tryz.prog) w Tryz.underlying27 Tryz.underlying223 hi hcmp hj (by rw [hjs]; decide) hne ha hb
  go_enter Tryz.func37, Tryz.ntmps37
  go_wp2
  refine wp_loop_rounds 1 ?_
  rw [rounds_succ]
  go_wp2
  go_ret
  exact ⟨rfl, rfl⟩
/-- errors.Is(f, x), f a Fault around x. -/
theorem is_fault_same (pb po : Nat) (b : Addr) (w : World) (h1 : w.cell? ⟨pb, po + 1, none⟩ = some (.iface 223 (.pointer (some b)))) :
    Calls Tryz.prog 37 #[.iface 81 (.pointer (some ⟨pb, po, none⟩)), .iface 223 (.pointer (some b))] w fun e w' => e = .returned (.bool true) ∧ w' = w := by
  obtain ⟨i, hi, hcmp⟩ := Option.map_eq_some_iff.1 Tryz.isComp
  obtain ⟨j, hj, hjs⟩ := Option.map_eq_some_iff.1 Tryz.isSize
  have h50 := @run_callFunc_extern Tryz.prog 69 _ Extern.ReflectliteType.typeOf Tryz.func69 (by kernel_rfl) (by kernel_rfl) (by kernel_rfl) (by kernel_rfl)
  have h130 := @run_callFunc_extern Tryz.prog 172 _ (ent Tryz.f172) Tryz.func172 (by kernel_rfl) (by kernel_rfl) (by kernel_rfl) (by kernel_rfl)
  have tT := Tryz.isTypeOf
  have cT := Tryz.isComparable
  have mR := Tryz.isMethodComparable
  have nE := Tryz.noIsE
  have uE := Tryz.noUnwrapE
  have vE := Tryz.noUnwrapsE
  have nF := Tryz.noIsF
  have uF := Tryz.hasUnwrapF
  have mU := Tryz.methodUnwrap
  have heq := run_eql_iface_ptr_same (P := Tryz.prog) w b Tryz.underlying27 Tryz.underlying223 hi hcmp hj
  have hty := run_eql_iface_types (P := Tryz.prog) 81 223 (.pointer (some ⟨pb, po, none⟩)) (.pointer (some b)) Tryz.underlying27 (by decide) w
  go_enter Tryz.func37, Tryz.ntmps37
  go_wp2
  refine wp_loop_rounds 2 ?_
  rw [rounds_succ]
  go_wp2
  rw [rounds_succ]
  go_wp2
  go_ret
  exact ⟨rfl, rfl⟩
/-- errors.Is(f, x), f a Fault around another one. -/
theorem is_fault_other (pb po : Nat) (b a : Addr) (ca cb : Array Value) (ta tb : TypeId) (w : World) (h1 : w.cell? ⟨pb, po + 1, none⟩ = some (.iface 223 (.pointer (some a)))) (hne : a ≠ b) (ha : w.heap[a.block]? = some (.cells ca ta (0, 0))) (hb : w.heap[b.block]? = some (.cells cb tb (0, 0))) :
    Calls Tryz.prog 37 #[.iface 81 (.pointer (some ⟨pb, po, none⟩)), .iface 223 (.pointer (some b))] w fun e w' => e = .returned (.bool false) ∧ w' = w := by
  obtain ⟨i, hi, hcmp⟩ := Option.map_eq_some_iff.1 Tryz.isComp
  obtain ⟨j, hj, hjs⟩ := Option.map_eq_some_iff.1 Tryz.isSize
  have h50 := @run_callFunc_extern Tryz.prog 69 _ Extern.ReflectliteType.typeOf Tryz.func69 (by kernel_rfl) (by kernel_rfl) (by kernel_rfl) (by kernel_rfl)
  have h130 := @run_callFunc_extern Tryz.prog 172 _ (ent Tryz.f172) Tryz.func172 (by kernel_rfl) (by kernel_rfl) (by kernel_rfl) (by kernel_rfl)
  have tT := Tryz.isTypeOf
  have cT := Tryz.isComparable
  have mR := Tryz.isMethodComparable
  have nE := Tryz.noIsE
  have uE := Tryz.noUnwrapE
  have vE := Tryz.noUnwrapsE
  have nF := Tryz.noIsF
  have uF := Tryz.hasUnwrapF
  have mU := Tryz.methodUnwrap
  have heq := run_eql_iface_ptr_other (P := Tryz.prog) w Tryz.underlying27 Tryz.underlying223 hi hcmp hj (by rw [hjs]; decide) hne ha hb
  have hty := run_eql_iface_types (P := Tryz.prog) 81 223 (.pointer (some ⟨pb, po, none⟩)) (.pointer (some b)) Tryz.underlying27 (by decide) w
  go_enter Tryz.func37, Tryz.ntmps37
  go_wp2
  refine wp_loop_rounds 2 ?_
  rw [rounds_succ]
  go_wp2
  rw [rounds_succ]
  go_wp2
  go_ret
  exact ⟨rfl, rfl⟩
end Go.Proofs.YtngjooemanapnaaGreatDoor
