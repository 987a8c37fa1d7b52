/- A row of ops of one's own: slices.DeleteFunc over it; A session as it lies in memory: is one open, a new one; A session begins a transaction; The ops of a transaction on a key. -/
import Derived.Test.YtepnghacjggkkaaGreatDoorGKL
import Derived.Test.YtepnghacjggkkaaGreatDoorGVCom
import Derived.Test.YtepnghacjggkkaaGreatDoorGVOnce
import Derived.Test.YtepnghacjggkkaaGreatDoorGWPart
import Derived.Test.YtepnghacjggkkaaGreatDoorGWSmall
import Derived.Test.YtepnghacjggkkaaGreatDoorGHF
namespace Go.Proofs.YtepnghacjggkkaaGreatDoor
open Go.RowKit Go.Sort Go.Lib
set_option linter.unusedSectionVars false
variable [Inhabited ComV] [DecidableEq D3] [Inhabited D3] [Inhabited Dd] [Inhabited Dn] [Inhabited OpV]

def Dd.enc7 (x : Dd) : List Value := [.int .i64 x.at_, .string x.key, .int .i64 x.kind, .string x.text, .int .i64 x.n, .bool x.rem, .slice x.dp x.dl x.dc]
theorem Dd.enc7_length (x : Dd) : x.enc7.length = 7 := rfl
def RowO (w : World) (base : Nat) (v : Value) (xs : List Dd) : Prop :=
  (v = .slice none 0 0 ∧ xs = []) ∨ ∃ g cap, v = .slice (some ⟨g, 0, none⟩) xs.length cap ∧ base ≤ g ∧ g < w.heap.size ∧ xs.length ≤ cap ∧ HoldsK Dd.enc7 7 w g 0 xs.toArray
theorem holdsO_iff {w : World} {g : Nat} {d : Array Dd} : HoldsK Dd.enc7 7 w g 0 d ↔ ∀ j, j < d.size → ∀ i, i < 7 → w.cell? ⟨g, j * 7 + i, none⟩ = some (d[j]!.enc7[i]!) ∧ w.frozen? ⟨g, j * 7 + i, none⟩ = false := by
  constructor
  · intro h j hj i hi
    have := h (j * 7 + i) (by rw [size_flatK]; omega)
    rw [get_flatK _ _ _ _ (by omega), show (j * 7 + i) / 7 = j by omega, show (j * 7 + i) % 7 = i by omega, Nat.zero_add] at this
    exact this
  · intro h t ht
    rw [size_flatK] at ht
    rw [get_flatK _ _ _ _ ht, Nat.zero_add]
    have := h (t / 7) (by omega) (t % 7) (by omega)
    rw [show t / 7 * 7 + t % 7 = t by omega] at this
    exact this
theorem holdsO_cells {w : World} {g : Nat} {d : Array Dd} (h : HoldsK Dd.enc7 7 w g 0 d) {j : Nat} (hj : j < d.size) {u : Dd} (hu : d[j]! = u) : w.cell? ⟨g, j * 7, none⟩ = some (.int .i64 u.at_) ∧ w.cell? ⟨g, j * 7 + 1, none⟩ = some (.string u.key) ∧ w.cell? ⟨g, j * 7 + 2, none⟩ = some (.int .i64 u.kind) ∧ w.cell? ⟨g, j * 7 + 3, none⟩ = some (.string u.text) ∧ w.cell? ⟨g, j * 7 + 4, none⟩ = some (.int .i64 u.n) ∧ w.cell? ⟨g, j * 7 + 5, none⟩ = some (.bool u.rem) ∧ w.cell? ⟨g, j * 7 + 6, none⟩ = some (.slice u.dp u.dl u.dc) := by
  rw [holdsO_iff] at h
  have hh := fun i hi => (h j hj i hi).1
  rw [hu] at hh
  exact ⟨hh 0 (by omega), hh 1 (by omega), hh 2 (by omega), hh 3 (by omega), hh 4 (by omega), hh 5 (by omega), hh 6 (by omega)⟩
theorem holdsO_some {w : World} {g : Nat} {d : Array Dd} (h : HoldsK Dd.enc7 7 w g 0 d) {j : Nat} (hj : j < d.size) : ∀ q, q < 7 → (w.cell? ⟨g, j * 7 + q, none⟩).isSome = true := fun q hq => by
  rw [(holdsO_iff.1 h j hj q hq).1]; rfl
theorem holdsO_frz {w : World} {g : Nat} {d : Array Dd} (h : HoldsK Dd.enc7 7 w g 0 d) {j : Nat} (hj : j < d.size) : ∀ q, q < 7 → w.frozen? ⟨g, j * 7 + q, none⟩ = false := fun q hq => (holdsO_iff.1 h j hj q hq).2
theorem holdsO_set {w : World} {g : Nat} {d : Array Dd} (h : HoldsK Dd.enc7 7 w g 0 d) {i : Nat} (hi : i < d.size) (x : Dd) : HoldsK Dd.enc7 7 (w.setCells g (i * 7) x.enc7) g 0 (d.setIfInBounds i x) := by
  rw [holdsO_iff] at h ⊢
  intro j hj t ht
  have hj' : j < d.size := by simpa using hj
  rw [World.frozen?_setCells]
  refine ⟨?_, (h j hj' t ht).2⟩
  by_cases e : j = i
  · subst e
    have := World.cell?_setCells_in g x.enc7 (j * 7) w (fun q hq => by rw [(h j hj' q (by simpa [Dd.enc7_length] using hq)).1]; rfl) t (by rw [Dd.enc7_length]; exact ht)
    have e2 : (d.setIfInBounds j x)[j]! = x := by simp [hj']
    rw [this, e2, getElem!_pos x.enc7 t (by rw [Dd.enc7_length]; exact ht)]
  · rw [World.cell?_setCells_out g x.enc7 (i * 7) w _ (fun _ _ => by rw [Dd.enc7_length]; simp only; omega), (h j hj' t ht).1]
    have e2 : (d.setIfInBounds i x)[j]! = d[j]! := by simp [hj', Ne.symm e]
    rw [e2]
theorem holdsO_cut {w : World} {g : Nat} {d d' : Array Dd} (h : HoldsK Dd.enc7 7 w g 0 d) (hs : d'.size ≤ d.size) (he : ∀ j, j < d'.size → d'[j]! = d[j]!) : HoldsK Dd.enc7 7 w g 0 d' := by
  rw [holdsO_iff] at h ⊢
  intro j hj t ht
  rw [he j hj]
  exact h j (by omega) t ht
theorem holdsO_tail {w : World} {g : Nat} {d : Array Dd} (h : HoldsK Dd.enc7 7 w g 0 d) (o : Nat) (vs : List Value) (ho : d.size * 7 ≤ o) : HoldsK Dd.enc7 7 (w.setCells g o vs) g 0 d := by
  rw [holdsO_iff] at h ⊢
  intro j hj t ht
  rw [World.frozen?_setCells, World.cell?_setCells_out g vs o w _ (fun _ _ => .inl (by simp only; omega))]
  exact h j hj t ht
theorem holdsO_below {w w' : World} {B g : Nat} {d : Array Dd} (h : HoldsK Dd.enc7 7 w g 0 d) (hb : Below B w w') (hg : g < B) : HoldsK Dd.enc7 7 w' g 0 d := by
  rw [holdsO_iff] at h ⊢
  intro j hj t ht
  have e := hb.block g hg
  have := h j hj t ht
  simp only [World.cell?, World.frozen?, e]
  simpa only [World.cell?, World.frozen?] using this
theorem indexFuncO_none (w : World) (p : Option Addr) (cap : Nat) (fv : Value) : Calls Tryz.prog 80 #[.slice p 0 cap, fv] w fun e w' => e = .returned (.int .i64 (-1)) ∧ w' = w := by
  go_enter Tryz.func80, Tryz.ntmps80
  go_wp2
  refine wp_loop_rounds 1 ?_
  rw [rounds_succ]
  go_wp2
  go_ret
  exact ⟨rfl, rfl⟩
theorem zeroO97 (w : World) : (zeroValue 97).run Tryz.prog w = .ok (.agg #[.int .i64 0, .string ByteArray.empty, .int .i64 0, .string ByteArray.empty, .int .i64 0, .bool false, .slice none 0 0]) w := by kernel_rfl
theorem zerosO_one (n : Nat) : ∀ v ∈ (Builtin.zeroCells (Value.cells (.agg #[.int .i64 0, .string ByteArray.empty, .int .i64 0, .string ByteArray.empty, .int .i64 0, .bool false, .slice none 0 0])) n).toList, v.oneCell' = true := by
  intro v hv
  simp only [Builtin.zeroCells, Value.cells] at hv
  rw [Array.mem_toList_iff, Array.mem_map] at hv
  obtain ⟨i, _, rfl⟩ := hv
  obtain ⟨j, hj⟩ : ∃ j, j = i % 7 := ⟨_, rfl⟩
  have hl : j < 7 := by omega
  show (#[Value.int .i64 0, .string ByteArray.empty, .int .i64 0, .string ByteArray.empty, .int .i64 0, .bool false, .slice none 0 0][i % 7]!).oneCell' = true
  rw [← hj]
  rcases (by omega : j = 0 ∨ j = 1 ∨ j = 2 ∨ j = 3 ∨ j = 4 ∨ j = 5 ∨ j = 6) with h | h | h | h | h | h | h <;> rw [h] <;> rfl
set_option maxHeartbeats 1000000 in
set_option maxRecDepth 100000 in
theorem deleteFuncO_some (w : World) (B g cap gf : Nat) (lb : Array Value) (p : Dd → Bool) (d : Array Dd) (eg : ∀ args w, (callFunc gf args).run Tryz.prog w = .ok (.enter gf args) w) (S : World → Prop)
    (hSd : ∀ W, Below w.heap.size w W → S W) (hSa : ∀ W o, S W → S (W.alloc o)) (hSs : ∀ W o vs, S W → S (W.setCells g o vs))
    (hp : ∀ (W : World) (x : Dd), S W → Calls Tryz.prog gf (#[.agg x.enc7.toArray] ++ lb) W fun e w' => e = .returned (.bool (p x)) ∧ w' = W.alloc (.cells x.enc7.toArray 97))
    (hB : B ≤ g) (hg : g < w.heap.size) (hH : HoldsK Dd.enc7 7 w g 0 d) (hcap : d.size ≤ cap) (hsz : d.size ≤ 1000000) :
    Calls Tryz.prog 54 #[.slice (some ⟨g, 0, none⟩) d.size cap, .func (.func gf) #[] lb] w fun e w' => e = .returned (.slice (some ⟨g, 0, none⟩) (d.toList.filter fun x => !p x).length cap) ∧ HoldsK Dd.enc7 7 w' g 0 (d.toList.filter fun x => !p x).toArray ∧ Below B w w' ∧ g < w'.heap.size := by
  have tl : ∀ j, j < d.size → d.toList[j]! = d[j]! := fun j hj => by rw [getElem!_pos d j hj, getElem!_pos d.toList j (by simpa using hj)]; simp
  have hIF := AnyQ.slices_IndexFunc Tryz.idxOp 7 Tryz.isAgg97 Tryz.sizeOf97 Dd.enc7 Dd.enc7_length p gf lb eg g 0 d.size cap d.toList w
    (fun W x hb => (hp W x (hSd W hb)).mono fun _ _ ⟨he, hw⟩ => ⟨he, by rw [hw]; exact hb.alloc hb.size _⟩) (by simp) (by omega) hg (fun j hj i v hi => by
      have hj' : j < d.size := by simpa using hj
      have hi' : i < 7 := by have := (List.getElem?_eq_some_iff.1 hi).1; rw [Dd.enc7_length] at this; exact this
      rw [Nat.zero_add, (holdsO_iff.1 hH j hj' i hi').1, ← tl j hj', List.getElem!_eq_getElem?_getD (l := (d.toList[j]!).enc7), hi]
      rfl)
  change Calls Tryz.prog 80 _ _ _ at hIF
  rw [show d.toList.take d.size = d.toList from List.take_of_length_le (by simp)] at hIF
  obtain ⟨kp, HK⟩ : ∃ kp : Nat → Bool, Hid (kp = fun j => !p d[j]!) := ⟨_, rfl⟩
  have hfil : (d.toList.filter fun x => !p x) = keptUpTo kp d d.size := by rw [HK.out]; exact (keptUpTo_filter (fun x => !p x) d).symm
  rw [hfil]
  rcases idxByFrom_spec (fun _ y => p y) default d.toList 0 with ⟨e1, hall⟩ | ⟨k0, hk0, e1, ht, hall⟩
  · have e2 : Lib.idxBy (fun _ y => p y) d.toList default = -1 := e1
    rw [e2] at hIF
    have hkeep : ∀ j, j < d.size → kp j = true := fun j hj => by rw [HK.out]; show (!p d[j]!) = true; rw [← tl j hj, hall j (by simpa using hj)]; rfl
    have e3 : keptUpTo kp d d.size = d.toList := by rw [keptUpTo_all kp d _ hkeep, range_map_get]
    have HH := hid hH
    clear hH hp hSd hSa hSs
    go_enter Tryz.func54, Tryz.ntmps54
    go_wp2_with (go_at_call 80; refine hIF.mono ?_; rintro e w' ⟨rfl, hb'⟩)
    go_ret
    rw [e3]
    exact ⟨by simp, by simpa using holdsO_below HH.out hb' hg, hb'.mono (by omega), Nat.lt_of_lt_of_le hg hb'.size⟩
  · have hk0' : k0 < d.size := by simpa using hk0
    have e2 : Lib.idxBy (fun _ y => p y) d.toList default = (k0 : Int) := by unfold Lib.idxBy; rw [e1]; simp
    rw [e2] at hIF
    have hkeep : ∀ j, j < k0 → kp j = true := fun j hj => by rw [HK.out]; show (!p d[j]!) = true; rw [← tl j (by omega), hall j hj]; rfl
    have hdrop : kp k0 = false := by rw [HK.out]; show (!p d[k0]!) = false; rw [← tl k0 hk0']; rw [show p d.toList[k0]! = true from ht]; rfl
    have hne1 : ((k0 : Int) == -1) = false := beq_eq_false_iff_ne.2 (by omega)
    have HC := hid hp
    have HH := hid hH
    have HSd := hid hSd
    have HSa := hid hSa
    have HSs := hid hSs
    clear hp hH hall ht e1 e2 tl hSd hSa hSs
    go_enter Tryz.func54, Tryz.ntmps54
    go_wp2_with (go_at_call 80; refine hIF.mono ?_; rintro e w' ⟨rfl, hb'⟩)
    have HB := hid hb'
    clear hb' hIF hfil
    go_loopg [5, 6, 7] d.size (fun gg s5 s6 _ wr => ∃ (i j : Nat) (dk : Array Dd), s5 = .int .i64 i ∧ s6 = .int .i64 j ∧ j ≤ d.size ∧ d.size - j ≤ gg ∧ Hid (HoldsK Dd.enc7 7 wr g 0 dk) ∧ Hid (Below B w wr) ∧ g < wr.heap.size ∧ Hid (KeptInv kp d j i dk) ∧ Hid (S wr))
    case atStart => exact ⟨k0, k0 + 1, d, rfl, by go_num, by omega, by omega, holdsO_below HH.out HB.out hg, HB.out.mono (by omega), Nat.lt_of_lt_of_le hg HB.out.size, KeptInv.start hkeep hdrop, HSd.out _ HB.out⟩
    case round =>
      obtain ⟨i, j, dk, rfl, rfl, hjd, hgg, HD, BW, hgw, I2, JS⟩ := hrel
      have hij := I2.out.lt
      have hds := I2.out.size
      by_cases hlt : j < d.size
      · have hltz : (j : Int) < (d.size : Int) := by omega
        obtain ⟨u, hu⟩ : ∃ u, u = d[j]! := ⟨_, rfl⟩
        obtain ⟨c0, c1, c2, c3, c4, c5, c6⟩ := holdsO_cells HD.out (j := j) (u := u) (by omega) (by rw [I2.out.high j (by omega)]; exact hu.symm)
        have HU := hid hu
        clear hu
        have hX : HoldsK Dd.enc7 7 ((wr.alloc (.cells u.enc7.toArray 97)).alloc (.cells u.enc7.toArray 97)) g 0 dk := holdsO_below HD.out ((below_alloc _ _).trans ((below_alloc _ _).mono (by simp))) hgw
        have hcall := HC.out (wr.alloc (.cells u.enc7.toArray 97)) u (HSa.out _ _ JS.out)
        cases hq : p u with
        | false =>
          rw [hq] at hcall
          have HQ := hid hq
          clear hq
          obtain ⟨u1, u2, u3, u4, u5, u6, up, ul, uc, ⟨u8, u9, u10⟩, uQ, u12⟩ := u
          have hc := hid (holdsO_some hX (j := i) (by omega))
          have hf := hid (holdsO_frz hX (j := i) (by omega))
          have HHc : Hid (∀ q, q < 7 → (((wr.alloc (.cells #[.int .i64 u1, .string u2, .int .i64 u3, .string u4, .int .i64 u5, .bool u6, .slice up ul uc] 97)).alloc (.cells #[.int .i64 u1, .string u2, .int .i64 u3, .string u4, .int .i64 u5, .bool u6, .slice up ul uc] 97)).cell? ⟨g, i * 7 + q, none⟩).isSome = true) := hc
          have HHf : Hid (∀ q, q < 7 → ((wr.alloc (.cells #[.int .i64 u1, .string u2, .int .i64 u3, .string u4, .int .i64 u5, .bool u6, .slice up ul uc] 97)).alloc (.cells #[.int .i64 u1, .string u2, .int .i64 u3, .string u4, .int .i64 u5, .bool u6, .slice up ul uc] 97)).frozen? ⟨g, i * 7 + q, none⟩ = false) := hf
          simp only [Dd.enc7] at hcall
          have hS := holdsO_set hX (i := i) (by omega) ⟨u1, u2, u3, u4, u5, u6, up, ul, uc, ⟨u8, u9, u10⟩, uQ, u12⟩
          simp only [Dd.enc7] at hS
          have HS := hid hS
          clear hX hc hf hS
          go_wp2_with (first
            | (go_at_fn gf; refine hcall.mono ?_; rintro e w' ⟨rfl, rfl⟩)
            | (refine wpList_store_k _ rfl (.tmp 33) (.tmp 32) 97 rfl g (i * 7) [.int .i64 u1, .string u2, .int .i64 u3, .string u4, .int .i64 u5, .bool u6, .slice up ul uc] rfl rfl 7 rfl Tryz.sizeOf97 rfl _ ?hW HHc.out HHf.out ?_; case hW => rfl))
          go_roundg (d.size - (j + 1))
          case measure => omega
          case rel =>
            refine ⟨i + 1, j + 1, dk.setIfInBounds i ⟨u1, u2, u3, u4, u5, u6, up, ul, uc, ⟨u8, u9, u10⟩, uQ, u12⟩, by go_num, by go_num, by omega, Nat.le_refl _, ?_, ?_, ?_, ?_, HSs.out _ _ _ (HSa.out _ _ (HSa.out _ _ JS.out))⟩
            · exact HS.out
            · exact below_setCells hB _ _ ((BW.out.alloc (by omega) _).alloc (by simp; omega) _)
            · rw [setCells_size]; simp; omega
            · have := I2.out.keep hlt (by rw [HK.out]; show (!p d[j]!) = true; rw [← HU.out, HQ.out]; rfl)
              rw [← HU.out] at this
              exact this
        | true =>
          rw [hq] at hcall
          have HQ := hid hq
          clear hq hX
          obtain ⟨u1, u2, u3, u4, u5, u6, up, ul, uc, ⟨u8, u9, u10⟩, uQ, u12⟩ := u
          simp only [Dd.enc7] at hcall
          go_wp2_with (go_at_fn gf; refine hcall.mono ?_; rintro e w' ⟨rfl, rfl⟩)
          go_roundg (d.size - (j + 1))
          case measure => omega
          case rel =>
            refine ⟨i, j + 1, dk, rfl, by go_num, by omega, Nat.le_refl _, ?_, ?_, ?_, ?_, HSa.out _ _ (HSa.out _ _ JS.out)⟩
            · exact holdsO_below HD.out ((below_alloc _ _).trans ((below_alloc _ _).mono (by simp))) hgw
            · exact (BW.out.alloc (by omega) _).alloc (by simp; omega) _
            · simp; omega
            · exact I2.out.skip (by rw [HK.out]; show (!p d[j]!) = false; rw [← HU.out, HQ.out]; rfl)
      · obtain rfl : j = d.size := by omega
        have hltz : ¬ (d.size : Int) < (d.size : Int) := by omega
        obtain ⟨vs, hvs⟩ : ∃ vs, vs = (Builtin.zeroCells (Value.cells (.agg #[.int .i64 0, .string ByteArray.empty, .int .i64 0, .string ByteArray.empty, .int .i64 0, .bool false, .slice none 0 0])) (d.size - i)).toList := ⟨_, rfl⟩
        have hvl : vs.length = (d.size - i) * 7 := by rw [hvs]; simp [Builtin.zeroCells, Value.cells]; try omega
        have hcl : ∀ ty, (Builtin.clear_ #[45] ty #[.slice (some ⟨g, i * 7, none⟩) (d.size - i) (cap - i)]).run Tryz.prog wr = .ok (.tuple #[]) (wr.setCells g (i * 7) vs) := fun ty =>
          run_clear_k wr 45 97 ty _ Tryz.underlying45 zeroO97 g (i * 7) (d.size - i) (cap - i) (by omega) vs hvs.symm (by rw [hvs]; exact zerosO_one _) (fun q hq => by
            rw [hvl] at hq
            have := holdsO_some HD.out (j := i + q / 7) (by omega) (q % 7) (by omega)
            rwa [show (i + q / 7) * 7 + q % 7 = i * 7 + q by omega] at this) (fun q hq => by
            rw [hvl] at hq
            have := holdsO_frz HD.out (j := i + q / 7) (by omega) (q % 7) (by omega)
            rwa [show (i + q / 7) * 7 + q % 7 = i * 7 + q by omega] at this)
        have HV := hid hvs
        have HL := hid hvl
        clear hvs hvl
        go_wp2
        go_ret
        have hI := I2.out
        rw [hI.len]
        refine ⟨rfl, ?_, below_setCells hB _ _ BW.out, by rw [setCells_size]; exact hgw⟩
        refine holdsO_tail (holdsO_cut HD.out (by simp [hI.len]; omega) (fun q hq => ?_)) _ _ (by simp [hI.len])
        have hq' : q < i := by simpa [hI.len] using hq
        have := hI.low q hq'
        obtain ⟨h1, h2⟩ := List.getElem?_eq_some_iff.1 this
        rw [← h2]
        simp [h1]
theorem deleteFuncO_none (w : World) (p : Option Addr) (fv : Value) : Calls Tryz.prog 54 #[.slice p 0 0, fv] w fun e w' => e = .returned (.slice p 0 0) ∧ w' = w := by
  go_enter Tryz.func54, Tryz.ntmps54
  go_wp2_with (go_at_call 80; refine (indexFuncO_none _ _ _ _).mono ?_; rintro e w' ⟨rfl, rfl⟩)
  go_ret
  exact ⟨rfl, rfl⟩
theorem deleteFuncO_row (w : World) (B gf kb : Nat) (val : Value) (p : Dd → Bool) (v : Value) (xs : List Dd) (eg : ∀ args w, (callFunc gf args).run Tryz.prog w = .ok (.enter gf args) w)
    (hp : ∀ (W : World) (x : Dd), W.cell? ⟨kb, 0, none⟩ = some val → Calls Tryz.prog gf #[.agg x.enc7.toArray, .pointer (some ⟨kb, 0, none⟩)] W fun e w' => e = .returned (.bool (p x)) ∧ w' = W.alloc (.cells x.enc7.toArray 97))
    (hc : w.cell? ⟨kb, 0, none⟩ = some val) (hr : RowO w B v xs) (hkb : ∀ g n c, v = .slice (some ⟨g, 0, none⟩) n c → g ≠ kb) (hsz : xs.length ≤ 1000000) :
    Calls Tryz.prog 54 #[v, .func (.func gf) #[] #[.pointer (some ⟨kb, 0, none⟩)]] w fun e w' => ∃ v', e = .returned v' ∧ RowO w' B v' (xs.filter fun x => !p x) ∧ Below B w w' ∧ v'.ownBlock = v.ownBlock := by
  rcases hr with ⟨rfl, rfl⟩ | ⟨g, cap, rfl, hB, hg, hcap, hH⟩
  · refine (deleteFuncO_none w none _).mono ?_
    rintro e w' ⟨rfl, rfl⟩
    exact ⟨_, rfl, .inl ⟨rfl, rfl⟩, Below.refl _ _, rfl⟩
  · have hne : g ≠ kb := hkb g _ _ rfl
    have := deleteFuncO_some w B g cap gf #[.pointer (some ⟨kb, 0, none⟩)] p xs.toArray eg (fun W => W.cell? ⟨kb, 0, none⟩ = some val) (fun W hb => by rw [hb.cell (p := ⟨kb, 0, none⟩) (lt_of_cell hc)]; exact hc) (fun W o h => cell_alloc h o)
      (fun W o vs h => by rw [World.cell?_setCells_out g vs o W ⟨kb, 0, none⟩ (fun e => absurd e.symm hne)]; exact h) hp hB hg hH (by simpa using hcap) (by simpa using hsz)
    simp only [List.size_toArray] at this
    refine this.mono ?_
    rintro e w' ⟨rfl, h1, h2, h3⟩
    exact ⟨_, rfl, .inr ⟨g, cap, rfl, hB, h3, Nat.le_trans (List.length_filter_le _ _) hcap, h1⟩, h2, rfl⟩
end Go.Proofs.YtepnghacjggkkaaGreatDoor
namespace Go.Proofs.YtepnghacjggkkaaGreatDoor
open Go.RowKit Go.Maps
set_option maxRecDepth 100000
set_option linter.unusedSectionVars false
variable [Inhabited ComV] [DecidableEq D3] [Inhabited D3] [Inhabited Dd] [Inhabited Dn] [Inhabited OpV]

abbrev SesBox (w : World) (sb : Nat) (tv : Value) (tp : Option Addr) : Prop := w.heap[sb]? = some (.cells #[tv, .pointer tp] 60 (0, 0))
abbrev TraBox (w : World) (xb pb : Nat) (av ov : Value) : Prop := w.heap[xb]? = some (.cells #[.pointer (some ⟨pb, 0, none⟩), av, ov] 90 (0, 0))
set_option maxHeartbeats 2000000 in
theorem open_yes (w : World) (sb : Nat) (tv : Value) (x : Addr) (h : SesBox w sb tv (some x)) : Calls Tryz.prog 20 #[.pointer (some ⟨sb, 0, none⟩)] w fun e w' => e = .returned (.bool true) ∧ w' = w := by
  have t1 : w.cell? ⟨sb, 1, none⟩ = some (.pointer (some x)) := (cell_of h).trans rfl
  clear h
  go_enter Tryz.func20, Tryz.ntmps20
  go_wp2
  go_ret
  exact ⟨rfl, rfl⟩
set_option maxHeartbeats 2000000 in
theorem open_no (w : World) (sb : Nat) (tv : Value) (h : SesBox w sb tv none) : Calls Tryz.prog 20 #[.pointer (some ⟨sb, 0, none⟩)] w fun e w' => e = .returned (.bool false) ∧ w' = w := by
  have t1 : w.cell? ⟨sb, 1, none⟩ = some (.pointer none) := (cell_of h).trans rfl
  clear h
  go_enter Tryz.func20, Tryz.ntmps20
  go_wp2
  go_ret
  exact ⟨rfl, rfl⟩
theorem mk22 (W : World) (n : Nat) (h1 : 1 ≤ n) (h6 : n ≤ 6) : (Instr.makeSlice 22 (.int .i64 n) (.int .i64 n)).run Tryz.prog W = .ok (.slice (some ⟨W.heap.size, 0, none⟩) n n) (W.alloc (.cells (Array.replicate n (.int .i64 0)) 3)) := by
  rcases (by omega : n = 1 ∨ n = 2 ∨ n = 3 ∨ n = 4 ∨ n = 5 ∨ n = 6) with rfl | rfl | rfl | rfl | rfl | rfl <;> kernel_rfl
set_option maxHeartbeats 2000000 in
theorem sesNew_ok (w : World) (n : Nat) (h1 : 1 ≤ n) (h6 : n ≤ 6) : Calls Tryz.prog 6 #[.int .i64 n] w fun e w' => ∃ (sb : Nat) (tb : Nat), e = .returned (.tuple #[.pointer (some ⟨sb, 0, none⟩), .nilIface]) ∧ w.heap.size ≤ sb ∧ w.heap.size ≤ tb ∧ SesBox w' sb (.slice (some ⟨tb, 0, none⟩) n n) none ∧ w'.heap[tb]? = some (.cells (Array.replicate n (.int .i64 0)) 3 (0, 0)) ∧ Below w.heap.size w w' := by
  have hmk := fun W => mk22 W n h1 h6
  have i1 : (1 : Int) ≤ n := by omega
  have i2 : (n : Int) ≤ 6 := by omega
  go_enter Tryz.func6, Tryz.ntmps6
  go_wp2
  go_ret2
  exact ⟨w.heap.size + 1, w.heap.size, rfl, by omega, Nat.le_refl _, heap_new2 _ _ _, heap_old (heap_new _ _) _, below2S _ _ _⟩
structure Only (g : Nat) (w w' : World) : Prop where
  os : w'.os = w.os
  tape : w'.tape = w.tape
  output : w'.output = w.output
  size : w.heap.size ≤ w'.heap.size
  block : ∀ b, b < w.heap.size → b ≠ g → w'.heap[b]? = w.heap[b]?
theorem Only.of {g : Nat} {w w' : World} (h : Below w.heap.size w w') : Only g w w' := ⟨h.os, h.tape, h.output, h.size, fun b hb _ => h.block b hb⟩
theorem Only.trans {g : Nat} {w w' w'' : World} (h : Only g w w') (k : Only g w' w'') : Only g w w'' :=
  ⟨k.os.trans h.os, k.tape.trans h.tape, k.output.trans h.output, Nat.le_trans h.size k.size, fun b hb hn => (k.block b (Nat.lt_of_lt_of_le hb h.size) hn).trans (h.block b hb hn)⟩
theorem Only.set {g : Nat} {w w' : World} (h : Only g w w') (j : Nat) (v : Value) : Only g w (w'.setCell ⟨g, j, none⟩ v) :=
  h.trans ⟨rfl, rfl, rfl, by simp [World.setCell], fun _ _ hk => Below.heap_setCell _ _ _ _ hk⟩
end Go.Proofs.YtepnghacjggkkaaGreatDoor
namespace Go.Proofs.YtepnghacjggkkaaGreatDoor
open Go.RowKit Go.Maps
set_option maxRecDepth 100000
set_option linter.unusedSectionVars false
variable [Inhabited ComV] [DecidableEq D3] [Inhabited D3] [Inhabited Dd] [Inhabited Dn] [Inhabited OpV]

def SnapRet (snap : List Int) (w : World) (e : Ending) (w' : World) : Prop := e = .returned (.slice (some ⟨w.heap.size, 0, none⟩) snap.length snap.length) ∧ w'.heap[w.heap.size]? = some (.cells (snap.map (Value.int .i64)).toArray 3 (0, 0)) ∧ Below w.heap.size w w'
theorem ints_heapY {W : World} {b c : Nat} {zs : List Int} (h : W.heap[b]? = some (.cells (zs.map (Value.int .i64)).toArray 3 (0, 0))) : IntsAt W (.slice (some ⟨b, 0, none⟩) zs.length c) zs := by
  refine ⟨_, _, rfl, by simp, .inr ⟨_, _, rfl, fun t ht => ?_⟩⟩
  rw [cell_of h]
  simp [ht]
theorem keep3_set {w : World} {g j : Nat} {cs : Array Value} {t : TypeId} (h : w.heap[g]? = some (.cells cs t (0, 0))) (h1 : 3 ≠ t) (h2 : 97 ≠ t) (h3 : 175 ≠ t) (v : Value) : Keep3 w (w.setCell ⟨g, j, none⟩ v) := by
  have k : ∀ u, u ≠ t → KeepT u w (w.setCell ⟨g, j, none⟩ v) := fun u hu b cs' hb => Below.heap_setCell _ _ _ _ fun e => by
    have e' : b = g := e
    rw [e', h] at hb
    injection hb with hb
    injection hb with _ hb
    exact hu hb.symm
  exact ⟨k 3 h1, k 97 h2, k 175 h3⟩
theorem keep3_below {w w' : World} (h : Below w.heap.size w w') : Keep3 w w' := ⟨fun b _ hb => h.block b (lt_of_heap hb), fun b _ hb => h.block b (lt_of_heap hb), fun b _ hb => h.block b (lt_of_heap hb)⟩
structure BeginRet (w : World) (sb pb : Nat) (snap : List Int) (e : Ending) (w' : World) : Prop where
  ret : ∃ (a : Option Addr) (c : Nat) (ta : Option Addr) (tc xb : Nat), e = .returned (.tuple #[.slice a snap.length c, .nilIface]) ∧ SesBox w' sb (.slice ta snap.length tc) (some ⟨xb, 0, none⟩) ∧ TraBox w' xb pb (.slice (some ⟨w.heap.size, 0, none⟩) snap.length snap.length) (.slice none 0 0) ∧ IntsT w' (.slice ta snap.length tc) snap ∧ w'.heap[w.heap.size]? = some (.cells (snap.map (Value.int .i64)).toArray 3 (0, 0)) ∧ w.heap.size ≤ xb ∧ Only sb w w'
set_option maxHeartbeats 4000000 in
theorem begin_ok (A : Nat → Addr) (w : World) (hE : E4 A w) (h12 : 12 ≤ w.heap.size) (sb pb : Nat) (tv : Value) (tok snap : List Int) (hs : SesBox w sb tv none) (ht : IntsAt w tv tok) (h2 : two tok snap = 0) (hle : leB tok snap = true)
    (K29 : Calls Tryz.prog 29 #[.pointer (some ⟨pb, 0, none⟩)] w (SnapRet snap w)) : Calls Tryz.prog 10 #[.pointer (some ⟨sb, 0, none⟩), .pointer (some ⟨pb, 0, none⟩)] w (BeginRet w sb pb snap) := by
  have K20 := hid (open_no w sb tv hs)
  have K29' := hid K29
  have t0 : w.cell? ⟨sb, 0, none⟩ = some tv := (cell_of hs).trans rfl
  have HS := hid hs
  have HT := hid ht
  have H2 := hid h2
  have HLE := hid hle
  have HE := hid hE
  have H12 : Hid (12 ≤ w.heap.size) := h12
  clear K29 hs ht h2 hle hE h12
  go_enter Tryz.func10, Tryz.ntmps10
  go_wp2_with (first
    | (go_at_call 20; refine K20.out.mono ?_; rintro e w' ⟨rfl, hw'⟩; rw [hw']; clear hw')
    | (go_at_call 29; refine K29'.out.mono ?_; rintro e w1 ⟨rfl, h1, hb1⟩; have u0 := (hb1.cell (p := ⟨sb, 0, none⟩) (lt_of_cell t0)).trans t0; have B1 := hid hb1; have G1 := hid h1; clear h1 hb1))
  refine (Within_ok A w1 (HE.out.below B1.out H12.out) tv _ tok snap (HT.out.mono B1.out (Nat.le_refl _)) (ints_heapY G1.out) H2.out).mono ?_
  rintro e w2 ⟨rfl, q, hw2⟩
  rw [HLE.out]
  have B2 : Hid (Below w.heap.size w w2) := (show Below _ _ _ from by rw [hw2]; exact below_draws B1.out q)
  have G2 : Hid (w2.heap[w.heap.size]? = some (.cells (snap.map (Value.int .i64)).toArray 3 (0, 0))) := (show _ = _ from by rw [hw2]; exact G1.out)
  have hsz : w.heap.size ≤ w2.heap.size := B2.out.size
  have g2 : w2.heap[sb]? = some (.cells #[tv, .pointer none] 60 (0, 0)) := (B2.out.block _ (lt_of_heap HS.out)).trans HS.out
  have hsb : sb < w2.heap.size := lt_of_heap g2
  clear hw2 K20 K29' u0 G1 B1
  obtain ⟨xb, hxb⟩ : ∃ xb, xb = w2.heap.size := ⟨_, rfl⟩
  obtain ⟨w3, hw3⟩ : ∃ w3, w3 = (w2.setCell ⟨sb, 1, none⟩ (.pointer (some ⟨xb, 0, none⟩))).alloc (.cells #[.pointer (some ⟨pb, 0, none⟩), .slice (some ⟨w.heap.size, 0, none⟩) snap.length snap.length, .slice none 0 0] 90) := ⟨_, rfl⟩
  have c2 : w2.cell? ⟨sb, 1, none⟩ = some (.pointer none) := (cell_of g2).trans rfl
  have c2a : ∀ o, (w2.alloc o).cell? ⟨sb, 1, none⟩ = some (.pointer none) := fun o => cell_alloc c2 o
  have f2a : ∀ o, (w2.alloc o).frozen? ⟨sb, 1, none⟩ = false := fun o => by simp only [World.frozen?, heap_old g2 o]; simp
  have hne : w.heap.size ≠ sb := Nat.ne_of_gt (lt_of_heap HS.out)
  have GS : Hid (w3.heap[sb]? = some (.cells #[tv, .pointer (some ⟨xb, 0, none⟩)] 60 (0, 0))) := (show _ = _ from by rw [hw3]; exact heap_old (heap_set g2 _) _)
  have GX : Hid (w3.heap[xb]? = some (.cells #[.pointer (some ⟨pb, 0, none⟩), .slice (some ⟨w.heap.size, 0, none⟩) snap.length snap.length, .slice none 0 0] 90 (0, 0))) := (show _ = _ from by rw [hw3, hxb]; have h := heap_new (w2.setCell ⟨sb, 1, none⟩ (.pointer (some ⟨w2.heap.size, 0, none⟩))) (.cells #[.pointer (some ⟨pb, 0, none⟩), .slice (some ⟨w.heap.size, 0, none⟩) snap.length snap.length, .slice none 0 0] 90); simpa [World.setCell] using h)
  have O3 : Hid (Only sb w w3) := (show Only _ _ _ from by rw [hw3]; exact ((Only.of B2.out).set 1 _).trans (Only.of (below_alloc _ _)))
  have G3 : Hid (w3.heap[w.heap.size]? = some (.cells (snap.map (Value.int .i64)).toArray 3 (0, 0))) := (show _ = _ from by rw [hw3]; exact heap_old ((Below.heap_setCell _ _ _ _ hne).trans G2.out) _)
  have hxl : w.heap.size ≤ xb := by omega
  have hxs : xb ≠ sb := by omega
  clear g2 B2 G2
  have K31 := hid (fun W (h : W.heap[w.heap.size]? = some (.cells (snap.map (Value.int .i64)).toArray 3 (0, 0))) => clone_ints W (.slice (some ⟨w.heap.size, 0, none⟩) snap.length snap.length) snap (ints_heapY h) (by have := (two_zero.1 H2.out).2.1; have := (chk_zero.1 this).2.1; omega))
  go_upto_region 11 with (fail)
  go_wp2_with (fail)
  rw [← hxb, ← hw3]
  refine (K31.out _ G3.out).mono ?_
  rintro e w4 ⟨ta, tc, rfl, hT4, hb4⟩
  have g4 : w4.heap[sb]? = some (.cells #[tv, .pointer (some ⟨xb, 0, none⟩)] 60 (0, 0)) := (hb4.block _ (lt_of_heap GS.out)).trans GS.out
  have c4 : w4.cell? ⟨sb, 0, none⟩ = some tv := (cell_of g4).trans rfl
  have f4 : w4.frozen? ⟨sb, 0, none⟩ = false := by simp only [World.frozen?, g4]; simp
  clear hw3 hxb c2 c2a f2a t0
  go_wp2_with (fail)
  obtain ⟨w5, hw5⟩ : ∃ w5, w5 = w4.setCell ⟨sb, 0, none⟩ (.slice ta snap.length tc) := ⟨_, rfl⟩
  rw [← hw5]
  have G5 : w5.heap[w.heap.size]? = some (.cells (snap.map (Value.int .i64)).toArray 3 (0, 0)) := by rw [hw5]; exact (Below.heap_setCell _ _ _ _ hne).trans ((hb4.block _ (lt_of_heap G3.out)).trans G3.out)
  refine (K31.out _ G5).mono ?_
  rintro e w6 ⟨a6, c6, rfl, _, hb6⟩
  have S6 : Hid (SesBox w6 sb (.slice ta snap.length tc) (some ⟨xb, 0, none⟩)) := (show _ = _ from by
    have h : w5.heap[sb]? = some (.cells #[.slice ta snap.length tc, .pointer (some ⟨xb, 0, none⟩)] 60 (0, 0)) := by rw [hw5]; exact heap_set g4 _
    exact (hb6.block _ (lt_of_heap h)).trans h)
  have X6 : Hid (TraBox w6 xb pb (.slice (some ⟨w.heap.size, 0, none⟩) snap.length snap.length) (.slice none 0 0)) := (show _ = _ from by
    have h4 := (hb4.block _ (lt_of_heap GX.out)).trans GX.out
    have h5 : w5.heap[xb]? = w4.heap[xb]? := by rw [hw5]; exact Below.heap_setCell _ _ _ _ hxs
    have h := h5.trans h4
    exact (hb6.block _ (lt_of_heap h)).trans h)
  have T6 : Hid (IntsT w6 (.slice ta snap.length tc) snap) := (show IntsT _ _ _ from by
    refine intsT_keep (intsT_keep hT4 (w' := w5) ?_) (keep3_below hb6)
    rw [hw5]
    exact keep3_set g4 (by decide) (by decide) (by decide) _)
  have O6 : Hid (Only sb w w6) := (show Only _ _ _ from by
    refine (O3.out.trans (Only.of hb4)).trans (Only.trans ?_ (Only.of hb6))
    rw [hw5]
    exact (Only.of (Below.refl _ _)).set 0 _)
  have G6 := hid ((hb6.block _ (lt_of_heap G5)).trans G5)
  clear hw5 hb6 hb4 g4 c4 f4 G5 hT4
  go_wp2_with (fail)
  go_ret2
  exact ⟨⟨a6, c6, ta, tc, xb, rfl, S6.out, X6.out, T6.out, G6.out, hxl, O6.out⟩⟩
end Go.Proofs.YtepnghacjggkkaaGreatDoor
namespace Go.Proofs.YtepnghacjggkkaaGreatDoor
open Go.RowKit Go.Maps
set_option maxRecDepth 100000
set_option linter.unusedSectionVars false
variable [Inhabited ComV] [DecidableEq D3] [Inhabited D3] [Inhabited Dd] [Inhabited Dn] [Inhabited OpV]

theorem owns_cellsY {w : World} {base e size n c : Nat} {a : Option Addr} {xs : List Value} (h : w.ownsRow base e size (.slice a (n + 1) c) (n + 1) xs) : ∃ b cs, a = some ⟨b, 0, none⟩ ∧ base ≤ b ∧ w.heap[b]? = some (.cells cs e (0, 0)) ∧ cs.toList.take ((n + 1) * size) = xs ∧ (n + 1) * size ≤ cs.size := by
  rcases h.2 with ⟨hv, h0⟩ | ⟨b, cap, cur, hv, hb, hh, hc, hm, hs, ht⟩
  · omega
  · injection hv with hv _ _
    exact ⟨b, cur, hv, hb, hh, ht, by rw [hs]; exact Nat.mul_le_mul_right _ hc⟩
set_option maxHeartbeats 2000000 in
theorem opsOn_nil (w : World) (xb pb : Nat) (av : Value) (key : ByteArray) (h : TraBox w xb pb av (.slice none 0 0)) : Calls Tryz.prog 53 #[.pointer (some ⟨xb, 0, none⟩), .string key] w fun e w' => e = .returned (.slice none 0 0) ∧ Below w.heap.size w w' := by
  have t2 : w.cell? ⟨xb, 2, none⟩ = some (.slice none 0 0) := (cell_of h).trans rfl
  clear h
  go_enter Tryz.func53, Tryz.ntmps53
  go_wp2
  refine wp_loop_rounds 1 ?_
  rw [rounds_succ]
  go_wp2
  go_ret
  exact ⟨rfl, Below.refl _ _⟩
set_option maxHeartbeats 2000000 in
theorem opsOn_one (w : World) (xb pb ob oc : Nat) (av : Value) (y1 : Int) (key : ByteArray) (y3 : Int) (y4 : ByteArray) (y5 : Int) (y6 : Bool) (da : Option Addr) (dn dc : Nat) (h : TraBox w xb pb av (.slice (some ⟨ob, 0, none⟩) 1 oc)) (ho : ∀ j u, [Value.int .i64 y1, .string key, .int .i64 y3, .string y4, .int .i64 y5, .bool y6, .slice da dn dc][j]? = some u → w.cell? ⟨ob, j, none⟩ = some u) : Calls Tryz.prog 53 #[.pointer (some ⟨xb, 0, none⟩), .string key] w fun e w' => ∃ (b c : Nat), e = .returned (.slice (some ⟨b, 0, none⟩) 1 c) ∧ w.heap.size ≤ b ∧ w'.ownsRow w.heap.size 97 7 (.slice (some ⟨b, 0, none⟩) 1 c) 1 [.int .i64 y1, .string key, .int .i64 y3, .string y4, .int .i64 y5, .bool y6, .slice da dn dc] ∧ Below w.heap.size w w' := by
  have t2 : w.cell? ⟨xb, 2, none⟩ = some (.slice (some ⟨ob, 0, none⟩) 1 oc) := (cell_of h).trans rfl
  have q0 : w.cell? ⟨ob, 0, none⟩ = some (.int .i64 y1) := ho 0 _ rfl
  have q1 := ho 1 _ rfl
  have q2 := ho 2 _ rfl
  have q3 := ho 3 _ rfl
  have q4 := ho 4 _ rfl
  have q5 := ho 5 _ rfl
  have q6 := ho 6 _ rfl
  clear h ho
  obtain ⟨w1, hw1⟩ : ∃ w1, w1 = w.alloc (.cells #[.int .i64 y1, .string key, .int .i64 y3, .string y4, .int .i64 y5, .bool y6, .slice da dn dc] 97) := ⟨_, rfl⟩
  obtain ⟨X, hX⟩ : ∃ X, X = w.heap.size := ⟨_, rfl⟩
  have A1 : w1.heap[X]? = some (.cells #[.int .i64 y1, .string key, .int .i64 y3, .string y4, .int .i64 y5, .bool y6, .slice da dn dc] 97 (0, 0)) := by rw [hw1, hX]; exact heap_new _ _
  have b1 : Below w.heap.size w w1 := by rw [hw1]; exact below_alloc _ _
  have u0 : w1.cell? ⟨X, 0, none⟩ = some (.int .i64 y1) := (cell_of A1).trans rfl
  have u1 : w1.cell? ⟨X, 1, none⟩ = some (.string key) := (cell_of A1).trans rfl
  have u2 : w1.cell? ⟨X, 2, none⟩ = some (.int .i64 y3) := (cell_of A1).trans rfl
  have u3 : w1.cell? ⟨X, 3, none⟩ = some (.string y4) := (cell_of A1).trans rfl
  have u4 : w1.cell? ⟨X, 4, none⟩ = some (.int .i64 y5) := (cell_of A1).trans rfl
  have u5 : w1.cell? ⟨X, 5, none⟩ = some (.bool y6) := (cell_of A1).trans rfl
  have u6 : w1.cell? ⟨X, 6, none⟩ = some (.slice da dn dc) := (cell_of A1).trans rfl
  have B1 := hid b1
  go_enter Tryz.func53, Tryz.ntmps53
  go_wp2
  refine wp_loop_rounds 2 ?_
  rw [rounds_succ]
  go_upto_region 5 with (fail)
  rw [← hw1, ← hX]
  clear hw1 hX q0 q1 q2 q3 q4 q5 q6 A1 b1
  go_upto_region 6 with (fail)
  obtain ⟨i0, hi, hz0, hz1, hz2⟩ := info_parts Tryz.info97
  go_wp2_with (at_builtin; refine wpList_append_own_srcS rfl _ _ 45 rfl w.heap.size 97 i0 _ 7 88 Tryz.underlying45 hi hz0 hz1 hz2 rfl (by decide) _ _ _ rfl (World.ownsRow_nil _ _ _ _) _ 1 [.int .i64 y1, .string key, .int .i64 y3, .string y4, .int .i64 y5, .bool y6, .slice da dn dc] rfl ?hs1 (by simp [Value.oneCell']) ?hm2 ?hm3 ?hm4 ?_; (case hs1 => exact .inr ⟨_, _, rfl, rfl, cells3_new _ _ _⟩); (case hm2 => unfold maxLen; omega); (case hm3 => omega); (case hm4 => have := B1.out.size; simp; omega); intro v3 w3 hown3 hgrow3 _)
  rw [Nat.zero_add, List.nil_append] at hown3
  obtain ⟨a3, c3, rfl⟩ := row_shape hown3
  have HT := hid hown3
  have HB : Hid (Below w.heap.size w w3) := (show Below _ _ _ from (B1.out.alloc B1.out.size _).grown hgrow3 (by have := B1.out.size; simp; omega) (fun k hk => by cases hk))
  clear hown3 hgrow3
  go_wp2
  rw [rounds_succ]
  go_wp2
  go_ret
  obtain ⟨b, cs, ha, hb, _⟩ := owns_cellsY HT.out
  subst ha
  exact ⟨b, c3, rfl, hb, HT.out, HB.out⟩
end Go.Proofs.YtepnghacjggkkaaGreatDoor
