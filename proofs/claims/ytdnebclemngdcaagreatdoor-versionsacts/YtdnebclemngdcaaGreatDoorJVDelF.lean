/- Dots as the keys of a map; slices.DeleteFunc over ops with their dots. -/
import Derived.Test.YtdnebclemngdcaaGreatDoorJVCmpD
import Derived.Test.YtdnebclemngdcaaGreatDoorChecked
import Derived.Maps.OwnSet
import Derived.DeepKeys5
import Derived.Test.YtdnebclemngdcaaGreatDoorJVOp
import Derived.Test.YtdnebclemngdcaaGreatDoorJVLayI
import Derived.Shelf.SlicesE.DeleteFunc
namespace Go.Proofs.YtdnebclemngdcaaGreatDoor
open Go.RowKit Go.Maps
set_option linter.unusedSectionVars false
variable [Inhabited ComV] [DecidableEq D3] [Inhabited D3] [Inhabited Dd] [Inhabited OpV]

theorem keyed65 : Keyed Tryz.prog 87 :=
  Keyed.of_law (deep_law_gate (by kernel_rfl) (of_decide_eq_true (by kernel_rfl)) (of_decide_eq_true (by kernel_rfl)) (by kernel_rfl) (by kernel_rfl))

def wf3 (d : D3) : Prop := (Lit.int .i64 d.p).wf = true ∧ (Lit.int .i64 d.t).wf = true ∧ (Lit.int .i64 d.a).wf = true
def klD (d : D3) : Lit := .string (keyBytes [.int .i64 d.p, .int .i64 d.t, .int .i64 d.a])
theorem keyLits_int (D : Nat) (n : Int) (h : (Lit.int .i64 n).wf = true) : Tryz.prog.keyLits (D + 1) 3 [.int .i64 n] = some [.int .i64 n] := by
  simp [Program.keyLits, Tryz.underlying3, h]
theorem keyLits_dot (D : Nat) (p t a : Int) (h1 : (Lit.int .i64 p).wf = true) (h2 : (Lit.int .i64 t).wf = true) (h3 : (Lit.int .i64 a).wf = true) :
    Tryz.prog.keyLits (D + 1 + 1) 87 [.int .i64 p, .int .i64 t, .int .i64 a] = some [.int .i64 p, .int .i64 t, .int .i64 a] := by
  have hc : Tryz.prog.cellsOf 87 = 3 := by kernel_rfl
  have hc3 : Tryz.prog.cellsOf 3 = 1 := by kernel_rfl
  unfold Program.keyLits; rw [Tryz.underlying87]; simp [hc, hc3, keyLits_int, h1, h2, h3]

theorem key_dot (d : D3) (h : wf3 d) : keyOf Tryz.prog 87 (.agg #[.int .i64 d.p, .int .i64 d.t, .int .i64 d.a]) = some (klD d) := by
  obtain ⟨h1, h2, h3⟩ := h; obtain ⟨p, t, a⟩ := d; simp only at h1 h2 h3; have hk : Tryz.prog.keyType 87 = true := by kernel_rfl
  have hts : Tryz.prog.types.size + 1 = 286 + 1 + 1 := by kernel_rfl
  unfold keyOf; rw [Tryz.underlying87, hts]; simp only; have hc : Tryz.prog.cellsOf 87 = 3 := by kernel_rfl
  have hc3 : Tryz.prog.cellsOf 3 = 1 := by kernel_rfl
  have hf : Value.formed Tryz.prog 87 (.agg #[.int .i64 p, .int .i64 t, .int .i64 a]) = true := by
    simp [Value.formed, Tryz.underlying87, hc]
  have hl := keyLits_dot 286 p t a h1 h2 h3; rw [hk, hf]; simp only [Bool.and_self, if_true, Value.cells, hl, klD, Option.map_some]

theorem klD_key (d : D3) : WideAt.IsKeyLit (klD d) := trivial
theorem klD_inj {d e : D3} (hd : wf3 d) (he : wf3 e) (h : klD d = klD e) : d = e := by
  have := keyed65.inj (key_dot d hd) (by rw [h]; exact key_dot e he); obtain ⟨p, t, a⟩ := d; obtain ⟨p', t', a'⟩ := e
  simpa using this
end Go.Proofs.YtdnebclemngdcaaGreatDoor
namespace Go.Proofs.YtdnebclemngdcaaGreatDoor
open Go.RowKit Go.Sort Go.Lib
set_option linter.unusedSectionVars false
variable [Inhabited ComV] [DecidableEq D3] [Inhabited D3] [Inhabited Dd] [Inhabited OpV]

theorem zero85 (w : World) : (zeroValue 131).run Tryz.prog w = .ok (.agg #[.int .i64 0, .string ByteArray.empty, .int .i64 0, .string ByteArray.empty, .int .i64 0, .bool false, .slice none 0 0, .int .i64 0, .int .i64 0, .int .i64 0, .int .i64 0]) w := by kernel_rfl

theorem zeros_one (n : Nat) : ∀ v ∈ (Builtin.zeroCells (Value.cells (.agg #[.int .i64 0, .string ByteArray.empty, .int .i64 0, .string ByteArray.empty, .int .i64 0, .bool false, .slice none 0 0, .int .i64 0, .int .i64 0, .int .i64 0, .int .i64 0])) n).toList, v.oneCell' = true := by
  intro v hv; simp only [Builtin.zeroCells, Value.cells] at hv; rw [Array.mem_toList_iff, Array.mem_map] at hv; obtain ⟨i, _, rfl⟩ := hv; obtain ⟨j, hj⟩ : ∃ j, j = i % 11 := ⟨_, rfl⟩; have hl : j < 11 := by omega
  show (#[Value.int .i64 0, .string ByteArray.empty, .int .i64 0, .string ByteArray.empty, .int .i64 0, .bool false, .slice none 0 0, .int .i64 0, .int .i64 0, .int .i64 0, .int .i64 0][i % 11]!).oneCell' = true; rw [← hj]; rcases (by omega : j = 0 ∨ j = 1 ∨ j = 2 ∨ j = 3 ∨ j = 4 ∨ j = 5 ∨ j = 6 ∨ j = 7 ∨ j = 8 ∨ j = 9 ∨ j = 10) with h | h | h | h | h | h | h | h | h | h | h <;> rw [h] <;> rfl

set_option maxHeartbeats 1000000 in
set_option maxRecDepth 100000 in
theorem deleteFunc_some (w : World) (B g cap gf : Nat) (lb : Array Value) (p : Dd → Bool) (d : Array Dd) (eg : ∀ args w, (callFunc gf args).run Tryz.prog w = .ok (.enter gf args) w) (S : World → Prop)
    (hSd : ∀ W, Below w.heap.size w W → S W) (hSa : ∀ W o, S W → S (W.alloc o)) (hSs : ∀ W o vs, S W → S (W.setCells g o vs))
    (hp : ∀ (W : World) (x : Dd), S W → Calls Tryz.prog gf (#[.agg x.enc.toArray] ++ lb) W fun e w' => e = .returned (.bool (p x)) ∧ w' = W.alloc (.cells x.enc.toArray 131))
    (hB : B ≤ g) (hg : g < w.heap.size) (hH : HoldsK Dd.enc 11 w g 0 d) (hcap : d.size ≤ cap) (hsz : d.size ≤ 1000000) :
    Calls Tryz.prog 110 #[.slice (some ⟨g, 0, none⟩) d.size cap, .func (.func gf) #[] lb] w fun e w' => e = .returned (.slice (some ⟨g, 0, none⟩) (d.toList.filter fun x => !p x).length cap) ∧ HoldsK Dd.enc 11 w' g 0 (d.toList.filter fun x => !p x).toArray ∧ Below B w w' ∧ g < w'.heap.size := by
  have tl : ∀ j, j < d.size → d.toList[j]! = d[j]! := fun j hj => by rw [getElem!_pos d j hj, getElem!_pos d.toList j (by simpa using hj)]; simp
  have hIF := AnyQ.slices_IndexFunc Tryz.idxDd 11 Tryz.isAgg131 Tryz.sizeOf131 Dd.enc Dd.enc_length p gf lb eg g 0 d.size cap d.toList w
    (fun W x hb => (hp W x (hSd W hb)).mono fun _ _ ⟨he, hw⟩ => ⟨he, by rw [hw]; exact hb.alloc hb.size _⟩) (by simp) (by omega) hg (fun j hj i v hi => by
      have hj' : j < d.size := by simpa using hj
      have hi' : i < 11 := by have := (List.getElem?_eq_some_iff.1 hi).1; rw [Dd.enc_length] at this; exact this
      rw [Nat.zero_add, (holdsK_iff.1 hH j hj' i hi').1, ← tl j hj', List.getElem!_eq_getElem?_getD (l := (d.toList[j]!).enc), hi]; rfl)
  change Calls Tryz.prog 142 _ _ _ at hIF
  rw [show d.toList.take d.size = d.toList from List.take_of_length_le (by simp)] at hIF; obtain ⟨kp, HK⟩ : ∃ kp : Nat → Bool, Hid (kp = fun j => !p d[j]!) := ⟨_, rfl⟩; have hfil : (d.toList.filter fun x => !p x) = keptUpTo kp d d.size := by rw [HK.out]; exact (keptUpTo_filter (fun x => !p x) d).symm
  rw [hfil]; rcases idxByFrom_spec (fun _ y => p y) default d.toList 0 with ⟨e1, hall⟩ | ⟨k0, hk0, e1, ht, hall⟩
  · have e2 : Lib.idxBy (fun _ y => p y) d.toList default = -1 := e1; rw [e2] at hIF; have hkeep : ∀ j, j < d.size → kp j = true := fun j hj => by rw [HK.out]; show (!p d[j]!) = true; rw [← tl j hj, hall j (by simpa using hj)]; rfl
    have e3 : keptUpTo kp d d.size = d.toList := by rw [keptUpTo_all kp d _ hkeep, range_map_get]
    have HH := hid hH; clear hH hp hSd hSa hSs; go_enter Tryz.func110, Tryz.ntmps110
    go_wp2_with (go_at_call 142; refine hIF.mono ?_; rintro e w' ⟨rfl, hb'⟩)
    go_ret; rw [e3]
    exact ⟨by simp, by simpa using holdsK_below HH.out hb' hg, hb'.mono (by omega), Nat.lt_of_lt_of_le hg hb'.size⟩
  · have hk0' : k0 < d.size := by simpa using hk0
    have e2 : Lib.idxBy (fun _ y => p y) d.toList default = (k0 : Int) := by unfold Lib.idxBy; rw [e1]; simp
    rw [e2] at hIF; have hkeep : ∀ j, j < k0 → kp j = true := fun j hj => by rw [HK.out]; show (!p d[j]!) = true; rw [← tl j (by omega), hall j hj]; rfl
    have hdrop : kp k0 = false := by rw [HK.out]; show (!p d[k0]!) = false; rw [← tl k0 hk0']; rw [show p d.toList[k0]! = true from ht]; rfl
    have hne1 : ((k0 : Int) == -1) = false := beq_eq_false_iff_ne.2 (by omega); have HC := hid hp; have HH := hid hH; have HSd := hid hSd; have HSa := hid hSa; have HSs := hid hSs; clear hp hH hall ht e1 e2 tl hSd hSa hSs; go_enter Tryz.func110, Tryz.ntmps110
    go_wp2_with (go_at_call 142; refine hIF.mono ?_; rintro e w' ⟨rfl, hb'⟩)
    have HB := hid hb'; clear hb' hIF hfil
    go_loopg [5, 6, 7] d.size (fun gg s5 s6 _ wr => ∃ (i j : Nat) (dk : Array Dd), s5 = .int .i64 i ∧ s6 = .int .i64 j ∧ j ≤ d.size ∧ d.size - j ≤ gg ∧ Hid (HoldsK Dd.enc 11 wr g 0 dk) ∧ Hid (Below B w wr) ∧ g < wr.heap.size ∧ Hid (KeptInv kp d j i dk) ∧ Hid (S wr))
    case atStart => exact ⟨k0, k0 + 1, d, rfl, by go_num, by omega, by omega, holdsK_below HH.out HB.out hg, HB.out.mono (by omega), Nat.lt_of_lt_of_le hg HB.out.size, KeptInv.start hkeep hdrop, HSd.out _ HB.out⟩
    case round =>
      obtain ⟨i, j, dk, rfl, rfl, hjd, hgg, HD, BW, hgw, I2, JS⟩ := hrel; have hij := I2.out.lt; have hds := I2.out.size
      by_cases hlt : j < d.size
      · have hltz : (j : Int) < (d.size : Int) := by omega
        obtain ⟨u, hu⟩ : ∃ u, u = d[j]! := ⟨_, rfl⟩; obtain ⟨c0, c1, c2, c3, c4, c5, c6, c7, c8, c9, c10⟩ := holdsK_cells HD.out (j := j) (u := u) (by omega) (by rw [I2.out.high j (by omega)]; exact hu.symm); have HU := hid hu; clear hu; have hX : HoldsK Dd.enc 11 ((wr.alloc (.cells u.enc.toArray 131)).alloc (.cells u.enc.toArray 131)) g 0 dk := holdsK_below HD.out ((below_alloc _ _).trans ((below_alloc _ _).mono (by simp))) hgw; have hcall := HC.out (wr.alloc (.cells u.enc.toArray 131)) u (HSa.out _ _ JS.out)
        cases hq : p u with
        | false =>
          rw [hq] at hcall; have HQ := hid hq; clear hq; obtain ⟨u1, u2, u3, u4, u5, u6, up, ul, uc, ⟨u8, u9, u10⟩, u11, u12⟩ := u; have hc := hid (holdsK_some hX (j := i) (by omega)); have hf := hid (holdsK_frz hX (j := i) (by omega)); have HHc : Hid (∀ q, q < 11 → (((wr.alloc (.cells #[.int .i64 u1, .string u2, .int .i64 u3, .string u4, .int .i64 u5, .bool u6, .slice up ul uc, .int .i64 u8, .int .i64 u9, .int .i64 u10, .int .i64 u11] 131)).alloc (.cells #[.int .i64 u1, .string u2, .int .i64 u3, .string u4, .int .i64 u5, .bool u6, .slice up ul uc, .int .i64 u8, .int .i64 u9, .int .i64 u10, .int .i64 u11] 131)).cell? ⟨g, i * 11 + q, none⟩).isSome = true) := hc
          have HHf : Hid (∀ q, q < 11 → ((wr.alloc (.cells #[.int .i64 u1, .string u2, .int .i64 u3, .string u4, .int .i64 u5, .bool u6, .slice up ul uc, .int .i64 u8, .int .i64 u9, .int .i64 u10, .int .i64 u11] 131)).alloc (.cells #[.int .i64 u1, .string u2, .int .i64 u3, .string u4, .int .i64 u5, .bool u6, .slice up ul uc, .int .i64 u8, .int .i64 u9, .int .i64 u10, .int .i64 u11] 131)).frozen? ⟨g, i * 11 + q, none⟩ = false) := hf; simp only [Dd.enc] at hcall; have hS := holdsK_set hX (i := i) (by omega) ⟨u1, u2, u3, u4, u5, u6, up, ul, uc, ⟨u8, u9, u10⟩, u11, u12⟩; simp only [Dd.enc] at hS; have HS := hid hS; clear hX hc hf hS
          go_wp2_with (first
            | (go_at_fn gf; refine hcall.mono ?_; rintro e w' ⟨rfl, rfl⟩)
            | (refine wpList_store_k _ rfl (.tmp 33) (.tmp 32) 131 rfl g (i * 11) [.int .i64 u1, .string u2, .int .i64 u3, .string u4, .int .i64 u5, .bool u6, .slice up ul uc, .int .i64 u8, .int .i64 u9, .int .i64 u10, .int .i64 u11] rfl rfl 11 rfl Tryz.sizeOf131 rfl _ ?hW HHc.out HHf.out ?_; case hW => rfl))
          go_roundg (d.size - (j + 1))
          case measure => omega
          case rel =>
            refine ⟨i + 1, j + 1, dk.setIfInBounds i ⟨u1, u2, u3, u4, u5, u6, up, ul, uc, ⟨u8, u9, u10⟩, u11, u12⟩, by go_num, by go_num, by omega, Nat.le_refl _, ?_, ?_, ?_, ?_, HSs.out _ _ _ (HSa.out _ _ (HSa.out _ _ JS.out))⟩
            · exact HS.out
            · exact below_setCells hB _ _ ((BW.out.alloc (by omega) _).alloc (by simp; omega) _)
            · rw [setCells_size]; simp; omega
            · have := I2.out.keep hlt (by rw [HK.out]; show (!p d[j]!) = true; rw [← HU.out, HQ.out]; rfl); rw [← HU.out] at this; exact this
        | true =>
          rw [hq] at hcall; have HQ := hid hq; clear hq hX; obtain ⟨u1, u2, u3, u4, u5, u6, up, ul, uc, ⟨u8, u9, u10⟩, u11, u12⟩ := u; simp only [Dd.enc] at hcall
          go_wp2_with (go_at_fn gf; refine hcall.mono ?_; rintro e w' ⟨rfl, rfl⟩)
          go_roundg (d.size - (j + 1))
          case measure => omega
          case rel =>
            refine ⟨i, j + 1, dk, rfl, by go_num, by omega, Nat.le_refl _, ?_, ?_, ?_, ?_, HSa.out _ _ (HSa.out _ _ JS.out)⟩
            · exact holdsK_below HD.out ((below_alloc _ _).trans ((below_alloc _ _).mono (by simp))) hgw
            · exact (BW.out.alloc (by omega) _).alloc (by simp; omega) _
            · simp; omega
            · exact I2.out.skip (by rw [HK.out]; show (!p d[j]!) = false; rw [← HU.out, HQ.out]; rfl)
      · obtain rfl : j = d.size := by omega
        have hltz : ¬ (d.size : Int) < (d.size : Int) := by omega
        obtain ⟨vs, hvs⟩ : ∃ vs, vs = (Builtin.zeroCells (Value.cells (.agg #[.int .i64 0, .string ByteArray.empty, .int .i64 0, .string ByteArray.empty, .int .i64 0, .bool false, .slice none 0 0, .int .i64 0, .int .i64 0, .int .i64 0, .int .i64 0])) (d.size - i)).toList := ⟨_, rfl⟩; have hvl : vs.length = (d.size - i) * 11 := by rw [hvs]; simp [Builtin.zeroCells, Value.cells]; try omega
        have hcl : ∀ ty, (Builtin.clear_ #[127] ty #[.slice (some ⟨g, i * 11, none⟩) (d.size - i) (cap - i)]).run Tryz.prog wr = .ok (.tuple #[]) (wr.setCells g (i * 11) vs) := fun ty =>
          run_clear_k wr 127 131 ty _ Tryz.underlying127 zero85 g (i * 11) (d.size - i) (cap - i) (by omega) vs hvs.symm (by rw [hvs]; exact zeros_one _) (fun q hq => by
            rw [hvl] at hq; have := holdsK_some HD.out (j := i + q / 11) (by omega) (q % 11) (by omega)
            rwa [show (i + q / 11) * 11 + q % 11 = i * 11 + q by omega] at this) (fun q hq => by
            rw [hvl] at hq; have := holdsK_frz HD.out (j := i + q / 11) (by omega) (q % 11) (by omega); rwa [show (i + q / 11) * 11 + q % 11 = i * 11 + q by omega] at this)
        have HV := hid hvs; have HL := hid hvl; clear hvs hvl; go_wp2; go_ret; have hI := I2.out; rw [hI.len]; refine ⟨rfl, ?_, below_setCells hB _ _ BW.out, by rw [setCells_size]; exact hgw⟩; refine holdsK_tail (holdsK_cut HD.out (by simp [hI.len]; omega) (fun q hq => ?_)) _ _ (by simp [hI.len]); have hq' : q < i := by simpa [hI.len] using hq
        have := hI.low q hq'; obtain ⟨h1, h2⟩ := List.getElem?_eq_some_iff.1 this; rw [← h2]; simp [h1]

theorem deleteFunc_none (w : World) (p : Option Addr) (fv : Value) : Calls Tryz.prog 110 #[.slice p 0 0, fv] w fun e w' => e = .returned (.slice p 0 0) ∧ w' = w := by
  go_enter Tryz.func110, Tryz.ntmps110
  go_wp2_with (go_at_call 142; refine (indexFunc_none _ _ _ _).mono ?_; rintro e w' ⟨rfl, rfl⟩)
  go_ret; exact ⟨rfl, rfl⟩

theorem deleteFunc_row (w : World) (B gf kb : Nat) (val : Value) (p : Dd → Bool) (v : Value) (xs : List Dd) (eg : ∀ args w, (callFunc gf args).run Tryz.prog w = .ok (.enter gf args) w)
    (hp : ∀ (W : World) (x : Dd), W.cell? ⟨kb, 0, none⟩ = some val → Calls Tryz.prog gf #[.agg x.enc.toArray, .pointer (some ⟨kb, 0, none⟩)] W fun e w' => e = .returned (.bool (p x)) ∧ w' = W.alloc (.cells x.enc.toArray 131))
    (hc : w.cell? ⟨kb, 0, none⟩ = some val) (hr : RowD w B v xs) (hkb : ∀ g n c, v = .slice (some ⟨g, 0, none⟩) n c → g ≠ kb) (hsz : xs.length ≤ 1000000) :
    Calls Tryz.prog 110 #[v, .func (.func gf) #[] #[.pointer (some ⟨kb, 0, none⟩)]] w fun e w' => ∃ v', e = .returned v' ∧ RowD w' B v' (xs.filter fun x => !p x) ∧ Below B w w' ∧ v'.ownBlock = v.ownBlock := by
  rcases hr with ⟨rfl, rfl⟩ | ⟨g, cap, rfl, hB, hg, hcap, hH⟩
  · refine (deleteFunc_none w none _).mono ?_; rintro e w' ⟨rfl, rfl⟩; exact ⟨_, rfl, .inl ⟨rfl, rfl⟩, Below.refl _ _, rfl⟩
  · have hne : g ≠ kb := hkb g _ _ rfl
    have := deleteFunc_some w B g cap gf #[.pointer (some ⟨kb, 0, none⟩)] p xs.toArray eg (fun W => W.cell? ⟨kb, 0, none⟩ = some val) (fun W hb => by rw [hb.cell (p := ⟨kb, 0, none⟩) (lt_of_cell hc)]; exact hc) (fun W o h => cell_alloc h o)
      (fun W o vs h => by rw [World.cell?_setCells_out g vs o W ⟨kb, 0, none⟩ (fun e => absurd e.symm hne)]; exact h) hp hB hg hH (by simpa using hcap) (by simpa using hsz)
    simp only [List.size_toArray] at this; refine this.mono ?_; rintro e w' ⟨rfl, h1, h2, h3⟩; exact ⟨_, rfl, .inr ⟨g, cap, rfl, hB, h3, Nat.le_trans (List.length_filter_le _ _) hcap, h1⟩, h2, rfl⟩
end Go.Proofs.YtdnebclemngdcaaGreatDoor
