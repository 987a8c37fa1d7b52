/- checkList, opsOn, Of and Dots by their contracts, where something is wrong; opsOn, Of and Dots by their contracts, where something is wrong; SameTexts, SameValue of the same; Index; SameValue of the same; Index; what stands where nothing, or something, is wrong. -/
import Derived.Test.YtdnebclemngdcaaGreatDoorFVErr
import Derived.Test.YtdnebclemngdcaaGreatDoorFVOwns
namespace Go.Proofs.YtdnebclemngdcaaGreatDoor
open Go.RowKit Go.Sort Go.Maps
set_option maxRecDepth 100000
set_option linter.unusedSectionVars false
variable [Inhabited ComV] [DecidableEq D3] [Inhabited D3] [Inhabited Dd] [Inhabited Dn] [Inhabited OpV]

theorem errAt_some {A : Nat → Addr} {w : World} {v : Value} {k : Nat} {o : Option Nat} (h : ErrAt A w v (k + 1, o)) : v = .iface 255 (.pointer (some (A k))) ∨ ∃ pb, v = .iface 89 (.pointer (some ⟨pb, 0, none⟩)) ∧ w.cell? ⟨pb, 1, none⟩ = some (.iface 255 (.pointer (some (A k)))) := by
  cases o with
  | none => exact .inl h
  | some i =>
    obtain ⟨pb, h1, _, h3⟩ := h
    exact .inr ⟨pb, h1, h3⟩
/-- What a check hands back. -/
def ChkRet (A : Nat → Addr) (w : World) (er : Nat × Option Nat) (e : Ending) (w' : World) : Prop := ∃ v, e = .returned v ∧ ErrAt A w' v er ∧ Below w.heap.size w w'

set_option maxHeartbeats 4000000 in
theorem checkList_bad_n (A : Nat → Addr) (w : World) (hE : E5 A w) (b off m c : Nat) (l : List ComV) (hm : l.length = m) (hl : m ≤ 1000000) (hsm : ∀ c ∈ l, SmallC c) (i0 : Nat) (hi0 : i0 < m) (hok : ∀ i, i < i0 → listBad l i = 0) (hbad : listBad l i0 ≠ 0)
    (ho : ∀ j, j < m → ∃ wv ov, IntsAt w wv l[j]!.when_ ∧ OpsAt w ov l[j]!.ops ∧ w.cell? ⟨b, off + j * 3, none⟩ = some wv ∧ w.cell? ⟨b, off + j * 3 + 1, none⟩ = some (.int .i64 l[j]!.place) ∧ w.cell? ⟨b, off + j * 3 + 2, none⟩ = some ov) :
    Calls Tryz.prog 108 #[.slice (some ⟨b, off, none⟩) m c] w fun e w' => ChkRet A w (listBad l i0, some i0) e w' := by
  have h13 := hE.size
  obtain ⟨wv0, _, hi00, _, z0, _, _⟩ := ho 0 (by omega)
  rw [Nat.zero_mul, Nat.add_zero] at z0
  obtain ⟨a0, k0, rfl, _, _⟩ := hi00
  obtain ⟨n0, hn0⟩ : ∃ n0, n0 = l[0]!.when_.length := ⟨_, rfl⟩
  rw [← hn0] at z0
  have HN0 := hid hn0
  have HO := hid ho
  have HE := hid hE
  have HM := hid hm
  have HS := hid hsm
  have HK := hid hok
  have HBAD := hid hbad
  clear ho hE hm hsm hok hn0 hbad
  go_enter Tryz.func108, Tryz.ntmps108
  go_wp2
  go_loopw [8] (fun i wr => ∃ k : Nat, k ≤ i0 ∧ i = .int .i64 k ∧ Hid (Below w.heap.size w wr)) (fun i _ => m - (intOf i).toNat)
  case atStart => exact ⟨0, Nat.zero_le _, rfl, Below.refl _ _⟩
  case round =>
    obtain ⟨k, hk, rfl, HB⟩ := hrel
    have hsz := HB.out.size
    have hlt : k < m := by omega
    obtain ⟨wv, ov, hi, hop, q0, q1, q2⟩ := HO.out k hlt
    have up : ∀ {a : Addr} {v : Value}, w.cell? a = some v → wr.cell? a = some v := fun {a v} h => by rw [HB.out.cell (lt_of_cell h)]; exact h
    have r0 := up q0
    have r1 := up q1
    have r2 := up q2
    have y0 := up z0
    have hSm : SmallC l[k]! := HS.out _ (by rw [getElem!_pos l k (by have := HM.out; omega)]; exact List.getElem_mem _)
    have hi' := hi.mono HB.out (Nat.le_refl _)
    have ho' := hop.mono HB.out (Nat.le_refl _)
    have hE4 : E4 A wr := HE.out.e4.below HB.out (by omega)
    have hH : wr.cell? ⟨12, 0, none⟩ = some hnd := by rw [HB.out.cell (p := ⟨12, 0, none⟩) (by show 12 < _; omega)]; exact HE.out.handle
    obtain ⟨x, hx⟩ : ∃ x, x = l[k]! := ⟨_, rfl⟩
    rw [← hx] at r1 hSm hi' ho'
    have KC := fun o => checkCommit A (wr.alloc o) (hE4.below (below_alloc wr o) (by omega)) (by simp; omega) x wv ov (hi'.mono (below_alloc wr o) (Nat.le_refl _)) (ho'.mono (below_alloc wr o) (Nat.le_refl _)) hSm.1 hSm.2.1 hSm.2.2
    have hSh := hE4.shape
    have hlen2 : Hid (∃ n1, n1 = x.when_.length) := ⟨_, rfl⟩
    obtain ⟨a1, c1, rfl, _, _⟩ := hi'
    obtain ⟨a2, c2, rfl, _, _, _⟩ := ho'.shape
    obtain ⟨n1, hn1⟩ := hlen2.out
    obtain ⟨m2, hm2⟩ : ∃ m2, m2 = x.ops.length := ⟨_, rfl⟩
    obtain ⟨pl, hpl⟩ : ∃ pl, pl = x.place := ⟨_, rfl⟩
    rw [← hn1, ← hm2, ← hpl] at KC
    rw [← hn1] at r0
    rw [← hm2] at r2
    rw [← hpl] at r1
    have HN1 := hid hn1
    have HX := hid hx
    have HH := hid hH
    have HSH := hid hSh
    clear q0 q1 q2 hi hop hx hSm hm2 hpl up hn1 hE4 hH hSh hlen2
    by_cases hkl : k < i0
    · have hb0 := HK.out k hkl
      have hce : comErr x = (0, none) := comErr_zero (by
        unfold listBad at hb0
        rw [← HX.out] at hb0
        split at hb0
        · rename_i h; exact absurd hb0 h
        · rename_i h; simpa using h)
      have hlen : n1 = n0 := by
        unfold listBad at hb0
        rw [← HX.out, if_neg (by rw [hce]; decide)] at hb0
        split at hb0
        · exact absurd hb0 (by decide)
        · rename_i h; rw [HN0.out, HN1.out]; simpa using h
      rw [hce] at KC
      subst hlen
      clear hce hb0
      go_wp2_with (go_at_call 36; refine (KC _).mono ?_; rintro e w' ⟨v, rfl, hv, hw⟩; obtain rfl : v = .nilIface := hv)
      have hwB : Hid (Below w.heap.size w w') := (HB.out.alloc hsz _).trans (hw.mono (by simp; omega))
      have f0 : w'.cell? ⟨wr.heap.size, 0, none⟩ = some (.slice a1 n1 c1) := by rw [hw.cell (p := ⟨wr.heap.size, 0, none⟩) (by simp)]; simp
      have g0 : w'.cell? ⟨b, off, none⟩ = some (.slice a0 n1 k0) := by rw [hwB.out.cell (lt_of_cell z0)]; exact z0
      have bne : ((n1 : Int) != (n1 : Int)) = false := by simp
      clear hw KC y0 r0 r1 r2
      go_quiet (fail)
      go_wp2
      exact ⟨⟨k + 1, by omega, by go_num, below_draws hwB.out _⟩, by simp [intOf]; omega⟩
    · obtain rfl : k = i0 := by omega
      by_cases hce : (comErr x).1 = 0
      · have hlb : listBad l k = 3 := by
          have := HBAD.out
          unfold listBad at this ⊢
          rw [← HX.out] at this ⊢
          rw [if_neg (by rw [hce]; decide)] at this ⊢
          split at this
          · rename_i h; rw [if_pos h]
          · exact absurd rfl this
        have hne : n1 ≠ n0 := by
          intro h
          have := HBAD.out
          unfold listBad at this
          rw [← HX.out, if_neg (by rw [hce]; decide), if_neg (by rw [← HN0.out, ← HN1.out, h]; exact fun q => q rfl)] at this
          exact absurd rfl this
        have hc0 := comErr_zero hce
        rw [hc0] at KC
        have HLB := hid hlb
        clear hce hc0 hlb
        go_wp2_with (go_at_call 36; refine (KC _).mono ?_; rintro e w' ⟨v, rfl, hv, hw⟩; obtain rfl : v = .nilIface := hv)
        have hwB : Hid (Below w.heap.size w w') := (HB.out.alloc hsz _).trans (hw.mono (by simp; omega))
        have f0 : w'.cell? ⟨wr.heap.size, 0, none⟩ = some (.slice a1 n1 c1) := by rw [hw.cell (p := ⟨wr.heap.size, 0, none⟩) (by simp)]; simp
        have g0 : w'.cell? ⟨b, off, none⟩ = some (.slice a0 n0 k0) := by rw [hwB.out.cell (lt_of_cell z0)]; exact z0
        have bne : ((n1 : Int) != (n0 : Int)) = true := by rw [bne_iff_ne]; omega
        have g3 : w'.cell? ⟨3, 0, none⟩ = some (.iface 255 (.pointer (some (A 2)))) := (HE.out.e4.below hwB.out (by omega)).shape
        clear hw KC y0 r0 r1 r2
        go_quiet (fail)
        go_wp2
        go_ret
        refine ⟨_, rfl, ErrAt.at (k := 3) (i := k) w'.heap.size (by rw [HLB.out]) ((World.cell?_alloc_at _ _ _ _ rfl).trans rfl) ((World.cell?_alloc_at _ _ _ _ rfl).trans rfl), ?_⟩
        exact (below_draws hwB.out _).alloc (by have := hwB.out.size; simp; omega) _
      · obtain ⟨er, o, her⟩ : ∃ er o, comErr x = (er + 1, o) := ⟨(comErr x).1 - 1, (comErr x).2, by rw [Nat.sub_add_cancel (by omega)]⟩
        have hlb : listBad l k = er + 1 := by
          unfold listBad
          rw [← HX.out, if_pos hce, her]
        rw [her] at KC
        have HLB := hid hlb
        clear hce hlb her y0
        go_upto_region 5 with (go_at_call 36; refine (KC _).mono ?_; rintro e w' ⟨v, rfl, hv, hw⟩)
        have hwB : Hid (Below w.heap.size w w') := (HB.out.alloc hsz _).trans (hw.mono (by simp; omega))
        have hg : w'.cell? ⟨12, 0, none⟩ = some hnd := by rw [hwB.out.cell (p := ⟨12, 0, none⟩) (by show 12 < _; omega)]; exact HE.out.handle
        have fin : Hid (∀ w2 : World, Below w'.heap.size w' w2 → ChkRet A w (listBad l k, some k) (.returned (.iface 89 (.pointer (some ⟨w2.heap.size, 0, none⟩)))) (w2.alloc (.cells #[.int .i64 k, .iface 255 (.pointer (some (A er)))] 91))) := fun w2 h2 => by
          refine ⟨_, rfl, ErrAt.at (k := er + 1) (i := k) w2.heap.size (by rw [HLB.out]) ((World.cell?_alloc_at _ _ _ _ rfl).trans rfl) ((World.cell?_alloc_at _ _ _ _ rfl).trans rfl), ?_⟩
          have h3 := hwB.out.trans (h2.mono hwB.out.size)
          exact h3.alloc h3.size _
        rcases errAt_some hv with rfl | ⟨pb, rfl, c1'⟩
        · have K74 := without_sent w' (A er) hg
          clear hv hw hg KC r0 r1 r2
          go_wp2_with (go_at_call 140; refine K74.mono ?_; rintro e w2 ⟨rfl, hb2⟩)
          go_ret
          exact fin.out w2 hb2
        · have K74 := without_fault w' pb (A er) hg c1'
          clear hv hw hg KC r0 r1 r2 c1'
          go_wp2_with (go_at_call 140; refine K74.mono ?_; rintro e w2 ⟨rfl, hb2⟩)
          go_ret
          exact fin.out w2 hb2
theorem listErr_first {l : List ComV} {k : Nat} (h : (listErr l).1 = k + 1) : ∃ i, i < l.length ∧ (∀ j, j < i → listBad l j = 0) ∧ listBad l i = k + 1 ∧ listErr l = (k + 1, some i) := by
  unfold listErr scan at h ⊢
  cases hq : (List.range l.length).find? (fun i => decide (listBad l i ≠ 0)) with
  | none => rw [hq] at h; cases h
  | some i =>
    rw [hq] at h
    have h' : listBad l i = k + 1 := h
    rw [List.find?_range_eq_some] at hq
    obtain ⟨h1, h2, h3⟩ := hq
    exact ⟨i, by simpa using h2, fun j hj => by simpa using h3 j hj, h', by simp only [h']⟩
theorem checkList_bad (A : Nat → Addr) (w : World) (hE : E5 A w) (v : Value) (l : List ComV) (hv : ComsAt w v l) (hl : l.length ≤ 1000000) (hsm : ∀ c ∈ l, SmallC c) {k : Nat} (hk : (listErr l).1 = k + 1) :
    Calls Tryz.prog 108 #[v] w fun e w' => ChkRet A w (listErr l) e w' := by
  obtain ⟨i, hi, h1, h2, h3⟩ := listErr_first hk
  obtain ⟨ad, cap, rfl, _, _, h⟩ := hv.shape
  rcases h with rfl | ⟨b, off, rfl, h⟩
  · simp at hi
  · have := checkList_bad_n A w hE b off l.length cap l rfl hl hsm i hi h1 (by omega) h
    rw [h3, ← h2]
    exact this
end Go.Proofs.YtdnebclemngdcaaGreatDoor
namespace Go.Proofs.YtdnebclemngdcaaGreatDoor
open Go.RowKit Go.Sort Go.Maps
set_option maxRecDepth 100000
set_option linter.unusedSectionVars false
variable [Inhabited ComV] [DecidableEq D3] [Inhabited D3] [Inhabited Dd] [Inhabited Dn] [Inhabited OpV]

/-- The error of a key and a list of commits. -/
def errOf (key : ByteArray) (l : List ComV) : Nat × Option Nat := if nameB key = false then (4, none) else listErr l
theorem errAt_mono {A : Nat → Addr} {w w' : World} {v : Value} {er : Nat × Option Nat} {B : Nat} (h : ErrAt A w v er) (hb : Below B w w') (hB : w.heap.size ≤ B) : ErrAt A w' v er := by
  obtain ⟨k, o⟩ := er
  cases o with
  | none => exact h
  | some i =>
    obtain ⟨pb, h1, h2, h3⟩ := h
    exact ⟨pb, h1, by rw [hb.cell (Nat.lt_of_lt_of_le (lt_of_cell h2) hB)]; exact h2, by rw [hb.cell (Nat.lt_of_lt_of_le (lt_of_cell h3) hB)]; exact h3⟩
/-- An error: a pointer to one. -/
theorem errAt_ptr {A : Nat → Addr} {w : World} {v : Value} {k : Nat} {o : Option Nat} (h : ErrAt A w v (k + 1, o)) : ∃ t a, v = .iface t (.pointer (some a)) := by
  rcases errAt_some h with rfl | ⟨pb, rfl, _⟩
  · exact ⟨_, _, rfl⟩
  · exact ⟨_, _, rfl⟩
def OpsErr (A : Nat → Addr) (er : Nat × Option Nat) (w : World) (e : Ending) (w' : World) : Prop := ∃ t a, e = .returned (.tuple #[.slice none 0 0, .iface t (.pointer (some a))]) ∧ ErrAt A w' (.iface t (.pointer (some a))) er ∧ Below w.heap.size w w'
/-- CheckName of a key that is none. -/
theorem checkName_bad (A : Nat → Addr) (w : World) (hE : E5 A w) (key : ByteArray) (hk : nameB key = false) : Calls Tryz.prog 75 #[.string key] w fun e w' => e = .returned (.iface 255 (.pointer (some (A 3)))) ∧ w' = w := by
  have K32 := fun W => isName_any W key
  rw [hk] at K32
  have g1 := hE.e4.name
  go_enter Tryz.func75, Tryz.ntmps75
  go_wp2_with (go_at_call 93; refine (K32 _).mono ?_; rintro e w' ⟨rfl, rfl⟩)
  go_ret
  exact ⟨rfl, rfl⟩
set_option maxHeartbeats 2000000 in
theorem opsOn_err (A : Nat → Addr) (w : World) (hE : E5 A w) (key : ByteArray) (v : Value) (l : List ComV) (hv : ComsAt w v l) (hl : l.length ≤ 1000) (hsm : ∀ c ∈ l, SmallC c) (k : Nat) (hk : (errOf key l).1 = k + 1) :
    Calls Tryz.prog 76 #[.string key, v] w fun e w' => OpsErr A (errOf key l) w e w' := by
  have h13 := hE.size
  obtain ⟨a, n, cp, rfl⟩ : ∃ a n cp, v = .slice a n cp := by obtain ⟨a, cp, rfl, _⟩ := hv.shape; exact ⟨_, _, _, rfl⟩
  have b1 := below_alloc w (.cells #[.string key] 9)
  cases hn : nameB key with
  | false =>
    have he : errOf key l = (4, none) := if_pos hn
    rw [he]
    have K32 := checkName_bad A (w.alloc (.cells #[.string key] 9)) (hE.below b1 h13) key hn
    clear hk he hn hv hsm
    go_enter Tryz.func76, Tryz.ntmps76
    go_wp2_with (go_at_call 75; refine K32.mono ?_; rintro e w' ⟨rfl, rfl⟩)
    go_ret2
    exact ⟨_, _, rfl, rfl, b1⟩
  | true =>
    have he : errOf key l = listErr l := if_neg (by rw [hn]; decide)
    rw [he] at hk ⊢
    have K32 := fun W => checkName_ok W key hn
    have K53 := checkList_bad A (w.alloc (.cells #[.string key] 9)) (hE.below b1 h13) (.slice a n cp) l (hv.mono b1 (Nat.le_refl _)) (by omega) hsm hk
    have HL : Hid (∃ o, listErr l = (k + 1, o)) := ⟨(listErr l).2, by rw [← hk]⟩
    clear hk he hn hv hsm
    go_enter Tryz.func76, Tryz.ntmps76
    go_wp2_with (go_at_call 75; refine (K32 _).mono ?_; rintro e w' ⟨rfl, rfl⟩)
    refine K53.mono ?_
    rintro e w2 ⟨v2, rfl, h2, hb⟩
    obtain ⟨o, ho⟩ := HL.out
    have h2' := h2
    rw [ho] at h2'
    obtain ⟨t, ad, rfl⟩ := errAt_ptr h2'
    have H2 := hid h2
    have HB := hid (b1.trans (hb.mono (by simp)))
    clear h2 h2' hb K53 ho HL
    go_wp2
    go_ret2
    exact ⟨_, _, rfl, H2.out, HB.out⟩
def zeroV : Value := .agg #[.int .i64 0, .string ByteArray.empty, .int .i64 0, .slice none 0 0]
def OfErr (A : Nat → Addr) (er : Nat × Option Nat) (w : World) (e : Ending) (w' : World) : Prop := ∃ t a, e = .returned (.tuple #[zeroV, .iface t (.pointer (some a))]) ∧ ErrAt A w' (.iface t (.pointer (some a))) er ∧ Below w.heap.size w w'
theorem errAt_setCells {A : Nat → Addr} {w : World} {v : Value} {er : Nat × Option Nat} {g : Nat} {b c d : Value} {st : ByteArray} {t : TypeId} (h : ErrAt A w v er) (hg : w.heap[g]? = some (.cells #[b, .string st, c, d] t (0, 0))) (vs : List Value) : ErrAt A (w.setCells g 0 vs) v er := by
  obtain ⟨k, o⟩ := er
  cases o with
  | none => exact h
  | some i =>
    obtain ⟨pb, h1, h2, h3⟩ := h
    have hne : pb ≠ g := fun e => by
      rw [e] at h3
      simp only [World.cell?, hg] at h3
      cases k with
      | zero => simp [errV] at h3
      | succ k => simp [errV] at h3
    exact ⟨pb, h1, by rw [World.cell?_setCells_out _ _ _ _ _ (fun e => absurd e hne)]; exact h2, by rw [World.cell?_setCells_out _ _ _ _ _ (fun e => absurd e hne)]; exact h3⟩
set_option maxHeartbeats 2000000 in
theorem of_err (A : Nat → Addr) (w : World) (hE : E5 A w) (key : ByteArray) (v : Value) (l : List ComV) (hv : ComsAt w v l) (hl : l.length ≤ 1000) (hsm : ∀ c ∈ l, SmallC c) (k : Nat) (hk : (errOf key l).1 = k + 1) :
    Calls Tryz.prog 47 #[.string key, v] w fun e w' => OfErr A (errOf key l) w e w' := by
  have h13 := hE.size
  obtain ⟨a, n, cp, rfl⟩ : ∃ a n cp, v = .slice a n cp := by obtain ⟨a, cp, rfl, _⟩ := hv.shape; exact ⟨_, _, _, rfl⟩
  have K41 := fun o => opsOn_err A (w.alloc o) (hE.below (below_alloc w o) h13) key (.slice a n cp) l (hv.mono (below_alloc w o) (Nat.le_refl _)) hl hsm k hk
  clear hk hv hsm
  go_enter Tryz.func47, Tryz.ntmps47
  go_wp2_with fail
  refine (K41 _).mono ?_
  rintro e w2 ⟨t, ad, rfl, h2, hb⟩
  have hrow0 : w2.heap[w.heap.size]? = some (.cells #[.int .i64 0, .string ByteArray.empty, .int .i64 0, .slice none 0 0] 41 (0, 0)) := by
    rw [hb.block _ (by simp)]
    exact (MapKept.heap_alloc w _).1
  have B2 : Hid (Below w.heap.size w w2) := (below_alloc _ _).trans (hb.mono (by simp))
  have HR4 := hid (row4 hrow0)
  have HS4 := hid (set4 hrow0 [.int .i64 0, .string ByteArray.empty, .int .i64 0, .slice none 0 0] rfl)
  have HE2 := hid (errAt_setCells h2 hrow0 [.int .i64 0, .string ByteArray.empty, .int .i64 0, .slice none 0 0])
  clear hrow0 hb h2 K41
  go_wp2_with (refine wpList_store_k _ rfl (.tmp 4) (.tmp 24) 41 rfl w.heap.size 0 [.int .i64 0, .string ByteArray.empty, .int .i64 0, .slice none 0 0] rfl rfl 4 rfl Tryz.sizeOf41 rfl _ ?hW HR4.out.1 HR4.out.2 ?_; case hW => rfl)
  exact bodyPost_ret (ret_of _ _ w.heap.size _ _ _ _ _ rfl rfl HS4.out) rfl ⟨_, _, rfl, HE2.out, below_setCells (Nat.le_refl _) _ _ B2.out⟩
set_option maxHeartbeats 2000000 in
theorem dots_err (A : Nat → Addr) (w : World) (hE : E5 A w) (key text : ByteArray) (v : Value) (l : List ComV) (hv : ComsAt w v l) (hl : l.length ≤ 1000) (hsm : ∀ c ∈ l, SmallC c) (k : Nat) (hk : (errOf key l).1 = k + 1) :
    Calls Tryz.prog 61 #[.string key, .string text, v] w fun e w' => OpsErr A (errOf key l) w e w' := by
  obtain ⟨a, n, cp, rfl⟩ : ∃ a n cp, v = .slice a n cp := by obtain ⟨a, cp, rfl, _⟩ := hv.shape; exact ⟨_, _, _, rfl⟩
  have K41 := opsOn_err A w hE key (.slice a n cp) l hv hl hsm k hk
  clear hk hv hsm
  go_enter Tryz.func61, Tryz.ntmps61
  go_wp2_with fail
  refine K41.mono ?_
  rintro e w2 ⟨t, ad, rfl, h2, hb⟩
  have H2 := hid h2
  have HB := hid hb
  clear h2 hb K41
  go_wp2
  go_ret2
  exact ⟨_, _, rfl, H2.out, HB.out⟩

theorem StrsAt.len {w : World} {v : Value} {ss : List (List UInt8)} (h : StrsAt w v ss) : ∃ ad cap, v = .slice ad ss.length cap := by
  obtain ⟨ad, cap, rfl, _⟩ := h
  exact ⟨_, _, rfl⟩
theorem StrsAt.mono {w w' : World} {v : Value} {ss : List (List UInt8)} {B : Nat} (h : StrsAt w v ss) (hb : Below B w w') (hB : w.heap.size ≤ B) : StrsAt w' v ss := by
  obtain ⟨ad, cap, rfl, h⟩ := h
  refine ⟨ad, cap, rfl, ?_⟩
  rcases h with h | ⟨b, rfl, h⟩
  · exact .inl h
  · exact .inr ⟨b, rfl, fun t ht => by rw [hb.cell (Nat.lt_of_lt_of_le (lt_of_cell (h t ht)) hB)]; exact h t ht⟩
theorem encStr_shape (l : List UInt8) : ∃ s : ByteArray, encStr l = .string s := ⟨_, rfl⟩
set_option maxHeartbeats 1000000 in
/-- SameTexts of the same texts. -/
theorem sameTexts_same (w : World) (v v' : Value) (ss : List (List UInt8)) (h : StrsAt w v ss) (h' : StrsAt w v' ss) (hl : ss.length ≤ 1000000) :
    Calls Tryz.prog 18 #[v, v'] w fun e w' => e = .returned (.bool true) ∧ ∃ q, w' = w.drewN q := by
  obtain ⟨a1, c1, rfl, h⟩ := h
  obtain ⟨a2, c2, rfl, h'⟩ := h'
  obtain ⟨n, hn⟩ : ∃ n, n = ss.length := ⟨_, rfl⟩
  rw [← hn] at hl ⊢
  have HN := hid hn
  have H1 := hid h
  have H2 := hid h'
  have bn : ((n : Int) != (n : Int)) = false := by simp
  clear hn h h'
  go_enter Tryz.func18, Tryz.ntmps18
  go_wp2
  go_loopw [5] (fun i wr => ∃ k : Nat, k ≤ n ∧ i = .int .i64 k ∧ Hid (∃ q, wr = w.drewN q)) (fun i _ => n - (intOf i).toNat)
  case atStart => exact ⟨0, Nat.zero_le _, rfl, 0, rfl⟩
  case round =>
    obtain ⟨k, hk, rfl, HQ⟩ := hrel
    by_cases hlt : k < n
    · obtain ⟨b1, rfl, g1⟩ := H1.out.resolve_left (fun h => by have := HN.out; rw [h] at this; simp at this; omega)
      obtain ⟨b2, rfl, g2⟩ := H2.out.resolve_left (fun h => by have := HN.out; rw [h] at this; simp at this; omega)
      have e1 : wr.cell? ⟨b1, k, none⟩ = some (encStr ss[k]!) := by obtain ⟨q, hq⟩ := HQ.out; rw [hq]; exact g1 k (by have := HN.out; omega)
      have e2 : wr.cell? ⟨b2, k, none⟩ = some (encStr ss[k]!) := by obtain ⟨q, hq⟩ := HQ.out; rw [hq]; exact g2 k (by have := HN.out; omega)
      obtain ⟨s, hs⟩ := encStr_shape ss[k]!
      rw [hs] at e1 e2
      clear hs g1 g2
      go_upto_region 6 with (fail)
      go_quiet (fail)
      go_wp2
      go_roundw
      case rel => exact ⟨k + 1, by omega, by go_num, by obtain ⟨q, hq⟩ := HQ.out; exact ⟨_, by rw [hq]; exact World.drewN_drewN _ _ _⟩⟩
      case measure => simp [intOf]; omega
    · obtain rfl : k = n := by omega
      go_wp2
      go_ret
      exact ⟨rfl, HQ.out⟩
end Go.Proofs.YtdnebclemngdcaaGreatDoor
namespace Go.Proofs.YtdnebclemngdcaaGreatDoor
open Go.RowKit Go.Sort Go.Maps
set_option maxRecDepth 100000
set_option linter.unusedSectionVars false
variable [Inhabited ComV] [DecidableEq D3] [Inhabited D3] [Inhabited Dd] [Inhabited Dn] [Inhabited OpV]

theorem errOf_zero {key : ByteArray} {l : List ComV} (h : (errOf key l).1 = 0) : nameB key = true ∧ ∀ i, i < l.length → listBad l i = 0 := by
  unfold errOf at h
  cases hn : nameB key with
  | false => rw [if_pos hn] at h; cases h
  | true =>
    rw [if_neg (by rw [hn]; decide)] at h
    exact ⟨rfl, scan_zero h⟩
theorem small_of_light {l : List ComV} (h : heavyL l = false) : ∀ c ∈ l, SmallC c := fun c hc => by
  obtain ⟨_, h2⟩ := light h
  have := h2 c hc
  exact ⟨by omega, by omega, fun o ho => ⟨by have := (this.2.2 o ho).2.1; omega, by have := (this.2.2 o ho).2.2; omega⟩⟩
set_option maxHeartbeats 1000000 in
theorem sameValue_same (w : World) (k : Int) (t : ByteArray) (n : Int) (v v' : Value) (ss : List (List UInt8)) (h : StrsAt w v ss) (h' : StrsAt w v' ss) (hl : ss.length ≤ 1000000) :
    Calls Tryz.prog 17 #[.agg #[.int .i64 k, .string t, .int .i64 n, v], .agg #[.int .i64 k, .string t, .int .i64 n, v']] w fun e w' => e = .returned (.bool true) ∧ Below w.heap.size w w' := by
  have hb := below2 w (.cells #[.int .i64 k, .string t, .int .i64 n, v] 41) (.cells #[.int .i64 k, .string t, .int .i64 n, v'] 41)
  have K29 := sameTexts_same _ v v' ss (h.mono hb (Nat.le_refl _)) (h'.mono hb (Nat.le_refl _)) hl
  obtain ⟨a1, c1, rfl⟩ := h.len
  obtain ⟨a2, c2, rfl⟩ := h'.len
  obtain ⟨m, hm⟩ : ∃ m, m = ss.length := ⟨_, rfl⟩
  rw [← hm] at K29 hb ⊢
  have HB := hid hb
  clear h h' hm hb
  go_enter Tryz.func17, Tryz.ntmps17
  go_wp2_with fail
  refine K29.mono ?_
  rintro e w2 ⟨rfl, q, rfl⟩
  clear K29
  go_wp2
  go_ret
  exact ⟨rfl, below_draws HB.out q⟩
/-- Index of a text: 0 or more if it is there. -/
def IdxRet (ss : List (List UInt8)) (t : ByteArray) (w : World) (e : Ending) (w' : World) : Prop := ∃ i : Int, e = .returned (.int .i64 i) ∧ decide (0 ≤ i) = decide (t.data.toList ∈ ss) ∧ w' = w
theorem encStr_eq {l : List UInt8} {s : ByteArray} (h : encStr l = .string s) : s.data.toList = l := by
  have h2 : encStr l = .string ⟨l.toArray⟩ := rfl
  rw [h2] at h
  injection h with h
  rw [← h]
/-- A row out of a literal. -/
theorem rowT_lit {w : World} {b cap k : Nat} {t : TypeId} {rows : List (List Value)} {cs : Array Value} (h : w.heap[b]? = some (.cells cs t (0, 0))) (hf : cs.toList = rows.flatten) (hk : ∀ r ∈ rows, r.length = k) (hc : rows.length ≤ cap) : RowT t k w (.slice (some ⟨b, 0, none⟩) rows.length cap) rows := by
  refine ⟨_, cap, rfl, (fun h => by cases h), hc, .inr ⟨b, 0, cs, rfl, h, fun j r hr => ?_⟩⟩
  have hrm : r ∈ rows := List.mem_of_getElem? hr
  refine ⟨hk r hrm, fun i u hu => ?_⟩
  have hi : i < k := by have := (List.getElem?_eq_some_iff.1 hu).1; rw [hk r hrm] at this; exact this
  have hfl : ∀ (rows : List (List Value)) (j : Nat) (r : List Value), (∀ r ∈ rows, r.length = k) → rows[j]? = some r → ∀ i u, i < k → r[i]? = some u → rows.flatten[j * k + i]? = some u := by
    intro rows
    induction rows with
    | nil => intro j r _ h; simp at h
    | cons x rest ih =>
      intro j r hk h i u hi hu
      have hx := hk x (List.mem_cons_self ..)
      rw [List.flatten_cons]
      cases j with
      | zero =>
        simp at h
        subst h
        rw [List.getElem?_append_left (by omega), Nat.zero_mul, Nat.zero_add]
        exact hu
      | succ j =>
        rw [List.getElem?_append_right (by rw [hx, Nat.add_mul]; omega), hx, show (j + 1) * k + i - k = j * k + i by rw [Nat.add_mul]; omega]
        exact ih j r (fun r hr => hk r (List.mem_cons_of_mem _ hr)) (by simpa using h) i u hi hu
  have e := hfl rows j r hk hr i u hi hu
  rw [← hf, Array.getElem?_toList] at e
  rw [Nat.zero_add]
  exact e
end Go.Proofs.YtdnebclemngdcaaGreatDoor
