/- Verdicts of judge by their contracts: ofPlaces, wholeCommit, forward, pairOfVectors, likeFirst. -/
import Derived.Test.YtngjooemanapnaaGreatDoorJVHeavy
import Derived.Test.YtngjooemanapnaaGreatDoorJVErr
import Derived.Test.YtngjooemanapnaaGreatDoorJVMap
import Derived.Laws.EntriesVeiled
namespace Go.Proofs.YtngjooemanapnaaGreatDoor
open Go.RowKit Go.Maps Go.Shelf
set_option maxRecDepth 100000
set_option linter.unusedSectionVars false
variable [Inhabited ComV] [DecidableEq D3] [Inhabited D3] [Inhabited Dd] [Inhabited Dn] [Inhabited OpV]

/-- What a verdict hands back. -/
def VdRet (A : Nat → Addr) (k : Nat) (w : World) (r : Ending) (w' : World) : Prop := r = .returned (errV A k) ∧ Below w.heap.size w w'
theorem evAt_shape {w : World} {e : EvV} {av wv ov : Value} (he : EvAt w e av wv ov) : ∃ aa ac wa wc oa oc, av = .slice aa e.at_.length ac ∧ wv = .slice wa e.c.when_.length wc ∧ ov = .slice oa e.c.ops.length oc := by
  obtain ⟨aa, ac, h1⟩ := he.at_.slice
  obtain ⟨wa, wc, h2⟩ := he.when_.slice
  obtain ⟨oa, oc, h3, _⟩ := he.ops.shape
  exact ⟨_, _, _, _, _, _, h1, h2, h3⟩
def ofPB (n : Int) (e : EvV) : Bool := oneB n e.at_ && (oneB n e.c.when_ && (decide (0 ≤ e.place) && decide (e.place < n)))
set_option maxHeartbeats 4000000 in
theorem ofP_any (A : Nat → Addr) (w : World) (hE : E4 A w) (hs : 12 ≤ w.heap.size) (ib pb : Nat) (n : Int) (hi : w.cell? ⟨ib, 0, none⟩ = some (.func (.func 38) #[] #[.pointer (some ⟨pb, 0, none⟩)])) (hp : w.cell? ⟨pb, 0, none⟩ = some (.int .i64 n)) (e : EvV) (av rv wv ov : Value) (he : EvAt w e av wv ov) (hr : ∃ a n c, rv = .slice a n c) (hz : e.at_.length ≤ 1000000) (hy : e.c.when_.length ≤ 1000000) :
    Calls Tryz.prog 40 #[.agg (evCells e av rv wv ov).toArray, .pointer (some ⟨ib, 0, none⟩), .pointer (some ⟨pb, 0, none⟩)] w (VdRet A (if ofPB n e = false then 3 else 0) w) := by
  have g2 := fun o => cell_alloc hE.shape o
  have hi' := fun o => cell_alloc hi o
  have hp' := fun o => cell_alloc hp o
  have K1 : ∀ o, Hid (Calls Tryz.prog 38 #[av, .pointer (some ⟨pb, 0, none⟩)] (w.alloc o) fun r w' => r = .returned (.bool (oneB n e.at_)) ∧ w' = w.alloc o) := fun o => hid (isOne_any A (w.alloc o) (hE.below (below_alloc _ _) hs) pb n (cell_alloc hp o) av _ (he.at_.mono (below_alloc _ _) (Nat.le_refl _)) hz)
  have K2 : ∀ o, Hid (Calls Tryz.prog 38 #[wv, .pointer (some ⟨pb, 0, none⟩)] (w.alloc o) fun r w' => r = .returned (.bool (oneB n e.c.when_)) ∧ w' = w.alloc o) := fun o => hid (isOne_any A (w.alloc o) (hE.below (below_alloc _ _) hs) pb n (cell_alloc hp o) wv _ (he.when_.mono (below_alloc _ _) (Nat.le_refl _)) hy)
  obtain ⟨aa, ac, wa, wc, oa, oc, rfl, rfl, rfl⟩ := evAt_shape he
  obtain ⟨ra, rn, rc, rfl⟩ := hr
  unfold ofPB
  have hb := fun o => below_alloc w o
  have hne : ib ≠ w.heap.size := by have := lt_of_cell hi; simp only at this; omega
  have hne2 : pb ≠ w.heap.size := by have := lt_of_cell hp; simp only at this; omega
  obtain ⟨q1, hq1⟩ : ∃ q, q = oneB n e.at_ := ⟨_, rfl⟩
  obtain ⟨q2, hq2⟩ : ∃ q, q = oneB n e.c.when_ := ⟨_, rfl⟩
  rw [← hq1] at K1 ⊢
  rw [← hq2] at K2 ⊢
  obtain ⟨x, hx⟩ : ∃ x, x = e.place := ⟨_, rfl⟩
  unfold evCells
  rw [← hx]
  have HX := hid hx
  clear he hq1 hq2 hi hp hE hx
  cases q1 with
  | false =>
    go_enter Tryz.func40, Tryz.ntmps40
    go_wp2_with fail
    refine (K1 _).out.mono ?_
    rintro e w' ⟨rfl, hw'⟩
    rw [hw']
    clear hw'
    go_wp2
    go_ret
    exact ⟨rfl, hb _⟩
  | true =>
    cases q2 with
    | false =>
      go_enter Tryz.func40, Tryz.ntmps40
      go_wp2_with fail
      refine (K1 _).out.mono ?_
      rintro e w' ⟨rfl, hw'⟩
      rw [hw']
      clear hw'
      go_wp2_with fail
      refine (K2 _).out.mono ?_
      rintro e w' ⟨rfl, hw'⟩
      rw [hw']
      clear hw'
      go_wp2
      go_ret
      exact ⟨rfl, hb _⟩
    | true =>
      by_cases h0 : x < 0
      · have hd : decide (0 ≤ x) = false := decide_eq_false (by omega)
        rw [hd]
        go_enter Tryz.func40, Tryz.ntmps40
        go_wp2_with fail
        refine (K1 _).out.mono ?_
        rintro e w' ⟨rfl, hw'⟩
        rw [hw']
        clear hw'
        go_wp2_with fail
        refine (K2 _).out.mono ?_
        rintro e w' ⟨rfl, hw'⟩
        rw [hw']
        clear hw'
        go_wp2
        go_ret
        exact ⟨rfl, hb _⟩
      · have hd : decide (0 ≤ x) = true := decide_eq_true (by omega)
        rw [hd]
        by_cases h1 : n ≤ x
        · have hd2 : decide (x < n) = false := decide_eq_false (by omega)
          rw [hd2]
          clear hd hd2
          go_enter Tryz.func40, Tryz.ntmps40
          go_wp2_with fail
          refine (K1 _).out.mono ?_
          rintro e w' ⟨rfl, hw'⟩
          rw [hw']
          clear hw'
          go_wp2_with fail
          refine (K2 _).out.mono ?_
          rintro e w' ⟨rfl, hw'⟩
          rw [hw']
          clear hw'
          go_wp2
          go_ret
          exact ⟨rfl, hb _⟩
        · have hd2 : decide (x < n) = true := decide_eq_true (by omega)
          rw [hd2]
          clear hd hd2
          go_enter Tryz.func40, Tryz.ntmps40
          go_wp2_with fail
          refine (K1 _).out.mono ?_
          rintro e w' ⟨rfl, hw'⟩
          rw [hw']
          clear hw'
          go_wp2_with fail
          refine (K2 _).out.mono ?_
          rintro e w' ⟨rfl, hw'⟩
          rw [hw']
          clear hw'
          go_wp2
          go_ret
          exact ⟨rfl, hb _⟩
/-- ofPlaces: where its closure finds what it wants. -/
def OfPAt (w : World) (v : Value) (n : Int) : Prop := ∃ ib pb, v = .func (.func 40) #[] #[.pointer (some ⟨ib, 0, none⟩), .pointer (some ⟨pb, 0, none⟩)] ∧ w.cell? ⟨ib, 0, none⟩ = some (.func (.func 38) #[] #[.pointer (some ⟨pb, 0, none⟩)]) ∧ w.cell? ⟨pb, 0, none⟩ = some (.int .i64 n)
theorem ofPlaces_any (w : World) (n : Int) : Calls Tryz.prog 20 #[.int .i64 n] w fun r w' => ∃ v, r = .returned v ∧ OfPAt w' v n ∧ Below w.heap.size w w' := by
  go_enter Tryz.func20, Tryz.ntmps20
  go_wp2
  go_ret
  refine ⟨_, rfl, ⟨_, _, rfl, ?_, ?_⟩, below2 _ _ _⟩
  · exact (World.cell?_alloc_at _ _ _ _ (by simp)).trans rfl
  · exact cell_alloc ((World.cell?_alloc_at _ _ _ _ rfl).trans rfl) _
theorem without_nil (w : World) : Calls Tryz.prog 42 #[.nilIface] w fun e w' => e = .returned .nilIface ∧ Below w.heap.size w w' := by
  go_enter Tryz.func42, Tryz.ntmps42
  go_wp2_with (go_at_call 36; refine (as_nil _ _).mono ?_; rintro e w' ⟨rfl, rfl⟩)
  go_ret
  refine ⟨rfl, ?_⟩
  go_grown
/-- WithoutPlace of whatever error. -/
theorem without_any (A : Nat → Addr) (w : World) (hE : E5 A w) (v : Value) (er : Nat × Option Nat) (hv : ErrAt A w v er) (h0 : er.1 = 0 → er.2 = none) : Calls Tryz.prog 42 #[v] w (VdRet A er.1 w) := by
  obtain ⟨k, o⟩ := er
  simp only at h0 ⊢
  cases o with
  | none =>
    have hv : v = errV A k := hv
    subst hv
    cases k with
    | zero => exact without_nil w
    | succ k => exact without_sent w _ hE.handle
  | some i =>
    obtain ⟨pb, rfl, c0, c1⟩ := hv
    cases k with
    | zero => exact absurd (h0 rfl) (by simp)
    | succ k => exact without_fault w pb _ hE.handle c1
theorem comErr_bare {c : ComV} (h : (comErr c).1 = 0) : (comErr c).2 = none := by rw [comErr_zero h]
set_option maxHeartbeats 2000000 in
theorem wholeC_any (A : Nat → Addr) (w : World) (hE : E5 A w) (e : EvV) (av rv wv ov : Value) (he : EvAt w e av wv ov) (hr : ∃ a n c, rv = .slice a n c) (hsm : SmallC e.c) :
    Calls Tryz.prog 21 #[.agg (evCells e av rv wv ov).toArray] w (VdRet A (if e.c.ops = [] then 0 else (comErr e.c).1) w) := by
  have h13 := hE.size
  obtain ⟨o0, ho0⟩ : ∃ o0, o0 = Obj.cells (evCells e av rv wv ov).toArray 69 := ⟨_, rfl⟩
  obtain ⟨aa, ac, wa, wc, oa, oc, rfl, rfl, rfl⟩ := evAt_shape he
  obtain ⟨ra, rn, rc, rfl⟩ := hr
  have KW := fun W => hid (wrote_any W e aa ra wa oa e.at_.length ac rn rc e.c.when_.length wc oc hsm.2.1)
  by_cases h : e.c.ops = []
  · rw [if_pos h]
    rw [decide_eq_false (fun x => x h)] at KW
    obtain ⟨a1, a2, a3, a4, ⟨a5, a6, a7⟩⟩ := e
    unfold evCells
    simp only at h KW
    subst h
    clear ho0 he hsm
    go_enter Tryz.func21, Tryz.ntmps21
    go_wp2_with (go_at_call 41; refine (KW _).out.mono ?_; rintro e w' ⟨rfl, hb⟩; have HB := hid hb; clear hb)
    go_ret
    exact ⟨rfl, (below_alloc _ _).trans (HB.out.mono (by simp))⟩
  · rw [if_neg h]
    rw [decide_eq_true h] at KW
    have K43 := fun W (hW : Below w.heap.size w W) => checkCommit A W (hE.e4.below hW (by omega)) (by have := hW.size; omega) e.c _ _ (he.when_.mono hW (Nat.le_refl _)) (he.ops.mono hW (Nat.le_refl _)) hsm.1 hsm.2.1 hsm.2.2
    have K42 := fun W v (hW : Below w.heap.size w W) hv => without_any A W (hE.below hW h13) v (comErr e.c) hv comErr_bare
    have HKC := hid K43
    have HKW := hid K42
    obtain ⟨er, her⟩ : ∃ er, er = comErr e.c := ⟨_, rfl⟩
    rw [← her] at HKC HKW ⊢
    obtain ⟨a1, a2, a3, a4, ⟨a5, a6, a7⟩⟩ := e
    unfold evCells at ho0 ⊢
    simp only at h KW HKC HKW ho0 ⊢
    clear her he hsm K43 K42
    go_enter Tryz.func21, Tryz.ntmps21
    go_wp2_with fail
    refine (KW _).out.mono ?_
    rintro e w2 ⟨rfl, hb⟩
    have hb2 : Below w.heap.size w w2 := (below_alloc _ _).trans (hb.mono (by simp))
    have hx : w2.heap[w.heap.size]? = some (.cells #[.int .i64 a1, .int .i64 a2, .slice aa a3.length ac, .slice ra rn rc, .slice wa a5.length wc, .int .i64 a6, .slice oa a7.length oc] 69 (0, 0)) := by
      rw [hb.block _ (by simp)]
      exact (MapKept.heap_alloc w _).1
    have c4 : w2.cell? ⟨w.heap.size, 4, none⟩ = some (.slice wa a5.length wc) := by simp only [World.cell?, hx]; rfl
    have c5 : w2.cell? ⟨w.heap.size, 5, none⟩ = some (.int .i64 a6) := by simp only [World.cell?, hx]; rfl
    have c6 : w2.cell? ⟨w.heap.size, 6, none⟩ = some (.slice oa a7.length oc) := by simp only [World.cell?, hx]; rfl
    have B2 := hid hb2
    clear hb hb2 hx KW ho0
    go_wp2_with fail
    refine (HKC.out _ B2.out).mono ?_
    rintro e w3 ⟨v, rfl, hv, hb3⟩
    have B3 : Hid (Below w.heap.size w w3) := hid (B2.out.trans (hb3.mono B2.out.size))
    have HV := hid hv
    clear hb3 hv c4 c5 c6 HKC
    go_wp2_with fail
    refine (HKW.out _ _ B3.out HV.out).mono ?_
    rintro e w4 ⟨rfl, hb4⟩
    have B4 : Hid (Below w.heap.size w w4) := hid (B3.out.trans (hb4.mono B3.out.size))
    clear hb4 HKW
    go_wp2
    go_ret
    exact ⟨rfl, B4.out⟩
set_option maxHeartbeats 2000000 in
theorem forwardV_any (A : Nat → Addr) (w : World) (hE : E4 A w) (hs : 12 ≤ w.heap.size) (e : EvV) (av rv wv ov : Value) (he : EvAt w e av wv ov) (hz : e.at_.length ≤ 1000000) (hy : e.c.when_.length ≤ 1000000) :
    Calls Tryz.prog 22 #[.agg (evCells e av rv wv ov).toArray] w (VdRet A (if inB e.at_ e.c.when_ = false then 2 else 0) w) := by
  refine (forward_any A w hE hs e av rv wv ov he hz hy).mono ?_
  rintro r w' ⟨rfl, hb⟩
  refine ⟨?_, hb⟩
  cases inB e.at_ e.c.when_ <;> rfl
set_option maxHeartbeats 2000000 in
theorem pairV_any (A : Nat → Addr) (w : World) (hE : E4 A w) (hs : 12 ≤ w.heap.size) (e : EvV) (av rv wv ov : Value) (he : EvAt w e av wv ov) (hr : ∃ a n c, rv = .slice a n c) (hz : e.at_.length ≤ 1000000) (hy : e.c.when_.length ≤ 1000000) :
    Calls Tryz.prog 33 #[.agg (evCells e av rv wv ov).toArray] w (VdRet A (two e.c.when_ e.at_).toNat w) := by
  have hb := fun o => below_alloc w o
  have h1 := fun o => he.when_.mono (below_alloc w o) (Nat.le_refl _)
  have h2 := fun o => he.at_.mono (below_alloc w o) (Nat.le_refl _)
  obtain ⟨aa, ac, wa, wc, oa, oc, rfl, rfl, rfl⟩ := evAt_shape he
  obtain ⟨ra, rn, rc, rfl⟩ := hr
  by_cases h : two e.c.when_ e.at_ = 0
  · have K := fun o => hid (Within_ok A (w.alloc o) (hE.below (below_alloc _ _) hs) _ _ _ _ (h1 o) (h2 o) h)
    have e0 : (two e.c.when_ e.at_).toNat = 0 := by rw [h]; rfl
    rw [e0]
    obtain ⟨q, hq⟩ : ∃ q, q = leB e.c.when_ e.at_ := ⟨_, rfl⟩
    rw [← hq] at K
    unfold evCells
    clear hq h h1 h2 he e0 hE
    go_enter Tryz.func33, Tryz.ntmps33
    go_wp2_with fail
    refine (K _).out.mono ?_
    rintro r w' ⟨rfl, n, rfl⟩
    go_wp2
    go_ret
    exact ⟨rfl, below_draws (hb _) n⟩
  · have K := fun o => hid (Within_bad A (w.alloc o) (hE.below (below_alloc _ _) hs) _ _ _ _ (h1 o) (h2 o) hy hz h)
    obtain ⟨k, hk⟩ : ∃ k, (two e.c.when_ e.at_).toNat = k + 1 := ⟨(two e.c.when_ e.at_).toNat - 1, by have := (two_toNat e.c.when_ e.at_); omega⟩
    rw [hk] at K ⊢
    unfold evCells
    clear hk h h1 h2 he hE
    go_enter Tryz.func33, Tryz.ntmps33
    go_wp2_with fail
    refine (K _).out.mono ?_
    rintro r w' ⟨rfl, hw'⟩
    rw [hw']
    clear hw'
    go_wp2
    go_ret
    exact ⟨rfl, hb _⟩
set_option maxHeartbeats 2000000 in
theorem like_any (A : Nat → Addr) (w : World) (hE : E4 A w) (lb b off n c : Nat) (aa0 : Option Addr) (n0 c0 : Nat) (hn : 0 < n) (hlb : w.cell? ⟨lb, 0, none⟩ = some (.slice (some ⟨b, off, none⟩) n c)) (h0 : w.cell? ⟨b, off + 2, none⟩ = some (.slice aa0 n0 c0)) (e : EvV) (av rv wv ov : Value) (he : EvAt w e av wv ov) (hr : ∃ a n c, rv = .slice a n c) (hz0 : n0 ≤ 1000000) :
    Calls Tryz.prog 60 #[.agg (evCells e av rv wv ov).toArray, .pointer (some ⟨lb, 0, none⟩)] w (VdRet A (if e.at_.length ≠ n0 then 3 else 0) w) := by
  have hb := fun o => below_alloc w o
  obtain ⟨aa, ac, wa, wc, oa, oc, rfl, rfl, rfl⟩ := evAt_shape he
  obtain ⟨ra, rn, rc, rfl⟩ := hr
  obtain ⟨m, hm⟩ : ∃ m, m = e.at_.length := ⟨_, rfl⟩
  have g2 := hE.shape
  unfold evCells
  rw [← hm]
  have hlb' := fun o => cell_alloc hlb o
  have h0' := fun o => cell_alloc h0 o
  have g2' := fun o => cell_alloc g2 o
  have hnz : (0 : Int) < (n : Int) := by omega
  clear he hm hlb h0 g2 hE
  by_cases h : m = n0
  · subst h
    rw [if_neg (by simp)]
    have bn : ((m : Int) != (m : Int)) = false := by simp
    go_enter Tryz.func60, Tryz.ntmps60
    go_upto_region 1 with (fail)
    go_region
    go_wp2
    go_ret
    refine ⟨rfl, ?_⟩
    go_grown
  · rw [if_pos h]
    have bn : ((m : Int) != (n0 : Int)) = true := by simp; omega
    go_enter Tryz.func60, Tryz.ntmps60
    go_upto_region 1 with (fail)
    go_region
    go_wp2
    go_ret
    refine ⟨rfl, ?_⟩
    go_grown
end Go.Proofs.YtngjooemanapnaaGreatDoor
