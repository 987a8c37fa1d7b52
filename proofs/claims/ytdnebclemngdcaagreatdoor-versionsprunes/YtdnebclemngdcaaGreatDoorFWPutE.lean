/- Put of what may not be put: an error that is not nil; nothing turns; Put of a commit of which an op is there. -/
import Derived.Test.YtdnebclemngdcaaGreatDoorFWPut
import Derived.Test.YtdnebclemngdcaaGreatDoorFWSeen
namespace Go.Proofs.YtdnebclemngdcaaGreatDoor
open Go.RowKit Go.Sort Go.Maps
set_option maxRecDepth 100000
set_option linter.unusedSectionVars false
variable [Inhabited ComV] [DecidableEq D3] [Inhabited D3] [Inhabited Dd] [Inhabited Dn] [Inhabited OpV]

def PutBad (w : World) (e : Ending) (w' : World) : Prop := ∃ t u, e = .returned (.iface t u) ∧ Below w.heap.size w w'
theorem err_iface {A : Nat → Addr} {w : World} {v : Value} {er : Nat × Option Nat} (h : ErrAt A w v er) (h0 : er.1 ≠ 0) : ∃ t u, v = .iface t u := by
  obtain ⟨k, o⟩ := er
  cases o with
  | none =>
    have e : v = errV A k := h
    cases k with
    | zero => exact absurd rfl h0
    | succ k => exact ⟨_, _, e⟩
  | some i =>
    obtain ⟨pb, e, _⟩ := h
    exact ⟨_, _, e⟩
set_option maxHeartbeats 2000000 in
theorem put_com (A : Nat → Addr) (w : World) (hE : E4 A w) (h12 : 12 ≤ w.heap.size) (p : Nat) (c : ComV) (wv ov : Value) (hw : IntsAt w wv c.when_) (ho : OpsAt w ov c.ops) (hwl : c.when_.length ≤ 1000000) (hol : c.ops.length ≤ 1000000) (hsm : ∀ o ∈ c.ops, Small o) (hc : (comErr c).1 ≠ 0) :
    Calls Tryz.prog 9 #[.pointer (some ⟨p, 0, none⟩), .agg #[wv, .int .i64 c.place, ov]] w fun e w' => PutBad w e w' := by
  obtain ⟨w1, hw1⟩ : ∃ w1, w1 = w.alloc (.cells #[wv, .int .i64 c.place, ov] 34) := ⟨_, rfl⟩
  have hb1 : Below w.heap.size w w1 := by rw [hw1]; exact below_alloc _ _
  have K := checkCommit A w1 (hE.below hb1 h12) (by have := hb1.size; omega) c wv ov (hw.mono hb1 (Nat.le_refl _)) (ho.mono hb1 (Nat.le_refl _)) hwl hol hsm
  unfold ComRet at K
  obtain ⟨a1, c1, rfl⟩ := hw.slice
  obtain ⟨a2, c2, rfl, _⟩ := ho.shape
  obtain ⟨n1, hn1⟩ : ∃ n1, n1 = c.when_.length := ⟨_, rfl⟩
  obtain ⟨n2, hn2⟩ : ∃ n2, n2 = c.ops.length := ⟨_, rfl⟩
  obtain ⟨pl, hpl⟩ : ∃ pl, pl = c.place := ⟨_, rfl⟩
  rw [← hn1, ← hn2, ← hpl] at K hw1 ⊢
  have HC := hid hc
  have B1 := hid hb1
  replace K := hid K
  have x1 : w1.heap[w.heap.size]? = some (.cells #[.slice a1 n1 c1, .int .i64 pl, .slice a2 n2 c2] 34 (0, 0)) := by rw [hw1]; exact (MapKept.heap_alloc _ _).1
  have d0 : w1.cell? ⟨w.heap.size, 0, none⟩ = some (.slice a1 n1 c1) := by simp only [World.cell?, x1]; rfl
  have d1 : w1.cell? ⟨w.heap.size, 1, none⟩ = some (.int .i64 pl) := by simp only [World.cell?, x1]; rfl
  have d2 : w1.cell? ⟨w.heap.size, 2, none⟩ = some (.slice a2 n2 c2) := by simp only [World.cell?, x1]; rfl
  clear hw ho hsm hc hn1 hn2 hpl hE hb1 x1
  go_enter Tryz.func9, Tryz.ntmps9
  go_wp2_with fail
  rw [← hw1]
  refine K.out.mono ?_
  rintro e w2 ⟨v2, rfl, hv2, hb2⟩
  obtain ⟨t, u, rfl⟩ := err_iface hv2 HC.out
  have B2 := hid (B1.out.trans (hb2.mono B1.out.size))
  clear hv2 hb2 hw1 d0 d1 d2
  go_wp2_with fail
  first
    | (go_ret; exact ⟨_, _, rfl, B2.out⟩)
    | (go_region; go_wp2; go_ret; exact ⟨_, _, rfl, B2.out.drew⟩)
theorem nil_of_errB {A : Nat → Addr} {w : World} {v : Value} (h : ErrAt A w v (0, none)) : v = .nilIface := h
set_option maxHeartbeats 2000000 in
theorem put_vec (A : Nat → Addr) (w : World) (hE : E4 A w) (h12 : 12 ≤ w.heap.size) (p mb db n : Nat) (f : ByteArray → Value) (s : St) (hV : VerAt w p mb db f s n) (c : ComV) (wv ov : Value) (hw : IntsAt w wv c.when_) (ho : OpsAt w ov c.ops) (hwl : c.when_.length ≤ 1000000) (hol : c.ops.length ≤ 1000000) (hsm : ∀ o ∈ c.ops, Small o) (hc : comErr c = (0, none)) (hne : c.when_.length ≠ s.base.length) :
    Calls Tryz.prog 9 #[.pointer (some ⟨p, 0, none⟩), .agg #[wv, .int .i64 c.place, ov]] w fun e w' => PutBad w e w' := by
  obtain ⟨w1, hw1⟩ : ∃ w1, w1 = w.alloc (.cells #[wv, .int .i64 c.place, ov] 34) := ⟨_, rfl⟩
  have hb1 : Below w.heap.size w w1 := by rw [hw1]; exact below_alloc _ _
  have K := checkCommit A w1 (hE.below hb1 h12) (by have := hb1.size; omega) c wv ov (hw.mono hb1 (Nat.le_refl _)) (ho.mono hb1 (Nat.le_refl _)) hwl hol hsm
  unfold ComRet at K
  rw [hc] at K
  have K37 := hid (fun W (hW : Below w.heap.size w W) => by
    obtain ⟨ba, bc, _, _, _, hbt, hpx⟩ := (hV.moved hW).boxAt
    exact checkVector_bad A W (hE.below hW h12) p _ s.base _ _ hpx hbt.at wv c.when_ (hw.mono hW (Nat.le_refl _)) hwl (fun h => hne h.2))
  obtain ⟨a1, c1, rfl⟩ := hw.slice
  obtain ⟨a2, c2, rfl, _⟩ := ho.shape
  obtain ⟨n1, hn1⟩ : ∃ n1, n1 = c.when_.length := ⟨_, rfl⟩
  obtain ⟨n2, hn2⟩ : ∃ n2, n2 = c.ops.length := ⟨_, rfl⟩
  obtain ⟨pl, hpl⟩ : ∃ pl, pl = c.place := ⟨_, rfl⟩
  rw [← hn1, ← hn2, ← hpl] at K hw1 ⊢
  rw [← hn1] at K37
  have B1 := hid hb1
  replace K := hid K
  have x1 : w1.heap[w.heap.size]? = some (.cells #[.slice a1 n1 c1, .int .i64 pl, .slice a2 n2 c2] 34 (0, 0)) := by rw [hw1]; exact (MapKept.heap_alloc _ _).1
  have X1 := hid x1
  have d0 : w1.cell? ⟨w.heap.size, 0, none⟩ = some (.slice a1 n1 c1) := by simp only [World.cell?, x1]; rfl
  have d1 : w1.cell? ⟨w.heap.size, 1, none⟩ = some (.int .i64 pl) := by simp only [World.cell?, x1]; rfl
  have d2 : w1.cell? ⟨w.heap.size, 2, none⟩ = some (.slice a2 n2 c2) := by simp only [World.cell?, x1]; rfl
  clear hw ho hsm hc hn1 hn2 hpl hE hb1 x1 hV hne
  go_enter Tryz.func9, Tryz.ntmps9
  go_wp2_with fail
  rw [← hw1]
  refine K.out.mono ?_
  rintro e w2 ⟨v2, rfl, hv2, hb2⟩
  obtain rfl := nil_of_errB hv2
  have B2 := hid (B1.out.trans (hb2.mono B1.out.size))
  have x2 : w2.heap[w.heap.size]? = some (.cells #[.slice a1 n1 c1, .int .i64 pl, .slice a2 n2 c2] 34 (0, 0)) := (hb2.block _ (lt_of_heap X1.out)).trans X1.out
  have f0 : w2.cell? ⟨w.heap.size, 0, none⟩ = some (.slice a1 n1 c1) := by simp only [World.cell?, x2]; rfl
  clear hv2 hb2 hw1 d0 d1 d2 x2
  go_wp2_with fail
  refine (K37.out w2 B2.out).mono ?_
  rintro e w3 ⟨⟨k, rfl⟩, hw3⟩
  rw [hw3]
  clear hw3
  go_wp2_with fail
  first
    | (go_ret; exact ⟨_, _, rfl, B2.out⟩)
    | (go_region; go_wp2; go_ret; exact ⟨_, _, rfl, B2.out.drew⟩)
set_option maxHeartbeats 2000000 in
theorem put_old (A : Nat → Addr) (w : World) (hE : E4 A w) (hold : w.cell? ⟨1, 0, none⟩ = some (.iface 255 (.pointer (some (A 8))))) (h12 : 12 ≤ w.heap.size) (p mb db n : Nat) (f : ByteArray → Value) (s : St) (hV : VerAt w p mb db f s n) (c : ComV) (wv ov : Value) (hw : IntsAt w wv c.when_) (ho : OpsAt w ov c.ops) (hwl : c.when_.length ≤ 1000000) (hol : c.ops.length ≤ 1000000) (hsm : ∀ o ∈ c.ops, Small o) (hc : comErr c = (0, none)) (hlen : c.when_.length = s.base.length) (hbs : chk s.base = 0) (hle : leB c.when_ s.base = true) :
    Calls Tryz.prog 9 #[.pointer (some ⟨p, 0, none⟩), .agg #[wv, .int .i64 c.place, ov]] w fun e w' => PutBad w e w' := by
  obtain ⟨w1, hw1⟩ : ∃ w1, w1 = w.alloc (.cells #[wv, .int .i64 c.place, ov] 34) := ⟨_, rfl⟩
  have hb1 : Below w.heap.size w w1 := by rw [hw1]; exact below_alloc _ _
  have K := checkCommit A w1 (hE.below hb1 h12) (by have := hb1.size; omega) c wv ov (hw.mono hb1 (Nat.le_refl _)) (ho.mono hb1 (Nat.le_refl _)) hwl hol hsm
  unfold ComRet at K
  rw [hc] at K
  have hcc := (comOk_of (c := c) (by rw [hc])).chk
  have K37 := hid (fun W (hW : Below w.heap.size w W) => by
    obtain ⟨ba, bc, _, _, _, hbt, hpx⟩ := (hV.moved hW).boxAt
    exact checkVector_ok A W (hE.below hW h12) p _ s.base _ _ hpx hbt.at wv c.when_ (hw.mono hW (Nat.le_refl _)) hcc hlen)
  obtain ⟨ba, bc, p0, _, _, hbt, hpx⟩ := hV.boxAt
  have K38 := hid (fun W (hW : Below w.heap.size w W) => within_ok A W (hE.below hW h12) wv (.slice ba s.base.length bc) c.when_ s.base (hw.mono hW (Nat.le_refl _)) (hbt.at.mono hW (Nat.le_refl _)) (two_zero.2 ⟨hcc, hbs, hlen⟩))
  rw [hle] at K38
  obtain ⟨nb, hnb⟩ : ∃ nb, nb = s.base.length := ⟨_, rfl⟩
  rw [← hnb] at p0 K38
  have P0 := hid p0
  have OLD := hid hold
  obtain ⟨a1, c1, rfl⟩ := hw.slice
  obtain ⟨a2, c2, rfl, _⟩ := ho.shape
  obtain ⟨n1, hn1⟩ : ∃ n1, n1 = c.when_.length := ⟨_, rfl⟩
  obtain ⟨n2, hn2⟩ : ∃ n2, n2 = c.ops.length := ⟨_, rfl⟩
  obtain ⟨pl, hpl⟩ : ∃ pl, pl = c.place := ⟨_, rfl⟩
  rw [← hn1, ← hn2, ← hpl] at K hw1 ⊢
  rw [← hn1] at K37 K38
  have B1 := hid hb1
  replace K := hid K
  have x1 : w1.heap[w.heap.size]? = some (.cells #[.slice a1 n1 c1, .int .i64 pl, .slice a2 n2 c2] 34 (0, 0)) := by rw [hw1]; exact (MapKept.heap_alloc _ _).1
  have X1 := hid x1
  have d0 : w1.cell? ⟨w.heap.size, 0, none⟩ = some (.slice a1 n1 c1) := by simp only [World.cell?, x1]; rfl
  have d1 : w1.cell? ⟨w.heap.size, 1, none⟩ = some (.int .i64 pl) := by simp only [World.cell?, x1]; rfl
  have d2 : w1.cell? ⟨w.heap.size, 2, none⟩ = some (.slice a2 n2 c2) := by simp only [World.cell?, x1]; rfl
  clear hw ho hsm hc hn1 hn2 hpl hE hb1 x1 hV hlen hbs hle hcc hbt hpx hnb p0 hold
  go_enter Tryz.func9, Tryz.ntmps9
  go_wp2_with fail
  rw [← hw1]
  refine K.out.mono ?_
  rintro e w2 ⟨v2, rfl, hv2, hb2⟩
  obtain rfl := nil_of_errB hv2
  have B2 := hid (B1.out.trans (hb2.mono B1.out.size))
  have x2 : w2.heap[w.heap.size]? = some (.cells #[.slice a1 n1 c1, .int .i64 pl, .slice a2 n2 c2] 34 (0, 0)) := (hb2.block _ (lt_of_heap X1.out)).trans X1.out
  have f0 : w2.cell? ⟨w.heap.size, 0, none⟩ = some (.slice a1 n1 c1) := by simp only [World.cell?, x2]; rfl
  have g0 : w2.cell? ⟨p, 0, none⟩ = some (.slice ba nb bc) := by rw [B2.out.cell (lt_of_cell P0.out)]; exact P0.out
  clear hv2 hb2 hw1 d0 d1 d2 x2
  go_wp2_with (go_at_call 37; refine (K37.out w2 B2.out).mono ?_; rintro e w' ⟨rfl, hw'⟩; rw [hw']; clear hw')
  have K38d := hid (K38.out w2.drew B2.out.drew)
  go_region_held (fun w' => w'.cell? ⟨w.heap.size, 0, none⟩ = some (.slice a1 n1 c1) ∧ w'.cell? ⟨p, 0, none⟩ = some (.slice ba nb bc)) (go_keep) (first | (go_at_call 38; refine K38d.out.mono ?_; rintro e w3 ⟨rfl, q3, hq3⟩; have k0 : w3.cell? ⟨w.heap.size, 0, none⟩ = some (.slice a1 n1 c1) := (by rw [hq3]; exact f0); have k1 : w3.cell? ⟨p, 0, none⟩ = some (.slice ba nb bc) := (by rw [hq3]; exact g0); have HQ3 := hid hq3; clear hq3))
  have hb23 : Below w.heap.size w w3 := by rw [HQ3.out]; exact below_draws B2.out.drew q3
  have ho3 : w3.cell? ⟨1, 0, none⟩ = some (.iface 255 (.pointer (some (A 8)))) := by rw [hb23.cell (lt_of_cell OLD.out)]; exact OLD.out
  have B3 := hid hb23
  clear HQ3 k0 k1 hb23 f0 g0
  go_wp2_with fail
  first
    | (go_ret; exact ⟨_, _, rfl, B3.out⟩)
    | (go_region; go_wp2; go_ret; exact ⟨_, _, rfl, B3.out.drew⟩)
end Go.Proofs.YtdnebclemngdcaaGreatDoor
namespace Go.Proofs.YtdnebclemngdcaaGreatDoor
open Go.RowKit Go.Sort Go.Maps
set_option maxRecDepth 100000
set_option linter.unusedSectionVars false
variable [Inhabited ComV] [DecidableEq D3] [Inhabited D3] [Inhabited Dd] [Inhabited Dn] [Inhabited OpV]

set_option maxHeartbeats 8000000 in
theorem put_exist (A : Nat → Addr) (w : World) (hE : E4 A w) (hex : w.cell? ⟨2, 0, none⟩ = some (.iface 255 (.pointer (some (A 5))))) (h4 : 12 ≤ w.heap.size) (p mb db n : Nat) (f : ByteArray → Value) (s : St) (hV : VerAt w p mb db f s n) (hrl : ∀ k, (rowOf s k).length ≤ 1000000)
    (c : ComV) (wv ov : Value) (hcT : ComT w [wv, .int .i64 c.place, ov] c) (hsm : ∀ o ∈ c.ops, Small o) (hc : comErr c = (0, none)) (hpl : c.when_.length = s.base.length) (hold : leB c.when_ s.base = false) (hbase : chk s.base = 0) (hnew : ∃ o ∈ c.ops, dotC c o ∈ s.dots) :
    Calls Tryz.prog 9 #[.pointer (some ⟨p, 0, none⟩), .agg #[wv, .int .i64 c.place, ov]] w fun e w' => PutBad w e w' := by
  obtain ⟨wv', ov', hwe0, hwT, hoT⟩ := hcT
  injection hwe0 with e1 e2
  injection e2 with _ e2
  injection e2 with e2 _
  subst e1 e2
  have hw := hwT.at
  have ho := hoT.at
  have HWT := hid hwT
  have HOT := hid hoT
  clear hwT hoT
  have hC := comOk_of (c := c) (by rw [hc])
  have hw6 := (chk_zero.1 hC.chk).2.1
  have hmo := hC.few
  obtain ⟨w1, hw1⟩ : ∃ w1, w1 = w.alloc (.cells #[wv, .int .i64 c.place, ov] 34) := ⟨_, rfl⟩
  have hb1 : Below w.heap.size w w1 := by rw [hw1]; exact below_alloc _ _
  have hbx1 : w1.heap[w.heap.size]? = some (.cells #[wv, .int .i64 c.place, ov] 34 (0, 0)) := by rw [hw1]; exact (MapKept.heap_alloc _ _).1
  have hV1 := hV.moved hb1
  have K15 := checkCommit A w1 (hE.below hb1 h4) (by have := hb1.size; omega) c wv ov (hw.mono hb1 (Nat.le_refl _)) (ho.mono hb1 (Nat.le_refl _)) (by omega) (by omega) hsm
  unfold ComRet at K15
  rw [hc] at K15
  have HC := hid hC
  have HW := hid hw
  have HO := hid ho
  have HV := hid hV
  have HE := hid hE
  have HNEW := hid hnew
  have HEX := hid hex
  have HSM := hid hsm
  have HRL := hid hrl
  obtain ⟨av, cv, hwe, _, hwc⟩ := hw
  subst hwe
  obtain ⟨b1, o1, rfl, hw2⟩ : ∃ b1 o1, av = some ⟨b1, o1, none⟩ ∧ ∀ t, t < c.when_.length → w.cell? ⟨b1, o1 + t, none⟩ = some (.int .i64 (c.when_.getD t 0)) := by
    rcases hwc with h | h
    · have := (chk_zero.1 hC.chk).1
      rw [h] at this
      simp at this
    · exact h
  obtain ⟨ao, co, hoe, _, _, hos⟩ := ho.shape
  subst hoe
  obtain ⟨b2, o2, rfl, hos2⟩ := hos.resolve_left hC.some_
  obtain ⟨pn, hpn⟩ : ∃ pn : Nat, c.place = pn := ⟨c.place.toNat, by have := hC.lo; omega⟩
  have hplt : pn < c.when_.length := by have := hC.hi; omega
  have ct := hw2 pn hplt
  obtain ⟨T, hT⟩ : ∃ T, T = c.when_.getD pn 0 := ⟨_, rfl⟩
  rw [← hT] at ct
  have HT := hid hT
  have CT := hid ct
  have HOS := hid hos2
  have HTB : Hid (0 ≤ T ∧ T ≤ 1099511627776) := by
    have := (chk_zero.1 hC.chk).2.2 pn (by omega)
    rw [← hT] at this
    exact this
  have hpn6 : pn ≤ 6 := by omega
  clear hwc hw2 hos hos2 hT ct
  obtain ⟨nw, hnw⟩ : ∃ nw, nw = c.when_.length := ⟨_, rfl⟩
  obtain ⟨no, hno⟩ : ∃ no, no = c.ops.length := ⟨_, rfl⟩
  rw [← hnw, ← hno, hpn] at hw1 hbx1 K15 ⊢
  rw [← hnw] at HW hplt
  have HNW := hid hnw
  have HNO := hid hno
  have HPN := hid hpn
  have HPB := hid hpl
  have HOLD := hid hold
  have HBASE := hid hbase
  have hs1 : w.heap.size < w1.heap.size := lt_of_heap hbx1
  have X1 := hid hbx1
  have B1 := hid hb1
  have V1 := hid hV1
  have c0 : w1.cell? ⟨w.heap.size, 0, none⟩ = some (.slice (some ⟨b1, o1, none⟩) nw cv) := by simp only [World.cell?, hbx1]; rfl
  have c1 : w1.cell? ⟨w.heap.size, 1, none⟩ = some (.int .i64 pn) := by simp only [World.cell?, hbx1]; rfl
  have c2 : w1.cell? ⟨w.heap.size, 2, none⟩ = some (.slice (some ⟨b2, o2, none⟩) no co) := by simp only [World.cell?, hbx1]; rfl
  clear hex hV hE ho hsm hc hpl hold hbase hnew hC hnw hno hpn hb1 hV1 hbx1 hrl
  go_enter Tryz.func9, Tryz.ntmps9
  go_wp2_with fail
  rw [← hw1]
  refine K15.mono ?_
  rintro e w2 ⟨v2, rfl, hv2, hb2⟩
  obtain rfl := nil_of_errB hv2
  have B2 := hid (B1.out.trans (hb2.mono B1.out.size))
  have V2 := hid (V1.out.moved hb2)
  have x2 : w2.heap[w.heap.size]? = some (.cells #[.slice (some ⟨b1, o1, none⟩) nw cv, .int .i64 pn, .slice (some ⟨b2, o2, none⟩) no co] 34 (0, 0)) := (hb2.block _ hs1).trans X1.out
  have d0 : w2.cell? ⟨w.heap.size, 0, none⟩ = some (.slice (some ⟨b1, o1, none⟩) nw cv) := by simp only [World.cell?, x2]; rfl
  obtain ⟨ba, bc, p0, p1, p2, hbt, hpx⟩ := V2.out.boxAt
  have K59 := checkVector_ok A w2 (HE.out.below B2.out h4) p _ s.base _ _ hpx hbt.at (.slice (some ⟨b1, o1, none⟩) nw cv) c.when_ (HW.out.mono B2.out (Nat.le_refl _)) HC.out.chk HPB.out
  have K60 := fun W (hW : Below w2.heap.size w2 W) => within_ok A W (HE.out.below (B2.out.trans (hW.mono B2.out.size)) h4) (.slice (some ⟨b1, o1, none⟩) nw cv) _ c.when_ s.base (HW.out.mono (B2.out.trans (hW.mono B2.out.size)) (Nat.le_refl _)) (hbt.at.mono hW (Nat.le_refl _)) (two_zero.2 ⟨HC.out.chk, HBASE.out, HPB.out⟩)
  rw [HOLD.out] at K60
  have X2 := hid x2
  have HPX := hid hpx
  clear K15 hv2 hb2 hw1 c0 c1 c2 x2 hbt hpx V1
  go_wp2_with (go_at_call 37; refine K59.mono ?_; rintro e w' ⟨rfl, hw'⟩; rw [hw'])
  obtain ⟨nb, hnb⟩ : ∃ nb, nb = s.base.length := ⟨_, rfl⟩
  rw [← hnb] at p0 K60 HPX
  clear hnb K59
  go_region_held (fun w' => w'.cell? ⟨w.heap.size, 0, none⟩ = some (.slice (some ⟨b1, o1, none⟩) nw cv) ∧ w'.cell? ⟨p, 0, none⟩ = some (.slice ba nb bc)) (go_keep) (first | (go_at_call 38; refine (K60 _ ?hb60).mono ?_; (case hb60 => exact below_draws (Below.refl _ _) 1); rintro e w3 ⟨rfl, q3, hq3⟩; have k0 : w3.cell? ⟨w.heap.size, 0, none⟩ = some (.slice (some ⟨b1, o1, none⟩) nw cv) := (by rw [hq3]; exact d0); have k1 : w3.cell? ⟨p, 0, none⟩ = some (.slice ba nb bc) := (by rw [hq3]; exact p0); have HQ3 := hid hq3; clear hq3))
  have hb23 : Below w2.heap.size w2 w3 := by rw [HQ3.out]; exact below_draws (below_draws (Below.refl _ _) 1) q3
  have B3 := hid (B2.out.trans (hb23.mono B2.out.size))
  have V3 := hid (V2.out.moved hb23)
  have hs2 : w.heap.size < w2.heap.size := lt_of_heap X2.out
  have x3 : w3.heap[w.heap.size]? = some (.cells #[.slice (some ⟨b1, o1, none⟩) nw cv, .int .i64 pn, .slice (some ⟨b2, o2, none⟩) no co] 34 (0, 0)) := (hb23.block _ hs2).trans X2.out
  have e2 : w3.cell? ⟨w.heap.size, 2, none⟩ = some (.slice (some ⟨b2, o2, none⟩) no co) := by simp only [World.cell?, x3]; rfl
  have X3 := hid x3
  clear HQ3 k0 k1 hb23 x3 d0 p0 p1 p2 K60 V2 X2 HPX
  have hno12 : no ≤ 12 := by have := HNO.out; have := HC.out.few; omega
  go_wp2
  clear e2
  go_loopw [36] (fun i wr => ∃ j : Nat, j ≤ no ∧ i = .int .i64 j ∧ Hid (Below w3.heap.size w3 wr) ∧ Hid (∀ i, i < j → dotC c c.ops[i]! ∉ s.dots)) (fun i _ => no - (intOf i).toNat)
  case atStart => exact ⟨0, Nat.zero_le _, rfl, Below.refl _ _, fun i hi => absurd hi (Nat.not_lt_zero _)⟩
  case round =>
    obtain ⟨j, hj, rfl, JB, JN⟩ := hrel
    by_cases hjl : j < no
    · obtain ⟨dp, dc, hd, q0, q1, q2, q3, q4, q5, q6⟩ := HOS.out j (by have := HNO.out; omega)
      have up : ∀ {a : Addr} {v : Value}, w.cell? a = some v → wr.cell? a = some v := fun {a v} h => by rw [(B3.out.trans (JB.out.mono B3.out.size)).cell (lt_of_cell h)]; exact h
      have r0 := up q0
      have r1 := up q1
      have r2 := up q2
      have r3 := up q3
      have r4 := up q4
      have r5 := up q5
      have r6 := up q6
      have hmem : c.ops[j]! ∈ c.ops := by rw [getElem!_pos c.ops j (by have := HNO.out; omega)]; exact List.getElem_mem _
      have hoe := opErr_of_bad (HC.out.ops j (by have := HNO.out; omega))
      obtain ⟨y, hy⟩ : ∃ y, y = c.ops[j]! := ⟨_, rfl⟩
      have HY := hid hy
      rw [← hy] at r0 r1 r2 r3 r4 r5 r6 hoe
      have hat := at_of_opErr hoe
      obtain ⟨x1, x2, x3, x4, x5, x6, ds⟩ := y
      simp only at r0 r1 r2 r3 r4 r5 r6 hat
      obtain ⟨dl, hdl⟩ : ∃ dl, dl = ds.length := ⟨_, rfl⟩
      rw [← hdl] at r6
      have hwf : Hid (wf3 ⟨pn, T, x1⟩) := ⟨wf_i64 (by simp only; omega) (by simp only; omega), wf_i64 HTB.out.1 HTB.out.2, wf_i64 hat.1 (by simp only; omega)⟩
      have HDJ : Hid (dotC c c.ops[j]! = ⟨pn, T, x1⟩) := by
        show _ = _
        rw [← HY.out]
        unfold dotC
        rw [HPN.out, Int.toNat_natCast, ← HT.out]
      obtain ⟨bd, hbd⟩ : ∃ bd, bd = decide ((⟨pn, T, x1⟩ : D3) ∈ s.dots) := ⟨_, rfl⟩
      have HND := hid hbd.symm
      clear q0 q1 q2 q3 q4 q5 q6 hd hmem hoe hy hat hdl hbd up
      go_upto_region 12 with (fail)
      obtain ⟨wq, hwq⟩ : ∃ wq, wq = wr.alloc (.cells #[.int .i64 x1, .string x2, .int .i64 x3, .string x4, .int .i64 x5, .bool x6, .slice dp dl dc] 76) := ⟨_, rfl⟩
      rw [← hwq]
      have bq : Below wr.heap.size wr wq := by rw [hwq]; exact below_alloc _ _
      have B3q := hid (JB.out.trans (bq.mono JB.out.size))
      have VQ := hid (V3.out.moved B3q.out)
      have xq : wq.heap[w.heap.size]? = some (.cells #[.slice (some ⟨b1, o1, none⟩) nw cv, .int .i64 pn, .slice (some ⟨b2, o2, none⟩) no co] 34 (0, 0)) := (B3q.out.block _ (lt_of_heap X3.out)).trans X3.out
      have oq : wq.heap[wr.heap.size]? = some (.cells #[.int .i64 x1, .string x2, .int .i64 x3, .string x4, .int .i64 x5, .bool x6, .slice dp dl dc] 76 (0, 0)) := by rw [hwq]; exact (MapKept.heap_alloc _ _).1
      obtain ⟨_, _, _, _, m2, _, _⟩ := VQ.out.boxAt
      have n0 : wq.cell? ⟨w.heap.size, 0, none⟩ = some (.slice (some ⟨b1, o1, none⟩) nw cv) := by simp only [World.cell?, xq]; rfl
      have n1 : wq.cell? ⟨w.heap.size, 1, none⟩ = some (.int .i64 pn) := by simp only [World.cell?, xq]; rfl
      have n2 : wq.cell? ⟨w.heap.size, 2, none⟩ = some (.slice (some ⟨b2, o2, none⟩) no co) := by simp only [World.cell?, xq]; rfl
      have u0 : wq.cell? ⟨wr.heap.size, 0, none⟩ = some (.int .i64 x1) := by simp only [World.cell?, oq]; rfl
      have u1 : wq.cell? ⟨wr.heap.size, 1, none⟩ = some (.string x2) := by simp only [World.cell?, oq]; rfl
      have u2 : wq.cell? ⟨wr.heap.size, 2, none⟩ = some (.int .i64 x3) := by simp only [World.cell?, oq]; rfl
      have u3 : wq.cell? ⟨wr.heap.size, 3, none⟩ = some (.string x4) := by simp only [World.cell?, oq]; rfl
      have u4 : wq.cell? ⟨wr.heap.size, 4, none⟩ = some (.int .i64 x5) := by simp only [World.cell?, oq]; rfl
      have u5 : wq.cell? ⟨wr.heap.size, 5, none⟩ = some (.bool x6) := by simp only [World.cell?, oq]; rfl
      have u6 : wq.cell? ⟨wr.heap.size, 6, none⟩ = some (.slice dp dl dc) := by simp only [World.cell?, oq]; rfl
      have ctq : wq.cell? ⟨b1, o1 + pn, none⟩ = some (.int .i64 T) := by rw [(B3.out.trans (B3q.out.mono B3.out.size)).cell (lt_of_cell CT.out)]; exact CT.out
      clear hwq bq xq oq r0 r1 r2 r3 r4 r5 r6
      go_region_held (fun w' => w'.cell? ⟨p, 2, none⟩ = some (.map (some db)) ∧ w'.cell? ⟨w.heap.size, 0, none⟩ = some (.slice (some ⟨b1, o1, none⟩) nw cv) ∧ w'.cell? ⟨w.heap.size, 1, none⟩ = some (.int .i64 pn) ∧ w'.cell? ⟨w.heap.size, 2, none⟩ = some (.slice (some ⟨b2, o2, none⟩) no co) ∧ w'.cell? ⟨wr.heap.size, 0, none⟩ = some (.int .i64 x1) ∧ w'.cell? ⟨wr.heap.size, 1, none⟩ = some (.string x2) ∧ w'.cell? ⟨wr.heap.size, 2, none⟩ = some (.int .i64 x3) ∧ w'.cell? ⟨wr.heap.size, 3, none⟩ = some (.string x4) ∧ w'.cell? ⟨wr.heap.size, 4, none⟩ = some (.int .i64 x5) ∧ w'.cell? ⟨wr.heap.size, 5, none⟩ = some (.bool x6) ∧ w'.cell? ⟨wr.heap.size, 6, none⟩ = some (.slice dp dl dc)) (go_keep) (first | (go_at_call 39; refine (dotOf_any _ b1 o1 nw cv pn T _ _ _ _ _ _ _ _ _ _ _ _ hplt ?hct).mono ?_; (case hct => first | exact ctq | exact cell_alloc ctq _); rintro e w5 ⟨rfl, hb5⟩; have up5 : ∀ {a : Addr} {v : Value}, wq.cell? a = some v → w5.cell? a = some v := (fun {a v} h => by first | (rw [hb5.cell (lt_of_cell h)]; exact h) | (rw [hb5.cell (lt_of_cell (cell_alloc h _))]; exact cell_alloc h _)); have hbq5 : Below wq.heap.size wq w5 := (by first | exact (below_draws (Below.refl wq.heap.size wq) 1).trans hb5 | exact (below_draws (below_alloc wq _) 1).trans (hb5.mono (by show wq.heap.size ≤ (wq.alloc _).heap.size; simp))); have V5 := VQ.out.moved hbq5; have hl5 : (Instr.lookup 81 (.map (some db)) (.agg #[.int .i64 pn, .int .i64 T, .int .i64 x1]) true).run Tryz.prog w5 = .ok (.tuple #[.agg #[], .bool bd]) w5 := (by have h := V5.look ⟨pn, T, x1⟩ hwf.out; rw [HND.out] at h; exact h); have hl6 : ∀ o, (Instr.lookup 81 (.map (some db)) (.agg #[.int .i64 pn, .int .i64 T, .int .i64 x1]) true).run Tryz.prog (w5.alloc o) = .ok (.tuple #[.agg #[], .bool bd]) (w5.alloc o) := (fun o => by have h := (V5.moved (below_alloc w5 o)).look ⟨pn, T, x1⟩ hwf.out; rw [HND.out] at h; exact h); have m2' := up5 m2; have n0' := up5 n0; have n1' := up5 n1; have n2' := up5 n2; have u0' := up5 u0; have u1' := up5 u1; have u2' := up5 u2; have u3' := up5 u3; have u4' := up5 u4; have u5' := up5 u5; have u6' := up5 u6; clear up5 V5; have HBQ5 := hid hbq5; clear hb5 hbq5))
      all_goals
        cases bd with
        | true =>
          have gx : w5.cell? ⟨2, 0, none⟩ = some (.iface 255 (.pointer (some (A 5)))) := by
            have hb := B3.out.trans ((B3q.out.trans (HBQ5.out.mono B3q.out.size)).mono B3.out.size)
            rw [hb.cell (lt_of_cell HEX.out)]; exact HEX.out
          have gxa := fun o => cell_alloc gx o
          have BZ := hid (B3.out.trans ((B3q.out.trans (HBQ5.out.mono B3q.out.size)).mono B3.out.size))
          go_wp2
          have hsz := BZ.out.size
          go_ret
          first
            | exact ⟨_, _, rfl, BZ.out.alloc hsz _⟩
            | exact ⟨_, _, rfl, (BZ.out.alloc hsz _).alloc (by simp; omega) _⟩
            | exact ⟨_, _, rfl, ((BZ.out.alloc hsz _).alloc (by simp; omega) _).alloc (by simp; omega) _⟩
        | false =>
          go_wp2
          refine ⟨⟨j + 1, by omega, by go_num, ?_, ?_⟩, by simp [intOf]; omega⟩
          · first
              | exact (B3q.out.trans (HBQ5.out.mono B3q.out.size)).alloc (Nat.le_trans B3q.out.size HBQ5.out.size) _
              | exact B3q.out.trans (HBQ5.out.mono B3q.out.size)
          · intro i hi
            rcases Nat.lt_succ_iff_lt_or_eq.1 hi with h | rfl
            · exact JN.out i h
            · rw [HDJ.out]; exact of_decide_eq_false HND.out
    · obtain rfl : j = no := by omega
      obtain ⟨o, ho, hod⟩ := HNEW.out
      obtain ⟨i, hi, rfl⟩ := List.getElem_of_mem ho
      exact absurd (by rw [getElem!_pos c.ops i hi]; exact hod) (JN.out i (by rw [HNO.out]; exact hi))
end Go.Proofs.YtdnebclemngdcaaGreatDoor
