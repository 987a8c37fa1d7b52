/- JudgeChecks: events that are few and short. -/
import Derived.Test.YtngjooemanapnaaGreatDoorJJO2
import Derived.Deep.DeepCutAuto
import Derived.Deep.CutBlock
import Derived.Deep.RegionHeld
namespace Go.Proofs.YtngjooemanapnaaGreatDoor
open Go.RowKit Go.Sort Go.Maps
set_option maxRecDepth 100000

def OkRet (w : World) (r : Ending) (w' : World) : Prop := r = .returned (.bool true) ∧ Below w.heap.size w w'
/-- All that the law calls. -/
structure CkK (A : Nat → Addr) (w : World) (l : List EvV) (er ce : Nat × Option Nat) (ct : List (List Nat)) (q : Bool) (ev : Value) (n a b : Int) (v : Value) : Prop where
  k4 : ∀ u, Below w.heap.size w u → Calls Tryz.prog 4 #[] u (OkRet u)
  k5 : ∀ u, Below w.heap.size w u → Calls Tryz.prog 5 #[v] u (OkRet u)
  k6 : ∀ u, Below w.heap.size w u → ∀ x e, ErrAt A u x e → e.1 ≤ 12 → (e.1 = 0 → e = (0, none)) → Calls Tryz.prog 6 #[x, .agg #[.int .i64 ((e.1 : Nat) : Int), .int .i64 (faultAt e.2)]] u (OkRet u)
  k7 : ∀ u, Below w.heap.size w u → ∀ x, EvsAt u x l → Calls Tryz.prog 7 #[.int .i64 n, x] u (ErRet A er u)
  k8 : ∀ u, Below w.heap.size w u → Calls Tryz.prog 8 #[v] u fun r w' => ∃ x, r = .returned x ∧ EvsAt w' x l ∧ Below u.heap.size u w'
  k9 : ∀ u, Below w.heap.size w u → Calls Tryz.prog 9 #[.int .i64 n, v] u fun r w' => r = .returned (.agg #[.int .i64 ((er.1 : Nat) : Int), .int .i64 (faultAt er.2)]) ∧ Below u.heap.size u w'
  k10 : ∀ u, Below w.heap.size w u → ∀ x, EvsAt u x l → Calls Tryz.prog 10 #[x, .int .i64 a, .int .i64 b] u fun r w' => r = .returned (.tuple #[.bool q, ev]) ∧ Below u.heap.size u w'
  k11 : ∀ u, Below w.heap.size w u → ∀ k, k ≤ 12 → Calls Tryz.prog 11 #[errV A k, .int .i64 ((k : Nat) : Int)] u (OkRet u)
  k14 : ∀ u, Below w.heap.size w u → ∀ x, EvsAt u x l → Calls Tryz.prog 14 #[x] u fun r w' => ∃ y x, r = .returned (.tuple #[y, x]) ∧ TssAt w' y ct ∧ ErrAt A w' x ce ∧ Below u.heap.size u w'
  k15 : ∀ u, Below w.heap.size w u → Calls Tryz.prog 15 #[v] u fun r w' => ∃ y, r = .returned (.tuple #[y, .agg #[.int .i64 ((ce.1 : Nat) : Int), .int .i64 (faultAt ce.2)]]) ∧ TssAt w' y ct ∧ Below u.heap.size u w'
  er12 : er.1 ≤ 12
  er0 : er.1 = 0 → er = (0, none)
  ce12 : ce.1 ≤ 12
  ce0 : ce.1 = 0 → ce = (0, none)
  ctl : ∀ ts ∈ ct, ts.length ≤ 1000000
  ctn : ct.length ≤ 1000000
/-- Two events that are there. -/
def PairAt (A : Nat → Addr) (w : World) (m : Nat) (ad : Option Addr) (q : Bool) (ev : Value) (a b : Int) : Prop :=
  ∃ (a' b' b0 off : Nat) (wa aa : Option Addr) (lw wc la ac : Nat), a = a' ∧ b = b' ∧ a' < m ∧ b' < m ∧ ad = some ⟨b0, off, none⟩ ∧
    (∀ u, Below w.heap.size w u → u.cell? ⟨b0, off + a' * 7 + 4, none⟩ = some (.slice wa lw wc) ∧ u.cell? ⟨b0, off + b' * 7 + 2, none⟩ = some (.slice aa la ac)) ∧
    ((∃ tn : Nat, 0 < tn ∧ tn ≤ 12 ∧ q = false ∧ ev = errV A tn ∧ ∀ u, Below w.heap.size w u → Calls Tryz.prog 12 #[.slice wa lw wc, .slice aa la ac] u fun r w' => r = .returned (.int .i64 ((tn : Nat) : Int)) ∧ w' = u) ∨
      (ev = .nilIface ∧ (∀ u, Below w.heap.size w u → Calls Tryz.prog 12 #[.slice wa lw wc, .slice aa la ac] u fun r w' => r = .returned (.int .i64 0) ∧ w' = u) ∧ ∀ u, Below w.heap.size w u → Calls Tryz.prog 13 #[.slice wa lw wc, .slice aa la ac] u fun r w' => r = .returned (.bool q) ∧ Below u.heap.size u w'))
theorem pair_at (A : Nat → Addr) (w : World) (l : List EvV) (ad : Option Addr) (cap m : Nat) (hm : m = l.length) (hv : EvsAt w (.slice ad m cap) l) (hE : ∀ e ∈ l, EvFit e) (a b : Int) (h : ¬(a < 0 ∨ (m : Int) ≤ a ∨ b < 0 ∨ (m : Int) ≤ b)) : PairAt A w m ad (seB l a b).1 (errV A (seB l a b).2) a b := by
  subst hm
  obtain ⟨a', rfl⟩ : ∃ a' : Nat, a = a' := ⟨a.toNat, by omega⟩
  obtain ⟨b', rfl⟩ : ∃ b' : Nat, b = b' := ⟨b.toNat, by omega⟩
  have ha : a' < l.length := by omega
  have hb : b' < l.length := by omega
  obtain ⟨ad', cap', he, _, _, hx⟩ := hv.shape
  injection he with he1 _ he3
  subst he1 he3
  obtain ⟨b0, off, rfl, hy⟩ := hx.resolve_left (fun h => by rw [h] at ha; simp at ha)
  obtain ⟨av, rv, wv, ov, h1, _, h3⟩ := hy a' ha
  obtain ⟨av2, rv2, wv2, ov2, g1, _, g3⟩ := hy b' hb
  obtain ⟨_, _, wa, wc, _, _, rfl, rfl, rfl⟩ := evAt_shape h1
  obtain ⟨aa, ac, _, _, _, _, rfl, rfl, rfl⟩ := evAt_shape g1
  have e4 : ∀ u, Below w.heap.size w u → u.cell? ⟨b0, off + a' * 7 + 4, none⟩ = some (.slice wa (l.getD a' ev0).c.when_.length wc) := fun u hu => by
    have := h3 4 _ rfl
    rw [hu.cell (p := ⟨b0, off + a' * 7 + 4, none⟩) (lt_of_cell this)]
    exact this
  have e2 : ∀ u, Below w.heap.size w u → u.cell? ⟨b0, off + b' * 7 + 2, none⟩ = some (.slice aa (l.getD b' ev0).at_.length ac) := fun u hu => by
    have := g3 2 _ rfl
    rw [hu.cell (p := ⟨b0, off + b' * 7 + 2, none⟩) (lt_of_cell this)]
    exact this
  have hfa := hE _ (getD_mem ha)
  have hfb := hE _ (getD_mem hb)
  have hs : seB l a' b' = if two (l.getD a' ev0).c.when_ (l.getD b' ev0).at_ ≠ 0 then (false, (two (l.getD a' ev0).c.when_ (l.getD b' ev0).at_).toNat) else (leB (l.getD a' ev0).c.when_ (l.getD b' ev0).at_, 0) := by
    unfold seB
    rw [if_neg h]
    simp only [Int.toNat_natCast]
  rw [hs]
  have K := fun u (hu : Below w.heap.size w u) => twoError u _ _ _ _ (h1.when_.mono hu (Nat.le_refl _)) (g1.at_.mono hu (Nat.le_refl _)) hfa.com.1 hfb.at_
  have t12 := two_le (l.getD a' ev0).c.when_ (l.getD b' ev0).at_
  have tp : 0 ≤ two (l.getD a' ev0).c.when_ (l.getD b' ev0).at_ := by
    unfold two
    rcases chk_cases (l.getD a' ev0).c.when_ with h | h | h <;> rcases chk_cases (l.getD b' ev0).at_ with h' | h' | h' <;> rw [h, h'] <;> (repeat' split) <;> omega
  refine ⟨a', b', b0, off, wa, aa, _, wc, _, ac, rfl, rfl, ha, hb, rfl, fun u hu => ⟨e4 u hu, e2 u hu⟩, ?_⟩
  by_cases ht : two (l.getD a' ev0).c.when_ (l.getD b' ev0).at_ = 0
  · rw [if_neg (fun h => h ht)]
    refine .inr ⟨rfl, fun u hu => (K u hu).mono fun r w' ⟨h1, h2⟩ => ⟨by rw [h1, ht], h2⟩, fun u hu => ?_⟩
    obtain ⟨t1, _, t3⟩ := two_zero.1 ht
    refine (in_any u _ _ _ _ (h1.when_.mono hu (Nat.le_refl _)) (g1.at_.mono hu (Nat.le_refl _)) t3 (chk_zero.1 t1).1 hfa.com.1).mono ?_
    rintro r w' ⟨h1, q, rfl⟩
    exact ⟨h1, below_draws (Below.refl _ _) q⟩
  · rw [if_pos ht]
    refine .inl ⟨_, by omega, t12, rfl, rfl, fun u hu => (K u hu).mono fun r w' ⟨h1, h2⟩ => ⟨by rw [h1, Int.toNat_of_nonneg tp], h2⟩⟩
theorem TssAt.two {w : World} {x y : Value} {ct : List (List Nat)} (h1 : TssAt w x ct) (h2 : TssAt w y ct) : ∃ a1 a2 c1 c2, x = .slice a1 ct.length c1 ∧ y = .slice a2 ct.length c2 ∧ ∀ k, k < ct.length → ∃ b1 b2 s1 s2 n d1 d2, a1 = some ⟨b1, 0, none⟩ ∧ a2 = some ⟨b2, 0, none⟩ ∧ w.cell? ⟨b1, k, none⟩ = some (.slice s1 n d1) ∧ w.cell? ⟨b2, k, none⟩ = some (.slice s2 n d2) ∧
    IntsAt w (.slice s1 n d1) ((ct.getD k []).map fun t => ((t : Nat) : Int)) ∧ IntsAt w (.slice s2 n d2) ((ct.getD k []).map fun t => ((t : Nat) : Int)) := by
  obtain ⟨a1, c1, rfl, h1⟩ := h1
  obtain ⟨a2, c2, rfl, h2⟩ := h2
  refine ⟨a1, a2, c1, c2, rfl, rfl, fun k hk => ?_⟩
  obtain ⟨b1, rfl, p1⟩ := h1.resolve_left (fun h => by rw [h] at hk; simp at hk)
  obtain ⟨b2, rfl, p2⟩ := h2.resolve_left (fun h => by rw [h] at hk; simp at hk)
  obtain ⟨sv1, x1, y1⟩ := p1 k hk
  obtain ⟨sv2, x2, y2⟩ := p2 k hk
  have z1 := y1
  have z2 := y2
  obtain ⟨s1, d1, rfl, _⟩ := z1
  obtain ⟨s2, d2, rfl, _⟩ := z2
  exact ⟨b1, b2, s1, s2, _, d1, d2, rfl, rfl, x1, x2, y1, y2⟩
set_option maxHeartbeats 8000000 in
theorem checks_in (A : Nat → Addr) (w : World) (l : List EvV) (er ce : Nat × Option Nat) (ct : List (List Nat)) (q : Bool) (ev : Value) (n a b : Int) (ad : Option Addr) (m cap : Nat) (ob : Bool)
    (K : CkK A w l er ce ct q ev n a b (.slice ad m cap)) (hob : ob = decide (a < 0 ∨ (m : Int) ≤ a ∨ b < 0 ∨ (m : Int) ≤ b)) (ho : ob = true → q = false ∧ ev = errV A 2) (hi : ob = false → PairAt A w m ad q ev a b) :
    Calls Tryz.prog 3 #[.int .i64 n, .slice ad m cap, .int .i64 a, .int .i64 b] w (OkRet w) := by
  have HO := hid ho
  have HI := hid hi
  have HOB := ShutJ.mk hob
  clear ho hi hob
  go_enter Tryz.func3, Tryz.ntmps3
  go_wp2_with fail
  refine (K.k4 w (Below.refl _ _)).mono ?_
  rintro r w1 ⟨rfl, hb1⟩
  have HB1 := hid hb1
  clear hb1
  go_wp2_with fail
  refine (K.k5 w1 HB1.out).mono ?_
  rintro r w2 ⟨rfl, hb⟩
  have HB2 := hid (HB1.out.trans (hb.mono HB1.out.size))
  clear hb HB1
  go_wp2_with fail
  refine (K.k8 w2 HB2.out).mono ?_
  rintro r w3 ⟨x, rfl, hx, hb⟩
  have HX := hid hx
  have HB3 := hid (HB2.out.trans (hb.mono HB2.out.size))
  clear hb hx HB2
  go_wp2_with fail
  refine (K.k7 w3 HB3.out x HX.out).mono ?_
  rintro r w4 ⟨y, rfl, hy, hb⟩
  have HY := hid hy
  have HB4 := hid (HB3.out.trans (hb.mono HB3.out.size))
  clear hb hy HB3 HX
  go_wp2_with fail
  refine (K.k9 w4 HB4.out).mono ?_
  rintro r w5 ⟨rfl, hb⟩
  have HY5 := hid (errAt_mono HY.out hb (Nat.le_refl _))
  have HB5 := hid (HB4.out.trans (hb.mono HB4.out.size))
  clear hb HB4 HY
  go_wp2_with fail
  refine (K.k6 w5 HB5.out y er HY5.out K.er12 K.er0).mono ?_
  rintro r w6 ⟨rfl, hb⟩
  have HB6 := hid (HB5.out.trans (hb.mono HB5.out.size))
  clear hb HB5 HY5
  go_wp2_with fail
  refine (K.k8 w6 HB6.out).mono ?_
  rintro r w7 ⟨x2, rfl, hx, hb⟩
  have HX := hid hx
  have HB7 := hid (HB6.out.trans (hb.mono HB6.out.size))
  clear hb hx HB6
  go_wp2_with fail
  refine (K.k10 w7 HB7.out x2 HX.out).mono ?_
  rintro r w8 ⟨rfl, hb⟩
  have HB8 := hid (HB7.out.trans (hb.mono HB7.out.size))
  clear hb HX HB7
  go_upto_region 7 with (fail)
  go_cut [60] (fun x wx => x = .bool ob ∧ wx = w8)
  case first =>
    by_cases x1 : a < 0
    · have hf : ob = true := by rw [HOB.out]; exact decide_eq_true (.inl x1)
      have HF := ShutJ.mk hf
      clear hf
      go_wp2_with fail
      go_meet
      exact ⟨by rw [HF.out], rfl⟩
    by_cases x2 : (m : Int) ≤ a
    · have hf : ob = true := by rw [HOB.out]; exact decide_eq_true (.inr (.inl x2))
      have HF := ShutJ.mk hf
      clear hf
      go_wp2_with fail
      go_meet
      exact ⟨by rw [HF.out], rfl⟩
    by_cases x3 : b < 0
    · have hf : ob = true := by rw [HOB.out]; exact decide_eq_true (.inr (.inr (.inl x3)))
      have HF := ShutJ.mk hf
      clear hf
      go_wp2_with fail
      go_meet
      exact ⟨by rw [HF.out], rfl⟩
    by_cases x4 : (m : Int) ≤ b
    · have hf : ob = true := by rw [HOB.out]; exact decide_eq_true (.inr (.inr (.inr x4)))
      have HF := ShutJ.mk hf
      clear hf
      go_wp2_with fail
      go_meet
      exact ⟨by rw [HF.out], rfl⟩
    have hf : ob = false := by rw [HOB.out]; exact decide_eq_false (by omega)
    have HF := ShutJ.mk hf
    clear hf
    go_wp2_with fail
    go_meet
    exact ⟨by rw [HF.out], rfl⟩
  case rest =>
    obtain ⟨rfl, rfl⟩ := hcut
    go_upto_if 60 with fail
    go_cut [12] (fun _ wx => Hid (Below w.heap.size w wx))
    case first =>
      cases ob with
      | true =>
        obtain ⟨rfl, rfl⟩ := HO.out rfl
        go_wp2_with fail
        refine (K.k11 _ HB8.out 2 (by decide)).mono ?_
        rintro r w9 ⟨rfl, hb⟩
        have HB9 := hid (HB8.out.trans (hb.mono HB8.out.size))
        clear hb
        go_wp2_with fail
        go_meet
        exact HB9
      | false =>
        obtain ⟨a', b', b0, off, wa, aa, lw, wq, la, ac, rfl, rfl, ha, hb', rfl, HC, hcase⟩ := HI.out rfl
        have hai : (a' : Int) < (m : Int) := by omega
        have hbi : (b' : Int) < (m : Int) := by omega
        obtain ⟨w8', hw8⟩ : ∃ w8', w8' = wc := ⟨_, rfl⟩
        subst hw8
        have hd0 : Below w8'.heap.size w8' w8' := Below.refl _ _
        have hd1 : Below w8'.heap.size w8' w8'.drew := hd0.drew
        have hwu : ∀ u, Below w8'.heap.size w8' u → Below w.heap.size w u := fun u hu => HB8.out.trans (hu.mono HB8.out.size)
        have HELD : Hid (∀ u, Below w8'.heap.size w8' u → u.cell? ⟨b0, off + a' * 7 + 4, none⟩ = some (.slice wa lw wq) ∧ u.cell? ⟨b0, off + b' * 7 + 2, none⟩ = some (.slice aa la ac)) := hid fun u hu => HC u (hwu u hu)
        have HWU := hid hwu
        clear HC hwu
        rcases hcase with ⟨tn, h0, h12, rfl, rfl, K12⟩ | ⟨rfl, K12, K13⟩
        · have tpos : (0 : Int) < (tn : Int) := by omega
          have K12' : Hid (∀ u, Below w8'.heap.size w8' u → Hid (Calls Tryz.prog 12 #[.slice wa lw wq, .slice aa la ac] u fun r w' => r = .returned (.int .i64 ((tn : Nat) : Int)) ∧ w' = u)) := hid fun u hu => hid (K12 u (HWU.out u hu))
          have H12 := hid h12
          clear K12 h12 h0
          go_upto_region 10 with (fail)
          go_region_held (fun u => u.cell? ⟨b0, off + a' * 7 + 4, none⟩ = some (.slice wa lw wq) ∧ u.cell? ⟨b0, off + b' * 7 + 2, none⟩ = some (.slice aa la ac)) ((refine HELD.out _ ?_; with_reducible assumption)) (first | (go_at_call 12; refine (K12'.out _ ?hb4).out.mono ?_; (case hb4 => with_reducible assumption); rintro e w' ⟨rfl, hw'⟩; have hbw : Below w8'.heap.size w8' w' := (by rw [hw']; first | exact hd1 | exact hd0); clear hw'))
          have HB9 := hid (HWU.out w' hbw)
          clear hbw hd0 hd1 K12' HELD
          go_wp2_with fail
          refine (K.k11 w' HB9.out tn H12.out).mono ?_
          rintro r w10 ⟨rfl, hb⟩
          have HB10 := hid (HB9.out.trans (hb.mono HB9.out.size))
          clear hb
          go_wp2_with fail
          go_meet
          exact HB10
        · have K12' : Hid (∀ u, Below w8'.heap.size w8' u → Hid (Calls Tryz.prog 12 #[.slice wa lw wq, .slice aa la ac] u fun r w' => r = .returned (.int .i64 0) ∧ w' = u)) := hid fun u hu => hid (K12 u (HWU.out u hu))
          have K13' : Hid (∀ u, Below w8'.heap.size w8' u → Hid (Calls Tryz.prog 13 #[.slice wa lw wq, .slice aa la ac] u fun r w' => r = .returned (.bool q) ∧ Below u.heap.size u w')) := hid fun u hu => hid (K13 u (HWU.out u hu))
          have hqq : (q != q) = false := by simp
          clear K12 K13
          go_upto_region 10 with (fail)
          go_region_held (fun u => u.cell? ⟨b0, off + a' * 7 + 4, none⟩ = some (.slice wa lw wq) ∧ u.cell? ⟨b0, off + b' * 7 + 2, none⟩ = some (.slice aa la ac)) ((refine HELD.out _ ?_; with_reducible assumption)) (first | (go_at_call 12; refine (K12'.out _ ?hb4).out.mono ?_; (case hb4 => with_reducible assumption); rintro e w' ⟨rfl, hw'⟩; have hbw : Below w8'.heap.size w8' w' := (by rw [hw']; first | exact hd1 | exact hd0); clear hw'))
          have hbw1 : Below w8'.heap.size w8' w'.drew := hbw.drew
          clear K12' hd0 hd1
          go_upto_region 14 with (fail)
          go_region_held (fun u => u.cell? ⟨b0, off + a' * 7 + 4, none⟩ = some (.slice wa lw wq) ∧ u.cell? ⟨b0, off + b' * 7 + 2, none⟩ = some (.slice aa la ac)) ((refine HELD.out _ ?_; with_reducible assumption)) (first | (go_at_call 13; refine (K13'.out _ ?hb4).out.mono ?_; (case hb4 => with_reducible assumption); rintro e w2' ⟨rfl, hb2'⟩; have hbw2 : Below w8'.heap.size w8' w2' := (by first | exact hbw1.trans (hb2'.mono hbw1.size) | exact hbw.trans (hb2'.mono hbw.size)); clear hb2'))
          have HB9 := hid (HWU.out w2' hbw2)
          clear hbw hbw1 hbw2 K13' HELD
          go_wp2_with fail
          go_meet
          exact HB9
    case rest =>
      have HB9 := hcut
      clear hcut HB8 HO HI
      go_wp2_with fail
      refine (K.k8 _ HB9.out).mono ?_
      rintro r w10 ⟨x3, rfl, hx, hb⟩
      have HX := hid hx
      have HB10 := hid (HB9.out.trans (hb.mono HB9.out.size))
      clear hb hx HB9
      go_wp2_with fail
      refine (K.k14 w10 HB10.out x3 HX.out).mono ?_
      rintro r w11 ⟨xv, ev2, rfl, hT, hE2, hb⟩
      have HT := hid hT
      have HE2 := hid hE2
      have HB11 := hid (HB10.out.trans (hb.mono HB10.out.size))
      clear hb hT hE2 HB10 HX
      go_wp2_with fail
      refine (K.k15 w11 HB11.out).mono ?_
      rintro r w12 ⟨tv, rfl, hT2, hb⟩
      obtain ⟨a1, a2, c1, c2, rfl, rfl, hrow⟩ := (HT.out.mono hb (Nat.le_refl _)).two hT2
      have HROW := hid hrow
      have HE3 := hid (errAt_mono HE2.out hb (Nat.le_refl _))
      have HB12 := hid (HB11.out.trans (hb.mono HB11.out.size))
      obtain ⟨z, hz⟩ : ∃ z, z = ct.length := ⟨_, rfl⟩
      rw [← hz]
      have HZ := ShutJ.mk hz
      have hz63 : (z : Int) ≤ 1000000 := by have := K.ctn; omega
      clear hb hT2 HT HE2 HB11 hrow hz
      go_wp2_with fail
      refine (K.k6 _ ?hu6 ev2 ce ?he6 K.ce12 K.ce0).mono ?_
      case hu6 => exact HB12.out.alloc HB12.out.size _
      case he6 => exact errAt_mono HE3.out (below_alloc _ _) (Nat.le_refl _)
      rintro r w14 ⟨rfl, hb⟩
      have HB14 := hid ((below_alloc w12 (.cells #[.int .i64 ((ce.1 : Nat) : Int), .int .i64 (faultAt ce.2)] 32)).trans (hb.mono (by simp)))
      clear hb HE3
      go_wp2_with fail
      go_loopw [16] (fun x wr => ∃ k : Nat, k ≤ z ∧ x = .int .i64 k ∧ Hid (Below w12.heap.size w12 wr)) (fun x _ => z - (intOf x).toNat)
      case atStart => exact ⟨0, Nat.zero_le _, rfl, HB14⟩
      case round =>
        clear HB14
        obtain ⟨k, hk, rfl, HB⟩ := hrel
        by_cases hlt : k < z
        · have hk1 : (k : Int) < (z : Int) := by omega
          have hkl : k < ct.length := by have := HZ.out; omega
          obtain ⟨b1, b2, s1, s2, nn, d1, d2, rfl, rfl, e1, e2, i1, i2⟩ := HROW.out k hkl
          obtain ⟨wo, hwo⟩ : ∃ wo, wo = wr := ⟨_, rfl⟩
          subst hwo
          have hd0 : Below wo.heap.size wo wo := Below.refl _ _
          have hd1 : Below wo.heap.size wo wo.drew := hd0.drew
          have hwu : ∀ u, Below wo.heap.size wo u → Below w12.heap.size w12 u := fun u hu => HB.out.trans (hu.mono HB.out.size)
          have hlen : (ct.getD k []).length ≤ 1000000 := by
            rw [List.getD_eq_getElem?_getD, List.getElem?_eq_getElem hkl]
            exact K.ctl _ (List.getElem_mem hkl)
          have K16 : Hid (∀ u, Below wo.heap.size wo u → Hid (Calls Tryz.prog 16 #[.slice s1 nn d1, .slice s2 nn d2] u fun r w' => r = .returned (.bool true) ∧ Below u.heap.size u w')) := hid fun u hu => hid (by
            refine (sameInts u _ _ _ _ (i1.mono (hwu u hu) (Nat.le_refl _)) (i2.mono (hwu u hu) (Nat.le_refl _)) (by simpa using hlen)).mono ?_
            rintro r w' ⟨h1, q, rfl⟩
            exact ⟨by rw [h1, decide_eq_true rfl], below_draws (Below.refl _ _) q⟩)
          have HELD : Hid (∀ u, Below wo.heap.size wo u → u.cell? ⟨b1, k, none⟩ = some (.slice s1 nn d1) ∧ u.cell? ⟨b2, k, none⟩ = some (.slice s2 nn d2)) := hid fun u hu => ⟨by rw [(hwu u hu).cell (p := ⟨b1, k, none⟩) (lt_of_cell e1)]; exact e1, by rw [(hwu u hu).cell (p := ⟨b2, k, none⟩) (lt_of_cell e2)]; exact e2⟩
          have HWU := hid hwu
          clear e1 e2 i1 i2 hlen hwu HROW
          go_upto_region 23 with (fail)
          go_region_held (fun u => u.cell? ⟨b1, k, none⟩ = some (.slice s1 nn d1) ∧ u.cell? ⟨b2, k, none⟩ = some (.slice s2 nn d2)) ((refine HELD.out _ ?_; with_reducible assumption)) (first | (go_at_call 16; refine (K16.out _ ?hb4).out.mono ?_; (case hb4 => with_reducible assumption); rintro e w' ⟨rfl, hb'⟩; have hbw : Below wo.heap.size wo w' := (by first | exact hd1.trans (hb'.mono hd1.size) | exact hd0.trans (hb'.mono hd0.size)); clear hb'))
          have HB2 := hid (HWU.out w' hbw)
          clear hbw hd0 hd1 K16 HELD
          go_wp2
          go_roundw
          case rel => exact ⟨k + 1, by omega, by go_num, HB2⟩
          case measure => simp [intOf]; omega
        · obtain rfl : k = z := by omega
          go_wp2
          go_ret
          exact ⟨rfl, HB12.out.trans (HB.out.mono HB12.out.size)⟩
end Go.Proofs.YtngjooemanapnaaGreatDoor
