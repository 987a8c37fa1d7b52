/- ValuesCheck: the walk. -/
import Derived.Test.YtilonnkohcocoaaGreatDoorJVFlt
import Derived.Test.YtilonnkohcocoaaGreatDoorJVTurnM
import Derived.Deep.RegionHeld
namespace Go.Proofs.YtilonnkohcocoaaGreatDoor
open Go.RowKit Go.Sort Go.Maps
set_option maxRecDepth 100000
set_option linter.unusedSectionVars false
variable [Inhabited ComV] [DecidableEq D3] [Inhabited D3] [Inhabited Dd] [Inhabited Dn] [Inhabited OpV]

theorem cells_of3 {w : World} {b : Nat} {x y z : Value} (h : w.heap[b]? = some (.cells #[x, y, z] 28 (0, 0))) : w.cell? ⟨b, 0, none⟩ = some x ∧ w.cell? ⟨b, 1, none⟩ = some y ∧ w.cell? ⟨b, 2, none⟩ = some z := by
  refine ⟨?_, ?_, ?_⟩ <;> (simp only [World.cell?, h]; rfl)
/-- An op and a commit lie in their boxes. -/
structure Boxes (w0 : World) (o : OpV) (dv wv ov : Value) (p : Int) (w : World) : Prop where
  below : Below w0.heap.size w0 w
  size : w0.heap.size + 2 ≤ w.heap.size
  op : w.heap[w0.heap.size]? = some (.cells (opCells o dv).toArray 24 (0, 0))
  com : w.heap[w0.heap.size + 1]? = some (.cells #[wv, .int .i64 p, ov] 28 (0, 0))
theorem Boxes.start (w : World) (o : OpV) (dv wv ov : Value) (p : Int) : Boxes w o dv wv ov p ((w.alloc (.cells (opCells o dv).toArray 24)).alloc (.cells #[wv, .int .i64 p, ov] 28)) := by
  refine ⟨below2 _ _ _, by simp, ?_, ?_⟩
  · rw [(MapKept.heap_alloc _ _).2 _ (by simp)]
    exact (MapKept.heap_alloc _ _).1
  · have := (MapKept.heap_alloc (w.alloc (.cells (opCells o dv).toArray 24)) (.cells #[wv, .int .i64 p, ov] 28)).1
    simpa using this
theorem Boxes.moved {w0 w w' : World} {o : OpV} {dv wv ov : Value} {p : Int} (h : Boxes w0 o dv wv ov p w) (hb : Below w.heap.size w w') : Boxes w0 o dv wv ov p w' where
  below := h.below.trans (hb.mono h.below.size)
  size := Nat.le_trans h.size hb.size
  op := by rw [hb.block _ (by have := h.size; omega)]; exact h.op
  com := by rw [hb.block _ (by have := h.size; omega)]; exact h.com
theorem one_op {w : World} {b : Nat} {o : OpV} {dv : Value} (h : w.heap[b]? = some (.cells (opCells o dv).toArray 24 (0, 0))) (hd : DotsAt w dv o.dots) : OpsAt w (.slice (some ⟨b, 0, none⟩) 1 1) [o] :=
  ⟨[opCells o dv], rowAt_lit h [_] (by simp) (fun r hr => by rw [List.mem_singleton.1 hr]; rfl) rfl (Nat.le_refl _), ⟨⟨_, rfl, hd⟩, trivial⟩⟩
theorem heavy_one {o : OpV} (h : heavyB ⟨[], 0, [o]⟩ = false) : o.key.size ≤ 60 ∧ o.text.size ≤ 200 ∧ o.dots.length ≤ 70 := by
  unfold heavyB at h
  have h2 : heavyO o = false := by simpa using h
  unfold heavyO at h2
  rw [Bool.or_eq_false_iff, Bool.or_eq_false_iff, decide_eq_false_iff_not, decide_eq_false_iff_not, decide_eq_false_iff_not] at h2
  omega
theorem light_com {c : ComV} (h3 : heavyB c = false) : c.when_.length ≤ 20 ∧ c.ops.length ≤ 20 ∧ ∀ o ∈ c.ops, o.key.size ≤ 60 ∧ o.text.size ≤ 200 ∧ o.dots.length ≤ 70 := by
  unfold heavyB at h3
  rw [Bool.or_eq_false_iff, Bool.or_eq_false_iff, decide_eq_false_iff_not, decide_eq_false_iff_not, List.any_eq_false] at h3
  refine ⟨by omega, by omega, fun o ho => ?_⟩
  have h4 : heavyO o = false := by simpa using h3.2.2 o ho
  unfold heavyO at h4
  rw [Bool.or_eq_false_iff, Bool.or_eq_false_iff, decide_eq_false_iff_not, decide_eq_false_iff_not, decide_eq_false_iff_not] at h4
  omega
/-- The copy's box, its dots in a row of their own. -/
theorem check_box {w3 w5 : World} {base : Nat} {v5 : Value} {o : OpV} {dvo : Value} (hg : (w3.alloc (.cells #[.int .i64 o.at_, .string o.key, .int .i64 o.kind, .string o.text, .int .i64 o.n, .bool o.rem, dvo] 24)).grownBy w5 none)
    (hr : w5.ownsRow base 65 3 v5 o.dots.length (o.dots.flatMap D3.cells)) : Below w3.heap.size w3 (w5.setCell ⟨w3.heap.size, 6, none⟩ v5) ∧ (w5.setCell ⟨w3.heap.size, 6, none⟩ v5).heap[w3.heap.size]? = some (.cells (opCells o v5).toArray 24 (0, 0)) ∧ DotsAt (w5.setCell ⟨w3.heap.size, 6, none⟩ v5) v5 o.dots := by
  have hbx : w5.heap[w3.heap.size]? = some (.cells #[.int .i64 o.at_, .string o.key, .int .i64 o.kind, .string o.text, .int .i64 o.n, .bool o.rem, dvo] 24 (0, 0)) := by
    rw [hg.block _ (by simp) (by simp)]
    exact (MapKept.heap_alloc _ _).1
  refine ⟨((below_alloc w3 _).grown hg (by simp) (fun k hk => by cases hk)).setCell (Nat.le_refl _) _, ?_, ?_⟩
  · rw [heap_set hbx]
    rfl
  · refine dots_of_owns (base := base) (n := o.dots.length) (owns_below hr fun b cs hb => Below.heap_setCell _ _ _ _ fun e => ?_) rfl
    have e' : b = w3.heap.size := e
    rw [e', hbx] at hb
    injection hb with hb
    injection hb with _ hb
    exact absurd hb (by decide)
/-- What the last line reads stays. -/
theorem held_of {w6 : World} {N K : Nat} {o : OpV} {dv dv' wv ov : Value} {p : Int} (h1 : w6.heap[N]? = some (.cells (opCells o dv).toArray 24 (0, 0))) (h2 : w6.heap[K]? = some (.cells (opCells o dv').toArray 24 (0, 0))) (h3 : w6.heap[N + 1]? = some (.cells #[wv, .int .i64 p, ov] 28 (0, 0))) : ∀ w', Below w6.heap.size w6 w' →
    w'.cell? ⟨K, 0, none⟩ = some (.int .i64 o.at_) ∧ w'.cell? ⟨K, 1, none⟩ = some (.string o.key) ∧ w'.cell? ⟨K, 2, none⟩ = some (.int .i64 o.kind) ∧ w'.cell? ⟨K, 3, none⟩ = some (.string o.text) ∧ w'.cell? ⟨K, 4, none⟩ = some (.int .i64 o.n) ∧ w'.cell? ⟨K, 5, none⟩ = some (.bool o.rem) ∧ w'.cell? ⟨K, 6, none⟩ = some dv' ∧
    w'.cell? ⟨N, 0, none⟩ = some (.int .i64 o.at_) ∧ w'.cell? ⟨N, 1, none⟩ = some (.string o.key) ∧ w'.cell? ⟨N, 2, none⟩ = some (.int .i64 o.kind) ∧ w'.cell? ⟨N, 3, none⟩ = some (.string o.text) ∧ w'.cell? ⟨N, 4, none⟩ = some (.int .i64 o.n) ∧ w'.cell? ⟨N, 5, none⟩ = some (.bool o.rem) ∧ w'.cell? ⟨N, 6, none⟩ = some dv ∧
    w'.cell? ⟨N + 1, 0, none⟩ = some wv ∧ w'.cell? ⟨N + 1, 1, none⟩ = some (.int .i64 p) ∧ w'.cell? ⟨N + 1, 2, none⟩ = some ov := fun w' hb => by
  have k1 : w'.heap[N]? = some (.cells (opCells o dv).toArray 24 (0, 0)) := by rw [hb.block _ (lt_of_heap h1)]; exact h1
  have k2 : w'.heap[K]? = some (.cells (opCells o dv').toArray 24 (0, 0)) := by rw [hb.block _ (lt_of_heap h2)]; exact h2
  have k3 : w'.heap[N + 1]? = some (.cells #[wv, .int .i64 p, ov] 28 (0, 0)) := by rw [hb.block _ (lt_of_heap h3)]; exact h3
  obtain ⟨a0, a1, a2, a3, a4, a5, a6⟩ := cells_of7 k1
  obtain ⟨b0, b1, b2, b3, b4, b5, b6⟩ := cells_of7 k2
  obtain ⟨c0, c1, c2⟩ := cells_of3 k3
  exact ⟨b0, b1, b2, b3, b4, b5, b6, a0, a1, a2, a3, a4, a5, a6, c0, c1, c2⟩
set_option maxHeartbeats 8000000 in
theorem check_walk (A : Nat → Addr) (B : Nat) (w : World) (hS : Sents A B w) (o : OpV) (dv : Value) (hd : DotsAt w dv o.dots) (n : Int) (c : ComV) (wv ov : Value) (hw : IntsAt w wv c.when_) (hop : OpsAt w ov c.ops) :
    Calls Tryz.prog 3 #[.agg (opCells o dv).toArray, .int .i64 n, .agg #[wv, .int .i64 c.place, ov]] w fun e w' => e = .returned (.bool true) ∧ Below w.heap.size w w' := by
  have hz : 13 ≤ w.heap.size := Nat.le_trans hS.gl hS.size
  have hT := Boxes.start w o dv wv ov c.place
  obtain ⟨W1, hW1⟩ : ∃ W1, W1 = (w.alloc (.cells (opCells o dv).toArray 24)).alloc (.cells #[wv, .int .i64 c.place, ov] 28) := ⟨_, rfl⟩
  rw [← hW1] at hT
  have hS1 : Sents A B W1 := hS.below (hT.below.mono hS.size)
  have K8 := worth_true A W1 hS1.e4 (by have := hT.size; omega)
  obtain ⟨i65, hi65, hx0, hx1, hx2⟩ := info_parts Tryz.info65
  obtain ⟨dp, dc, hdv⟩ := hd.len
  subst hdv
  obtain ⟨a1, c1, hwv⟩ : ∃ a1 c1, wv = .slice a1 c.when_.length c1 := by obtain ⟨a, b, h, _⟩ := hw; exact ⟨a, b, h⟩
  obtain ⟨a2, c2, hov⟩ : ∃ a2 c2, ov = .slice a2 c.ops.length c2 := by obtain ⟨a, b, h, _⟩ := hop.shape; exact ⟨a, b, h⟩
  have HT := hid hT
  have HS := hid hS
  have HD := hid hd
  have HW := hid hw
  have HOP := hid hop
  obtain ⟨p, hp⟩ : ∃ p, p = c.place := ⟨_, rfl⟩
  obtain ⟨n1, hn1⟩ : ∃ n1, n1 = c.when_.length := ⟨_, rfl⟩
  obtain ⟨n2, hn2⟩ : ∃ n2, n2 = c.ops.length := ⟨_, rfl⟩
  obtain ⟨m, hm⟩ : ∃ m, m = o.dots.length := ⟨_, rfl⟩
  subst hwv hov
  rw [← hp, ← hn1, ← hn2, ← hm] at HT hW1 ⊢
  rw [← hm] at HD
  rw [← hn1] at HW
  rw [← hn2] at HOP
  have HP := hid hp
  have HN1 := hid hn1
  have HN2 := hid hn2
  have HM := hid hm
  clear hT hS hd hw hop hS1 hp hn1 hn2 hm
  show Calls Tryz.prog 3 #[.agg #[.int .i64 o.at_, .string o.key, .int .i64 o.kind, .string o.text, .int .i64 o.n, .bool o.rem, .slice dp m dc], .int .i64 n, .agg #[.slice a1 n1 c1, .int .i64 p, .slice a2 n2 c2]] w _
  have hW1' : W1 = (w.alloc (.cells #[.int .i64 o.at_, .string o.key, .int .i64 o.kind, .string o.text, .int .i64 o.n, .bool o.rem, .slice dp m dc] 24)).alloc (.cells #[.slice a1 n1 c1, .int .i64 p, .slice a2 n2 c2] 28) := hW1
  clear hW1
  go_enter Tryz.func3, Tryz.ntmps3
  go_wp2_with fail
  rw [← hW1']
  refine K8.mono ?_
  rintro e w0 ⟨rfl, hb0⟩
  have T0 := HT.out.moved hb0
  obtain ⟨s0, s1, s2, s3, s4, s5, s6⟩ := cells_of7 T0.op
  have bA := below_alloc w0 (.cells (opCells o (.slice dp m dc)).toArray 24)
  have hA : (w0.alloc (.cells (opCells o (.slice dp m dc)).toArray 24)).heap[w0.heap.size]? = some (.cells (opCells o (.slice dp m dc)).toArray 24 (0, 0)) := (MapKept.heap_alloc _ _).1
  have K9 := heavyCommit (w0.alloc (.cells (opCells o (.slice dp m dc)).toArray 24)) ⟨[], 0, [o]⟩ (.slice none 0 0) (.slice (some ⟨w0.heap.size, 0, none⟩) 1 1) ⟨none, 0, rfl, fun _ => rfl, .inl rfl⟩ (one_op hA ((HD.out.mono T0.below (Nat.le_refl _)).mono bA (Nat.le_refl _)))
  have HT0 := hid T0
  clear K8 hb0 hW1' HT T0 hA
  unfold HeavyRet at K9
  obtain ⟨hv9, hhv9⟩ : ∃ x, x = heavyN ⟨[], 0, [o]⟩ := ⟨_, rfl⟩
  rw [← hhv9] at K9
  have HV9 := hid hhv9
  clear hhv9
  go_wp2_with fail
  refine K9.mono ?_
  rintro e w2 ⟨rfl, hb2⟩
  have T2 := HT0.out.moved (bA.trans (hb2.mono (by simp)))
  clear K9 hb2 bA s0 s1 s2 s3 s4 s5 s6
  cases hh1 : heavyB ⟨[], 0, [o]⟩ with
  | true =>
    obtain rfl : hv9 = 1 := HV9.out.trans (heavyN_one hh1)
    have HB := hid T2.below
    clear hh1 T2
    go_wp2
    go_ret
    exact ⟨rfl, HB.out⟩
  | false =>
    obtain rfl : hv9 = 0 := HV9.out.trans (heavyN_zero hh1)
    have ho := heavy_one hh1
    have HO := hid ho
    obtain ⟨r0, r1, r2⟩ := cells_of3 T2.com
    have K9 := heavyCommit w2 c (.slice a1 n1 c1) (.slice a2 n2 c2) (HW.out.mono T2.below (Nat.le_refl _)) (HOP.out.mono T2.below (Nat.le_refl _))
    rw [← HP.out] at K9
    unfold HeavyRet at K9
    obtain ⟨hv8, hhv8⟩ : ∃ x, x = heavyN c := ⟨_, rfl⟩
    rw [← hhv8] at K9
    have HV8 := hid hhv8
    have HT2 := hid T2
    clear hh1 ho hhv8 T2
    go_wp2_with fail
    refine K9.mono ?_
    rintro e w3 ⟨rfl, hb3⟩
    have T3 := HT2.out.moved hb3
    clear K9 hb3 r0 r1 r2
    cases hh2 : heavyB c with
    | true =>
      obtain rfl : hv8 = 1 := HV8.out.trans (heavyN_one hh2)
      have HB := hid T3.below
      clear hh2 T3
      go_wp2
      go_ret
      exact ⟨rfl, HB.out⟩
    | false =>
      obtain rfl : hv8 = 0 := HV8.out.trans (heavyN_zero hh2)
      have HL := hid (light_com hh2)
      obtain ⟨s0, s1, s2, s3, s4, s5, s6⟩ := cells_of7 T3.op
      have s6' := fun ob => cell_alloc s6 ob
      have hsrc := src_dots (HD.out.mono T3.below (Nat.le_refl _))
      rw [← HM.out] at hsrc
      have HSRC := hid hsrc
      clear hsrc
      have hm70 : m ≤ 70 := by have := HO.out.2.2; have := HM.out; omega
      have hs3 := T3.size
      have HT3 := hid T3
      clear hh2 T3
      go_upto_region 6 with (fail)
      go_upto_region 7 with (at_builtin; refine wpList_append_src rfl _ _ 22 rfl (w.heap.size + 2) 65 i65 _ 3 24 Tryz.underlying22 hi65 hx0 hx1 hx2 rfl (by decide) rfl _ m (o.dots.flatMap D3.cells) rfl (HSRC.out.moved ?hm1) (dots_one _) ?hm2 ?hm3 ?hm4 ?_; (case hm1 => exact fun a u h => cell_alloc h _); (case hm2 => unfold maxLen; omega); (case hm3 => omega); (case hm4 => simp; omega); intro v5 w5 hown5 hgrow5; obtain ⟨x6, xf6⟩ := own_box_cell (cs := [.int .i64 o.at_, .string o.key, .int .i64 o.kind, .string o.text, .int .i64 o.n, .bool o.rem, .slice dp m dc]) hgrow5 rfl; obtain ⟨a5, c5, rfl⟩ := row_shape hown5)
      obtain ⟨b6, x9, d9⟩ := check_box (base := w.heap.size + 2) (o := o) (v5 := .slice a5 m c5) hgrow5 (by rw [← HM.out]; exact hown5)
      obtain ⟨w6, hw6⟩ : ∃ w6, w6 = w5.setCell ⟨w3.heap.size, 6, none⟩ (.slice a5 m c5) := ⟨_, rfl⟩
      rw [← hw6] at b6 x9 d9 ⊢
      have T6 := HT3.out.moved b6
      have hS6 : Sents A B w6 := HS.out.below (T6.below.mono HS.out.size)
      have HELD := hid (held_of T6.op x9 T6.com)
      have DA : DotsAt w6 (.slice a5 m c5) o.dots := d9
      have DB : DotsAt w6 (.slice dp m dc) o.dots := HD.out.mono T6.below (Nat.le_refl _)
      have IW : IntsAt w6 (.slice a1 n1 c1) c.when_ := HW.out.mono T6.below (Nat.le_refl _)
      have IOps : OpsAt w6 (.slice a2 n2 c2) c.ops := HOP.out.mono T6.below (Nat.le_refl _)
      have hz6 : 13 ≤ w6.heap.size := Nat.le_trans hz T6.below.size
      have hsB : B ≤ w6.heap.size := hS6.size
      obtain ⟨er, her⟩ : ∃ er, er = opErr o n := ⟨_, rfl⟩
      have K11 : Hid (∀ u, Below w6.heap.size w6 u → Calls Tryz.prog 12 #[.agg #[.int .i64 o.at_, .string o.key, .int .i64 o.kind, .string o.text, .int .i64 o.n, .bool o.rem, .slice a5 m c5], .int .i64 n] u fun e w' => e = .returned (errV A er) ∧ Below w6.heap.size w6 w') := fun u hu => by
        have := check_op A u (hS6.e4.below hu (by omega)) (by have := hu.size; omega) o.at_ o.key o.kind o.text o.n o.rem a5 c5 o.dots n (by rw [← HM.out]; exact DA.mono hu (Nat.le_refl _)) (by have := HO.out.2.2; omega) (by have := HO.out.2.1; omega)
        rw [← HM.out] at this
        refine this.mono ?_
        rintro e w' ⟨rfl, hb⟩
        exact ⟨by rw [her], hu.trans (hb.mono hu.size)⟩
      have K12 : Hid (∀ u, Below w6.heap.size w6 u → Calls Tryz.prog 13 #[.agg #[.int .i64 o.at_, .string o.key, .int .i64 o.kind, .string o.text, .int .i64 o.n, .bool o.rem, .slice dp m dc], .int .i64 n] u fun e w' => e = .returned (.int .i64 ((er : Nat) : Int)) ∧ Below w6.heap.size w6 w') := fun u hu => by
        have := rOpError u o.at_ o.key o.kind o.text o.n o.rem dp dc o.dots n (by rw [← HM.out]; exact DB.mono hu (Nat.le_refl _)) (by have := HO.out.2.2; omega) (by have := HO.out.2.1; omega)
        rw [← HM.out] at this
        refine this.mono ?_
        rintro e w' ⟨rfl, hb⟩
        exact ⟨by rw [her], hu.trans (hb.mono hu.size)⟩
      have K10 : Hid (∀ u, Below w6.heap.size w6 u → Calls Tryz.prog 11 #[errV A er, .int .i64 ((er : Nat) : Int)] u fun e w' => e = .returned (.bool true) ∧ Below w6.heap.size w6 w') := fun u hu => by
        refine (coded_err A B u (hS6.below (hu.mono hsB)) er (by rw [her]; exact opErr_le _ _)).mono ?_
        rintro e w' ⟨rfl, hb⟩
        exact ⟨rfl, hu.trans (hb.mono hu.size)⟩
      have K15 : Hid (∀ u, Below w6.heap.size w6 u → Calls Tryz.prog 16 #[.agg #[.slice a1 n1 c1, .int .i64 p, .slice a2 n2 c2]] u fun e w' => ∃ x3 y3 x4 y4, e = .returned (.agg #[.slice x3 n1 y3, .int .i64 p, .slice x4 n2 y4]) ∧ IntsAt w' (.slice x3 n1 y3) c.when_ ∧ OpsAt w' (.slice x4 n2 y4) c.ops ∧ Below w6.heap.size w6 w') := fun u hu => by
        have := ownCommit u c (.slice a1 n1 c1) (.slice a2 n2 c2) (IW.mono hu (Nat.le_refl _)) (IOps.mono hu (Nat.le_refl _)) HL.out.1 HL.out.2.1 (fun o ho => (HL.out.2.2 o ho).2.2)
        rw [← HP.out] at this
        refine this.mono ?_
        rintro e w' ⟨wv2, ov2, rfl, hT, hb⟩
        obtain ⟨⟨x3, y3, ex⟩, x4, y4, ey⟩ := hT.shape
        rw [← HN1.out] at ex
        rw [← HN2.out] at ey
        subst ex ey
        obtain ⟨wv', ov', he, h1, h2⟩ := hT.row
        injection he with e1 e2
        injection e2 with _ e2
        injection e2 with e2
        subst e1 e2
        exact ⟨x3, y3, x4, y4, by rw [HP.out], h1, h2, hu.trans (hb.mono hu.size)⟩
      have K14 : Hid (∀ u x3 y3 x4 y4, Below w6.heap.size w6 u → IntsAt u (.slice x3 n1 y3) c.when_ → OpsAt u (.slice x4 n2 y4) c.ops → Calls Tryz.prog 15 #[.agg #[.slice x3 n1 y3, .int .i64 p, .slice x4 n2 y4]] u fun e w' => ∃ v, e = .returned v ∧ ErrAt A w' v (comErr c) ∧ Below w6.heap.size w6 w') := fun u x3 y3 x4 y4 hu h1 h2 => by
        have := checkCommit A u (hS6.e4.below hu (by omega)) (by have := hu.size; omega) c (.slice x3 n1 y3) (.slice x4 n2 y4) h1 h2 (by have := HL.out.1; omega) (by have := HL.out.2.1; omega) (fun o ho => ⟨by have := (HL.out.2.2 o ho).2.1; omega, by have := (HL.out.2.2 o ho).2.2; omega⟩)
        rw [← HP.out] at this
        refine this.mono ?_
        rintro e w' ⟨v, rfl, hv, hb⟩
        exact ⟨v, rfl, hv, hu.trans (hb.mono hu.size)⟩
      have K16 : Hid (∀ u, Below w6.heap.size w6 u → Calls Tryz.prog 17 #[.agg #[.slice a1 n1 c1, .int .i64 p, .slice a2 n2 c2]] u fun e w' => e = .returned (.agg #[.int .i64 (((comErr c).1 : Nat) : Int), .int .i64 (faultAt (comErr c).2)]) ∧ Below u.heap.size u w' ∧ Below w6.heap.size w6 w') := fun u hu => by
        have := rCommitFault u c (.slice a1 n1 c1) (.slice a2 n2 c2) (IW.mono hu (Nat.le_refl _)) (IOps.mono hu (Nat.le_refl _)) (by have := HL.out.1; omega) (by have := HL.out.2.1; omega) (fun o ho => ⟨by have := (HL.out.2.2 o ho).2.1; omega, by have := (HL.out.2.2 o ho).2.2; omega⟩)
        rw [← HP.out] at this
        refine this.mono ?_
        rintro e w' ⟨rfl, hb⟩
        exact ⟨rfl, hb, hu.trans (hb.mono hu.size)⟩
      have K13 : Hid (∀ u ev, Below w6.heap.size w6 u → ErrAt A u ev (comErr c) → Calls Tryz.prog 14 #[ev, .agg #[.int .i64 (((comErr c).1 : Nat) : Int), .int .i64 (faultAt (comErr c).2)]] u fun e w' => e = .returned (.bool true) ∧ Below w6.heap.size w6 w') := fun u ev hu hv => by
        refine (faulted_err A B u (hS6.below (hu.mono hsB)) ev (comErr c) hv (comErr_le c) comErr_zero).mono ?_
        rintro e w' ⟨rfl, hb⟩
        exact ⟨rfl, hu.trans (hb.mono hu.size)⟩
      have HB6 := hid T6.below
      have hb0 : Below w6.heap.size w6 w6.drew := below_drew _ _
      obtain ⟨ce, hce⟩ : ∃ ce : Int, ce = (((comErr c).1 : Nat) : Int) := ⟨_, rfl⟩
      obtain ⟨ca, hca⟩ : ∃ ca : Int, ca = faultAt (comErr c).2 := ⟨_, rfl⟩
      rw [← hce, ← hca] at K16 K13
      clear hw6 hown5 hgrow5 x6 xf6 b6 x9 d9 T6 hS6 DA DB IW IOps her hce hca s0 s1 s2 s3 s4 s5 s6 s6' HT3
      go_region_held (fun w' => w'.cell? ⟨w3.heap.size, 0, none⟩ = some (.int .i64 o.at_) ∧ w'.cell? ⟨w3.heap.size, 1, none⟩ = some (.string o.key) ∧ w'.cell? ⟨w3.heap.size, 2, none⟩ = some (.int .i64 o.kind) ∧ w'.cell? ⟨w3.heap.size, 3, none⟩ = some (.string o.text) ∧ w'.cell? ⟨w3.heap.size, 4, none⟩ = some (.int .i64 o.n) ∧ w'.cell? ⟨w3.heap.size, 5, none⟩ = some (.bool o.rem) ∧ w'.cell? ⟨w3.heap.size, 6, none⟩ = some (.slice a5 m c5) ∧
          w'.cell? ⟨w.heap.size, 0, none⟩ = some (.int .i64 o.at_) ∧ w'.cell? ⟨w.heap.size, 1, none⟩ = some (.string o.key) ∧ w'.cell? ⟨w.heap.size, 2, none⟩ = some (.int .i64 o.kind) ∧ w'.cell? ⟨w.heap.size, 3, none⟩ = some (.string o.text) ∧ w'.cell? ⟨w.heap.size, 4, none⟩ = some (.int .i64 o.n) ∧ w'.cell? ⟨w.heap.size, 5, none⟩ = some (.bool o.rem) ∧ w'.cell? ⟨w.heap.size, 6, none⟩ = some (.slice dp m dc) ∧
          w'.cell? ⟨w.heap.size + 1, 0, none⟩ = some (.slice a1 n1 c1) ∧ w'.cell? ⟨w.heap.size + 1, 1, none⟩ = some (.int .i64 p) ∧ w'.cell? ⟨w.heap.size + 1, 2, none⟩ = some (.slice a2 n2 c2))
        ((refine HELD.out _ ?_; assumption))
        (first
          | (go_at_call 12; refine (K11.out _ (by assumption)).mono ?_; rintro e u1 ⟨rfl, hb1⟩)
          | (go_at_call 13; refine (K12.out _ (by assumption)).mono ?_; rintro e u2 ⟨rfl, hb2⟩)
          | (go_at_call 11; refine (K10.out _ (by assumption)).mono ?_; rintro e u3 ⟨rfl, hb3⟩)
          | (go_at_call 16; refine (K15.out _ (by assumption)).mono ?_; rintro e u4 ⟨x3, y3, x4, y4, rfl, hiw, hio, hb4⟩)
          | (go_at_call 15; refine (K14.out _ _ _ _ _ (by assumption) (by assumption) (by assumption)).mono ?_; rintro e u5 ⟨ev, rfl, hev, hb5⟩)
          | (go_at_call 17; refine (K16.out _ (by assumption)).mono ?_; rintro e u6 ⟨rfl, hbx, hb6⟩; have hev6 := errAt_mono hev hbx (Nat.le_refl _))
          | (go_at_call 14; refine (K13.out _ _ (by assumption) (by assumption)).mono ?_; rintro e u7 ⟨rfl, hb7⟩))
      have BF := hid (HB6.out.trans (hb7.mono HB6.out.size))
      clear hb0 hb1 hb2 hb3 hb4 hb5 hb6 hb7 hbx hev hev6 hiw hio
      go_wp2
      go_ret
      exact ⟨rfl, BF.out⟩
end Go.Proofs.YtilonnkohcocoaaGreatDoor
