/- judge.Check; Who waits for whom: eachWitness, takeFree. -/
import Derived.Test.YtngjooemanapnaaGreatDoorJJK
namespace Go.Proofs.YtngjooemanapnaaGreatDoor
open Go.RowKit Go.Sort Go.Maps
set_option maxRecDepth 100000
set_option linter.unusedSectionVars false
variable [Inhabited ComV] [DecidableEq D3] [Inhabited D3] [Inhabited Dd] [Inhabited Dn] [Inhabited OpV]

def ErRet (A : Nat → Addr) (er : Nat × Option Nat) (w : World) (r : Ending) (w' : World) : Prop := ∃ x, r = .returned x ∧ ErrAt A w' x er ∧ Below w.heap.size w w'
theorem errAt_cases {A : Nat → Addr} {w : World} {x : Value} {er : Nat × Option Nat} (h : ErrAt A w x er) (h0 : er.1 = 0 → er.2 = none) : (er.1 = 0 ∧ x = .nilIface) ∨ (er.1 ≠ 0 ∧ ∃ t a, x = .iface t (.pointer (some a))) := by
  obtain ⟨k, o⟩ := er
  cases k with
  | zero =>
    have : o = none := h0 rfl
    subst this
    exact .inl ⟨rfl, h⟩
  | succ k => exact .inr ⟨by simp, errAt_ptr h⟩
theorem scan_bare {f : Nat → Nat} {m : Nat} (h : (scan f m).1 = 0) : (scan f m).2 = none := by rw [scan_fst_zero h]
set_option maxHeartbeats 4000000 in
theorem checkJ_any (A : Nat → Addr) (B : Nat) (w : World) (hS : Sents A B w) (n : Int) (l : List EvV) (v : Value) (hv : EvsAt w v l) (hl : l.length ≤ 1000) (hf : ∀ e ∈ l, EvFit e) :
    Calls Tryz.prog 7 #[.int .i64 n, v] w (ErRet A (checkE n l) w) := by
  have HS := hid hS
  have hs13 : 13 ≤ w.heap.size := Nat.le_trans hS.gl hS.size
  have P1 := hid (pass1 A B w hS n l v hv hl hf)
  have P2 := hid (fun hW => pass2 A B w hS n l v hv hl hf hW)
  have KT := fun w4 hq => hid (trueReads_any w l v hv hl (fun e he => (hf e he).com) w4 hq)
  have hv0 := hid hv
  obtain ⟨va, vc, rfl, _⟩ := hv.shape
  have g0 : w.cell? ⟨0, 0, none⟩ = some (.iface 223 (.pointer (some (A 1)))) := hS.cell 1 (by decide)
  unfold checkE
  by_cases h1 : n < 1
  · rw [if_pos (.inl h1)]
    clear hS hv HS P1 P2 KT hv0 hf
    go_enter Tryz.func7, Tryz.ntmps7
    go_wp2
    go_ret
    exact ⟨_, rfl, rfl, Below.refl _ _⟩
  by_cases h2 : 6 < n
  · rw [if_pos (.inr h2)]
    clear hS hv HS P1 P2 KT hv0 hf
    go_enter Tryz.func7, Tryz.ntmps7
    go_wp2
    go_ret
    exact ⟨_, rfl, rfl, Below.refl _ _⟩
  rw [if_neg (by omega)]
  obtain ⟨er1, her1⟩ : ∃ er1, er1 = wholeE n l := ⟨_, rfl⟩
  have H0 : er1.1 = 0 → er1.2 = none := fun h => by rw [her1] at h ⊢; exact scan_bare h
  have HW := hid (fun (h : er1.1 = 0) => wholeL_of (n := n) (l := l) (by rw [← her1]; exact h))
  rw [← her1] at P1 ⊢
  obtain ⟨er, her⟩ : ∃ er, er = (if er1.1 ≠ 0 then er1 else scan (besideB l) l.length) := ⟨_, rfl⟩
  rw [← her]
  have HER := ShutJ.mk her
  have HH0 := hid H0
  obtain ⟨m, hm⟩ : ∃ m, m = l.length := ⟨_, rfl⟩
  have HM := hid hm
  rw [← hm] at P1 P2 KT ⊢
  clear hS hv HS hv0 hf her her1 H0 hm g0 hl
  go_enter Tryz.func7, Tryz.ntmps7
  go_wp2_with fail
  with_reducible refine (ofPlaces_any w n).mono ?_
  rintro r w1 ⟨fv, rfl, hfv, hb1⟩
  have K1 := fun c => hid (P1.out w1 hb1 fv hfv c _ rfl)
  obtain ⟨ib, pb, rfl, _, _⟩ := hfv
  have B1 := hid hb1
  clear P1 hb1
  go_wp2_with fail
  with_reducible refine (K1 _).out.mono ?_
  rintro r w3 ⟨x, rfl, hx, hb3⟩
  clear K1
  rcases errAt_cases hx HH0.out with ⟨h0, rfl⟩ | ⟨h0, t, a, rfl⟩
  · have B3 := hid hb3
    have HZ := hid h0
    clear hx hb3 h0
    go_wp2_with fail
    with_reducible refine (inTurn_new w w3).mono ?_
    rintro r w4 ⟨cb, mb, rfl, hT, hcm, hmb, hb4⟩
    have hb4' : Below w.heap.size w w4 := B3.out.trans (hb4.mono B3.out.size)
    have KT' := hid ((KT w4 hb4').out)
    have HT := hid hT
    have hmw : w.heap.size ≤ mb := Nat.le_trans B3.out.size hmb
    have B4 := hid hb4'
    clear hT hb4 hb4' KT hmb
    go_wp2_with fail
    with_reducible refine KT'.out.mono ?_
    rintro r w5 ⟨sb, xs, rfl, hA, hxs, hb5⟩
    have K2 := fun c => hid (P2.out (HW.out HZ.out) w5 (B4.out.trans (hb5.mono B4.out.size)) cb mb sb xs (HT.out.stay hb5) hcm hmw hA hxs c _ rfl)
    clear hA hxs hb5 KT' P2
    go_wp2_with fail
    with_reducible refine (K2 _).out.mono ?_
    rintro r w6 ⟨x, rfl, hx, hb6⟩
    have HX := hid hx
    have B6 := hid hb6
    clear hx hb6 K2
    go_wp2
    go_ret
    refine ⟨x, rfl, ?_, B6.out⟩
    rw [HER.out, if_neg (fun h => h HZ.out), ← HM.out]
    exact HX.out
  · have HX := hid hx
    have B3 := hid hb3
    have HZ := hid h0
    clear hx hb3 h0
    go_wp2
    go_ret
    refine ⟨_, rfl, ?_, B3.out⟩
    rw [HER.out, if_pos HZ.out]
    exact HX.out
end Go.Proofs.YtngjooemanapnaaGreatDoor
namespace Go.Proofs.YtngjooemanapnaaGreatDoor
open Go.RowKit Go.Sort Go.Maps
set_option maxRecDepth 100000
set_option linter.unusedSectionVars false
variable [Inhabited ComV] [DecidableEq D3] [Inhabited D3] [Inhabited Dd] [Inhabited Dn] [Inhabited OpV]

/-- Block wb holds n numbers. -/
def RowI (w : World) (wb n : Nat) (f : Nat → Int) : Prop := ∃ cs, w.heap[wb]? = some (.cells cs 3 (0, 0)) ∧ ∀ t, t < n → cs[t]? = some (.int .i64 (f t))
theorem RowI.cell {w : World} {wb n : Nat} {f : Nat → Int} (h : RowI w wb n f) {t : Nat} (ht : t < n) : w.cell? ⟨wb, t, none⟩ = some (.int .i64 (f t)) := by
  obtain ⟨cs, h1, h2⟩ := h
  simp only [World.cell?, h1]
  rw [h2 t ht]
  rfl
theorem RowI.free {w : World} {wb n : Nat} {f : Nat → Int} (h : RowI w wb n f) (t : Nat) : w.frozen? ⟨wb, t, none⟩ = false := by
  obtain ⟨cs, h1, _⟩ := h
  simp [World.frozen?, h1]
theorem RowI.lt {w : World} {wb n : Nat} {f : Nat → Int} (h : RowI w wb n f) : wb < w.heap.size := by obtain ⟨cs, h1, _⟩ := h; exact lt_of_heap h1
theorem RowI.stay {w w' : World} {wb n : Nat} {f : Nat → Int} (h : RowI w wb n f) (hb : w'.heap[wb]? = w.heap[wb]?) : RowI w' wb n f := by
  obtain ⟨cs, h1, h2⟩ := h
  exact ⟨cs, hb.trans h1, h2⟩
theorem RowI.set {w : World} {wb n : Nat} {f : Nat → Int} (h : RowI w wb n f) {b : Nat} (x : Int) : RowI (w.setCell ⟨wb, b, none⟩ (.int .i64 x)) wb n (fun t => if t = b then x else f t) := by
  obtain ⟨cs, h1, h2⟩ := h
  refine ⟨cs.setIfInBounds b (.int .i64 x), heap_set h1 _, fun t ht => ?_⟩
  by_cases e : t = b
  · subst e
    have := (Array.getElem?_eq_some_iff.1 (h2 t ht)).1
    simp [this]
  · show _ = some (Value.int .i64 (if t = b then x else f t))
    rw [if_neg e, Array.getElem?_setIfInBounds_ne (Ne.symm e)]
    exact h2 t ht
theorem only_setCell {w : World} {wb b : Nat} {v : Value} : OnlyB wb w (w.setCell ⟨wb, b, none⟩ v) := ⟨rfl, rfl, rfl, by simp, fun q _ hq => Below.heap_setCell _ _ _ _ hq⟩
/-- What rounds waits with: the variable, and its row. -/
structure Waits (w : World) (vb wb n : Nat) (f : Nat → Int) : Prop where
  var : ∃ c, w.heap[vb]? = some (.cells #[.slice (some ⟨wb, 0, none⟩) n c] 38 (0, 0))
  row : RowI w wb n f
theorem Waits.stay {w w' : World} {vb wb n : Nat} {f : Nat → Int} (h : Waits w vb wb n f) (hb : Below w.heap.size w w') : Waits w' vb wb n f := by
  obtain ⟨⟨c, h1⟩, h2⟩ := h
  exact ⟨⟨c, (hb.block _ (lt_of_heap h1)).trans h1⟩, h2.stay (hb.block _ h2.lt)⟩
theorem Waits.ne {w : World} {vb wb n : Nat} {f : Nat → Int} (h : Waits w vb wb n f) : vb ≠ wb := by
  obtain ⟨⟨c, h1⟩, cs, h2, _⟩ := h
  intro e
  rw [e, h2] at h1
  injection h1 with h1
  injection h1 with _ h1
  cases h1
theorem Waits.set {w : World} {vb wb n : Nat} {f : Nat → Int} (h : Waits w vb wb n f) (b : Nat) (x : Int) : Waits (w.setCell ⟨wb, b, none⟩ (.int .i64 x)) vb wb n (fun t => if t = b then x else f t) := by
  have hne := h.ne
  obtain ⟨⟨c, h1⟩, h2⟩ := h
  exact ⟨⟨c, (Below.heap_setCell _ _ _ _ hne).trans h1⟩, h2.set x⟩
/-- What is asked of the closure: d more for b. -/
def TellOk (n vb wb F : Nat) (d : Int) : Prop := ∀ (W : World) (f : Nat → Int) (b : Nat), Waits W vb wb n f → b < n → -100000 ≤ f b → f b ≤ 100000 → Calls Tryz.prog F #[.int .i64 b, .pointer (some ⟨vb, 0, none⟩)] W fun r w' => r = .returned (.tuple #[]) ∧ Waits w' vb wb n (fun t => if t = b then f t + d else f t) ∧ OnlyB wb W w'
theorem tell62 (n vb wb : Nat) : TellOk n vb wb 62 1 := fun W f b hW hb h1 h2 => by
  obtain ⟨c, hv⟩ := hW.var
  have c0 : W.cell? ⟨vb, 0, none⟩ = some (.slice (some ⟨wb, 0, none⟩) n c) := (cell_of hv).trans rfl
  have c1 := hW.row.cell hb
  have f1 := hW.row.free b
  have hS := hid (hW.set b (f b + 1))
  have hbn : (b : Int) < (n : Int) := by omega
  obtain ⟨x, hx⟩ : ∃ x, x = f b := ⟨_, rfl⟩
  have HX := hid hx
  rw [← hx] at c1 h1 h2 hS
  clear hW hv hx
  go_enter Tryz.func62, Tryz.ntmps62
  go_wp2
  go_end0
  refine ⟨rfl, ?_, only_setCell⟩
  have e : (fun t => if t = b then f t + 1 else f t) = fun t => if t = b then x + 1 else f t := by
    funext t
    by_cases e : t = b
    · rw [if_pos e, if_pos e, e, HX.out]
    · rw [if_neg e, if_neg e]
  rw [e]
  exact hS.out
theorem tell64 (n vb wb : Nat) : TellOk n vb wb 64 (-1) := fun W f b hW hb h1 h2 => by
  obtain ⟨c, hv⟩ := hW.var
  have c0 : W.cell? ⟨vb, 0, none⟩ = some (.slice (some ⟨wb, 0, none⟩) n c) := (cell_of hv).trans rfl
  have c1 := hW.row.cell hb
  have f1 := hW.row.free b
  have hS := hid (hW.set b (f b - 1))
  have hbn : (b : Int) < (n : Int) := by omega
  obtain ⟨x, hx⟩ : ∃ x, x = f b := ⟨_, rfl⟩
  have HX := hid hx
  rw [← hx] at c1 h1 h2 hS
  clear hW hv hx
  go_enter Tryz.func64, Tryz.ntmps64
  go_wp2
  go_end0
  refine ⟨rfl, ?_, only_setCell⟩
  have e : (fun t => if t = b then f t + -1 else f t) = fun t => if t = b then x - 1 else f t := by
    funext t
    by_cases e : t = b
    · rw [if_pos e, if_pos e, e, HX.out]; omega
    · rw [if_neg e, if_neg e]
  rw [e]
  exact hS.out
end Go.Proofs.YtngjooemanapnaaGreatDoor
