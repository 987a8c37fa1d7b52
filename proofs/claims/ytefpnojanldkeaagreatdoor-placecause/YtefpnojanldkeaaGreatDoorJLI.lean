/- What is gathered line by line while the senders turn; A place beats. -/
import Derived.Test.YtefpnojanldkeaaGreatDoorJLG
namespace Go.Proofs.YtefpnojanldkeaaGreatDoor
open Go.RowKit Go.Maps
set_option maxRecDepth 100000
set_option linter.unusedSectionVars false
variable [Inhabited ComV] [DecidableEq D3] [Inhabited D3] [Inhabited Dd] [Inhabited Dn] [Inhabited OpV]

theorem PlMoves.refl {w : World} {h : PlH} {v : PlV} : PlMoves w w h v h v := ⟨rfl, rfl, rfl, Nat.le_refl _, fun _ _ _ => rfl, fun _ h => .inl h, fun _ _ _ _ _ => rfl⟩
theorem PlMoves.below {w W W' : World} {h0 h : PlH} {v0 v : PlV} (m : PlMoves w W h0 v0 h v) (hb : Below W.heap.size W W') : PlMoves w W' h0 v0 h v :=
  ⟨hb.os.trans m.os, hb.tape.trans m.tape, hb.output.trans m.output, Nat.le_trans m.size hb.size, fun b h1 h2 => (hb.block b (Nat.lt_of_lt_of_le h1 m.size)).trans (m.block b h1 h2), m.foot, m.keeps.trans (Keeps.bel hb)⟩
theorem PlMoves.trans {w W W' : World} {h0 h h' : PlH} {v0 v v' : PlV} (m : PlMoves w W h0 v0 h v) (m' : PlMoves W W' h v h' v') : PlMoves w W' h0 v0 h' v' :=
  ⟨m'.os.trans m.os, m'.tape.trans m.tape, m'.output.trans m.output, Nat.le_trans m.size m'.size, fun b h1 h2 => (m'.block b (Nat.lt_of_lt_of_le h1 m.size) fun e => by rcases m.foot b e with e | e; exact h2 e; omega).trans (m.block b h1 h2),
   fun b e => by rcases m'.foot b e with e | e; exact m.foot b e; exact .inr (Nat.le_trans m.size e), m.keeps.trans m'.keeps⟩
/-- Ahead of a place's step the world grew. -/
theorem PlMoves.ahead {w W W' : World} {h0 h : PlH} {v0 v : PlV} (hb : Below w.heap.size w W) (m : PlMoves W W' h0 v0 h v) : PlMoves w W' h0 v0 h v :=
  ⟨m.os.trans hb.os, m.tape.trans hb.tape, m.output.trans hb.output, Nat.le_trans hb.size m.size, fun b h1 h2 => (m.block b (Nat.lt_of_lt_of_le h1 hb.size) h2).trans (hb.block b h1), fun b e => by rcases m.foot b e with e | e; exact .inl e; exact .inr (Nat.le_trans hb.size e), (Keeps.bel hb).trans m.keeps⟩
structure PlG (w0 : World) (h0 : PlH) (v0 : PlV) (o : Option Nat) (h : PlH) (v : PlV) (W : World) : Prop where
  here : PlAt W h v
  mov : PlMoves w0 W h0 v0 h v
  pb : h.pb = h0.pb
  lb : h.lb = h0.lb
  b : h.b = h0.b
  gs : ∀ j s, v0.line j s → (h.X j s).g = (h0.X j s).g ∧ (h.X j s).gr = (h0.X j s).gr
  id : v.id = v0.id
  n : v.n = v0.n
  k : v.k = v0.k
  free : ∀ q, o = some q → ¬ h.foot v q ∧ w0.heap.size ≤ q
  xn : ∀ j s, v0.line j s → (h.X j s).n ≤ (h0.X j s).n + 1
theorem PlG.start {w0 : World} {h0 : PlH} {v0 : PlV} (a : PlAt w0 h0 v0) : PlG w0 h0 v0 none h0 v0 w0 := ⟨a, PlMoves.refl, rfl, rfl, rfl, fun _ _ _ => ⟨rfl, rfl⟩, rfl, rfl, rfl, (fun q h => by cases h), fun _ _ _ => Nat.le_succ _⟩
theorem PlG.below {w0 W W' : World} {h0 h : PlH} {v0 v : PlV} {o : Option Nat} (a : PlG w0 h0 v0 o h v W) (hb : Below W.heap.size W W') : PlG w0 h0 v0 o h v W' :=
  ⟨a.here.below hb, a.mov.below hb, a.pb, a.lb, a.b, a.gs, a.id, a.n, a.k, a.free, a.xn⟩
theorem keeps_grown {W W' : World} {o : Option Nat} (hg : W.grownBy W' o) (ht : ∀ q, o = some q → ∃ cs, W.heap[q]? = some (.cells cs 44 (0, 0))) : Keeps W W' := fun t ht' b cs hc => hg.block b (lt_of_heap hc) fun e => by
  obtain ⟨ds, hd⟩ := ht b e.symm
  rw [hd] at hc
  injection hc with hc
  injection hc with _ hc
  rcases ht' with rfl | rfl | rfl <;> exact absurd hc (by decide)
theorem PlG.grown {w0 W W' : World} {h0 h : PlH} {v0 v : PlV} {o o' : Option Nat} (a : PlG w0 h0 v0 o h v W) (hg : W.grownBy W' o) (ht : ∀ q, o = some q → ∃ cs, W.heap[q]? = some (.cells cs 44 (0, 0))) (ho : o' = o ∨ ∃ q, o' = some q ∧ W.heap.size ≤ q) : PlG w0 h0 v0 o' h v W' := by
  have hk := keeps_grown hg ht
  refine ⟨a.here.keep (fun b hb => hg.block b (a.here.lt hb) fun e => (a.free b e.symm).1 hb) hk, ⟨hg.os.trans a.mov.os, hg.tape.trans a.mov.tape, hg.output.trans a.mov.output, Nat.le_trans a.mov.size hg.size, fun b h1 h2 => (hg.block b (Nat.lt_of_lt_of_le h1 a.mov.size) fun e => by have := (a.free b e.symm).2; omega).trans (a.mov.block b h1 h2), a.mov.foot, a.mov.keeps.trans hk⟩, a.pb, a.lb, a.b, a.gs, a.id, a.n, a.k, fun q hq => ?_, a.xn⟩
  rcases ho with e | ⟨c, e, hc⟩
  · exact a.free q (by rw [← e]; exact hq)
  · rw [e] at hq
    obtain rfl := Option.some.inj hq
    exact ⟨fun hb => by have := a.here.lt hb; omega, Nat.le_trans a.mov.size hc⟩
theorem PlG.turn {w0 W W' : World} {h0 h : PlH} {v0 v : PlV} {o : Option Nat} (a : PlG w0 h0 v0 o h v W) {j s : Nat} (q : v.line j s) {x' : Ln} {y' : LnV} (hx : LnAt W' v.id j s x' y') (hg : x'.g = (h.X j s).g) (hgr : x'.gr = (h.X j s).gr) (hgm : x'.gm = (h.X j s).gm) (hxn : v0.line j s → x'.n ≤ (h0.X j s).n + 1) (hv : x'.v.ownBlock = (h.X j s).v.ownBlock ∨ ∃ c, x'.v.ownBlock = some c ∧ W.heap.size ≤ c)
    (ho : ∀ b, b < W.heap.size → ¬ (h.X j s).foot b → W'.heap[b]? = W.heap[b]?) (hk : Keeps W W') (h1 : W'.os = W.os) (h2 : W'.tape = W.tape) (h3 : W'.output = W.output) (h4 : W.heap.size ≤ W'.heap.size) (hl : ∀ q, o = some q → q < W.heap.size) : PlG w0 h0 v0 o { h with X := updL h.X j s x' } { v with Y := updL v.Y j s y' } W' := by
  refine ⟨a.here.turn q hx hg hgr hgm hv ho hk, a.mov.trans ⟨h1, h2, h3, h4, fun b hb hn => ho b hb fun e => hn (.inr (.inr (.inr (.inr (.inr (.inr (.inr ⟨j, s, q, e⟩))))))), fun b hb => PlH.foot_turn q hg hgr hgm hv hb, hk⟩, a.pb, a.lb, a.b, fun j' s' q' => ?_, a.id, a.n, a.k, fun c hc => ⟨fun hb => ?_, (a.free c hc).2⟩, fun j' s' q' => ?_⟩
  · show (updL h.X j s x' j' s').g = _ ∧ (updL h.X j s x' j' s').gr = _
    by_cases e : (j', s') = (j, s)
    · obtain ⟨rfl, rfl⟩ := Prod.mk.inj e
      rw [updL_at, hg, hgr]
      exact a.gs j' s' q'
    · rw [updL_ne _ _ e]
      exact a.gs j' s' q'
  · rcases PlH.foot_turn q hg hgr hgm hv hb with e | e
    · exact (a.free c hc).1 e
    · have := hl c hc
      omega
  · show (updL h.X j s x' j' s').n ≤ _
    by_cases e : (j', s') = (j, s)
    · obtain ⟨rfl, rfl⟩ := Prod.mk.inj e
      rw [updL_at]
      exact hxn q'
    · rw [updL_ne _ _ e]
      exact a.xn j' s' q'
/-- What is told by the lines of a row, of all rows. -/
def rowMs (tell : Nat → Nat → List MsgV) (j : Nat) : Nat → List MsgV
  | 0 => []
  | s + 1 => rowMs tell j s ++ tell j s
def allMs (tell : Nat → Nat → List MsgV) (id k : Nat) : Nat → List MsgV
  | 0 => []
  | j + 1 => allMs tell id k j ++ if j = id then [] else rowMs tell j k
def stepAt (Y Y' : Nat → Nat → LnV) (id j s : Nat) : Nat → Nat → LnV := fun j' s' => if (j' < j ∨ j' = j ∧ s' < s) ∧ j' ≠ id then Y' j' s' else Y j' s'
structure GaS (w0 : World) (h0 : PlH) (v0 : PlV) (tell : Nat → Nat → List MsgV) (Y' : Nat → Nat → LnV) (j s : Nat) (rs : List Raw) (o : Option Nat) (W : World) : Prop where
  at_ : ∃ h v, PlG w0 h0 v0 o h v W ∧ h.p = h0.p ∧ h.mb = h0.mb ∧ h.db = h0.db ∧ h.f = h0.f ∧ h.nn = h0.nn ∧ v.ck = v0.ck ∧ v.st = v0.st ∧ ∀ j' s', v0.line j' s' → v.Y j' s' = stepAt v0.Y Y' v0.id j s j' s'
  own : F2 (RawOwn 0 W) rs (allMs tell v0.id v0.k j ++ rowMs tell j s)
  lo : ∀ q, o = some q → q < W.heap.size
  jn : j ≤ v0.n
  sk : s ≤ v0.k
theorem rowMs_len {tell : Nat → Nat → List MsgV} {L : Nat} (h : ∀ j s, (tell j s).length ≤ L) (j : Nat) : ∀ s, (rowMs tell j s).length ≤ s * L
  | 0 => by simp [rowMs]
  | s + 1 => by have := rowMs_len h j s; have := h j s; simp only [rowMs, List.length_append, Nat.succ_mul]; omega
theorem allMs_len {tell : Nat → Nat → List MsgV} {L id k : Nat} (h : ∀ j s, (tell j s).length ≤ L) : ∀ j, (allMs tell id k j).length ≤ j * (k * L)
  | 0 => by simp [allMs]
  | j + 1 => by
    have h1 := allMs_len (id := id) (k := k) h j
    have h2 := rowMs_len h j k
    simp only [allMs, List.length_append, Nat.succ_mul]
    split
    · simp; omega
    · omega
theorem stepAt_row {Y Y' : Nat → Nat → LnV} {id k j j' s' : Nat} (hs : s' < k) : stepAt Y Y' id (j + 1) 0 j' s' = stepAt Y Y' id j (if j = id then 0 else k) j' s' := by
  unfold stepAt
  by_cases e : j' = id
  · rw [if_neg (fun h => h.2 e), if_neg (fun h => h.2 e)]
  · by_cases c : j' < j ∨ j' = j
    · have d : j' < j ∨ j' = j ∧ s' < if j = id then 0 else k := by
        rcases c with c | rfl
        · exact .inl c
        · exact .inr ⟨rfl, by rw [if_neg e]; exact hs⟩
      rw [if_pos ⟨.inl (by omega), e⟩, if_pos ⟨d, e⟩]
    · rw [if_neg (by omega), if_neg (by omega)]
theorem GaS.ok {w0 : World} {h0 : PlH} {v0 : PlV} (a : PlAt w0 h0 v0) {tell : Nat → Nat → List MsgV} {Y' : Nat → Nat → LnV} (hL : ∀ j s, (tell j s).length ≤ 1000) : GaOk v0.n v0.k v0.id h0.lb h0.b (fun j s => (h0.X j s).g) (fun j s => (h0.X j s).gr) w0.heap.size (GaS w0 h0 v0 tell Y') where
  n6 := a.n6
  k6 := a.k6
  size := fun i => by obtain ⟨h, v, g, _⟩ := i.at_; exact g.mov.size
  len := fun {j s rs o W} i => by
    rw [f2_len i.own, List.length_append]
    have h1 := allMs_len (id := v0.id) (k := v0.k) hL j
    have h2 := rowMs_len hL j s
    have h3 : j * (v0.k * 1000) ≤ 6 * (6 * 1000) := Nat.mul_le_mul (Nat.le_trans i.jn a.n6) (Nat.mul_le_mul a.k6 (Nat.le_refl _))
    have h4 : s * 1000 ≤ 6 * 1000 := Nat.mul_le_mul (Nat.le_trans i.sk a.k6) (Nat.le_refl _)
    omega
  lines := fun {j s rs o W} i j' hj => by
    obtain ⟨h, v, g, _⟩ := i.at_
    obtain ⟨cs, c1, c2⟩ := g.here.lines
    rw [← g.lb, cell_of c1, c2 j' (by rw [g.n]; exact hj)]
    unfold lineV
    rw [g.id, g.b, g.k]
  line := fun {j s rs o W} i j' s' h1 h2 h3 => by
    obtain ⟨h, v, g, _⟩ := i.at_
    obtain ⟨cs, c1, c2⟩ := g.here.line j' (by rw [g.n]; exact h1) (by rw [g.id]; exact h2)
    obtain ⟨d1, d2⟩ := c2 s' (by rw [g.k]; exact h3)
    obtain ⟨e1, e2⟩ := g.gs j' s' ⟨h1, h2, h3⟩
    rw [← g.b, cell_of c1, cell_of c1, d1, d2, e1, e2]
    exact ⟨rfl, rfl⟩
  below := fun {j s rs o W W'} i hb => by
    obtain ⟨h, v, g, r⟩ := i.at_
    exact ⟨⟨h, v, g.below hb, r⟩, f2_mono (fun _ _ q => q.kept (Keeps.bel hb)) i.own, fun q hq => Nat.lt_of_lt_of_le (i.lo q hq) hb.size, i.jn, i.sk⟩
  grown := fun {j s rs o o' W W'} i hg ht ho hlo => by
    obtain ⟨h, v, g, r⟩ := i.at_
    exact ⟨⟨h, v, g.grown hg ht ho, r⟩, f2_mono (fun _ _ q => q.kept (keeps_grown hg ht)) i.own, hlo, i.jn, i.sk⟩
  row := fun {j rs o W} hj i => by
    obtain ⟨h, v, g, r1, r2, r3, r4, r5, r6, r7, r8⟩ := i.at_
    refine ⟨⟨h, v, g, r1, r2, r3, r4, r5, r6, r7, fun j' s' q => ?_⟩, ?_, i.lo, by omega, Nat.zero_le _⟩
    · rw [r8 j' s' q, stepAt_row q.2.2]
    · have e := i.own
      by_cases c : j = v0.id
      · rw [if_pos c] at e
        simpa [allMs, rowMs, c] using e
      · rw [if_neg c] at e
        simpa [allMs, rowMs, c] using e
/-- What is asked of the closure: one line tells, its sender turns. -/
def LineTell (F : Nat) (cap : Value) (v0 : PlV) (tell : Nat → Nat → List MsgV) (Y' : Nat → Nat → LnV) (P : World → Prop) : Prop :=
  ∀ (W : World) (x : Ln) (j s : Nat), v0.line j s → LnAt W v0.id j s x (v0.Y j s) → P W → Calls Tryz.prog F #[.int .i64 s, .agg #[.pointer (some ⟨x.g, 0, none⟩), .pointer (some ⟨x.gr, 0, none⟩)], cap] W fun e W' => ∃ (a : Option Addr) (c : Nat) (rs : List Raw) (x' : Ln), e = .returned (.slice a rs.length c) ∧ SrcAt W' (.slice a rs.length c) rs.length 9 (raws rs) ∧ F2 (RawOwn 0 W') rs (tell j s) ∧ LnAt W' v0.id j s x' (Y' j s) ∧ x'.g = x.g ∧ x'.gr = x.gr ∧ x'.gm = x.gm ∧ x'.n = x.n ∧ (x'.v.ownBlock = x.v.ownBlock ∨ ∃ c, x'.v.ownBlock = some c ∧ W.heap.size ≤ c) ∧
    (∀ b, b < W.heap.size → ¬ x.foot b → W'.heap[b]? = W.heap[b]?) ∧ Keeps W W' ∧ W'.os = W.os ∧ W'.tape = W.tape ∧ W'.output = W.output ∧ W.heap.size ≤ W'.heap.size
theorem f2_append' {α β : Type} {R : α → β → Prop} : ∀ {l : List α} {m : List β} {l' : List α} {m' : List β}, F2 R l m → F2 R l' m' → F2 R (l ++ l') (m ++ m')
  | [], [], _, _, _, h => h
  | _ :: _, _ :: _, _, _, ⟨h1, h2⟩, h => ⟨h1, f2_append' h2 h⟩
theorem GaS.call {w0 : World} {h0 : PlH} {v0 : PlV} {tell : Nat → Nat → List MsgV} {Y' : Nat → Nat → LnV} {F : Nat} {cap : Value} {P : World → Prop} (hP : ∀ W o h v, PlG w0 h0 v0 o h v W → v.ck = v0.ck → P W) (K : LineTell F cap v0 tell Y' P) : GaCall v0.n v0.k v0.id (fun j s => (h0.X j s).g) (fun j s => (h0.X j s).gr) (GaS w0 h0 v0 tell Y') F cap := by
  intro j s rs o W h1 h2 h3 i
  obtain ⟨h, v, g, r1, r2, r3, r4, r5, r6, r7, r8⟩ := i.at_
  have q0 : v0.line j s := ⟨h1, h2, h3⟩
  have q : v.line j s := ⟨by rw [g.n]; exact h1, by rw [g.id]; exact h2, by rw [g.k]; exact h3⟩
  obtain ⟨e1, e2⟩ := g.gs j s q0
  have hy : v.Y j s = v0.Y j s := by rw [r8 j s q0]; exact if_neg (by omega)
  have hl : LnAt W v0.id j s (h.X j s) (v0.Y j s) := by rw [← hy, ← g.id]; exact g.here.each j s q
  have k := K W (h.X j s) j s q0 hl (hP W o h v g r6)
  simp only [e1, e2] at k
  refine k.mono ?_
  rintro e W' ⟨a, c, rs', x', rfl, hsrc, hF, hx, x1, x2, x3, x4, hv, ho, hk, p1, p2, p3, p4⟩
  refine ⟨a, c, rs', rfl, hsrc, ⟨⟨_, _, g.turn q (by rw [g.id]; exact hx) (x1.trans e1.symm) (x2.trans e2.symm) x3 (fun q' => by rw [x4]; exact g.xn j s q') hv ho hk p1 p2 p3 p4 i.lo, r1, r2, r3, r4, r5, r6, r7, fun j' s' q' => ?_⟩, ?_, fun c hc => Nat.lt_of_lt_of_le (i.lo c hc) p4, i.jn, h3⟩, fun c hc => ho c (i.lo c hc) fun hf => (g.free c hc).1 (.inr (.inr (.inr (.inr (.inr (.inr (.inr ⟨j, s, q, hf⟩))))))), p4⟩
  · show updL v.Y j s (Y' j s) j' s' = _
    by_cases c : (j', s') = (j, s)
    · obtain ⟨rfl, rfl⟩ := Prod.mk.inj c
      rw [updL_at]
      exact (if_pos ⟨.inr ⟨rfl, by omega⟩, h2⟩).symm
    · rw [updL_ne _ _ c, r8 j' s' q']
      unfold stepAt
      have hn : ¬ (j' = j ∧ s' = s) := fun e => c (by rw [e.1, e.2])
      by_cases d : (j' < j ∨ j' = j ∧ s' < s) ∧ j' ≠ v0.id
      · rw [if_pos d, if_pos ⟨by omega, d.2⟩]
      · rw [if_neg d, if_neg (by omega)]
  · rw [show allMs tell v0.id v0.k j ++ rowMs tell j (s + 1) = (allMs tell v0.id v0.k j ++ rowMs tell j s) ++ tell j s by simp [rowMs]]
    exact f2_append' (f2_mono (fun _ _ q => q.kept hk) i.own) hF
end Go.Proofs.YtefpnojanldkeaaGreatDoor
namespace Go.Proofs.YtefpnojanldkeaaGreatDoor
open Go.RowKit Go.Maps
set_option maxRecDepth 100000
set_option linter.unusedSectionVars false
variable [Inhabited ComV] [DecidableEq D3] [Inhabited D3] [Inhabited Dd] [Inhabited Dn] [Inhabited OpV]

theorem sent_any (w : World) (r : Raw) : Calls Tryz.prog 31 #[.agg r.cells.toArray, .nilIface] w fun e w' => e = .returned (.slice (some ⟨w.heap.size + 1, 0, none⟩) 1 1) ∧ w'.heap[w.heap.size + 1]? = some (.cells r.cells.toArray 44 (0, 0)) ∧ Below w.heap.size w w' := by
  obtain ⟨x1, x2, x3, x4, x5, x6, a1, n1, c1, p, a2, n2, c2⟩ := r
  unfold Raw.cells
  simp only
  go_enter Tryz.func31, Tryz.ntmps31
  go_wp2
  go_ret
  exact ⟨rfl, heap_new2 _ _ _, below2 _ _ _⟩
def beatY (v : PlV) (j s : Nat) : LnV := { v.Y j s with sq := (v.Y j s).sq + 1, st := v.ck, ms := (v.Y j s).ms ++ [beatM v.id j s ((v.Y j s).sq + 1) v.ck] }
def beatT (v : PlV) (j s : Nat) : List MsgV := [beatM v.id j s ((v.Y j s).sq + 1) v.ck]
/-- What a place's numbers keep to. -/
structure PvOk (v : PlV) : Prop where
  ck0 : 0 ≤ v.ck
  ck1 : v.ck ≤ 1000
  sq0 : ∀ j s, v.line j s → 0 ≤ (v.Y j s).sq
  sq1 : ∀ j s, v.line j s → (v.Y j s).sq ≤ 900
  ms1 : ∀ j s, v.line j s → (v.Y j s).ms.length ≤ 900
  st0 : ∀ j s, v.line j s → 0 ≤ (v.Y j s).st
  st1 : ∀ j s, v.line j s → (v.Y j s).st ≤ v.ck
  rt0 : ∀ j s, v.line j s → 0 ≤ (v.Y j s).rt
  rt1 : ∀ j s, v.line j s → (v.Y j s).rt ≤ 1000
/-- A sender has told one more. -/
theorem LnAt.sent {w w' : World} {i j s : Int} {x : Ln} {y : LnV} (h : LnAt w i j s x y) {sq st : Int} {v' : Value} {r : Raw} {m : MsgV} (hS : SndR w' x.g i j s sq st v' (x.l ++ [r])) (hr : RawOwn w.heap.size w' r m) (hO : OnlyS x.g x.v w w') (hk : Keeps w w') : LnAt w' i j s { x with v := v', l := x.l ++ [r] } { y with sq := sq, st := st, ms := y.ms ++ [m] } := by
  obtain ⟨t1, t2, t3, t4⟩ := h.ty
  have n1 : x.gr ≠ x.g := fun e => by rw [e] at t2; omega
  have n2 : x.gm ≠ x.g := fun e => by rw [e] at t3; omega
  have n3 : x.v.ownBlock ≠ some x.gr := fun e => by have := t4 _ e; omega
  have n4 : x.v.ownBlock ≠ some x.gm := fun e => by have := t4 _ e; omega
  exact ⟨hS, f2_snoc (f2_mono (fun _ _ q => q.kept hk) h.own) (hr.base (Nat.zero_le _)), h.rcv.moved (hO.block _ (lt_of_heap h.rcv.box) n1 n3) (hO.block _ h.rcv.mlt n2 n4), fun q => (h.maps q).mono fun _ _ p => p.kept hk⟩
theorem src_one {W : World} {m : Nat} {r : Raw} (h : W.heap[m]? = some (.cells r.cells.toArray 44 (0, 0))) : SrcAt W (.slice (some ⟨m, 0, none⟩) 1 1) 1 9 (raws [r]) :=
  .inr ⟨_, _, rfl, by simp [raws, Raw.cells], fun j u hj => by rw [Addr.add_lit, Nat.zero_add, cell_of h]; simpa [raws] using hj⟩
def BeatP (pb cb : Nat) (ck : Int) (W : World) : Prop := W.heap[cb]? = some (.cells #[.pointer (some ⟨pb, 0, none⟩)] 25 (0, 0)) ∧ ∃ cs, W.heap[pb]? = some (.cells cs 68 (0, 0)) ∧ cs[2]? = some (.int .i64 ck)
set_option maxHeartbeats 4000000 in
theorem beat1_tell (v0 : PlV) (hok : PvOk v0) (pb cb : Nat) : LineTell 30 (.pointer (some ⟨cb, 0, none⟩)) v0 (beatT v0) (beatY v0) (BeatP pb cb v0.ck) := by
  rintro W x j s q hl ⟨c0, cs, c2, c3⟩
  obtain ⟨w1, hw1⟩ : ∃ w1, w1 = W.alloc (.cells #[.pointer (some ⟨x.g, 0, none⟩), .pointer (some ⟨x.gr, 0, none⟩)] 80) := ⟨_, rfl⟩
  have b1 : Below W.heap.size W w1 := by rw [hw1]; exact below_alloc _ _
  have g1 : w1.heap[W.heap.size]? = some (.cells #[.pointer (some ⟨x.g, 0, none⟩), .pointer (some ⟨x.gr, 0, none⟩)] 80 (0, 0)) := by rw [hw1]; exact heap_new _ _
  have c0' : w1.heap[cb]? = _ := (b1.block _ (lt_of_heap c0)).trans c0
  have c2' : w1.heap[pb]? = _ := (b1.block _ (lt_of_heap c2)).trans c2
  have L1 : LnAt w1.drew v0.id j s x (v0.Y j s) := hl.keep (fun b hb => b1.block b (hl.lt hb)) (Keeps.bel b1.drew)
  have e0 : w1.cell? ⟨W.heap.size, 0, none⟩ = some (.pointer (some ⟨x.g, 0, none⟩)) := (cell_of g1).trans rfl
  have e1 : w1.cell? ⟨cb, 0, none⟩ = some (.pointer (some ⟨pb, 0, none⟩)) := (cell_of c0').trans rfl
  have e2 : w1.cell? ⟨pb, 2, none⟩ = some (.int .i64 v0.ck) := (cell_of c2').trans c3
  have K32 := hid (beat_raw w1.drew x.g v0.id j s (v0.Y j s).sq (v0.Y j s).st v0.ck x.v x.l L1.snd (by rw [f2_len L1.own]; have := hok.ms1 j s q; omega) (hok.sq0 j s q) (by have := hok.sq1 j s q; omega) hok.ck0 (by have := hok.ck1; omega) (hok.st1 j s q))
  obtain ⟨t1, t2, t3, t4⟩ := L1.ty
  have off : ∀ {b : Nat} {ds : Array Value} {t : TypeId}, w1.heap[b]? = some (.cells ds t (0, 0)) → t ≠ 123 → t ≠ 44 → b ≠ x.g ∧ x.v.ownBlock ≠ some b := fun {b ds t} hb h1 h2 => by
    have tb : tyAt w1.drew b = t + 1 := tyAt_cells hb
    exact ⟨fun e => h1 (by rw [e, t1] at tb; exact Nat.succ.inj tb.symm), fun e => h2 (by rw [t4 _ e] at tb; exact Nat.succ.inj tb.symm)⟩
  have HN : Hid ((W.heap.size ≠ x.g ∧ x.v.ownBlock ≠ some W.heap.size) ∧ (cb ≠ x.g ∧ x.v.ownBlock ≠ some cb) ∧ (pb ≠ x.g ∧ x.v.ownBlock ≠ some pb)) := (show _ ∧ _ from ⟨off g1 (by decide) (by decide), off c0' (by decide) (by decide), off c2' (by decide) (by decide)⟩)
  have HL := hid L1
  have B1 := hid b1
  have HLT := hid (show ∀ b, x.foot b → b < W.heap.size from fun b hb => hl.lt hb)
  have hy : Hid (beatY v0 j s = { v0.Y j s with sq := (v0.Y j s).sq + 1, st := v0.ck, ms := (v0.Y j s).ms ++ [beatM v0.id j s ((v0.Y j s).sq + 1) v0.ck] } ∧ beatT v0 j s = [beatM v0.id j s ((v0.Y j s).sq + 1) v0.ck]) := (show _ ∧ _ from ⟨rfl, rfl⟩)
  clear c0 c2 c3 c0' c2' g1 hl b1 L1 t1 t2 t3 t4 off
  go_enter Tryz.func30, Tryz.ntmps30
  go_upto_region 1 with (fail)
  rw [← hw1]
  clear hw1
  go_region_held (fun u => u.cell? ⟨W.heap.size, 0, none⟩ = some (.pointer (some ⟨x.g, 0, none⟩)) ∧ u.cell? ⟨cb, 0, none⟩ = some (.pointer (some ⟨pb, 0, none⟩)) ∧ u.cell? ⟨pb, 2, none⟩ = some (.int .i64 v0.ck)) (first | go_keep | exact ⟨u0, u1, u2⟩ | exact ⟨(hb3.cell (lt_of_cell u0)).trans u0, (hb3.cell (lt_of_cell u1)).trans u1, (hb3.cell (lt_of_cell u2)).trans u2⟩) (first | (go_at_call 32; refine K32.out.mono ?_; rintro e w2 ⟨v', r2, r3, rfl, hS2, h2, h3, hO, hv', hk⟩; have u0 : w2.cell? ⟨W.heap.size, 0, none⟩ = some (.pointer (some ⟨x.g, 0, none⟩)) := ((World.cell?_of_block (hO.block _ (lt_of_cell e0) HN.out.1.1 HN.out.1.2)).trans e0); have u1 : w2.cell? ⟨cb, 0, none⟩ = some (.pointer (some ⟨pb, 0, none⟩)) := ((World.cell?_of_block (hO.block _ (lt_of_cell e1) HN.out.2.1.1 HN.out.2.1.2)).trans e1); have u2 : w2.cell? ⟨pb, 2, none⟩ = some (.int .i64 v0.ck) := ((World.cell?_of_block (hO.block _ (lt_of_cell e2) HN.out.2.2.1 HN.out.2.2.2)).trans e2); have L2 := hid (HL.out.sent hS2 h2 hO hk); have HO := hid hO; have HV := hid hv'; have HK := hid hk; have H3 := hid h3; clear hS2 h2 h3 hO hv' hk) | (go_at_call 31; refine (sent_any _ r3).mono ?_; rintro e w3 ⟨rfl, hm3, hb3⟩))
  have lt2 : ∀ b, b < W.heap.size → b < w1.drew.heap.size := fun b hb => Nat.lt_of_lt_of_le hb B1.out.size
  have E : Hid (SrcAt w3 (.slice (some ⟨w2.heap.size + 1, 0, none⟩) 1 1) 1 9 (raws [r3]) ∧ F2 (RawOwn 0 w3) [r3] (beatT v0 j s) ∧ LnAt w3 v0.id j s { x with v := v', l := x.l ++ [r2] } (beatY v0 j s) ∧ (v'.ownBlock = x.v.ownBlock ∨ ∃ c, v'.ownBlock = some c ∧ W.heap.size ≤ c) ∧ (∀ b, b < W.heap.size → ¬ x.foot b → w3.heap[b]? = W.heap[b]?) ∧ Keeps W w3 ∧ w3.os = W.os ∧ w3.tape = W.tape ∧ w3.output = W.output ∧ W.heap.size ≤ w3.heap.size) := (show _ ∧ _ from by
    have k2 := Keeps.bel hb3
    refine ⟨src_one hm3, ?_, ?_, ?_, fun b hb hf => ?_, ((Keeps.bel B1.out.drew).trans HK.out).trans k2, hb3.os.trans (HO.out.os.trans B1.out.os), hb3.tape.trans (HO.out.tape.trans B1.out.tape), hb3.output.trans (HO.out.output.trans B1.out.output), Nat.le_trans B1.out.size (Nat.le_trans HO.out.size hb3.size)⟩
    · rw [hy.out.2]
      exact ⟨(H3.out.base (Nat.zero_le _)).kept k2, trivial⟩
    · rw [hy.out.1]
      exact L2.out.keep (fun b hb => hb3.block b (L2.out.lt hb)) k2
    · rcases HV.out with h | ⟨c, h, hc⟩
      · exact .inl h
      · exact .inr ⟨c, h, Nat.le_trans B1.out.size hc⟩
    · rw [hb3.block b (Nat.lt_of_lt_of_le (lt2 b hb) HO.out.size), HO.out.block b (lt2 b hb) (fun e => hf (.inl e)) (fun e => hf (.inr (.inl e)))]
      exact B1.out.block b hb)
  clear u0 u1 u2 e0 e1 e2 hm3 hb3 lt2
  go_wp2
  go_ret
  exact ⟨_, _, [r3], { x with v := v', l := x.l ++ [r2] }, rfl, E.out.1, E.out.2.1, E.out.2.2.1, rfl, rfl, rfl, rfl, E.out.2.2.2⟩
theorem PlG.ahead {w w1 W : World} {h0 h : PlH} {v0 v : PlV} {o : Option Nat} (hb : Below w.heap.size w w1) (g : PlG w1 h0 v0 o h v W) : PlG w h0 v0 o h v W :=
  ⟨g.here, g.mov.ahead hb, g.pb, g.lb, g.b, g.gs, g.id, g.n, g.k, fun q hq => ⟨(g.free q hq).1, Nat.le_trans hb.size (g.free q hq).2⟩, g.xn⟩
theorem PlG.recast {w0 W : World} {h0 h : PlH} {v0 v v' : PlV} {o : Option Nat} (g : PlG w0 h0 v0 o h v W) (e1 : v'.id = v.id) (e2 : v'.n = v.n) (e3 : v'.k = v.k) (e4 : v'.ck = v.ck) (e5 : v'.st = v.st) (hY : ∀ j s, v'.line j s → v'.Y j s = v.Y j s) : PlG w0 h0 v0 o h v' W := by
  obtain ⟨id, n, k, ck, Y, st⟩ := v
  obtain ⟨id', n', k', ck', Y', st'⟩ := v'
  simp only at e1 e2 e3 e4 e5 hY
  subst e1 e2 e3 e4 e5
  refine ⟨⟨g.here.idn, g.here.n6, g.here.k1, g.here.k6, g.here.box, g.here.lines, g.here.line, fun j s q => ?_, g.here.apart, g.here.mapne, g.here.store⟩, ⟨g.mov.os, g.mov.tape, g.mov.output, g.mov.size, g.mov.block, g.mov.foot, g.mov.keeps⟩, g.pb, g.lb, g.b, g.gs, g.id, g.n, g.k, g.free, g.xn⟩
  show LnAt W _ j s (h.X j s) (Y' j s)
  rw [hY j s q]
  exact g.here.each j s q
theorem GaS.done {w0 W : World} {h0 : PlH} {v0 : PlV} {tell : Nat → Nat → List MsgV} {Y' : Nat → Nat → LnV} {rs : List Raw} {o : Option Nat} (i : GaS w0 h0 v0 tell Y' v0.n 0 rs o W) : (∃ h, PlG w0 h0 v0 o h { v0 with Y := Y' } W ∧ h.p = h0.p ∧ h.mb = h0.mb ∧ h.db = h0.db ∧ h.f = h0.f ∧ h.nn = h0.nn) ∧ F2 (RawOwn 0 W) rs (allMs tell v0.id v0.k v0.n) := by
  obtain ⟨h, v, g, r1, r2, r3, r4, r5, r6, r7, r8⟩ := i.at_
  refine ⟨⟨h, g.recast g.id.symm g.n.symm g.k.symm r6.symm r7.symm (fun j s q => ?_), r1, r2, r3, r4, r5⟩, by have := i.own; simpa [rowMs] using this⟩
  show Y' j s = _
  rw [r8 j s q]
  exact (if_pos ⟨.inl q.1, q.2.1⟩).symm
set_option maxHeartbeats 4000000 in
theorem beat_any (w : World) (h : PlH) (v : PlV) (a : PlAt w h v) (hok : PvOk v) : Calls Tryz.prog 10 #[.pointer (some ⟨h.pb, 0, none⟩)] w fun e w' => ∃ (h' : PlH) (rv : Value) (rs : List Raw), e = .returned rv ∧ PlG w h v rv.ownBlock h' { v with Y := beatY v } w' ∧ w'.ownsRow w.heap.size 44 9 rv rs.length (raws rs) ∧ F2 (RawOwn 0 w') rs (allMs (beatT v) v.id v.k v.n) := by
  obtain ⟨w1, hw1⟩ : ∃ w1, w1 = w.alloc (.cells #[.pointer (some ⟨h.pb, 0, none⟩)] 25) := ⟨_, rfl⟩
  have b1 : Below w.heap.size w w1 := by rw [hw1]; exact below_alloc _ _
  have g1 : w1.heap[w.heap.size]? = some (.cells #[.pointer (some ⟨h.pb, 0, none⟩)] 25 (0, 0)) := by rw [hw1]; exact heap_new _ _
  have a1 := a.below b1
  have x4 : w1.cell? ⟨h.pb, 4, none⟩ = some (.slice (some ⟨h.lb, 0, none⟩) v.n v.n) := (cell_of a1.box).trans rfl
  have x0 : w1.cell? ⟨w.heap.size, 0, none⟩ = some (.pointer (some ⟨h.pb, 0, none⟩)) := (cell_of g1).trans rfl
  have K := hid (gather_30 w1 v.n v.k v.id h.pb h.lb h.b (fun j s => (h.X j s).g) (fun j s => (h.X j s).gr) (GaS w1 h v (beatT v) (beatY v)) (.pointer (some ⟨w.heap.size, 0, none⟩)) (GaS.ok a1 (fun j s => by simp [beatT])) (GaS.call (P := BeatP h.pb w.heap.size v.ck) (fun W o h' v' g hc => ⟨(g.mov.block _ (lt_of_heap g1) fun e => by have := a.lt e; omega).trans g1, _, g.pb ▸ g.here.box, by rw [← hc]; rfl⟩) (beat1_tell v hok h.pb w.heap.size)) x4 ⟨⟨h, v, PlG.start a1, rfl, rfl, rfl, rfl, rfl, rfl, rfl, fun j s q => (if_neg (by omega)).symm⟩, trivial, (fun q hq => by cases hq), Nat.zero_le _, Nat.zero_le _⟩)
  have H := hid a
  have B1 := hid b1
  clear a b1 g1 a1 hok
  go_enter Tryz.func10, Tryz.ntmps10
  go_wp2_with fail
  rw [← hw1]
  clear hw1
  refine K.out.mono ?_
  rintro e w2 ⟨rv, rs, rfl, hI, hrow⟩
  obtain ⟨ra, rc, hrv⟩ := row_shape hrow
  obtain ⟨⟨h', g', _⟩, hF⟩ := hI.done
  have G2 := hid (g'.ahead B1.out)
  have R2 := hid (owns_base hrow B1.out.size)
  have F2' := hid hF
  clear hI g' hF hrow x4 x0
  subst hrv
  go_wp2
  go_ret
  exact ⟨h', _, rs, rfl, G2.out, R2.out, F2'.out⟩
end Go.Proofs.YtefpnojanldkeaaGreatDoor
