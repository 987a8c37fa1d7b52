/- What is gathered line by line while the senders turn; The snapshot of a place; checkAt; a store is put into, the clock ticks. -/
import Derived.Test.YtepnghacjggkkaaGreatDoorGLF
import Derived.Test.YtepnghacjggkkaaGreatDoorGLG
import Derived.BigQuiet
import Derived.Deep.Cut
import Derived.Deep.Draws
import Derived.Deep.QuietTactic
import Derived.Deep.RegionHeld
import Derived.Deep.RegionLaw
import Derived.Handy
import Derived.LaidEql
import Derived.LaidHandle
import Derived.LaidLaws
import Derived.LaidSub
import Derived.Laws.ResultCell
import Derived.Maps.AppendAt
import Derived.OpenShut
import Derived.ProofKit
import Derived.RowKitTokens
import Derived.Shelf.SlicesQ.IndexFunc
import Derived.Sort.Grow
import Derived.StillTailTactics
import Derived.Stop.Asserts
import Derived.Test.YtepnghacjggkkaaGreatDoorProg
import Derived.Test.YtepnghacjggkkaaGreatDoorRows
import Derived.WalkKit
import Derived.Test.YtepnghacjggkkaaGreatDoorGPA
import Derived.Laws.AppendOwnNone
import Derived.Laws.IdiomStrings
import Derived.Laws.OwnMore
import Derived.Lib.SliceRun
import Derived.WalkLawsBesides
import Derived.WalkSpells
namespace Go.Proofs.YtepnghacjggkkaaGreatDoor
open Go.RowKit Go.Maps
set_option maxRecDepth 100000
set_option linter.unusedSectionVars false
variable [Inhabited ComV] [DecidableEq D3] [Inhabited D3] [Inhabited Dd] [Inhabited Dn] [Inhabited OpV]

theorem PlMoves.refl {w : World} {h : PlH} {v : PlV} : PlMoves w w h v h v := ⟨rfl, rfl, rfl, Nat.le_refl _, fun _ _ _ => rfl, fun _ h => .inl h, fun _ _ _ _ _ => rfl⟩
theorem PlMoves.below {w W W' : World} {h0 h : PlH} {v0 v : PlV} (m : PlMoves w W h0 v0 h v) (hb : Below W.heap.size W W') : PlMoves w W' h0 v0 h v :=
  ⟨hb.os.trans m.os, hb.tape.trans m.tape, hb.output.trans m.output, Nat.le_trans m.size hb.size, fun b h1 h2 => (hb.block b (Nat.lt_of_lt_of_le h1 m.size)).trans (m.block b h1 h2), m.foot, m.keeps.trans (Keeps.bel hb)⟩
theorem PlMoves.trans {w W W' : World} {h0 h h' : PlH} {v0 v v' : PlV} (m : PlMoves w W h0 v0 h v) (m' : PlMoves W W' h v h' v') : PlMoves w W' h0 v0 h' v' :=
  ⟨m'.os.trans m.os, m'.tape.trans m.tape, m'.output.trans m.output, Nat.le_trans m.size m'.size, fun b h1 h2 => (m'.block b (Nat.lt_of_lt_of_le h1 m.size) fun e => by rcases m.foot b e with e | e; exact h2 e; omega).trans (m.block b h1 h2),
   fun b e => by rcases m'.foot b e with e | e; exact m.foot b e; exact .inr (Nat.le_trans m.size e), m.keeps.trans m'.keeps⟩
theorem PlMoves.ahead {w W W' : World} {h0 h : PlH} {v0 v : PlV} (hb : Below w.heap.size w W) (m : PlMoves W W' h0 v0 h v) : PlMoves w W' h0 v0 h v :=
  ⟨m.os.trans hb.os, m.tape.trans hb.tape, m.output.trans hb.output, Nat.le_trans hb.size m.size, fun b h1 h2 => (m.block b (Nat.lt_of_lt_of_le h1 hb.size) h2).trans (hb.block b h1), fun b e => by rcases m.foot b e with e | e; exact .inl e; exact .inr (Nat.le_trans hb.size e), (Keeps.bel hb).trans m.keeps⟩
structure PlG (w0 : World) (h0 : PlH) (v0 : PlV) (o : Option Nat) (h : PlH) (v : PlV) (W : World) : Prop where
  here : PlAt W h v
  mov : PlMoves w0 W h0 v0 h v
  pb : h.pb = h0.pb
  lb : h.lb = h0.lb
  b : h.b = h0.b
  gs : ∀ j s, v0.line j s → (h.X j s).g = (h0.X j s).g ∧ (h.X j s).gr = (h0.X j s).gr
  id : v.id = v0.id
  n : v.n = v0.n
  k : v.k = v0.k
  free : ∀ q, o = some q → ¬ h.foot v q ∧ w0.heap.size ≤ q
  xn : ∀ j s, v0.line j s → (h.X j s).n ≤ (h0.X j s).n + 1
theorem PlG.start {w0 : World} {h0 : PlH} {v0 : PlV} (a : PlAt w0 h0 v0) : PlG w0 h0 v0 none h0 v0 w0 := ⟨a, PlMoves.refl, rfl, rfl, rfl, fun _ _ _ => ⟨rfl, rfl⟩, rfl, rfl, rfl, (fun q h => by cases h), fun _ _ _ => Nat.le_succ _⟩
theorem PlG.below {w0 W W' : World} {h0 h : PlH} {v0 v : PlV} {o : Option Nat} (a : PlG w0 h0 v0 o h v W) (hb : Below W.heap.size W W') : PlG w0 h0 v0 o h v W' :=
  ⟨a.here.below hb, a.mov.below hb, a.pb, a.lb, a.b, a.gs, a.id, a.n, a.k, a.free, a.xn⟩
theorem keeps_grown {W W' : World} {o : Option Nat} (hg : W.grownBy W' o) (ht : ∀ q, o = some q → ∃ cs, W.heap[q]? = some (.cells cs 74 (0, 0))) : Keeps W W' := fun t ht' b cs hc => hg.block b (lt_of_heap hc) fun e => by
  obtain ⟨ds, hd⟩ := ht b e.symm
  rw [hd] at hc
  injection hc with hc
  injection hc with _ hc
  rcases ht' with rfl | rfl | rfl <;> exact absurd hc (by decide)
theorem PlG.grown {w0 W W' : World} {h0 h : PlH} {v0 v : PlV} {o o' : Option Nat} (a : PlG w0 h0 v0 o h v W) (hg : W.grownBy W' o) (ht : ∀ q, o = some q → ∃ cs, W.heap[q]? = some (.cells cs 74 (0, 0))) (ho : o' = o ∨ ∃ q, o' = some q ∧ W.heap.size ≤ q) : PlG w0 h0 v0 o' h v W' := by
  have hk := keeps_grown hg ht
  refine ⟨a.here.keep (fun b hb => hg.block b (a.here.lt hb) fun e => (a.free b e.symm).1 hb) hk, ⟨hg.os.trans a.mov.os, hg.tape.trans a.mov.tape, hg.output.trans a.mov.output, Nat.le_trans a.mov.size hg.size, fun b h1 h2 => (hg.block b (Nat.lt_of_lt_of_le h1 a.mov.size) fun e => by have := (a.free b e.symm).2; omega).trans (a.mov.block b h1 h2), a.mov.foot, a.mov.keeps.trans hk⟩, a.pb, a.lb, a.b, a.gs, a.id, a.n, a.k, fun q hq => ?_, a.xn⟩
  rcases ho with e | ⟨c, e, hc⟩
  · exact a.free q (by rw [← e]; exact hq)
  · rw [e] at hq
    obtain rfl := Option.some.inj hq
    exact ⟨fun hb => by have := a.here.lt hb; omega, Nat.le_trans a.mov.size hc⟩
theorem PlG.turn {w0 W W' : World} {h0 h : PlH} {v0 v : PlV} {o : Option Nat} (a : PlG w0 h0 v0 o h v W) {j s : Nat} (q : v.line j s) {x' : Ln} {y' : LnV} (hx : LnAt W' v.id j s x' y') (hg : x'.g = (h.X j s).g) (hgr : x'.gr = (h.X j s).gr) (hgm : x'.gm = (h.X j s).gm) (hxn : v0.line j s → x'.n ≤ (h0.X j s).n + 1) (hv : x'.v.ownBlock = (h.X j s).v.ownBlock ∨ ∃ c, x'.v.ownBlock = some c ∧ W.heap.size ≤ c)
    (ho : ∀ b, b < W.heap.size → ¬ (h.X j s).foot b → W'.heap[b]? = W.heap[b]?) (hk : Keeps W W') (h1 : W'.os = W.os) (h2 : W'.tape = W.tape) (h3 : W'.output = W.output) (h4 : W.heap.size ≤ W'.heap.size) (hl : ∀ q, o = some q → q < W.heap.size) : PlG w0 h0 v0 o { h with X := updL h.X j s x' } { v with Y := updL v.Y j s y' } W' := by
  refine ⟨a.here.turn q hx hg hgr hgm hv ho hk, a.mov.trans ⟨h1, h2, h3, h4, fun b hb hn => ho b hb fun e => hn (.inr (.inr (.inr (.inr (.inr (.inr (.inr ⟨j, s, q, e⟩))))))), fun b hb => PlH.foot_turn q hg hgr hgm hv hb, hk⟩, a.pb, a.lb, a.b, fun j' s' q' => ?_, a.id, a.n, a.k, fun c hc => ⟨fun hb => ?_, (a.free c hc).2⟩, fun j' s' q' => ?_⟩
  · show (updL h.X j s x' j' s').g = _ ∧ (updL h.X j s x' j' s').gr = _
    by_cases e : (j', s') = (j, s)
    · obtain ⟨rfl, rfl⟩ := Prod.mk.inj e
      rw [updL_at, hg, hgr]
      exact a.gs j' s' q'
    · rw [updL_ne _ _ e]
      exact a.gs j' s' q'
  · rcases PlH.foot_turn q hg hgr hgm hv hb with e | e
    · exact (a.free c hc).1 e
    · have := hl c hc
      omega
  · show (updL h.X j s x' j' s').n ≤ _
    by_cases e : (j', s') = (j, s)
    · obtain ⟨rfl, rfl⟩ := Prod.mk.inj e
      rw [updL_at]
      exact hxn q'
    · rw [updL_ne _ _ e]
      exact a.xn j' s' q'
def rowMs (tell : Nat → Nat → List MsgV) (j : Nat) : Nat → List MsgV
  | 0 => []
  | s + 1 => rowMs tell j s ++ tell j s
def allMs (tell : Nat → Nat → List MsgV) (id k : Nat) : Nat → List MsgV
  | 0 => []
  | j + 1 => allMs tell id k j ++ if j = id then [] else rowMs tell j k
def stepAt (Y Y' : Nat → Nat → LnV) (id j s : Nat) : Nat → Nat → LnV := fun j' s' => if (j' < j ∨ j' = j ∧ s' < s) ∧ j' ≠ id then Y' j' s' else Y j' s'
structure GaS (w0 : World) (h0 : PlH) (v0 : PlV) (tell : Nat → Nat → List MsgV) (Y' : Nat → Nat → LnV) (j s : Nat) (rs : List Raw) (o : Option Nat) (W : World) : Prop where
  at_ : ∃ h v, PlG w0 h0 v0 o h v W ∧ h.p = h0.p ∧ h.mb = h0.mb ∧ h.db = h0.db ∧ h.f = h0.f ∧ h.nn = h0.nn ∧ v.ck = v0.ck ∧ v.st = v0.st ∧ ∀ j' s', v0.line j' s' → v.Y j' s' = stepAt v0.Y Y' v0.id j s j' s'
  own : F2 (RawOwn 0 W) rs (allMs tell v0.id v0.k j ++ rowMs tell j s)
  lo : ∀ q, o = some q → q < W.heap.size
  jn : j ≤ v0.n
  sk : s ≤ v0.k
theorem rowMs_len {tell : Nat → Nat → List MsgV} {L : Nat} (h : ∀ j s, (tell j s).length ≤ L) (j : Nat) : ∀ s, (rowMs tell j s).length ≤ s * L
  | 0 => by simp [rowMs]
  | s + 1 => by have := rowMs_len h j s; have := h j s; simp only [rowMs, List.length_append, Nat.succ_mul]; omega
theorem allMs_len {tell : Nat → Nat → List MsgV} {L id k : Nat} (h : ∀ j s, (tell j s).length ≤ L) : ∀ j, (allMs tell id k j).length ≤ j * (k * L)
  | 0 => by simp [allMs]
  | j + 1 => by
    have h1 := allMs_len (id := id) (k := k) h j
    have h2 := rowMs_len h j k
    simp only [allMs, List.length_append, Nat.succ_mul]
    split
    · simp; omega
    · omega
theorem stepAt_row {Y Y' : Nat → Nat → LnV} {id k j j' s' : Nat} (hs : s' < k) : stepAt Y Y' id (j + 1) 0 j' s' = stepAt Y Y' id j (if j = id then 0 else k) j' s' := by
  unfold stepAt
  by_cases e : j' = id
  · rw [if_neg (fun h => h.2 e), if_neg (fun h => h.2 e)]
  · by_cases c : j' < j ∨ j' = j
    · have d : j' < j ∨ j' = j ∧ s' < if j = id then 0 else k := by
        rcases c with c | rfl
        · exact .inl c
        · exact .inr ⟨rfl, by rw [if_neg e]; exact hs⟩
      rw [if_pos ⟨.inl (by omega), e⟩, if_pos ⟨d, e⟩]
    · rw [if_neg (by omega), if_neg (by omega)]
theorem GaS.ok {w0 : World} {h0 : PlH} {v0 : PlV} (a : PlAt w0 h0 v0) {tell : Nat → Nat → List MsgV} {Y' : Nat → Nat → LnV} (hL : ∀ j s, (tell j s).length ≤ 1000) : GaOk v0.n v0.k v0.id h0.lb h0.b (fun j s => (h0.X j s).g) (fun j s => (h0.X j s).gr) w0.heap.size (GaS w0 h0 v0 tell Y') where
  n6 := a.n6
  k6 := a.k6
  size := fun i => by obtain ⟨h, v, g, _⟩ := i.at_; exact g.mov.size
  len := fun {j s rs o W} i => by
    rw [f2_len i.own, List.length_append]
    have h1 := allMs_len (id := v0.id) (k := v0.k) hL j
    have h2 := rowMs_len hL j s
    have h3 : j * (v0.k * 1000) ≤ 6 * (6 * 1000) := Nat.mul_le_mul (Nat.le_trans i.jn a.n6) (Nat.mul_le_mul a.k6 (Nat.le_refl _))
    have h4 : s * 1000 ≤ 6 * 1000 := Nat.mul_le_mul (Nat.le_trans i.sk a.k6) (Nat.le_refl _)
    omega
  lines := fun {j s rs o W} i j' hj => by
    obtain ⟨h, v, g, _⟩ := i.at_
    obtain ⟨cs, c1, c2⟩ := g.here.lines
    rw [← g.lb, cell_of c1, c2 j' (by rw [g.n]; exact hj)]
    unfold lineV
    rw [g.id, g.b, g.k]
  line := fun {j s rs o W} i j' s' h1 h2 h3 => by
    obtain ⟨h, v, g, _⟩ := i.at_
    obtain ⟨cs, c1, c2⟩ := g.here.line j' (by rw [g.n]; exact h1) (by rw [g.id]; exact h2)
    obtain ⟨d1, d2⟩ := c2 s' (by rw [g.k]; exact h3)
    obtain ⟨e1, e2⟩ := g.gs j' s' ⟨h1, h2, h3⟩
    rw [← g.b, cell_of c1, cell_of c1, d1, d2, e1, e2]
    exact ⟨rfl, rfl⟩
  below := fun {j s rs o W W'} i hb => by
    obtain ⟨h, v, g, r⟩ := i.at_
    exact ⟨⟨h, v, g.below hb, r⟩, f2_mono (fun _ _ q => q.kept (Keeps.bel hb)) i.own, fun q hq => Nat.lt_of_lt_of_le (i.lo q hq) hb.size, i.jn, i.sk⟩
  grown := fun {j s rs o o' W W'} i hg ht ho hlo => by
    obtain ⟨h, v, g, r⟩ := i.at_
    exact ⟨⟨h, v, g.grown hg ht ho, r⟩, f2_mono (fun _ _ q => q.kept (keeps_grown hg ht)) i.own, hlo, i.jn, i.sk⟩
  row := fun {j rs o W} hj i => by
    obtain ⟨h, v, g, r1, r2, r3, r4, r5, r6, r7, r8⟩ := i.at_
    refine ⟨⟨h, v, g, r1, r2, r3, r4, r5, r6, r7, fun j' s' q => ?_⟩, ?_, i.lo, by omega, Nat.zero_le _⟩
    · rw [r8 j' s' q, stepAt_row q.2.2]
    · have e := i.own
      by_cases c : j = v0.id
      · rw [if_pos c] at e
        simpa [allMs, rowMs, c] using e
      · rw [if_neg c] at e
        simpa [allMs, rowMs, c] using e
def LineTell (F : Nat) (cap : Value) (v0 : PlV) (tell : Nat → Nat → List MsgV) (Y' : Nat → Nat → LnV) (P : World → Prop) : Prop :=
  ∀ (W : World) (x : Ln) (j s : Nat), v0.line j s → LnAt W v0.id j s x (v0.Y j s) → P W → Calls Tryz.prog F #[.int .i64 s, .agg #[.pointer (some ⟨x.g, 0, none⟩), .pointer (some ⟨x.gr, 0, none⟩)], cap] W fun e W' => ∃ (a : Option Addr) (c : Nat) (rs : List Raw) (x' : Ln), e = .returned (.slice a rs.length c) ∧ SrcAt W' (.slice a rs.length c) rs.length 9 (raws rs) ∧ F2 (RawOwn 0 W') rs (tell j s) ∧ LnAt W' v0.id j s x' (Y' j s) ∧ x'.g = x.g ∧ x'.gr = x.gr ∧ x'.gm = x.gm ∧ x'.n = x.n ∧ (x'.v.ownBlock = x.v.ownBlock ∨ ∃ c, x'.v.ownBlock = some c ∧ W.heap.size ≤ c) ∧
    (∀ b, b < W.heap.size → ¬ x.foot b → W'.heap[b]? = W.heap[b]?) ∧ Keeps W W' ∧ W'.os = W.os ∧ W'.tape = W.tape ∧ W'.output = W.output ∧ W.heap.size ≤ W'.heap.size
theorem f2_append' {α β : Type} {R : α → β → Prop} : ∀ {l : List α} {m : List β} {l' : List α} {m' : List β}, F2 R l m → F2 R l' m' → F2 R (l ++ l') (m ++ m')
  | [], [], _, _, _, h => h
  | _ :: _, _ :: _, _, _, ⟨h1, h2⟩, h => ⟨h1, f2_append' h2 h⟩
theorem GaS.call {w0 : World} {h0 : PlH} {v0 : PlV} {tell : Nat → Nat → List MsgV} {Y' : Nat → Nat → LnV} {F : Nat} {cap : Value} {P : World → Prop} (hP : ∀ W o h v, PlG w0 h0 v0 o h v W → v.ck = v0.ck → P W) (K : LineTell F cap v0 tell Y' P) : GaCall v0.n v0.k v0.id (fun j s => (h0.X j s).g) (fun j s => (h0.X j s).gr) (GaS w0 h0 v0 tell Y') F cap := by
  intro j s rs o W h1 h2 h3 i
  obtain ⟨h, v, g, r1, r2, r3, r4, r5, r6, r7, r8⟩ := i.at_
  have q0 : v0.line j s := ⟨h1, h2, h3⟩
  have q : v.line j s := ⟨by rw [g.n]; exact h1, by rw [g.id]; exact h2, by rw [g.k]; exact h3⟩
  obtain ⟨e1, e2⟩ := g.gs j s q0
  have hy : v.Y j s = v0.Y j s := by rw [r8 j s q0]; exact if_neg (by omega)
  have hl : LnAt W v0.id j s (h.X j s) (v0.Y j s) := by rw [← hy, ← g.id]; exact g.here.each j s q
  have k := K W (h.X j s) j s q0 hl (hP W o h v g r6)
  simp only [e1, e2] at k
  refine k.mono ?_
  rintro e W' ⟨a, c, rs', x', rfl, hsrc, hF, hx, x1, x2, x3, x4, hv, ho, hk, p1, p2, p3, p4⟩
  refine ⟨a, c, rs', rfl, hsrc, ⟨⟨_, _, g.turn q (by rw [g.id]; exact hx) (x1.trans e1.symm) (x2.trans e2.symm) x3 (fun q' => by rw [x4]; exact g.xn j s q') hv ho hk p1 p2 p3 p4 i.lo, r1, r2, r3, r4, r5, r6, r7, fun j' s' q' => ?_⟩, ?_, fun c hc => Nat.lt_of_lt_of_le (i.lo c hc) p4, i.jn, h3⟩, fun c hc => ho c (i.lo c hc) fun hf => (g.free c hc).1 (.inr (.inr (.inr (.inr (.inr (.inr (.inr ⟨j, s, q, hf⟩))))))), p4⟩
  · show updL v.Y j s (Y' j s) j' s' = _
    by_cases c : (j', s') = (j, s)
    · obtain ⟨rfl, rfl⟩ := Prod.mk.inj c
      rw [updL_at]
      exact (if_pos ⟨.inr ⟨rfl, by omega⟩, h2⟩).symm
    · rw [updL_ne _ _ c, r8 j' s' q']
      unfold stepAt
      have hn : ¬ (j' = j ∧ s' = s) := fun e => c (by rw [e.1, e.2])
      by_cases d : (j' < j ∨ j' = j ∧ s' < s) ∧ j' ≠ v0.id
      · rw [if_pos d, if_pos ⟨by omega, d.2⟩]
      · rw [if_neg d, if_neg (by omega)]
  · rw [show allMs tell v0.id v0.k j ++ rowMs tell j (s + 1) = (allMs tell v0.id v0.k j ++ rowMs tell j s) ++ tell j s by simp [rowMs]]
    exact f2_append' (f2_mono (fun _ _ q => q.kept hk) i.own) hF
end Go.Proofs.YtepnghacjggkkaaGreatDoor
namespace Go.Proofs.YtepnghacjggkkaaGreatDoor
open Go.RowKit Go.Maps
set_option maxRecDepth 100000
set_option linter.unusedSectionVars false
variable [Inhabited ComV] [DecidableEq D3] [Inhabited D3] [Inhabited Dd] [Inhabited Dn] [Inhabited OpV]

def leastT (rt : Nat → Int) : Nat → Int
  | 0 => 1099511627776
  | k + 1 => min (leastT rt k) (rt k)
set_option maxHeartbeats 2000000 in
theorem least_any (w : World) (b k : Nat) (X : Nat → Ln) (i j : Int) (y : Nat → LnV) (hk : k ≤ 6) (hc : ∃ cs, w.heap[b]? = some (.cells cs 81 (0, 0)) ∧ ∀ s, s < k → cs[s * 2]? = some (.pointer (some ⟨(X s).g, 0, none⟩)) ∧ cs[s * 2 + 1]? = some (.pointer (some ⟨(X s).gr, 0, none⟩))) (ha : ∀ s : Nat, s < k → LnAt w i j s (X s) (y s)) :
    Calls Tryz.prog 47 #[.slice (some ⟨b, 0, none⟩) k k] w fun e w' => e = .returned (.int .i64 (leastT (fun s => (y s).rt) k)) ∧ Below w.heap.size w w' := by
  obtain ⟨cs, hb, hc⟩ := hc
  have HB := hid hb
  have HC := hid hc
  have HA := hid ha
  clear hb hc ha
  go_enter Tryz.func47, Tryz.ntmps47
  go_wp2
  go_loopw [3, 8] (fun x i wr => ∃ m : Nat, m ≤ k ∧ i = .int .i64 m ∧ x = .int .i64 (leastT (fun s => (y s).rt) m) ∧ Hid (Below w.heap.size w wr)) (fun _ i _ => k - (intOf i).toNat)
  case atStart => exact ⟨0, Nat.zero_le _, rfl, rfl, Below.refl _ _⟩
  case round =>
    obtain ⟨m, hm, rfl, rfl, HR⟩ := hrel
    by_cases hlt : m < k
    · have hi1 : (m : Int) < (k : Int) := by omega
      have hb := (HR.out.block _ (lt_of_heap HB.out)).trans HB.out
      have q0 : wr.cell? ⟨b, m * 2, none⟩ = some (.pointer (some ⟨(X m).g, 0, none⟩)) := (cell_of hb).trans (HC.out m hlt).1
      have q1 : wr.cell? ⟨b, m * 2 + 1, none⟩ = some (.pointer (some ⟨(X m).gr, 0, none⟩)) := (cell_of hb).trans (HC.out m hlt).2
      have hr := (HA.out m hlt).rcv.below HR.out
      have K68 := hid (fun o => rtime_raw (wr.alloc o) _ _ _ _ _ _ _ _ _ (hr.below (below_alloc _ o)))
      obtain ⟨z, hz⟩ : ∃ z, z = (y m).rt := ⟨_, rfl⟩
      obtain ⟨x, hx⟩ : ∃ x, x = leastT (fun s => (y s).rt) m := ⟨_, rfl⟩
      have HL : Hid (leastT (fun s => (y s).rt) (m + 1) = min x z) := (show _ = _ from by rw [hx, hz]; rfl)
      rw [← hz] at K68
      rw [← hx]
      clear hb hr hz hx
      go_wp2_with (go_at_call 68; refine (K68.out _).mono ?_; rintro e w2 ⟨rfl, hw2⟩; rw [hw2]; clear hw2)
      exact ⟨⟨m + 1, by omega, by go_num, by rw [HL.out], HR.out.alloc HR.out.size _⟩, by simp [intOf]; omega⟩
    · obtain rfl : m = k := by omega
      go_wp2
      go_ret
      exact ⟨rfl, HR.out⟩
def snapJ (v : PlV) (j : Nat) : Int := if j = v.id then v.ck else leastT (fun s => (v.Y j s).rt) v.k
def snapV (v : PlV) : List Int := (List.range v.n).map (snapJ v)
theorem snapV_len (v : PlV) : (snapV v).length = v.n := by simp [snapV]
theorem mk23 (W : World) (n : Nat) (h1 : 1 ≤ n) (h6 : n ≤ 6) : (Instr.makeSlice 22 (.int .i64 n) (.int .i64 n)).run Tryz.prog W = .ok (.slice (some ⟨W.heap.size, 0, none⟩) n n) (W.alloc (.cells (Array.replicate n (.int .i64 0)) 3)) := by
  rcases (by omega : n = 1 ∨ n = 2 ∨ n = 3 ∨ n = 4 ∨ n = 5 ∨ n = 6) with rfl | rfl | rfl | rfl | rfl | rfl <;> kernel_rfl
structure SnI (w : World) (v : PlV) (m : Nat) (wr : World) : Prop where
  row : ∃ cs, wr.heap[w.heap.size]? = some (.cells cs 3 (0, 0)) ∧ cs.size = v.n ∧ ∀ j, j < m → cs[j]? = some (.int .i64 (snapJ v j))
  below : Below w.heap.size w wr
theorem SnI.next {w wr w2 w3 : World} {v : PlV} {m : Nat} (h : SnI w v m wr) (hm : m < v.n) (hb : Below wr.heap.size wr w2) (hw3 : w3 = w2.setCell ⟨w.heap.size, m, none⟩ (.int .i64 (snapJ v m))) : SnI w v (m + 1) w3 := by
  obtain ⟨cs, c1, c2, c3⟩ := h.row
  have k2 := (hb.block _ (lt_of_heap c1)).trans c1
  refine ⟨⟨cs.setIfInBounds m (.int .i64 (snapJ v m)), by rw [hw3]; exact heap_set k2 _, by simp [c2], fun j hj => ?_⟩, by rw [hw3]; exact (h.below.trans (hb.mono h.below.size)).setCell (Nat.le_refl _) _⟩
  rw [set_get (by omega)]
  by_cases e : m = j
  · rw [if_pos e, e]
  · rw [if_neg e]
    exact c3 j (by omega)
theorem SnI.done {w wr : World} {v : PlV} (h : SnI w v v.n wr) : wr.heap[w.heap.size]? = some (.cells ((snapV v).map (Value.int .i64)).toArray 3 (0, 0)) := by
  obtain ⟨cs, c1, c2, c3⟩ := h.row
  rw [c1]
  congr 2
  apply Array.ext_getElem?
  intro j
  by_cases hj : j < v.n
  · rw [c3 j hj]
    simp [snapV, hj]
  · rw [Array.getElem?_eq_none (by omega), Array.getElem?_eq_none (by simp [snapV]; omega)]
set_option maxHeartbeats 4000000 in
theorem snapshot_any (w : World) (h : PlH) (v : PlV) (a : PlAt w h v) : Calls Tryz.prog 29 #[.pointer (some ⟨h.pb, 0, none⟩)] w fun e w' => e = .returned (.slice (some ⟨w.heap.size, 0, none⟩) v.n v.n) ∧ w'.heap[w.heap.size]? = some (.cells ((snapV v).map (Value.int .i64)).toArray 3 (0, 0)) ∧ Below w.heap.size w w' := by
  have hmk := fun W => mk23 W v.n (by have := a.idn; omega) a.n6
  have x4 : w.cell? ⟨h.pb, 4, none⟩ = some (.slice (some ⟨h.lb, 0, none⟩) v.n v.n) := (cell_of a.box).trans rfl
  obtain ⟨w1, hw1⟩ : ∃ w1, w1 = w.alloc (.cells (Array.replicate v.n (.int .i64 0)) 3) := ⟨_, rfl⟩
  have hb1 : Below w.heap.size w w1 := by rw [hw1]; exact below_alloc _ _
  have I1 : Hid (SnI w v 0 w1) := (show SnI _ _ _ _ from ⟨⟨_, by rw [hw1]; exact heap_new _ _, by simp, fun j hj => by omega⟩, hb1⟩)
  have y4 : w1.cell? ⟨h.pb, 4, none⟩ = some (.slice (some ⟨h.lb, 0, none⟩) v.n v.n) := (cell_of (a.below hb1).box).trans rfl
  have H := hid a
  clear a hb1
  go_enter Tryz.func29, Tryz.ntmps29
  go_upto_region 2 with (fail)
  rw [← hw1]
  clear hw1
  go_wp2
  clear x4 y4 hmk
  go_loopw [17] (fun i wr => ∃ m : Nat, m ≤ v.n ∧ i = .int .i64 m ∧ Hid (SnI w v m wr)) (fun i _ => v.n - (intOf i).toNat)
  case atStart => exact ⟨0, Nat.zero_le _, rfl, I1⟩
  case round =>
    obtain ⟨m, hm, rfl, HI⟩ := hrel
    by_cases hlt : m < v.n
    · have hi1 : (m : Int) < (v.n : Int) := by omega
      have ar := H.out.below HI.out.below
      have AR := hid ar
      obtain ⟨ls, l1, l2⟩ := ar.lines
      have ql : wr.cell? ⟨h.lb, m, none⟩ = some (lineV h v m) := (cell_of l1).trans (l2 m hlt)
      have c0 : wr.cell? ⟨h.pb, 0, none⟩ = some (.int .i64 v.id) := (cell_of ar.box).trans rfl
      obtain ⟨cs, r1, r2, _⟩ := HI.out.row
      have hmc : m < cs.size := by omega
      have n6 := ar.n6
      clear r2
      by_cases hne : m = v.id
      · have hv : lineV h v m = .slice none 0 0 := if_pos hne
        rw [← hne] at c0
        rw [hv] at ql
        have c2 : wr.cell? ⟨h.pb, 2, none⟩ = some (.int .i64 v.ck) := (cell_of ar.box).trans rfl
        have q1 : wr.cell? ⟨w.heap.size, m, none⟩ = some (cs[m]'hmc) := (cell_of r1).trans (Array.getElem?_eq_getElem _)
        have z1 : wr.frozen? ⟨w.heap.size, m, none⟩ = false := free_of r1
        obtain ⟨w3, hw3⟩ : ∃ w3, w3 = wr.setCell ⟨w.heap.size, m, none⟩ (.int .i64 v.ck) := ⟨_, rfl⟩
        have N3 := hid (HI.out.next (w3 := w3) hlt (Below.refl _ _) (by rw [hw3, show snapJ v m = v.ck from if_pos hne]))
        clear ar l1 l2 r1 hv hne
        go_wp2
        rw [← hw3]
        exact ⟨⟨m + 1, by omega, by go_num, N3⟩, by simp [intOf]; omega⟩
      · have hv : lineV h v m = .slice (some ⟨h.b m, 0, none⟩) v.k v.k := if_neg hne
        have hne' : (m : Int) ≠ (v.id : Int) := by omega
        rw [hv] at ql
        have K38 := hid (least_any wr (h.b m) v.k (h.X m) v.id m (v.Y m) ar.k6 (ar.line m hlt hne) (fun s hs => ar.each m s ⟨hlt, hne, hs⟩))
        obtain ⟨z, hz⟩ : ∃ z, z = leastT (fun s => (v.Y m s).rt) v.k := ⟨_, rfl⟩
        rw [← hz] at K38
        have HZ : Hid (snapJ v m = z) := (show _ = _ from by rw [hz]; exact if_neg hne)
        have R1 := hid r1
        clear ar l1 l2 r1 hv hz
        go_wp2_with fail
        refine K38.out.mono ?_
        rintro e w2 ⟨rfl, hb2⟩
        have k2 := (hb2.block _ (lt_of_heap R1.out)).trans R1.out
        have q1 : w2.cell? ⟨w.heap.size, m, none⟩ = some (cs[m]'hmc) := (cell_of k2).trans (Array.getElem?_eq_getElem _)
        have z1 : w2.frozen? ⟨w.heap.size, m, none⟩ = false := free_of k2
        obtain ⟨w3, hw3⟩ : ∃ w3, w3 = w2.setCell ⟨w.heap.size, m, none⟩ (.int .i64 z) := ⟨_, rfl⟩
        have N3 := hid (HI.out.next (w3 := w3) hlt hb2 (by rw [hw3, HZ.out]))
        clear hb2 k2
        go_wp2
        rw [← hw3]
        exact ⟨⟨m + 1, by omega, by go_num, N3⟩, by simp [intOf]; omega⟩
    · obtain rfl : m = v.n := by omega
      go_wp2
      go_ret
      exact ⟨rfl, HI.out.done, HI.out.below⟩
end Go.Proofs.YtepnghacjggkkaaGreatDoor
namespace Go.Proofs.YtepnghacjggkkaaGreatDoor
open Go.RowKit Go.Maps
set_option maxRecDepth 100000
set_option linter.unusedSectionVars false
variable [Inhabited ComV] [DecidableEq D3] [Inhabited D3] [Inhabited Dd] [Inhabited Dn] [Inhabited OpV]

theorem ints_heap {W : World} {b c : Nat} {zs : List Int} (h : W.heap[b]? = some (.cells (zs.map (Value.int .i64)).toArray 3 (0, 0))) : IntsAt W (.slice (some ⟨b, 0, none⟩) zs.length c) zs := by
  refine ⟨_, _, rfl, by simp, .inr ⟨_, _, rfl, fun t ht => ?_⟩⟩
  rw [cell_of h]
  simp [ht]
theorem checkAt_any (A : Nat → Addr) (w : World) (hE : E4 A w) (h12 : 12 ≤ w.heap.size) (h : PlH) (v : PlV) (a : PlAt w h v) (va : Option Addr) (vn vc : Nat) (at_ : List Int) (hv : IntsAt w (.slice va vn vc) at_) (h2 : two at_ (snapV v) = 0) (hle : leB at_ (snapV v) = true) : Calls Tryz.prog 87 #[.pointer (some ⟨h.pb, 0, none⟩), .slice va vn vc] w fun e w' => e = .returned .nilIface ∧ Below w.heap.size w w' := by
  have K12 := hid (snapshot_any w h v a)
  have HV := hid hv
  have HE := hid hE
  clear hv hE
  go_enter Tryz.func87, Tryz.ntmps87
  go_wp2_with fail
  refine K12.out.mono ?_
  rintro e w1 ⟨rfl, hG, hb1⟩
  have HI := ints_heap (c := v.n) hG
  rw [snapV_len] at HI
  have K48 := hid (Within_ok A w1 (HE.out.below hb1 h12) _ _ _ _ (HV.out.mono hb1 (Nat.le_refl _)) HI h2)
  rw [hle] at K48
  have B1 := hid hb1
  clear hG hb1 HI
  go_wp2_with fail
  refine K48.out.mono ?_
  rintro e w2 ⟨rfl, q, hw2⟩
  have B2 : Hid (Below w.heap.size w w2) := (show Below _ _ _ from by rw [hw2]; exact below_draws B1.out q)
  clear hw2
  go_wp2
  go_ret
  exact ⟨rfl, B2.out⟩
theorem keeps_of3 {w w' : World} (h : Keep3 w w') : Keeps w w' := fun t ht b cs hc => by
  rcases ht with rfl | rfl | rfl
  · exact h.ints b cs hc
  · exact h.ops b cs hc
  · exact h.dots b cs hc
theorem PlAt.offStore {w : World} {h : PlH} {v : PlV} (a : PlAt w h v) {b : Nat} {cs : Array Value} {t : TypeId} (hb : w.heap[b]? = some (.cells cs t (0, 0))) (ht : t ≠ 47) : b ≠ h.mb ∧ b ≠ h.db ∧ ∀ k, (h.f k).ownBlock ≠ some b := by
  obtain ⟨D, h1, _⟩ := a.store.map
  obtain ⟨D', h2, _⟩ := a.store.dots
  refine ⟨cells_ne_map h1 hb, cells_ne_map h2 hb, fun k e => ?_⟩
  obtain ⟨rs, r1, _⟩ := a.store.rows k
  have t1 := tyAt_own r1 e
  rw [tyAt_cells hb] at t1
  exact ht (Nat.succ.inj t1)
theorem PlAt.putIn {w w' : World} {h : PlH} {v : PlV} (a : PlAt w h v) {f' : ByteArray → Value} {s' : St} {n' : Nat} (hV : VerAt w' h.p h.mb h.db f' s' n') (hT : Turn w w' h.mb h.db h.f f') (hK : Keep3 w w') : PlAt w' { h with f := f', nn := n' } { v with st := s' } ∧ PlMoves w w' h v { h with f := f', nn := n' } { v with st := s' } := by
  have hk := keeps_of3 hK
  have same : ∀ {b : Nat} {cs : Array Value} {t : TypeId}, w.heap[b]? = some (.cells cs t (0, 0)) → t ≠ 47 → w'.heap[b]? = w.heap[b]? := fun hb ht => hT.block _ (lt_of_heap hb) (a.offStore hb ht).1 (a.offStore hb ht).2.1 (a.offStore hb ht).2.2
  refine ⟨⟨a.idn, a.n6, a.k1, a.k6, (same a.box (by decide)).trans a.box, ?_, fun j h1 h2 => ?_, fun j s q => ?_, a.apart, a.mapne, hV⟩, ⟨hT.os, hT.tape, hT.output, hT.size, fun b hb hn => hT.block b hb (fun e => hn (.inr (.inr (.inl e)))) (fun e => hn (.inr (.inr (.inr (.inl e))))) (fun k e => hn (.inr (.inr (.inr (.inr (.inr (.inl ⟨k, e⟩))))))), fun b hb => ?_, hk⟩⟩
  · obtain ⟨cs, c1, c2⟩ := a.lines
    exact ⟨cs, (same c1 (by decide)).trans c1, c2⟩
  · obtain ⟨cs, c1, c2⟩ := a.line j h1 h2
    exact ⟨cs, (same c1 (by decide)).trans c1, c2⟩
  · have l := a.each j s q
    refine l.keep (fun b hb => ?_) hk
    rcases hb with rfl | hb | rfl | rfl
    · exact same l.snd.box (by decide)
    · obtain ⟨cs, hc⟩ := own_type l.snd.row hb
      exact same hc (by decide)
    · exact same l.rcv.box (by decide)
    · refine hT.block _ l.rcv.mlt (a.mapne j s q).1 (a.mapne j s q).2 fun k e => ?_
      obtain ⟨rs, r1, _⟩ := a.store.rows k
      have t1 := tyAt_own r1 e
      have t3 := l.ty.2.2.1
      omega
  · rcases hb with e | e | e | e | e | ⟨k, e⟩ | e | e
    · exact .inl (.inl e)
    · exact .inl (.inr (.inl e))
    · exact .inl (.inr (.inr (.inl e)))
    · exact .inl (.inr (.inr (.inr (.inl e))))
    · exact .inl (.inr (.inr (.inr (.inr (.inl e)))))
    · rcases hT.fresh k b e with ⟨k', e'⟩ | e'
      · exact .inl (.inr (.inr (.inr (.inr (.inr (.inl ⟨k', e'⟩))))))
      · exact .inr e'
    · exact .inl (.inr (.inr (.inr (.inr (.inr (.inr (.inl e)))))))
    · exact .inl (.inr (.inr (.inr (.inr (.inr (.inr (.inr e)))))))
theorem PlAt.tick {w : World} {h : PlH} {v : PlV} (a : PlAt w h v) (c' : Int) : PlAt (w.setCell ⟨h.pb, 2, none⟩ (.int .i64 c')) h { v with ck := c' } ∧ PlMoves w (w.setCell ⟨h.pb, 2, none⟩ (.int .i64 c')) h v h { v with ck := c' } := by
  have ho : ∀ b, b ≠ h.pb → (w.setCell ⟨h.pb, 2, none⟩ (.int .i64 c')).heap[b]? = w.heap[b]? := fun b hb => Below.heap_setCell _ _ _ _ hb
  have hk : Keeps w (w.setCell ⟨h.pb, 2, none⟩ (.int .i64 c')) := keeps_but a.box (by decide) (by decide) (by decide) fun b _ hb => ho b hb
  have tp : tyAt w h.pb = 70 := tyAt_cells a.box
  have same : ∀ {b : Nat} {cs : Array Value} {t : TypeId}, w.heap[b]? = some (.cells cs t (0, 0)) → t ≠ 69 → (w.setCell ⟨h.pb, 2, none⟩ (.int .i64 c')).heap[b]? = w.heap[b]? := fun hb ht => ho _ (cell_ne hb a.box ht)
  have ty0 : ∀ {b : Nat}, tyAt w b ≠ 70 → (w.setCell ⟨h.pb, 2, none⟩ (.int .i64 c')).heap[b]? = w.heap[b]? := fun {b} hb => ho b fun e => hb (by rw [e]; exact tp)
  refine ⟨⟨a.idn, a.n6, a.k1, a.k6, (heap_set a.box _).trans rfl, ?_, fun j h1 h2 => ?_, fun j s q => ?_, a.apart, a.mapne, ?_⟩, ⟨rfl, rfl, rfl, by simp, fun b _ hn => ho b fun e => hn (.inl e), fun b hb => .inl hb, hk⟩⟩
  · obtain ⟨cs, c1, c2⟩ := a.lines
    exact ⟨cs, (same c1 (by decide)).trans c1, c2⟩
  · obtain ⟨cs, c1, c2⟩ := a.line j h1 h2
    exact ⟨cs, (same c1 (by decide)).trans c1, c2⟩
  · have l := a.each j s q
    exact l.keep (fun b hb => ho b (a.off q hb).1) hk
  · obtain ⟨bv, v1, _⟩ := a.store.box
    obtain ⟨D, v2, _⟩ := a.store.map
    obtain ⟨D', v3, _⟩ := a.store.dots
    exact a.store.keep (same v1 (by decide)) (ty0 (by rw [tyAt_map v2]; decide)) (ty0 (by rw [tyAt_map v3]; decide)) (fun k b hb => ty0 (by obtain ⟨rs, r1, _⟩ := a.store.rows k; rw [tyAt_own r1 hb]; decide)) (keep3_of hk)
end Go.Proofs.YtepnghacjggkkaaGreatDoor
