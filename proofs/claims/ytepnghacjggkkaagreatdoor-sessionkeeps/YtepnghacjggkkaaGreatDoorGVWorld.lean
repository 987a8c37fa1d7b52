/- A place beats; Commits checked (values.CheckCommit); All twelve sentinels and the type's handle: a predicate that every world of a call keeps. -/
import Derived.Test.YtepnghacjggkkaaGreatDoorGLM
import Derived.Test.YtepnghacjggkkaaGreatDoorGTB
import Derived.BigQuiet
import Derived.Deep.Cut
import Derived.Deep.Draws
import Derived.Deep.QuietTactic
import Derived.Deep.RegionHeld
import Derived.Handy
import Derived.LaidEql
import Derived.LaidHandle
import Derived.LaidLaws
import Derived.LaidSub
import Derived.Laws.ResultCell
import Derived.OpenShut
import Derived.ProofKit
import Derived.RowKitTokens
import Derived.Shelf.SlicesQ.IndexFunc
import Derived.Sort.Grow
import Derived.StillTailTactics
import Derived.Stop.Asserts
import Derived.Test.YtepnghacjggkkaaGreatDoorProg
import Derived.Test.YtepnghacjggkkaaGreatDoorRows
import Derived.WalkKit
import Derived.Test.YtepnghacjggkkaaGreatDoorGCA
import Derived.Deep.Fields
import Derived.Deep.RegionHeldLaw
import Derived.Deep.RegionLaw
import Derived.Deep.Slices
import Derived.Ground.SlsfProg
import Derived.Laws.AppendOwnNone
import Derived.Laws.IdiomCopy
import Derived.Laws.MakeOwn
import Derived.Laws.OwnMore
import Derived.Lib.SliceRun
import Derived.Maps.AppendAt
import Derived.Maps.OwnSet
import Derived.Shelf.SlGeneric
import Derived.Shelf.SlIter.Nil
import Derived.Shelf.Slices.CompactS
import Derived.Shelf.Slices.In.SortNone
import Derived.Shelf.SlicesE.DeleteFunc
import Derived.Shelf.Sort.Plain
import Derived.Sort.KeysCollected
import Derived.Test.YtepnghacjggkkaaGreatDoorGVOpM
import Derived.Test.YtepnghacjggkkaaGreatDoorGVLayT
import Derived.Test.YtepnghacjggkkaaGreatDoorGWState
namespace Go.Proofs.YtepnghacjggkkaaGreatDoor
open Go.RowKit Go.Maps
set_option maxRecDepth 100000
set_option linter.unusedSectionVars false
variable [Inhabited ComV] [DecidableEq D3] [Inhabited D3] [Inhabited Dd] [Inhabited Dn] [Inhabited OpV]

theorem sent_any (w : World) (r : Raw) : Calls Tryz.prog 27 #[.agg r.cells.toArray, .nilIface] w fun e w' => e = .returned (.slice (some ⟨w.heap.size + 1, 0, none⟩) 1 1) ∧ w'.heap[w.heap.size + 1]? = some (.cells r.cells.toArray 74 (0, 0)) ∧ Below w.heap.size w w' := by
  obtain ⟨x1, x2, x3, x4, x5, x6, a1, n1, c1, p, a2, n2, c2⟩ := r
  unfold Raw.cells
  simp only
  go_enter Tryz.func27, Tryz.ntmps27
  go_wp2
  go_ret
  exact ⟨rfl, heap_new2 _ _ _, below2 _ _ _⟩
def beatY (v : PlV) (j s : Nat) : LnV := { v.Y j s with sq := (v.Y j s).sq + 1, st := v.ck, ms := (v.Y j s).ms ++ [beatM v.id j s ((v.Y j s).sq + 1) v.ck] }
def beatT (v : PlV) (j s : Nat) : List MsgV := [beatM v.id j s ((v.Y j s).sq + 1) v.ck]
structure PvOk (v : PlV) : Prop where
  ck0 : 0 ≤ v.ck
  ck1 : v.ck ≤ 1000
  sq0 : ∀ j s, v.line j s → 0 ≤ (v.Y j s).sq
  sq1 : ∀ j s, v.line j s → (v.Y j s).sq ≤ 900
  ms1 : ∀ j s, v.line j s → (v.Y j s).ms.length ≤ 900
  st0 : ∀ j s, v.line j s → 0 ≤ (v.Y j s).st
  st1 : ∀ j s, v.line j s → (v.Y j s).st ≤ v.ck
  rt0 : ∀ j s, v.line j s → 0 ≤ (v.Y j s).rt
  rt1 : ∀ j s, v.line j s → (v.Y j s).rt ≤ 1000
theorem LnAt.sent {w w' : World} {i j s : Int} {x : Ln} {y : LnV} (h : LnAt w i j s x y) {sq st : Int} {v' : Value} {r : Raw} {m : MsgV} (hS : SndR w' x.g i j s sq st v' (x.l ++ [r])) (hr : RawOwn w.heap.size w' r m) (hO : OnlyS x.g x.v w w') (hk : Keeps w w') : LnAt w' i j s { x with v := v', l := x.l ++ [r] } { y with sq := sq, st := st, ms := y.ms ++ [m] } := by
  obtain ⟨t1, t2, t3, t4⟩ := h.ty
  have n1 : x.gr ≠ x.g := fun e => by rw [e] at t2; omega
  have n2 : x.gm ≠ x.g := fun e => by rw [e] at t3; omega
  have n3 : x.v.ownBlock ≠ some x.gr := fun e => by have := t4 _ e; omega
  have n4 : x.v.ownBlock ≠ some x.gm := fun e => by have := t4 _ e; omega
  exact ⟨hS, f2_snoc (f2_mono (fun _ _ q => q.kept hk) h.own) (hr.base (Nat.zero_le _)), h.rcv.moved (hO.block _ (lt_of_heap h.rcv.box) n1 n3) (hO.block _ h.rcv.mlt n2 n4), fun q => (h.maps q).mono fun _ _ p => p.kept hk⟩
theorem src_one {W : World} {m : Nat} {r : Raw} (h : W.heap[m]? = some (.cells r.cells.toArray 74 (0, 0))) : SrcAt W (.slice (some ⟨m, 0, none⟩) 1 1) 1 9 (raws [r]) :=
  .inr ⟨_, _, rfl, by simp [raws, Raw.cells], fun j u hj => by rw [Addr.add_lit, Nat.zero_add, cell_of h]; simpa [raws] using hj⟩
def BeatP (pb cb : Nat) (ck : Int) (W : World) : Prop := W.heap[cb]? = some (.cells #[.pointer (some ⟨pb, 0, none⟩)] 30 (0, 0)) ∧ ∃ cs, W.heap[pb]? = some (.cells cs 69 (0, 0)) ∧ cs[2]? = some (.int .i64 ck)
set_option maxHeartbeats 4000000 in
theorem beat1_tell (v0 : PlV) (hok : PvOk v0) (pb cb : Nat) : LineTell 26 (.pointer (some ⟨cb, 0, none⟩)) v0 (beatT v0) (beatY v0) (BeatP pb cb v0.ck) := by
  rintro W x j s q hl ⟨c0, cs, c2, c3⟩
  obtain ⟨w1, hw1⟩ : ∃ w1, w1 = W.alloc (.cells #[.pointer (some ⟨x.g, 0, none⟩), .pointer (some ⟨x.gr, 0, none⟩)] 81) := ⟨_, rfl⟩
  have b1 : Below W.heap.size W w1 := by rw [hw1]; exact below_alloc _ _
  have g1 : w1.heap[W.heap.size]? = some (.cells #[.pointer (some ⟨x.g, 0, none⟩), .pointer (some ⟨x.gr, 0, none⟩)] 81 (0, 0)) := by rw [hw1]; exact heap_new _ _
  have c0' : w1.heap[cb]? = _ := (b1.block _ (lt_of_heap c0)).trans c0
  have c2' : w1.heap[pb]? = _ := (b1.block _ (lt_of_heap c2)).trans c2
  have L1 : LnAt w1.drew v0.id j s x (v0.Y j s) := hl.keep (fun b hb => b1.block b (hl.lt hb)) (Keeps.bel b1.drew)
  have e0 : w1.cell? ⟨W.heap.size, 0, none⟩ = some (.pointer (some ⟨x.g, 0, none⟩)) := (cell_of g1).trans rfl
  have e1 : w1.cell? ⟨cb, 0, none⟩ = some (.pointer (some ⟨pb, 0, none⟩)) := (cell_of c0').trans rfl
  have e2 : w1.cell? ⟨pb, 2, none⟩ = some (.int .i64 v0.ck) := (cell_of c2').trans c3
  have K32 := hid (beat_raw w1.drew x.g v0.id j s (v0.Y j s).sq (v0.Y j s).st v0.ck x.v x.l L1.snd (by rw [f2_len L1.own]; have := hok.ms1 j s q; omega) (hok.sq0 j s q) (by have := hok.sq1 j s q; omega) hok.ck0 (by have := hok.ck1; omega) (hok.st1 j s q))
  obtain ⟨t1, t2, t3, t4⟩ := L1.ty
  have off : ∀ {b : Nat} {ds : Array Value} {t : TypeId}, w1.heap[b]? = some (.cells ds t (0, 0)) → t ≠ 111 → t ≠ 74 → b ≠ x.g ∧ x.v.ownBlock ≠ some b := fun {b ds t} hb h1 h2 => by
    have tb : tyAt w1.drew b = t + 1 := tyAt_cells hb
    exact ⟨fun e => h1 (by rw [e, t1] at tb; exact Nat.succ.inj tb.symm), fun e => h2 (by rw [t4 _ e] at tb; exact Nat.succ.inj tb.symm)⟩
  have HN : Hid ((W.heap.size ≠ x.g ∧ x.v.ownBlock ≠ some W.heap.size) ∧ (cb ≠ x.g ∧ x.v.ownBlock ≠ some cb) ∧ (pb ≠ x.g ∧ x.v.ownBlock ≠ some pb)) := (show _ ∧ _ from ⟨off g1 (by decide) (by decide), off c0' (by decide) (by decide), off c2' (by decide) (by decide)⟩)
  have HL := hid L1
  have B1 := hid b1
  have HLT := hid (show ∀ b, x.foot b → b < W.heap.size from fun b hb => hl.lt hb)
  have hy : Hid (beatY v0 j s = { v0.Y j s with sq := (v0.Y j s).sq + 1, st := v0.ck, ms := (v0.Y j s).ms ++ [beatM v0.id j s ((v0.Y j s).sq + 1) v0.ck] } ∧ beatT v0 j s = [beatM v0.id j s ((v0.Y j s).sq + 1) v0.ck]) := (show _ ∧ _ from ⟨rfl, rfl⟩)
  clear c0 c2 c3 c0' c2' g1 hl b1 L1 t1 t2 t3 t4 off
  go_enter Tryz.func26, Tryz.ntmps26
  go_upto_region 1 with (fail)
  rw [← hw1]
  clear hw1
  go_region_held (fun u => u.cell? ⟨W.heap.size, 0, none⟩ = some (.pointer (some ⟨x.g, 0, none⟩)) ∧ u.cell? ⟨cb, 0, none⟩ = some (.pointer (some ⟨pb, 0, none⟩)) ∧ u.cell? ⟨pb, 2, none⟩ = some (.int .i64 v0.ck)) (first | go_keep | exact ⟨u0, u1, u2⟩ | exact ⟨(hb3.cell (lt_of_cell u0)).trans u0, (hb3.cell (lt_of_cell u1)).trans u1, (hb3.cell (lt_of_cell u2)).trans u2⟩) (first | (go_at_call 28; refine K32.out.mono ?_; rintro e w2 ⟨v', r2, r3, rfl, hS2, h2, h3, hO, hv', hk⟩; have u0 : w2.cell? ⟨W.heap.size, 0, none⟩ = some (.pointer (some ⟨x.g, 0, none⟩)) := ((World.cell?_of_block (hO.block _ (lt_of_cell e0) HN.out.1.1 HN.out.1.2)).trans e0); have u1 : w2.cell? ⟨cb, 0, none⟩ = some (.pointer (some ⟨pb, 0, none⟩)) := ((World.cell?_of_block (hO.block _ (lt_of_cell e1) HN.out.2.1.1 HN.out.2.1.2)).trans e1); have u2 : w2.cell? ⟨pb, 2, none⟩ = some (.int .i64 v0.ck) := ((World.cell?_of_block (hO.block _ (lt_of_cell e2) HN.out.2.2.1 HN.out.2.2.2)).trans e2); have L2 := hid (HL.out.sent hS2 h2 hO hk); have HO := hid hO; have HV := hid hv'; have HK := hid hk; have H3 := hid h3; clear hS2 h2 h3 hO hv' hk) | (go_at_call 27; refine (sent_any _ r3).mono ?_; rintro e w3 ⟨rfl, hm3, hb3⟩))
  have lt2 : ∀ b, b < W.heap.size → b < w1.drew.heap.size := fun b hb => Nat.lt_of_lt_of_le hb B1.out.size
  have E : Hid (SrcAt w3 (.slice (some ⟨w2.heap.size + 1, 0, none⟩) 1 1) 1 9 (raws [r3]) ∧ F2 (RawOwn 0 w3) [r3] (beatT v0 j s) ∧ LnAt w3 v0.id j s { x with v := v', l := x.l ++ [r2] } (beatY v0 j s) ∧ (v'.ownBlock = x.v.ownBlock ∨ ∃ c, v'.ownBlock = some c ∧ W.heap.size ≤ c) ∧ (∀ b, b < W.heap.size → ¬ x.foot b → w3.heap[b]? = W.heap[b]?) ∧ Keeps W w3 ∧ w3.os = W.os ∧ w3.tape = W.tape ∧ w3.output = W.output ∧ W.heap.size ≤ w3.heap.size) := (show _ ∧ _ from by
    have k2 := Keeps.bel hb3
    refine ⟨src_one hm3, ?_, ?_, ?_, fun b hb hf => ?_, ((Keeps.bel B1.out.drew).trans HK.out).trans k2, hb3.os.trans (HO.out.os.trans B1.out.os), hb3.tape.trans (HO.out.tape.trans B1.out.tape), hb3.output.trans (HO.out.output.trans B1.out.output), Nat.le_trans B1.out.size (Nat.le_trans HO.out.size hb3.size)⟩
    · rw [hy.out.2]
      exact ⟨(H3.out.base (Nat.zero_le _)).kept k2, trivial⟩
    · rw [hy.out.1]
      exact L2.out.keep (fun b hb => hb3.block b (L2.out.lt hb)) k2
    · rcases HV.out with h | ⟨c, h, hc⟩
      · exact .inl h
      · exact .inr ⟨c, h, Nat.le_trans B1.out.size hc⟩
    · rw [hb3.block b (Nat.lt_of_lt_of_le (lt2 b hb) HO.out.size), HO.out.block b (lt2 b hb) (fun e => hf (.inl e)) (fun e => hf (.inr (.inl e)))]
      exact B1.out.block b hb)
  clear u0 u1 u2 e0 e1 e2 hm3 hb3 lt2
  go_wp2
  go_ret
  exact ⟨_, _, [r3], { x with v := v', l := x.l ++ [r2] }, rfl, E.out.1, E.out.2.1, E.out.2.2.1, rfl, rfl, rfl, rfl, E.out.2.2.2⟩
theorem PlG.ahead {w w1 W : World} {h0 h : PlH} {v0 v : PlV} {o : Option Nat} (hb : Below w.heap.size w w1) (g : PlG w1 h0 v0 o h v W) : PlG w h0 v0 o h v W :=
  ⟨g.here, g.mov.ahead hb, g.pb, g.lb, g.b, g.gs, g.id, g.n, g.k, fun q hq => ⟨(g.free q hq).1, Nat.le_trans hb.size (g.free q hq).2⟩, g.xn⟩
theorem PlG.recast {w0 W : World} {h0 h : PlH} {v0 v v' : PlV} {o : Option Nat} (g : PlG w0 h0 v0 o h v W) (e1 : v'.id = v.id) (e2 : v'.n = v.n) (e3 : v'.k = v.k) (e4 : v'.ck = v.ck) (e5 : v'.st = v.st) (hY : ∀ j s, v'.line j s → v'.Y j s = v.Y j s) : PlG w0 h0 v0 o h v' W := by
  obtain ⟨id, n, k, ck, Y, st⟩ := v
  obtain ⟨id', n', k', ck', Y', st'⟩ := v'
  simp only at e1 e2 e3 e4 e5 hY
  subst e1 e2 e3 e4 e5
  refine ⟨⟨g.here.idn, g.here.n6, g.here.k1, g.here.k6, g.here.box, g.here.lines, g.here.line, fun j s q => ?_, g.here.apart, g.here.mapne, g.here.store⟩, ⟨g.mov.os, g.mov.tape, g.mov.output, g.mov.size, g.mov.block, g.mov.foot, g.mov.keeps⟩, g.pb, g.lb, g.b, g.gs, g.id, g.n, g.k, g.free, g.xn⟩
  show LnAt W _ j s (h.X j s) (Y' j s)
  rw [hY j s q]
  exact g.here.each j s q
theorem GaS.done {w0 W : World} {h0 : PlH} {v0 : PlV} {tell : Nat → Nat → List MsgV} {Y' : Nat → Nat → LnV} {rs : List Raw} {o : Option Nat} (i : GaS w0 h0 v0 tell Y' v0.n 0 rs o W) : (∃ h, PlG w0 h0 v0 o h { v0 with Y := Y' } W ∧ h.p = h0.p ∧ h.mb = h0.mb ∧ h.db = h0.db ∧ h.f = h0.f ∧ h.nn = h0.nn) ∧ F2 (RawOwn 0 W) rs (allMs tell v0.id v0.k v0.n) := by
  obtain ⟨h, v, g, r1, r2, r3, r4, r5, r6, r7, r8⟩ := i.at_
  refine ⟨⟨h, g.recast g.id.symm g.n.symm g.k.symm r6.symm r7.symm (fun j s q => ?_), r1, r2, r3, r4, r5⟩, by have := i.own; simpa [rowMs] using this⟩
  show Y' j s = _
  rw [r8 j s q]
  exact (if_pos ⟨.inl q.1, q.2.1⟩).symm
end Go.Proofs.YtepnghacjggkkaaGreatDoor
namespace Go.Proofs.YtepnghacjggkkaaGreatDoor.V
open Go.RowKit Go.Sort
set_option maxRecDepth 100000
set_option linter.unusedSectionVars false
variable [Inhabited _root_.Go.Proofs.YtepnghacjggkkaaGreatDoor.ComV] [DecidableEq _root_.Go.Proofs.YtepnghacjggkkaaGreatDoor.D3] [Inhabited _root_.Go.Proofs.YtepnghacjggkkaaGreatDoor.D3] [Inhabited _root_.Go.Proofs.YtepnghacjggkkaaGreatDoor.Dd] [Inhabited _root_.Go.Proofs.YtepnghacjggkkaaGreatDoor.Dn] [Inhabited _root_.Go.Proofs.YtepnghacjggkkaaGreatDoor.OpV]
variable [Inhabited D3] [Inhabited OpV]

def F2 {α β : Type} (R : α → β → Prop) : List α → List β → Prop
  | [], [] => True
  | a :: l, b :: m => R a b ∧ F2 R l m
  | _, _ => False
theorem f2_mono {α β : Type} {R S : α → β → Prop} (h : ∀ a b, R a b → S a b) : ∀ {l : List α} {m : List β}, F2 R l m → F2 S l m
  | [], [], _ => trivial
  | _ :: _, _ :: _, ⟨h1, h2⟩ => ⟨h _ _ h1, f2_mono h h2⟩
theorem f2_len {α β : Type} {R : α → β → Prop} : ∀ {l : List α} {m : List β}, F2 R l m → l.length = m.length
  | [], [], _ => rfl
  | _ :: _, _ :: _, ⟨_, h2⟩ => by simp [f2_len h2]
theorem f2_get {α β : Type} {R : α → β → Prop} : ∀ {l : List α} {m : List β}, F2 R l m → ∀ (j : Nat) (y : β), m[j]? = some y → ∃ x, l[j]? = some x ∧ R x y
  | [], [], _, _, _, h => by simp at h
  | _ :: _, _ :: _, ⟨h1, h2⟩, j, y, h => by
    cases j with
    | zero => simp at h; subst h; exact ⟨_, rfl, h1⟩
    | succ j => exact f2_get h2 j y (by simpa using h)
def opCells (o : OpV) (dv : Value) : List Value := [.int .i64 o.at_, .string o.key, .int .i64 o.kind, .string o.text, .int .i64 o.n, .bool o.rem, dv]
def OpRow (w : World) (cs : List Value) (o : OpV) : Prop := ∃ dv, cs = opCells o dv ∧ DotsAt w dv o.dots
def OpsAt (w : World) (v : Value) (os : List OpV) : Prop := ∃ rows, RowAt 7 w v rows ∧ F2 (OpRow w) rows os
theorem OpsAt.shape {w : World} {v : Value} {os : List OpV} (h : OpsAt w v os) : ∃ ad cap, v = .slice ad os.length cap ∧ (ad = none → cap = 0) ∧ os.length ≤ cap ∧
    (os = [] ∨ ∃ b off, ad = some ⟨b, off, none⟩ ∧ ∀ j, j < os.length → ∃ dp dc, DotsAt w (.slice dp os[j]!.dots.length dc) os[j]!.dots ∧
      w.cell? ⟨b, off + j * 7, none⟩ = some (.int .i64 os[j]!.at_) ∧ w.cell? ⟨b, off + j * 7 + 1, none⟩ = some (.string os[j]!.key) ∧ w.cell? ⟨b, off + j * 7 + 2, none⟩ = some (.int .i64 os[j]!.kind) ∧ w.cell? ⟨b, off + j * 7 + 3, none⟩ = some (.string os[j]!.text) ∧
      w.cell? ⟨b, off + j * 7 + 4, none⟩ = some (.int .i64 os[j]!.n) ∧ w.cell? ⟨b, off + j * 7 + 5, none⟩ = some (.bool os[j]!.rem) ∧ w.cell? ⟨b, off + j * 7 + 6, none⟩ = some (.slice dp os[j]!.dots.length dc)) := by
  obtain ⟨rows, ⟨ad, cap, rfl, h1, h2, h3⟩, hf⟩ := h
  have hl := f2_len hf
  refine ⟨ad, cap, by rw [hl], h1, by omega, ?_⟩
  rcases h3 with rfl | ⟨b, off, rfl, h3⟩
  · exact .inl (List.eq_nil_of_length_eq_zero hl.symm)
  · refine .inr ⟨b, off, rfl, fun j hj => ?_⟩
    obtain ⟨r, hr, dv, rfl, hd⟩ := f2_get hf j os[j]! (by rw [getElem!_pos os j hj, List.getElem?_eq_getElem hj])
    obtain ⟨dp, dc, rfl⟩ := hd.len
    have hc := (h3 j _ hr).2
    exact ⟨dp, dc, hd, hc 0 _ rfl, hc 1 _ rfl, hc 2 _ rfl, hc 3 _ rfl, hc 4 _ rfl, hc 5 _ rfl, hc 6 _ rfl⟩
def opBad (n : Int) (os : List OpV) (i : Nat) : Nat :=
  if opErr os[i]! n ≠ 0 then opErr os[i]! n else if 0 < i ∧ os[i]!.at_ ≤ os[i - 1]!.at_ then 3 else 0
def scan (f : Nat → Nat) (m : Nat) : Nat × Option Nat :=
  match (List.range m).find? (fun i => decide (f i ≠ 0)) with
  | some i => (f i, some i)
  | none => (0, none)
theorem scan_none {f : Nat → Nat} {m : Nat} (h : ∀ i, i < m → f i = 0) : scan f m = (0, none) := by
  unfold scan
  rw [List.find?_eq_none.2 fun i hi => by rw [h i (List.mem_range.1 hi)]; decide]
theorem scan_some {f : Nat → Nat} {m i : Nat} (hi : i < m) (h : ∀ j, j < i → f j = 0) (hf : f i ≠ 0) : scan f m = (f i, some i) := by
  have : (List.range m).find? (fun i => decide (f i ≠ 0)) = some i := by
    rw [List.find?_range_eq_some]
    exact ⟨by simpa using hf, by simpa using hi, fun j hj => by simpa using h j hj⟩
  unfold scan
  rw [this]
def comErr (c : ComV) : Nat × Option Nat :=
  if chk c.when_ ≠ 0 then ((chk c.when_).toNat, none)
  else if c.place < 0 ∨ (c.when_.length : Int) ≤ c.place ∨ c.when_.getD c.place.toNat 0 = 0 ∨ 12 < c.ops.length then (2, none)
  else if c.ops = [] then (3, none)
  else scan (opBad c.when_.length c.ops) c.ops.length
def ErrAt (A : Nat → Addr) (w : World) (v : Value) (e : Nat × Option Nat) : Prop :=
  match e.2 with
  | none => v = errV A e.1
  | some i => ∃ pb, v = .iface 116 (.pointer (some ⟨pb, 0, none⟩)) ∧ w.cell? ⟨pb, 0, none⟩ = some (.int .i64 i) ∧ w.cell? ⟨pb, 1, none⟩ = some (errV A e.1)
theorem ErrAt.bare {A : Nat → Addr} {w : World} {e : Nat × Option Nat} (k : Nat) (h : e = (k, none)) : ErrAt A w (errV A k) e := by subst h; exact rfl
theorem ErrAt.at {A : Nat → Addr} {w : World} {e : Nat × Option Nat} {i k : Nat} (pb : Nat) (h : e = (k, some i)) (c0 : w.cell? ⟨pb, 0, none⟩ = some (.int .i64 i)) (c1 : w.cell? ⟨pb, 1, none⟩ = some (errV A k)) : ErrAt A w (.iface 116 (.pointer (some ⟨pb, 0, none⟩))) e := by
  subst h; exact ⟨pb, rfl, c0, c1⟩
def Small (o : OpV) : Prop := o.text.size ≤ 1000000 ∧ o.dots.length ≤ 1000000
def ComRet (A : Nat → Addr) (w : World) (er : Nat × Option Nat) (e : Ending) (w' : World) : Prop := ∃ v, e = .returned v ∧ ErrAt A w' v er ∧ Below w.heap.size w w'
theorem ComRet.bare {A : Nat → Addr} {w w' : World} {er : Nat × Option Nat} (k : Nat) (h : er = (k, none)) (hb : Below w.heap.size w w') : ComRet A w er (.returned (errV A k)) w' := ⟨_, rfl, ErrAt.bare k h, hb⟩
theorem checkCommit_when (A : Nat → Addr) (w : World) (hE : E4 A w) (h4 : 12 ≤ w.heap.size) (a1 : Option Addr) (c1 : Nat) (zs : List Int) (pl : Int) (a2 : Option Addr) (m c2 : Nat)
    (hw : IntsAt w (.slice a1 zs.length c1) zs) (hl : zs.length ≤ 1000000) (hc : chk zs ≠ 0) :
    Calls Tryz.prog 92 #[.agg #[.slice a1 zs.length c1, .int .i64 pl, .slice a2 m c2]] w fun e w' => e = .returned (.iface 276 (.pointer (some (A ((chk zs).toNat - 1))))) ∧ Below w.heap.size w w' := by
  have K := fun o => check_bad A (w.alloc o) (hE.below (below_alloc _ _) h4) (.slice a1 zs.length c1) zs (hw.mono (below_alloc _ _) (Nat.le_refl _)) hl hc
  obtain ⟨n, hn⟩ : ∃ n, n = zs.length := ⟨_, rfl⟩
  rw [← hn] at K ⊢
  clear hn hw hl
  go_enter Tryz.func92, Tryz.ntmps92
  go_wp2_with (go_at_call 69; refine (K _).mono ?_; rintro e w' ⟨rfl, rfl⟩)
  go_ret
  exact ⟨rfl, below_alloc _ _⟩
set_option maxHeartbeats 2000000 in
theorem checkCommit_bound (A : Nat → Addr) (w : World) (hE : E4 A w) (h4 : 12 ≤ w.heap.size) (b1 o1 : Nat) (c1 : Nat) (zs : List Int) (pl : Int) (a2 : Option Addr) (m c2 : Nat)
    (hw : ∀ t, t < zs.length → w.cell? ⟨b1, o1 + t, none⟩ = some (.int .i64 (zs.getD t 0))) (hc : chk zs = 0) (hm : m ≤ 1000000)
    (h : pl < 0 ∨ (zs.length : Int) ≤ pl ∨ zs.getD pl.toNat 0 = 0 ∨ 12 < m) :
    Calls Tryz.prog 92 #[.agg #[.slice (some ⟨b1, o1, none⟩) zs.length c1, .int .i64 pl, .slice a2 m c2]] w fun e w' => e = .returned (errV A 2) ∧ Below w.heap.size w w' := by
  have hn6 := (chk_zero.1 hc).2.1
  have K := fun o => check_ok A (w.alloc o) (hE.below (below_alloc _ _) h4) (.slice (some ⟨b1, o1, none⟩) zs.length c1) zs (IntsAt.mono ⟨_, _, rfl, (fun h => by cases h), .inr ⟨b1, o1, rfl, hw⟩⟩ (below_alloc w o) (Nat.le_refl _)) hc
  have hW := hid hw
  have g0 := fun o => cell_alloc hE.bound o
  obtain ⟨n, hn⟩ : ∃ n, n = zs.length := ⟨_, rfl⟩
  rw [← hn] at K hW h hn6 ⊢
  clear hn hw hc hE
  by_cases p0 : pl < 0
  · go_enter Tryz.func92, Tryz.ntmps92
    go_wp2_with (go_at_call 69; refine (K _).mono ?_; rintro e w' ⟨rfl, rfl⟩)
    go_ret
    exact ⟨rfl, below_alloc _ _⟩
  · obtain ⟨p, rfl⟩ : ∃ p : Nat, pl = p := ⟨pl.toNat, by omega⟩
    by_cases p1 : (n : Int) ≤ p
    · go_enter Tryz.func92, Tryz.ntmps92
      go_wp2_with (go_at_call 69; refine (K _).mono ?_; rintro e w' ⟨rfl, rfl⟩)
      go_ret
      exact ⟨rfl, below_alloc _ _⟩
    · have cz := fun o => cell_alloc (hW.out p (by omega)) o
      obtain ⟨z, hz⟩ : ∃ z, z = zs.getD p 0 := ⟨_, rfl⟩
      rw [← hz] at cz
      have HZ := hid hz
      clear hz
      have hlt : p < n := by omega
      by_cases z0 : z = 0
      · rw [z0] at cz
        clear h
        go_enter Tryz.func92, Tryz.ntmps92
        go_wp2_with (go_at_call 69; refine (K _).mono ?_; rintro e w' ⟨rfl, rfl⟩)
        go_ret
        exact ⟨rfl, below_alloc _ _⟩
      · have bz : (z == 0) = false := by simpa using z0
        have m12 : 12 < (m : Int) := by
          rcases h with h | h | h | h
          · omega
          · omega
          · rw [Int.toNat_natCast, ← HZ.out] at h; omega
          · omega
        clear h
        go_enter Tryz.func92, Tryz.ntmps92
        go_wp2_with (go_at_call 69; refine (K _).mono ?_; rintro e w' ⟨rfl, rfl⟩)
        go_ret
        exact ⟨rfl, below_alloc _ _⟩
set_option maxHeartbeats 2000000 in
theorem checkCommit_empty (A : Nat → Addr) (w : World) (hE : E4 A w) (h4 : 12 ≤ w.heap.size) (b1 o1 : Nat) (c1 : Nat) (zs : List Int) (p : Nat) (a2 : Option Addr) (c2 : Nat)
    (hw : ∀ t, t < zs.length → w.cell? ⟨b1, o1 + t, none⟩ = some (.int .i64 (zs.getD t 0))) (hc : chk zs = 0) (hp : p < zs.length) (hz : zs.getD p 0 ≠ 0) :
    Calls Tryz.prog 92 #[.agg #[.slice (some ⟨b1, o1, none⟩) zs.length c1, .int .i64 p, .slice a2 0 c2]] w fun e w' => e = .returned (errV A 3) ∧ Below w.heap.size w w' := by
  have hn6 := (chk_zero.1 hc).2.1
  have K := fun o => check_ok A (w.alloc o) (hE.below (below_alloc _ _) h4) (.slice (some ⟨b1, o1, none⟩) zs.length c1) zs (IntsAt.mono ⟨_, _, rfl, (fun h => by cases h), .inr ⟨b1, o1, rfl, hw⟩⟩ (below_alloc w o) (Nat.le_refl _)) hc
  have g0 := fun o => cell_alloc hE.shape o
  have cz := fun o => cell_alloc (hw p hp) o
  obtain ⟨z, hzz⟩ : ∃ z, z = zs.getD p 0 := ⟨_, rfl⟩
  rw [← hzz] at cz hz
  have bz : (z == 0) = false := by simpa using hz
  obtain ⟨n, hn⟩ : ∃ n, n = zs.length := ⟨_, rfl⟩
  rw [← hn] at K hp hn6 ⊢
  have p1 : ¬ (n : Int) ≤ p := by omega
  clear hn hw hc hE hzz hz
  go_enter Tryz.func92, Tryz.ntmps92
  go_wp2_with (go_at_call 69; refine (K _).mono ?_; rintro e w' ⟨rfl, rfl⟩)
  go_ret
  exact ⟨rfl, below_alloc _ _⟩
set_option maxHeartbeats 4000000 in
theorem checkCommit_ops (A : Nat → Addr) (w : World) (hE : E4 A w) (h4 : 12 ≤ w.heap.size) (b1 o1 : Nat) (c1 : Nat) (zs : List Int) (p : Nat) (b2 o2 m c2 : Nat) (os : List OpV)
    (hw : ∀ t, t < zs.length → w.cell? ⟨b1, o1 + t, none⟩ = some (.int .i64 (zs.getD t 0))) (hc : chk zs = 0) (hp : p < zs.length) (hz : zs.getD p 0 ≠ 0) (hm : os.length = m) (h0 : 0 < m) (h12 : m ≤ 12) (hsm : ∀ o ∈ os, Small o)
    (ho : ∀ j, j < m → ∃ dp dc, DotsAt w (.slice dp os[j]!.dots.length dc) os[j]!.dots ∧
      w.cell? ⟨b2, o2 + j * 7, none⟩ = some (.int .i64 os[j]!.at_) ∧ w.cell? ⟨b2, o2 + j * 7 + 1, none⟩ = some (.string os[j]!.key) ∧ w.cell? ⟨b2, o2 + j * 7 + 2, none⟩ = some (.int .i64 os[j]!.kind) ∧ w.cell? ⟨b2, o2 + j * 7 + 3, none⟩ = some (.string os[j]!.text) ∧
      w.cell? ⟨b2, o2 + j * 7 + 4, none⟩ = some (.int .i64 os[j]!.n) ∧ w.cell? ⟨b2, o2 + j * 7 + 5, none⟩ = some (.bool os[j]!.rem) ∧ w.cell? ⟨b2, o2 + j * 7 + 6, none⟩ = some (.slice dp os[j]!.dots.length dc)) :
    Calls Tryz.prog 92 #[.agg #[.slice (some ⟨b1, o1, none⟩) zs.length c1, .int .i64 p, .slice (some ⟨b2, o2, none⟩) m c2]] w fun e w' => ComRet A w (scan (opBad zs.length os) m) e w' := by
  have hn6 := (chk_zero.1 hc).2.1
  have K := fun o => check_ok A (w.alloc o) (hE.below (below_alloc _ _) h4) (.slice (some ⟨b1, o1, none⟩) zs.length c1) zs (IntsAt.mono ⟨_, _, rfl, (fun h => by cases h), .inr ⟨b1, o1, rfl, hw⟩⟩ (below_alloc w o) (Nat.le_refl _)) hc
  have cz := fun o => cell_alloc (hw p hp) o
  obtain ⟨z, hzz⟩ : ∃ z, z = zs.getD p 0 := ⟨_, rfl⟩
  rw [← hzz] at cz hz
  have bz : (z == 0) = false := by simpa using hz
  obtain ⟨n, hn⟩ : ∃ n, n = zs.length := ⟨_, rfl⟩
  rw [← hn] at K hp hn6 ⊢
  have p1 : ¬ (n : Int) ≤ p := by omega
  have m12 : ¬ 12 < (m : Int) := by omega
  have m0 : ((m : Int) == 0) = false := by rw [beq_eq_false_iff_ne]; omega
  have HO := hid ho
  have HE := hid hE
  have HM := hid hm
  have HS := hid hsm
  clear hn hw hc hE hzz hz ho hm hsm
  obtain ⟨w1, hw1⟩ : ∃ w1, w1 = w.alloc (.cells #[.slice (some ⟨b1, o1, none⟩) n c1, .int .i64 p, .slice (some ⟨b2, o2, none⟩) m c2] 47) := ⟨_, rfl⟩
  have B1 : Hid (Below w.heap.size w w1) := by rw [hw1]; exact below_alloc _ _
  have S1 : Hid (w1.heap.size = w.heap.size + 1) := hid (by rw [hw1]; simp)
  have C0 : Hid (w1.cell? ⟨w.heap.size, 0, none⟩ = some (.slice (some ⟨b1, o1, none⟩) n c1)) := hid (by rw [hw1]; simp)
  have C2 : Hid (w1.cell? ⟨w.heap.size, 2, none⟩ = some (.slice (some ⟨b2, o2, none⟩) m c2)) := hid (by rw [hw1]; simp)
  have HW1 := hid hw1
  clear hw1
  go_enter Tryz.func92, Tryz.ntmps92
  go_wp2_with (go_at_call 69; refine (K _).mono ?_; rintro e w' ⟨rfl, rfl⟩)
  go_loopw [48] (fun i wr => ∃ k : Nat, k ≤ m ∧ i = .int .i64 k ∧ Hid (Below (w.heap.size + 1) w1 wr) ∧ Hid (∀ t, t < k → opBad n os t = 0)) (fun i _ => m - (intOf i).toNat)
  case atStart => exact ⟨0, Nat.zero_le _, rfl, (by rw [HW1.out]; exact Below.refl _ _), fun t ht => absurd ht (Nat.not_lt_zero _)⟩
  case round =>
    obtain ⟨k, hk, rfl, HB, HI⟩ := hrel
    clear K cz
    have hB := HB.out
    have hs1 := S1.out
    have hsz : w.heap.size + 1 ≤ wr.heap.size := by have := hB.size; omega
    have wB : Hid (Below w.heap.size w wr) := B1.out.trans (hB.mono (by omega))
    have e0 : wr.cell? ⟨w.heap.size, 0, none⟩ = some (.slice (some ⟨b1, o1, none⟩) n c1) := by rw [hB.cell (p := ⟨w.heap.size, 0, none⟩) (by simp)]; exact C0.out
    have e2 : wr.cell? ⟨w.heap.size, 2, none⟩ = some (.slice (some ⟨b2, o2, none⟩) m c2) := by rw [hB.cell (p := ⟨w.heap.size, 2, none⟩) (by simp)]; exact C2.out
    have e0' := fun o => cell_alloc e0 o
    clear hB
    by_cases hlt : k < m
    · obtain ⟨dp, dc, hd, q0, q1, q2, q3, q4, q5, q6⟩ := HO.out k hlt
      have up : ∀ {a : Addr} {v : Value}, w.cell? a = some v → wr.cell? a = some v := fun {a v} h => by rw [wB.out.cell (lt_of_cell h)]; exact h
      have r0 := up q0
      have r1 := up q1
      have r2 := up q2
      have r3 := up q3
      have r4 := up q4
      have r5 := up q5
      have r6 := up q6
      have hSm : Small os[k]! := HS.out _ (by rw [getElem!_pos os k (by have := HM.out; omega)]; exact List.getElem_mem _)
      obtain ⟨x, hx⟩ : ∃ x, x = os[k]! := ⟨_, rfl⟩
      rw [← hx] at r0 r1 r2 r3 r4 r5 r6 hd hSm
      have HX := hid hx
      obtain ⟨er, her⟩ : ∃ er, er = opErr x n := ⟨_, rfl⟩
      have HER := hid her
      obtain ⟨x1, x2, x3, x4, x5, x6, ds⟩ := x
      have KC := fun o => check_op A (wr.alloc o) ((HE.out.below wB.out h4).below (below_alloc wr o) (by omega)) (by simp; omega) x1 x2 x3 x4 x5 x6 dp dc ds n ((hd.mono wB.out (Nat.le_refl _)).mono (below_alloc wr o) (Nat.le_refl _)) hSm.2 hSm.1
      rw [← her] at KC
      clear q0 q1 q2 q3 q4 q5 q6 hx her hd hSm
      simp only at r0 r1 r2 r3 r4 r5 r6
      cases er with
      | succ er =>
        have hbad : opBad n os k = er + 1 := by
          unfold opBad
          rw [← HX.out, ← HER.out, if_pos (by omega)]
        have hsc := hid (scan_some (f := opBad n os) hlt HI.out (by omega))
        rw [hbad] at hsc
        rw [show errV A (er + 1) = .iface 276 (.pointer (some (A er))) from rfl] at KC
        go_wp2_with (go_at_call 85; refine (KC _).mono ?_; rintro e w' ⟨rfl, hw⟩)
        go_ret
        refine ⟨_, rfl, ErrAt.at (k := er + 1) (i := k) w'.heap.size hsc.out (by simp) (by simp [errV]), ?_⟩
        exact (wB.out.trans ((below_alloc _ _).mono (by have := wB.out.size; omega))).trans ((hw.mono (by simp; have := wB.out.size; omega)).alloc (by have := hw.size; simp at this; have := wB.out.size; omega) _)
      | zero =>
        rw [show errV A 0 = .nilIface from rfl] at KC
        obtain ⟨BX, hBX⟩ : ∃ BX, BX = Obj.cells #[.int .i64 x1, .string x2, .int .i64 x3, .string x4, .int .i64 x5, .bool x6, .slice dp ds.length dc] 24 := ⟨_, rfl⟩
        go_wp2_with (go_at_call 85; refine (KC _).mono ?_; rintro e w' ⟨rfl, hw⟩)
        have hw2 : Below (w.heap.size + 1) w1 w' := (HB.out.alloc hsz _).trans (hw.mono (by simp; omega))
        have f0 : w'.cell? ⟨wr.heap.size, 0, none⟩ = some (.int .i64 x1) := by rw [hw.cell (p := ⟨wr.heap.size, 0, none⟩) (by simp)]; simp
        have f2 : w'.cell? ⟨w.heap.size, 2, none⟩ = some (.slice (some ⟨b2, o2, none⟩) m c2) := by rw [hw2.cell (p := ⟨w.heap.size, 2, none⟩) (by simp)]; exact C2.out
        have hwB : Hid (Below w.heap.size w w') := B1.out.trans (hw2.mono (by omega))
        have hw2' := hid hw2
        have hwH := hid hw
        clear hw hw2 KC
        have hsz' : w.heap.size + 1 ≤ w'.heap.size := by have := hw2'.out.size; omega
        rcases Nat.eq_zero_or_pos k with rfl | hk0
        · have hz0 : ¬ (0 : Int) < ((0 : Nat) : Int) := by omega
          go_quiet (fail)
          go_wp2
          refine ⟨⟨_, _, _, _, _, ⟨1, by omega, rfl, below_draws hw2'.out _, ?_⟩, rfl, rfl, rfl, rfl, by go_num⟩, by simp [intOf]; omega⟩
          intro t ht
          obtain rfl : t = 0 := by omega
          unfold opBad
          rw [← HX.out, ← HER.out, if_neg (by decide), if_neg (by omega)]
        · obtain ⟨j, rfl⟩ : ∃ j, k = j + 1 := ⟨k - 1, by omega⟩
          obtain ⟨_, _, _, q0, _⟩ := HO.out j (by omega)
          have g0 : w'.cell? ⟨b2, o2 + j * 7, none⟩ = some (.int .i64 os[j]!.at_) := by rw [hwB.out.cell (lt_of_cell q0)]; exact q0
          clear q0
          obtain ⟨y, hy⟩ : ∃ y, y = os[j]!.at_ := ⟨_, rfl⟩
          rw [← hy] at g0
          have HY := hid hy
          clear hy
          have hp0 : (0 : Int) < ((j + 1 : Nat) : Int) := by omega
          have hj1 : ((j + 1 : Nat) : Int) - 1 = (j : Int) := by omega
          have hjm : j < m := by omega
          by_cases hle : x1 ≤ y
          · have hbad : opBad n os (j + 1) = 3 := by
              unfold opBad
              rw [← HX.out, ← HER.out, if_neg (by decide), if_pos ⟨by omega, by rw [Nat.add_sub_cancel, ← HY.out]; exact hle⟩]
            have hsc := hid (scan_some (f := opBad n os) hlt HI.out (by omega))
            rw [hbad] at hsc
            have g3 : w'.cell? ⟨2, 0, none⟩ = some (.iface 276 (.pointer (some (A 2)))) := (HE.out.below hwB.out h4).shape
            go_quiet (fail)
            go_wp2
            go_ret
            refine ⟨_, rfl, ErrAt.at (k := 3) (i := j + 1) w'.heap.size hsc.out ((World.cell?_alloc_at _ _ _ _ rfl).trans (by simp)) ((World.cell?_alloc_at _ _ _ _ rfl).trans rfl), ?_⟩
            exact (below_draws hwB.out _).alloc (by simp; omega) _
          · go_quiet (fail)
            go_wp2
            refine ⟨⟨_, _, _, _, _, ⟨j + 1 + 1, by omega, rfl, below_draws hw2'.out _, ?_⟩, rfl, rfl, rfl, rfl, by go_num⟩, by simp [intOf]; omega⟩
            intro t ht
            rcases Nat.lt_succ_iff_lt_or_eq.1 ht with h | rfl
            · exact HI.out t h
            · unfold opBad
              rw [← HX.out, ← HER.out, if_neg (by decide), if_neg (fun h => by have h2 := h.2; rw [Nat.add_sub_cancel, ← HY.out] at h2; have h3 : x1 ≤ y := h2; omega)]
    · obtain rfl : k = m := by omega
      go_wp2
      go_ret
      exact ComRet.bare 0 (scan_none HI.out) wB.out
theorem checkCommit (A : Nat → Addr) (w : World) (hE : E4 A w) (h4 : 12 ≤ w.heap.size) (c : ComV) (wv ov : Value) (hw : IntsAt w wv c.when_) (ho : OpsAt w ov c.ops) (hl : c.when_.length ≤ 1000000) (hm : c.ops.length ≤ 1000000) (hsm : ∀ o ∈ c.ops, Small o) :
    Calls Tryz.prog 92 #[.agg #[wv, .int .i64 c.place, ov]] w fun e w' => ComRet A w (comErr c) e w' := by
  obtain ⟨a2, c2, rfl, hn2, hc2, ho'⟩ := ho.shape
  have hw0 := hw
  obtain ⟨a1, c1, rfl, hn1, hw⟩ := hw
  unfold comErr
  by_cases hc : chk c.when_ = 0
  · rw [if_neg (by simpa using hc)]
    rcases hw with h | ⟨b1, o1, rfl, hw⟩
    · have := (chk_zero.1 hc).1
      rw [h] at this
      simp at this
    · by_cases hb : c.place < 0 ∨ (c.when_.length : Int) ≤ c.place ∨ c.when_.getD c.place.toNat 0 = 0 ∨ 12 < c.ops.length
      · rw [if_pos hb]
        refine (checkCommit_bound A w hE h4 b1 o1 c1 c.when_ c.place a2 c.ops.length c2 hw hc hm hb).mono ?_
        rintro e w' ⟨rfl, h⟩
        exact ComRet.bare 2 rfl h
      · rw [if_neg hb]
        obtain ⟨p, hp⟩ : ∃ p : Nat, c.place = p := ⟨c.place.toNat, by omega⟩
        rw [hp] at hb ⊢
        rw [Int.toNat_natCast] at hb
        by_cases h0 : c.ops = []
        · rw [if_pos h0, h0]
          refine (checkCommit_empty A w hE h4 b1 o1 c1 c.when_ p a2 c2 hw hc (by omega) (by omega)).mono ?_
          rintro e w' ⟨rfl, h⟩
          exact ComRet.bare 3 rfl h
        · rw [if_neg h0]
          rcases ho' with h | ⟨b2, o2, rfl, ho'⟩
          · exact absurd h h0
          · exact checkCommit_ops A w hE h4 b1 o1 c1 c.when_ p b2 o2 c.ops.length c2 c.ops hw hc (by omega) (by omega) rfl (List.length_pos_iff.2 h0) (by omega) hsm ho'
  · rw [if_pos hc]
    refine (checkCommit_when A w hE h4 a1 c1 c.when_ c.place a2 c.ops.length c2 hw0 hl hc).mono ?_
    rintro e w' ⟨rfl, h⟩
    have hk : ∃ k, (chk c.when_).toNat = k + 1 := by
      rcases chk_cases c.when_ with h | h | h
      · exact absurd h hc
      · exact ⟨1, by rw [h]; rfl⟩
      · exact ⟨2, by rw [h]; rfl⟩
    obtain ⟨k, hk⟩ := hk
    rw [hk]
    exact ComRet.bare (k + 1) rfl h
end Go.Proofs.YtepnghacjggkkaaGreatDoor.V
namespace Go.Proofs.YtepnghacjggkkaaGreatDoor
open Go.RowKit
set_option linter.unusedSectionVars false
variable [Inhabited ComV] [DecidableEq D3] [Inhabited D3] [Inhabited Dd] [Inhabited Dn] [Inhabited OpV]

structure Sents (A : Nat → Addr) (B : Nat) (w : World) : Prop where
  gl : 13 ≤ B
  size : B ≤ w.heap.size
  cell : ∀ k, k < 12 → w.cell? ⟨gix k, 0, none⟩ = some (.iface 276 (.pointer (some (A k))))
  row : ∀ k, k < 12 → ∃ c t, w.heap[(A k).block]? = some (.cells c t (0, 0))
  lt : ∀ k, k < 12 → (A k).block < B
  ne : ∀ i j, i < 12 → j < 12 → i ≠ j → A i ≠ A j
  handle : w.cell? ⟨12, 0, none⟩ = some (.iface 180 (.agg #[.pointer (some ⟨13, 26, none⟩)]))
theorem Sents.below {A : Nat → Addr} {B : Nat} {w w' : World} (h : Sents A B w) (hb : Below B w w') : Sents A B w' where
  gl := h.gl
  size := Nat.le_trans h.size hb.size
  cell := fun k hk => by rw [hb.cell (p := ⟨gix k, 0, none⟩) (by have := h.gl; have := gix_lt k; show gix k < B; omega)]; exact h.cell k hk
  row := fun k hk => by rw [hb.block _ (h.lt k hk)]; exact h.row k hk
  lt := h.lt
  ne := h.ne
  handle := by rw [hb.cell (p := ⟨12, 0, none⟩) (by have := h.gl; show 12 < B; omega)]; exact h.handle
theorem Sents.e4 {A : Nat → Addr} {B : Nat} {w : World} (h : Sents A B w) : E4 A w := ⟨h.cell 1 (by decide), h.cell 2 (by decide), h.cell 3 (by decide), h.cell 11 (by decide)⟩
end Go.Proofs.YtepnghacjggkkaaGreatDoor
