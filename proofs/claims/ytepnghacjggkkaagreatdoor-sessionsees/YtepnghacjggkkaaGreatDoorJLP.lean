/- take: what has come by a stream is put; What a line has heard. -/
import Derived.Test.YtepnghacjggkkaaGreatDoorJHE
import Derived.Test.YtepnghacjggkkaaGreatDoorJLM
import Derived.BigQuiet
import Derived.Deep.Cut
import Derived.Deep.Draws
import Derived.Deep.QuietTactic
import Derived.Deep.RegionHeld
import Derived.Deep.RegionLaw
import Derived.Handy
import Derived.LaidEql
import Derived.LaidHandle
import Derived.LaidLaws
import Derived.LaidSub
import Derived.Laws.ResultCell
import Derived.Maps.AppendAt
import Derived.OpenShut
import Derived.ProofKit
import Derived.RowKitTokens
import Derived.Shelf.SlicesQ.IndexFunc
import Derived.Sort.Grow
import Derived.StillTailTactics
import Derived.Stop.Asserts
import Derived.Test.YtepnghacjggkkaaGreatDoorProg
import Derived.Test.YtepnghacjggkkaaGreatDoorRows
import Derived.WalkKit
import Derived.Test.YtepnghacjggkkaaGreatDoorJHU
import Derived.Test.YtepnghacjggkkaaGreatDoorJLG
import Derived.Laws.OwnMore
import Derived.Lib.SliceRun
namespace Go.Proofs.YtepnghacjggkkaaGreatDoor
open Go.RowKit Go.Maps
set_option maxRecDepth 100000
set_option linter.unusedSectionVars false
variable [Inhabited ComV] [DecidableEq D3] [Inhabited D3] [Inhabited Dd] [Inhabited Dn] [Inhabited OpV]

def CanTake (s : St) (m : MsgV) : Prop := m.beat = true ∨ (m.beat = false ∧ m.c.place = m.frm ∧ PutOk s m.c ∧ Light m.c)
def takeV (s : St) (m : MsgV) : St := if m.beat = true then s else putTo s m.c m.c.ops.length
structure StIn (s : St) (nn : Nat) : Prop where
  base : chk s.base = 0
  few : ∀ k, (rowOf s k).length ≤ 1000000
  nn : nn ≤ 1000000
set_option maxHeartbeats 2000000 in
theorem take_any (A : Nat → Addr) (w : World) (hE : E4 A w) (h12 : 12 ≤ w.heap.size) (h : PlH) (v : PlV) (a : PlAt w h v) (hs : StIn v.st h.nn) (r : Raw) (m : MsgV) (hr : RawOwn 0 w r m) (hc : CanTake v.st m) :
    Calls Tryz.prog 43 #[.agg #[.pointer (some ⟨h.p, 0, none⟩)], .agg r.cells.toArray] w fun e w' => e = .returned (.tuple #[]) ∧ ∃ f' nn', PlAt w' { h with f := f', nn := nn' } { v with st := takeV v.st m } ∧ PlMoves w w' h v { h with f := f', nn := nn' } { v with st := takeV v.st m } ∧ nn' ≤ h.nn + 24 := by
  obtain ⟨x1, x2, x3, x4, x5, x6, a1, n1, c1, p, a2, n2, c2⟩ := r
  unfold Raw.cells
  simp only
  obtain ⟨w1, hw1⟩ : ∃ w1, w1 = (w.alloc (.cells #[.pointer (some ⟨h.p, 0, none⟩)] 64)).alloc (.cells #[.int .i64 x1, .int .i64 x2, .int .i64 x3, .int .i64 x4, .int .i64 x5, .bool x6, .slice a1 n1 c1, .int .i64 p, .slice a2 n2 c2] 74) := ⟨_, rfl⟩
  have b1 : Below w.heap.size w w1 := by rw [hw1]; exact below2 _ _ _
  have g1 : w1.heap[w.heap.size]? = some (.cells #[.pointer (some ⟨h.p, 0, none⟩)] 64 (0, 0)) := by rw [hw1]; exact heap_old (heap_new _ _) _
  have g2 : w1.heap[w.heap.size + 1]? = some (.cells #[.int .i64 x1, .int .i64 x2, .int .i64 x3, .int .i64 x4, .int .i64 x5, .bool x6, .slice a1 n1 c1, .int .i64 p, .slice a2 n2 c2] 74 (0, 0)) := by rw [hw1]; exact heap_new2 _ _ _
  have y0 : w1.cell? ⟨w.heap.size, 0, none⟩ = some (.pointer (some ⟨h.p, 0, none⟩)) := (cell_of g1).trans rfl
  have y5 : w1.cell? ⟨w.heap.size + 1, 5, none⟩ = some (.bool x6) := (cell_of g2).trans rfl
  have z0 : w1.cell? ⟨w.heap.size + 1, 0, none⟩ = some (.int .i64 x1) := (cell_of g2).trans rfl
  have z6 : w1.cell? ⟨w.heap.size + 1, 6, none⟩ = some (.slice a1 n1 c1) := (cell_of g2).trans rfl
  have z7 : w1.cell? ⟨w.heap.size + 1, 7, none⟩ = some (.int .i64 p) := (cell_of g2).trans rfl
  have z8 : w1.cell? ⟨w.heap.size + 1, 8, none⟩ = some (.slice a2 n2 c2) := (cell_of g2).trans rfl
  have a' := a.below b1
  have m1 : PlMoves w w1 h v h v := PlMoves.refl.below b1
  have hn := hr.nums
  have hbt : x6 = m.beat := hn.x6
  rcases hc with hb | ⟨hb, hpf, hP, hL⟩
  · rw [hb] at hbt
    subst hbt
    have E : Hid (PlAt w1 { h with f := h.f, nn := h.nn } { v with st := takeV v.st m } ∧ PlMoves w w1 h v { h with f := h.f, nn := h.nn } { v with st := takeV v.st m }) := (show _ ∧ _ from by
      have e : takeV v.st m = v.st := if_pos hb
      rw [e]
      exact ⟨a', m1⟩)
    clear g1 g2 b1 a' m1 hr hn hb a hs
    go_enter Tryz.func43, Tryz.ntmps43
    go_upto_region 1 with (fail)
    rw [← hw1]
    clear hw1
    go_wp2
    first | (refine bodyPost_ret (results_none rfl _ _ _) rfl ?_) | ((try simp only [Exit.inBlock, Exit.then]); refine bodyPost_end (results_none rfl _ _ _) rfl ?_)
    exact ⟨rfl, h.f, h.nn, E.out.1, E.out.2, Nat.le_add_right _ _⟩
  · rw [hb] at hbt
    subst hbt
    have hp1 : p = x1 := by have e1 : p = m.c.place := hn.p; have e2 : x1 = m.frm := hn.x1; rw [e1, e2, hpf]
    have hpp : m.c.place = p := (show p = m.c.place from hn.p).symm
    have K27 := put_ok A w1 (hE.below b1 h12) (Nat.le_trans h12 b1.size) h.p h.mb h.db h.nn h.f v.st a'.store hs.nn hs.few m.c (.slice a1 n1 c1) (.slice a2 n2 c2) (comT_own (hr.own.at fun g _ hg => b1.block g hg)) (fun o ho => by have := hL.each o ho; exact ⟨by omega, by omega⟩) hP.err hP.len hP.old hs.base hP.new
    rw [hpp] at K27
    have K := hid K27
    have e : Hid (takeV v.st m = putTo v.st m.c m.c.ops.length) := (show _ = _ from if_neg (by rw [hb]; decide))
    subst hp1
    have HA := hid a'
    have HM := hid m1
    clear g1 g2 b1 a' m1 hr hn hb a hs K27 hP hL hpf hpp
    go_enter Tryz.func43, Tryz.ntmps43
    go_upto_region 1 with (fail)
    rw [← hw1]
    clear hw1
    go_wp2_with fail
    refine K.out.mono ?_
    rintro en w5 ⟨rfl, f', hV5, hT5, hK5⟩
    obtain ⟨pa, pm⟩ := HA.out.putIn hV5 hT5 hK5
    have P5 := hid pa
    have M5 := hid (HM.out.trans pm)
    clear hV5 hT5 hK5 pa pm
    go_wp2
    first | (refine bodyPost_ret (results_none rfl _ _ _) rfl ?_) | ((try simp only [Exit.inBlock, Exit.then]); refine bodyPost_end (results_none rfl _ _ _) rfl ?_)
    exact ⟨rfl, f', h.nn + 24, by rw [e.out]; exact P5.out, by rw [e.out]; exact M5.out, Nat.le_refl _⟩
theorem isOther_ok (w : World) (h : PlH) (v : PlV) (a : PlAt w h v) (j : Nat) (hj : j < v.n) (hne : j ≠ v.id) : Calls Tryz.prog 40 #[.pointer (some ⟨h.pb, 0, none⟩), .int .i64 j] w fun e w' => e = .returned (.bool true) ∧ Below w.heap.size w w' := by
  have x0 : w.cell? ⟨h.pb, 0, none⟩ = some (.int .i64 v.id) := (cell_of a.box).trans rfl
  have x4 : w.cell? ⟨h.pb, 4, none⟩ = some (.slice (some ⟨h.lb, 0, none⟩) v.n v.n) := (cell_of a.box).trans rfl
  have n6 := a.n6
  have h1 : (0 : Int) ≤ (j : Int) := by omega
  have h2 : (j : Int) < (v.n : Int) := by omega
  have h3 : (j : Int) ≠ (v.id : Int) := by omega
  clear a
  go_enter Tryz.func40, Tryz.ntmps40
  go_wp2
  rw [show ((j : Int) != (v.id : Int)) = true by simp; omega]
  go_ret
  exact ⟨rfl, Below.refl _ _⟩
theorem rseq_raw (w : World) (g mb n : Nat) (f t s seq time : Int) (M : Int → Option Raw) (h : RcvM w g mb n f t s seq time M) : Calls Tryz.prog 44 #[.pointer (some ⟨g, 0, none⟩)] w fun e w' => e = .returned (.int .i64 seq) ∧ w' = w := by
  have c3 : w.cell? ⟨g, 3, none⟩ = some (.int .i64 seq) := (cell_of h.box).trans rfl
  clear h
  go_enter Tryz.func44, Tryz.ntmps44
  go_wp2
  go_ret
  exact ⟨rfl, rfl⟩
end Go.Proofs.YtepnghacjggkkaaGreatDoor
namespace Go.Proofs.YtepnghacjggkkaaGreatDoor
open Go.RowKit Go.Maps
set_option maxRecDepth 100000
set_option linter.unusedSectionVars false
variable [Inhabited ComV] [DecidableEq D3] [Inhabited D3] [Inhabited Dd] [Inhabited Dn] [Inhabited OpV]

def updM (mm : Int → Option MsgV) (k : Int) (x : Option MsgV) : Int → Option MsgV := fun j => if j = k then x else mm j
def comeM (mm : Int → Option MsgV) (seq : Int) (c : Nat) : Int → Option MsgV := fun j => if seq < j ∧ j ≤ seq + c then none else mm j
def timeM (t : Int) (cl : List MsgV) : Int := (cl.getLast?.map (·.time)).getD t
structure HearIn (y : LnV) (m : MsgV) (cl : List MsgV) : Prop where
  len : y.rq + cl.length ≤ 1000
  each : ∀ i x, cl[i]? = some x → updM y.mm m.seq (some m) (y.rq + (i + 1 : Nat)) = some x ∧ x.seq = y.rq + (i + 1 : Nat)
  stop : updM y.mm m.seq (some m) (y.rq + (cl.length + 1 : Nat)) = none
def hearY (y : LnV) (m : MsgV) (cl : List MsgV) : LnV := { y with rq := y.rq + cl.length, rt := timeM y.rt cl, mm := comeM (updM y.mm m.seq (some m)) y.rq cl.length }
theorem optR_upd {R : Raw → MsgV → Prop} {M : Int → Option Raw} {mm : Int → Option MsgV} (h : ∀ q, OptR R (M q) (mm q)) {k : Int} {r : Raw} {m : MsgV} (hr : R r m) (q : Int) : OptR R (updV M k (some r) q) (updM mm k (some m) q) := by
  unfold updV updM
  by_cases e : q = k
  · rw [if_pos e, if_pos e]; exact hr
  · rw [if_neg e, if_neg e]; exact h q
theorem OptR.some_ {R : Raw → MsgV → Prop} : ∀ {a : Option Raw} {m : MsgV}, OptR R a (some m) → ∃ r, a = some r ∧ R r m
  | some r, _, h => ⟨r, rfl, h⟩
theorem OptR.none_ {R : Raw → MsgV → Prop} : ∀ {a : Option Raw}, OptR R a none → a = none
  | none, _ => rfl
theorem HearIn.raws {y : LnV} {m : MsgV} {cl : List MsgV} (h : HearIn y m cl) {M : Int → Option Raw} (hM : ∀ q, OptR Raw.Nums (M q) (y.mm q)) {k : Int} (hk : k = m.seq) (r' : Raw) (hr : r'.Nums m) : ∃ (c : Nat) (rs : Nat → Raw), y.rq + c ≤ 1000 ∧ (∀ i, i < c → updV M k (some r') (y.rq + (i + 1 : Nat)) = some (rs i) ∧ (rs i).x4 = y.rq + (i + 1 : Nat)) ∧ updV M k (some r') (y.rq + (c + 1 : Nat)) = none := by
  subst hk
  have up := fun q => optR_upd hM (k := m.seq) hr q
  have key : ∀ i, ∃ r : Raw, i < cl.length → updV M m.seq (some r') (y.rq + (i + 1 : Nat)) = some r ∧ r.x4 = y.rq + (i + 1 : Nat) := fun i => by
    by_cases hi : i < cl.length
    · obtain ⟨e1, e2⟩ := h.each i _ (List.getElem?_eq_getElem hi)
      have u := up (y.rq + (i + 1 : Nat))
      rw [e1] at u
      obtain ⟨r, h1, h2⟩ := u.some_
      exact ⟨r, fun _ => ⟨h1, by rw [h2.x4]; exact e2⟩⟩
    · exact ⟨r', fun h => absurd h hi⟩
  refine ⟨cl.length, fun i => Classical.choose (key i), h.len, fun i hi => Classical.choose_spec (key i) hi, ?_⟩
  have u := up (y.rq + (cl.length + 1 : Nat))
  rw [h.stop] at u
  exact u.none_
theorem optR_nums {w : World} {a : Option Raw} {b : Option MsgV} (h : OptR (RawOwn 0 w) a b) : OptR Raw.Nums a b := h.mono fun _ _ q => q.nums
theorem LnAt.heard {w w' : World} {i j s : Int} {x : Ln} {y : LnV} (h : LnAt w i j s x y) {m : MsgV} {cl : List MsgV} (hI : HearIn y m cl) {c : Nat} {rs : Nat → Raw} {r' : Raw} (hR : RcvM w' x.gr x.gm (x.n + 1) j i s (y.rq + c) (timeR y.rt rs c) (comeV (updV x.M m.seq (some r')) y.rq c)) (hr : RawOwn 0 w' r' m) (hO : OnlyR x.gr x.gm w w') (hk : Keeps w w') (h1 : ∀ q, q < c → updV x.M m.seq (some r') (y.rq + (q + 1 : Nat)) = some (rs q)) (h2 : updV x.M m.seq (some r') (y.rq + (c + 1 : Nat)) = none) :
    c = cl.length ∧ F2 (RawOwn 0 w') (comeR rs c) cl ∧ LnAt w' i j s { x with n := x.n + 1, M := comeV (updV x.M m.seq (some r')) y.rq c } (hearY y m cl) := by
  have up := fun q => optR_upd (R := RawOwn 0 w') (M := x.M) (mm := y.mm) (fun q => (h.maps q).mono fun _ _ p => p.kept hk) (k := m.seq) hr q
  have hc : c = cl.length := by
    rcases Nat.lt_trichotomy c cl.length with e | e | e
    · obtain ⟨e1, _⟩ := hI.each c _ (List.getElem?_eq_getElem e)
      have u := up (y.rq + (c + 1 : Nat))
      rw [e1, h2] at u
      exact absurd u id
    · exact e
    · have u := up (y.rq + (cl.length + 1 : Nat))
      rw [hI.stop, h1 _ e] at u
      exact absurd u id
  subst hc
  have each : ∀ q (hq : q < cl.length), RawOwn 0 w' (rs q) cl[q] := fun q hq => by
    obtain ⟨e1, _⟩ := hI.each q _ (List.getElem?_eq_getElem hq)
    have u := up (y.rq + (q + 1 : Nat))
    rw [e1, h1 q hq] at u
    exact u
  have F : ∀ (l : List MsgV) (f : Nat → Raw), (∀ q (hq : q < l.length), RawOwn 0 w' (f q) l[q]) → F2 (RawOwn 0 w') ((List.range l.length).map f) l := fun l => by
    induction l with
    | nil => intro f _; trivial
    | cons a t ih =>
      intro f hf
      rw [List.length_cons, List.range_succ_eq_map, List.map_cons, List.map_map]
      exact ⟨hf 0 (by simp), ih (f ∘ Nat.succ) fun q hq => hf (q + 1) (by simp; omega)⟩
  have ht : timeR y.rt rs cl.length = timeM y.rt cl := by
    unfold timeM timeR
    cases e : cl.length with
    | zero =>
      rw [List.length_eq_zero_iff.1 e]
      rfl
    | succ q =>
      have hq : q < cl.length := by omega
      rw [List.getLast?_eq_getElem?, e, Nat.add_sub_cancel, List.getElem?_eq_getElem hq]
      exact (each q hq).nums.x5
  obtain ⟨t1, t2, t3, t4⟩ := h.ty
  refine ⟨rfl, F cl rs each, ⟨(hO.block _ (lt_of_heap h.snd.box) (fun e => by rw [e] at t1; omega) (fun e => by rw [e] at t1; omega)).trans h.snd.box, own_keep h.snd.row fun b hb => hO.block b (h.lt (.inr (.inl hb))) (fun e => by have := t4 b hb; rw [e] at this; omega) (fun e => by have := t4 b hb; rw [e] at this; omega)⟩, f2_mono (fun _ _ q => q.kept hk) h.own, ?_, fun q => ?_⟩
  · show RcvM w' x.gr x.gm (x.n + 1) j i s (y.rq + cl.length) (timeM y.rt cl) _
    rw [← ht]
    exact hR
  · show OptR _ (comeV (updV x.M m.seq (some r')) y.rq cl.length q) (comeM (updM y.mm m.seq (some m)) y.rq cl.length q)
    unfold comeV comeM
    by_cases e : y.rq < q ∧ q ≤ y.rq + cl.length
    · rw [if_pos e, if_pos e]; trivial
    · rw [if_neg e, if_neg e]; exact up q
end Go.Proofs.YtepnghacjggkkaaGreatDoor
