/- Commits checked, for commits as the texts of stream have them; faulted; The sender's Commit; The sender's Commit: what is old, what goes. -/
import Derived.Test.YtefpnojanldkeaaGreatDoorJECode
import Derived.Test.YtefpnojanldkeaaGreatDoorJHF
import Derived.Test.YtefpnojanldkeaaGreatDoorJCA
import Derived.Test.YtefpnojanldkeaaGreatDoorJVOp
import Derived.Test.YtefpnojanldkeaaGreatDoorJTD
import Derived.Test.YtefpnojanldkeaaGreatDoorJVVec
import Derived.Test.YtefpnojanldkeaaGreatDoorJVMap
import Derived.Test.YtefpnojanldkeaaGreatDoorJHR
import Derived.Test.YtefpnojanldkeaaGreatDoorJVRefN
import Derived.StillTailTactics
import Derived.Deep.Draws
import Derived.Deep.Cut
import Derived.Test.YtefpnojanldkeaaGreatDoorJSDel
import Derived.Test.YtefpnojanldkeaaGreatDoorJTB2
import Derived.Test.YtefpnojanldkeaaGreatDoorJVOnceM
import Derived.Test.YtefpnojanldkeaaGreatDoorJVStandM
import Derived.Test.YtefpnojanldkeaaGreatDoorJSCome
import Derived.Test.YtefpnojanldkeaaGreatDoorJVOwnM
import Derived.Test.YtefpnojanldkeaaGreatDoorJWPutN
import Derived.Test.YtefpnojanldkeaaGreatDoorJVRow
import Derived.Test.YtefpnojanldkeaaGreatDoorJWState
import Derived.Test.YtefpnojanldkeaaGreatDoorJWMath
namespace Go.Proofs.YtefpnojanldkeaaGreatDoor
open Go.RowKit
set_option maxRecDepth 100000
set_option linter.unusedSectionVars false
variable [Inhabited ComV] [DecidableEq D3] [Inhabited D3] [Inhabited Dd] [Inhabited Dn] [Inhabited OpV]

def toD (d : D3) : V.D3 := ⟨d.p, d.t, d.a⟩
def toO (o : OpV) : V.OpV := ⟨o.at_, o.key, o.kind, o.text, o.n, o.rem, o.dots.map toD⟩
def toC (c : ComV) : V.ComV := ⟨c.when_, c.place, c.ops.map toO⟩
theorem cells_v (ds : List D3) : (ds.map toD).map V.D3.cells = ds.map D3.cells := by
  rw [List.map_map]
  rfl
theorem dots_v {w : World} {v : Value} {ds : List D3} (h : DotsAt w v ds) : V.DotsAt w v (ds.map toD) := by
  show V.RowAt 3 w v ((ds.map toD).map V.D3.cells)
  rw [cells_v]
  exact h
theorem opRow_v {w : World} {r : List Value} {o : OpV} (h : OpRow w r o) : V.OpRow w r (toO o) := by
  obtain ⟨dv, h1, h2⟩ := h
  exact ⟨dv, h1, dots_v h2⟩
theorem f2_v {w : World} : ∀ {rows : List (List Value)} {os : List OpV}, F2 (OpRow w) rows os → V.F2 (V.OpRow w) rows (os.map toO)
  | [], [], _ => trivial
  | _ :: _, _ :: _, ⟨h1, h2⟩ => ⟨opRow_v h1, f2_v h2⟩
theorem ops_v {w : World} {v : Value} {os : List OpV} (h : OpsAt w v os) : V.OpsAt w v (os.map toO) := by
  obtain ⟨rows, h1, h2⟩ := h
  exact ⟨rows, h1, f2_v h2⟩
abbrev inhD : Inhabited V.D3 := ⟨⟨0, 0, 0⟩⟩
abbrev inhO : Inhabited V.OpV := ⟨⟨0, ByteArray.empty, 0, ByteArray.empty, 0, false, []⟩⟩
/-- The error of a commit: its number, and its place. -/
def comE (c : ComV) : Nat × Option Nat := @V.comErr inhO (toC c)
theorem small_v {c : ComV} (h : Light c) : ∀ o ∈ (toC c).ops, V.Small o := fun o ho => by
  obtain ⟨o', h1, rfl⟩ := List.mem_map.1 ho
  have := h.each o' h1
  refine ⟨?_, ?_⟩
  · show o'.text.size ≤ _
    omega
  · show (o'.dots.map toD).length ≤ _
    rw [List.length_map]
    omega
/-- What the walks of a commit ask of the sentinels: the four that values hands out. -/
structure Sen (A : Nat → Addr) (B : Nat) (w : World) : Prop where
  gl : 13 ≤ B
  size : B ≤ w.heap.size
  e4 : E4 A w
theorem Sen.below {A : Nat → Addr} {B : Nat} {w w' : World} (h : Sen A B w) (hb : Below B w w') : Sen A B w' := ⟨h.gl, Nat.le_trans h.size hb.size, h.e4.below hb (by have := h.gl; omega)⟩
theorem Sents.sen {A : Nat → Addr} {B : Nat} {w : World} (h : Sents A B w) : Sen A B w := ⟨h.gl, h.size, h.e4⟩
theorem e4_of {A : Nat → Addr} {B : Nat} {w : World} (h : Sen A B w) : V.E4 A w := ⟨h.e4.bound, h.e4.shape, h.e4.name, h.e4.kind⟩
theorem checkCommit_h (A : Nat → Addr) (B : Nat) (w : World) (hS : Sen A B w) (c : ComV) (wv ov : Value) (hw : IntsAt w wv c.when_) (ho : OpsAt w ov c.ops) (hL : Light c) :
    Calls Tryz.prog 52 #[.agg #[wv, .int .i64 c.place, ov]] w fun e w' => ∃ v, e = .returned v ∧ V.ErrAt A w' v (comE c) ∧ Below w.heap.size w w' :=
  letI : Inhabited V.D3 := inhD; letI : Inhabited V.OpV := inhO; V.checkCommit A w (e4_of hS) (by have := hS.gl; have := hS.size; omega) (toC c) wv ov hw (ops_v ho) (by have := hL.when_; show c.when_.length ≤ _; omega) (by have := hL.ops; show (c.ops.map toO).length ≤ _; rw [List.length_map]; omega) (small_v hL)
theorem scan_zero' {f : Nat → Nat} {m : Nat} (h : (V.scan f m).1 = 0) : V.scan f m = (0, none) := by
  by_cases h0 : ∀ i, i < m → f i = 0
  · exact (haveI : Inhabited V.D3 := inhD; haveI : Inhabited V.OpV := inhO; V.scan_none h0)
  · exfalso
    obtain ⟨i, hi, hne, hmin⟩ : ∃ i, i < m ∧ f i ≠ 0 ∧ ∀ j, j < i → f j = 0 := by
      have key : ∀ n, (∃ i, i < n ∧ i < m ∧ f i ≠ 0) → ∃ i, i < m ∧ f i ≠ 0 ∧ ∀ j, j < i → f j = 0 := by
        intro n
        induction n with
        | zero => rintro ⟨i, hi, _⟩; omega
        | succ n ih =>
          rintro ⟨i, hi, h1, h2⟩
          by_cases hx : ∃ j, j < n ∧ j < m ∧ f j ≠ 0
          · exact ih hx
          · refine ⟨i, h1, h2, fun j hj => ?_⟩
            by_cases e : f j = 0
            · exact e
            · exact absurd ⟨j, by omega, by omega, e⟩ hx
      obtain ⟨i, h1⟩ := Classical.not_forall.1 h0
      obtain ⟨h2, h3⟩ := Classical.not_imp.1 h1
      exact key m ⟨i, h2, h2, h3⟩
    have hsc := (haveI : Inhabited V.D3 := inhD; haveI : Inhabited V.OpV := inhO; V.scan_some hi hmin hne)
    rw [hsc] at h
    exact hne h
theorem comE_zero {c : ComV} (h : (comE c).1 = 0) : comE c = (0, none) ∧ 0 ≤ c.place ∧ c.place < c.when_.length := by
  unfold comE V.comErr at h ⊢
  by_cases h1 : V.chk (toC c).when_ ≠ 0
  · rw [if_pos h1] at h
    have := (haveI : Inhabited V.D3 := inhD; haveI : Inhabited V.OpV := inhO; V.chk_cases (toC c).when_)
    simp only at h
    omega
  · rw [if_neg h1] at h ⊢
    by_cases h2 : (toC c).place < 0 ∨ ((toC c).when_.length : Int) ≤ (toC c).place ∨ (toC c).when_.getD (toC c).place.toNat 0 = 0 ∨ 12 < (toC c).ops.length
    · rw [if_pos h2] at h
      simp at h
    · rw [if_neg h2] at h ⊢
      have e1 : (toC c).place = c.place := rfl
      have e2 : (toC c).when_ = c.when_ := rfl
      rw [e1, e2] at h2
      refine ⟨?_, by omega, by omega⟩
      by_cases h3 : (toC c).ops = []
      · rw [if_pos h3] at h
        simp at h
      · rw [if_neg h3] at h ⊢
        exact scan_zero' h
end Go.Proofs.YtefpnojanldkeaaGreatDoor
namespace Go.Proofs.YtefpnojanldkeaaGreatDoor
open Go.RowKit
set_option maxRecDepth 100000
set_option linter.unusedSectionVars false
variable [Inhabited ComV] [DecidableEq D3] [Inhabited D3] [Inhabited Dd] [Inhabited Dn] [Inhabited OpV]

theorem errAt_nil {A : Nat → Addr} {w : World} {v : Value} {er : Nat × Option Nat} (h : V.ErrAt A w v er) (he : er = (0, none)) : v = .nilIface := by
  subst he
  exact h
theorem errAt_someS {A : Nat → Addr} {w : World} {v : Value} {er : Nat × Option Nat} (h : V.ErrAt A w v er) (he : er.1 ≠ 0) : ∃ t p, v = .iface t p := by
  obtain ⟨n, o⟩ := er
  cases o with
  | none =>
    have hv : v = V.errV A n := h
    cases n with
    | zero => exact absurd rfl he
    | succ k => exact ⟨_, _, hv⟩
  | some i =>
    obtain ⟨pb, hv, _⟩ := h
    exact ⟨_, _, hv⟩
/-- An error stands while a message's box turns. -/
theorem errAt_keep {A : Nat → Addr} {w w' : World} {v : Value} {er : Nat × Option Nat} {x : Nat} {y1 : Int} {cs : Array Value} {tt : TypeId} (h : V.ErrAt A w v er) (he : er.1 ≠ 0) (hx : w.heap[x]? = some (.cells cs tt (0, 0))) (h1 : cs[1]? = some (.int .i64 y1)) (hk : ∀ k, k ≠ x → w'.heap[k]? = w.heap[k]?) : V.ErrAt A w' v er := by
  obtain ⟨n, o⟩ := er
  cases o with
  | none => exact h
  | some i =>
    obtain ⟨pb, hv, c0, c1⟩ := h
    have hne : pb ≠ x := fun e => by
      subst e
      rw [cell_of hx, h1] at c1
      cases n with
      | zero => exact absurd rfl he
      | succ k => cases Option.some.inj c1
    refine ⟨pb, hv, ?_, ?_⟩
    · rw [World.cell?_of_block (w := w) (a := ⟨pb, 0, none⟩) (hk pb hne)]; exact c0
    · rw [World.cell?_of_block (w := w) (a := ⟨pb, 1, none⟩) (hk pb hne)]; exact c1
/-- The boxes of Commit. -/
structure CmI (w : World) (wv ov : Value) (p : Int) (wr : World) : Prop where
  below : Below w.heap.size w wr
  box : wr.heap[w.heap.size]? = some (.cells #[wv, .int .i64 p, ov] 36 (0, 0))
  res : wr.heap[w.heap.size + 1]? = some (.cells #[.int .i64 0, .int .i64 0, .int .i64 0, .int .i64 0, .int .i64 0, .bool false, .slice none 0 0, .int .i64 0, .slice none 0 0] 44 (0, 0))
theorem CmI.start (w : World) (wv ov : Value) (p : Int) : CmI w wv ov p ((w.alloc (.cells #[wv, .int .i64 p, ov] 36)).alloc (.cells #[.int .i64 0, .int .i64 0, .int .i64 0, .int .i64 0, .int .i64 0, .bool false, .slice none 0 0, .int .i64 0, .slice none 0 0] 44)) :=
  ⟨below2S _ _ _, heap_old (heap_new _ _) _, heap_new2 _ _ _⟩
theorem CmI.moved {w wr w' : World} {wv ov : Value} {p : Int} (h : CmI w wv ov p wr) (hb : Below wr.heap.size wr w') : CmI w wv ov p w' := by
  have := lt_of_heap h.res
  exact ⟨h.below.trans (hb.mono h.below.size), by rw [hb.block _ (by omega)]; exact h.box, by rw [hb.block _ (by omega)]; exact h.res⟩
set_option maxHeartbeats 4000000 in
theorem commit_bad (A : Nat → Addr) (B : Nat) (w : World) (hS : Sen A B w) (g : Nat) (c : ComV) (a1 a2 : Option Addr) (n1 c1 n2 c2 : Nat) (ho : ComOwn 0 w (.slice a1 n1 c1) (.slice a2 n2 c2) c) (hL : Light c) (he : (comE c).1 ≠ 0) : Calls Tryz.prog 59 #[.pointer (some ⟨g, 0, none⟩), .agg #[.slice a1 n1 c1, .int .i64 c.place, .slice a2 n2 c2]] w fun e w' => ∃ ev, e = .returned (.tuple #[.agg #[.int .i64 0, .int .i64 0, .int .i64 0, .int .i64 0, .int .i64 0, .bool false, .slice none 0 0, .int .i64 0, .slice none 0 0], ev]) ∧ V.ErrAt A w' ev (comE c) ∧ Below w.heap.size w w' := by
  obtain ⟨p, hp⟩ : ∃ p, p = c.place := ⟨_, rfl⟩
  obtain ⟨w0, hw0⟩ : ∃ w0, w0 = (w.alloc (.cells #[.slice a1 n1 c1, .int .i64 p, .slice a2 n2 c2] 36)).alloc (.cells #[.int .i64 0, .int .i64 0, .int .i64 0, .int .i64 0, .int .i64 0, .bool false, .slice none 0 0, .int .i64 0, .slice none 0 0] 44) := ⟨_, rfl⟩
  have I0 : Hid (CmI w (.slice a1 n1 c1) (.slice a2 n2 c2) p w0) := (show CmI _ _ _ _ _ from by rw [hw0]; exact CmI.start _ _ _ _)
  have KC := hid (checkCommit_h A B w0 (hS.below (I0.out.below.mono hS.size)) c _ _ (ho.ints.mono I0.out.below (Nat.le_refl _)) (ho.opsAt.mono I0.out.below (Nat.le_refl _)) hL)
  rw [← hp] at KC ⊢
  have HP := hid hp
  have HO := hid ho
  have HL := hid hL
  have HS := hid hS
  have p0 : w0.cell? ⟨w.heap.size, 0, none⟩ = some (.slice a1 n1 c1) := (cell_of I0.out.box).trans rfl
  have p1 : w0.cell? ⟨w.heap.size, 1, none⟩ = some (.int .i64 p) := (cell_of I0.out.box).trans rfl
  have p2 : w0.cell? ⟨w.heap.size, 2, none⟩ = some (.slice a2 n2 c2) := (cell_of I0.out.box).trans rfl
  clear hp ho hL hS
  go_enter Tryz.func59, Tryz.ntmps59
  go_wp2_with fail
  rw [← hw0]
  clear hw0
  refine KC.out.mono ?_
  rintro e w1 ⟨ev1, rfl, herr, hb1⟩
  have I1 := hid (I0.out.moved hb1)
  have BB := hid hb1
  clear p0 p1 p2 hb1
  obtain ⟨et, ep, rfl⟩ := errAt_someS herr he
  have HERR := hid herr
  clear herr
  obtain ⟨wz, STORE, HZ⟩ := store_row I1.out.res [.int .i64 0, .int .i64 0, .int .i64 0, .int .i64 0, .int .i64 0, .bool false, .slice none 0 0, .int .i64 0, .slice none 0 0] rfl rfl 44 9 rfl Tryz.sizeOf44
  go_wp2_with (refine STORE _ _ _ _ _ (.tmp 4) (.tmp 12) rfl rfl rfl rfl ?_)
  refine bodyPost_ret (ret_cell_tmp (k := 9) Tryz.results59 Tryz.isAgg44 Tryz.sizeOf44 _ _ (w.heap.size + 1) [.int .i64 0, .int .i64 0, .int .i64 0, .int .i64 0, .int .i64 0, .bool false, .slice none 0 0, .int .i64 0, .slice none 0 0] _ rfl rfl rfl HZ.out.1) rfl ⟨_, rfl, ?_, by rw [HZ.out.2]; exact below_setCells (by omega) _ _ I1.out.below⟩
  have hso : ∀ k, k ≠ w.heap.size + 1 → wz.heap[k]? = w1.heap[k]? := fun k hk => by rw [HZ.out.2]; exact setCells_other _ _ _ _ _ hk
  exact errAt_keep HERR.out he I1.out.res rfl hso
set_option maxHeartbeats 8000000 in
theorem commit_shape (A : Nat → Addr) (B : Nat) (w : World) (hS : Sen A B w) (g : Nat) (f t s seq time : Int) (v : Value) (l : List Raw) (h : SndR w g f t s seq time v l) (c : ComV) (a1 a2 : Option Addr) (n1 c1 n2 c2 : Nat) (ho : ComOwn 0 w (.slice a1 n1 c1) (.slice a2 n2 c2) c) (hL : Light c) (ev : Value) (hev : w.cell? ⟨1, 0, none⟩ = some ev) (he : (comE c).1 = 0) (hne : c.place ≠ f) : Calls Tryz.prog 59 #[.pointer (some ⟨g, 0, none⟩), .agg #[.slice a1 n1 c1, .int .i64 c.place, .slice a2 n2 c2]] w fun e w' => e = .returned (.tuple #[.agg #[.int .i64 0, .int .i64 0, .int .i64 0, .int .i64 0, .int .i64 0, .bool false, .slice none 0 0, .int .i64 0, .slice none 0 0], ev]) ∧ Below w.heap.size w w' := by
  obtain ⟨p, hp⟩ : ∃ p, p = c.place := ⟨_, rfl⟩
  obtain ⟨w0, hw0⟩ : ∃ w0, w0 = (w.alloc (.cells #[.slice a1 n1 c1, .int .i64 p, .slice a2 n2 c2] 36)).alloc (.cells #[.int .i64 0, .int .i64 0, .int .i64 0, .int .i64 0, .int .i64 0, .bool false, .slice none 0 0, .int .i64 0, .slice none 0 0] 44) := ⟨_, rfl⟩
  have I0 : Hid (CmI w (.slice a1 n1 c1) (.slice a2 n2 c2) p w0) := (show CmI _ _ _ _ _ from by rw [hw0]; exact CmI.start _ _ _ _)
  have KC := hid (checkCommit_h A B w0 (hS.below (I0.out.below.mono hS.size)) c _ _ (ho.ints.mono I0.out.below (Nat.le_refl _)) (ho.opsAt.mono I0.out.below (Nat.le_refl _)) hL)
  rw [← hp] at KC ⊢
  have HP := hid hp
  have H := hid h
  have HO := hid ho
  have HL := hid hL
  have HS := hid hS
  have p0 : w0.cell? ⟨w.heap.size, 0, none⟩ = some (.slice a1 n1 c1) := (cell_of I0.out.box).trans rfl
  have p1 : w0.cell? ⟨w.heap.size, 1, none⟩ = some (.int .i64 p) := (cell_of I0.out.box).trans rfl
  have p2 : w0.cell? ⟨w.heap.size, 2, none⟩ = some (.slice a2 n2 c2) := (cell_of I0.out.box).trans rfl
  clear hp h ho hL hS
  go_enter Tryz.func59, Tryz.ntmps59
  go_wp2_with fail
  rw [← hw0]
  clear hw0
  refine KC.out.mono ?_
  rintro e w1 ⟨ev1, rfl, herr, hb1⟩
  have I1 := hid (I0.out.moved hb1)
  have BB := hid hb1
  clear p0 p1 p2 hb1
  have hev1 := errAt_nil herr (comE_zero he).1
  subst hev1
  clear herr
  have HCZ := hid (comE_zero he)
  have ge : w1.cell? ⟨1, 0, none⟩ = some ev := by rw [I1.out.below.cell (p := ⟨1, 0, none⟩) (lt_of_cell hev)]; exact hev
  have gl0 : 1 < w.heap.size := lt_of_cell hev
  have S1 := hid (H.out.moved (w' := w1) (Below.mono (I1.out.below) (Nat.le_refl _)))
  have q0 : w1.cell? ⟨w.heap.size, 0, none⟩ = some (.slice a1 n1 c1) := (cell_of I1.out.box).trans rfl
  have q1 : w1.cell? ⟨w.heap.size, 1, none⟩ = some (.int .i64 p) := (cell_of I1.out.box).trans rfl
  have q2 : w1.cell? ⟨w.heap.size, 2, none⟩ = some (.slice a2 n2 c2) := (cell_of I1.out.box).trans rfl
  have s0 : w1.cell? ⟨g, 0, none⟩ = some (.int .i64 f) := (cell_of S1.out.box).trans rfl
  have s4 : w1.cell? ⟨g, 4, none⟩ = some (.int .i64 time) := (cell_of S1.out.box).trans rfl
  rw [← HP.out] at hne
  have bne : (p != f) = true := by simpa using hne
  clear hne
  go_upto_region 4 with (fail)
  go_quiet (fail)
  go_upto_region 5 with (fail)
  generalize hwq : World.drewN _ _ = wq
  have IW : Hid (CmI w (.slice a1 n1 c1) (.slice a2 n2 c2) p wq) := (show CmI _ _ _ _ _ from by rw [← hwq]; exact I1.out.moved (below_draws (Below.refl _ _) _))
  have ge' : wq.cell? ⟨1, 0, none⟩ = some ev := by rw [← hwq]; exact ge
  have gS : (wq.setCell ⟨w.heap.size + 1, 0, none⟩ (.int .i64 0)).cell? ⟨1, 0, none⟩ = some ev := by
    rw [World.cell?_of_block (w := wq) (a := ⟨1, 0, none⟩) (Below.heap_setCell _ _ _ _ (by show 1 ≠ w.heap.size + 1; omega))]; exact ge'
  clear hwq ge q0 q1 q2 s0 s4
  have ge := ge'
  clear ge'
  have r0 := fun j => (show ∀ j, wq.frozen? ⟨w.heap.size + 1, j, none⟩ = false from fun j => free_of IW.out.res) j
  have k0 : wq.cell? ⟨w.heap.size + 1, 0, none⟩ = some (.int .i64 0) := (cell_of IW.out.res).trans rfl
  have k1 : wq.cell? ⟨w.heap.size + 1, 1, none⟩ = some (.int .i64 0) := (cell_of IW.out.res).trans rfl
  have k2 : wq.cell? ⟨w.heap.size + 1, 2, none⟩ = some (.int .i64 0) := (cell_of IW.out.res).trans rfl
  have k3 : wq.cell? ⟨w.heap.size + 1, 3, none⟩ = some (.int .i64 0) := (cell_of IW.out.res).trans rfl
  have k4 : wq.cell? ⟨w.heap.size + 1, 4, none⟩ = some (.int .i64 0) := (cell_of IW.out.res).trans rfl
  have k5 : wq.cell? ⟨w.heap.size + 1, 5, none⟩ = some (.bool false) := (cell_of IW.out.res).trans rfl
  have k6 : wq.cell? ⟨w.heap.size + 1, 6, none⟩ = some (.slice none 0 0) := (cell_of IW.out.res).trans rfl
  have k7 : wq.cell? ⟨w.heap.size + 1, 7, none⟩ = some (.int .i64 0) := (cell_of IW.out.res).trans rfl
  have k8 : wq.cell? ⟨w.heap.size + 1, 8, none⟩ = some (.slice none 0 0) := (cell_of IW.out.res).trans rfl
  go_region
  obtain ⟨wz, hwz⟩ : ∃ wz, wz = (((((((((wq.setCell ⟨w.heap.size + 1, 0, none⟩ (.int .i64 0)).setCell ⟨w.heap.size + 1, 1, none⟩ (.int .i64 0)).setCell ⟨w.heap.size + 1, 2, none⟩ (.int .i64 0)).setCell ⟨w.heap.size + 1, 3, none⟩ (.int .i64 0)).setCell ⟨w.heap.size + 1, 4, none⟩ (.int .i64 0)).setCell ⟨w.heap.size + 1, 5, none⟩ (.bool false)).setCell ⟨w.heap.size + 1, 6, none⟩ (.slice none 0 0)).setCell ⟨w.heap.size + 1, 7, none⟩ (.int .i64 0)).setCell ⟨w.heap.size + 1, 8, none⟩ (.slice none 0 0)).drew := ⟨_, rfl⟩
  rw [← hwz]
  have HZ : Hid (wz.heap[w.heap.size + 1]? = some (.cells #[.int .i64 0, .int .i64 0, .int .i64 0, .int .i64 0, .int .i64 0, .bool false, .slice none 0 0, .int .i64 0, .slice none 0 0] 44 (0, 0))) := by
    show wz.heap[w.heap.size + 1]? = _
    rw [hwz, drew_heap]
    exact fill9n IW.out.res _ _ _ _ _ _ _ _ _
  have BZ : Hid (Below w.heap.size w wz) := by
    show Below _ _ _
    rw [hwz]
    refine Below.drew ?_
    exact below9 IW.out.below (by omega) _ _ _ _ _ _ _ _ _
  clear hwz k0 k1 k2 k3 k4 k5 k6 k7 k8 r0 gS ge
  go_wp2_with fail
  refine bodyPost_ret (ret_cell_tmp (k := 9) Tryz.results59 Tryz.isAgg44 Tryz.sizeOf44 _ _ (w.heap.size + 1) [.int .i64 0, .int .i64 0, .int .i64 0, .int .i64 0, .int .i64 0, .bool false, .slice none 0 0, .int .i64 0, .slice none 0 0] _ rfl rfl rfl (cells_heap (t := 44) _ HZ.out)) rfl ⟨rfl, BZ.out⟩
end Go.Proofs.YtefpnojanldkeaaGreatDoor
namespace Go.Proofs.YtefpnojanldkeaaGreatDoor
open Go.RowKit
set_option maxRecDepth 100000
set_option linter.unusedSectionVars false
variable [Inhabited ComV] [DecidableEq D3] [Inhabited D3] [Inhabited Dd] [Inhabited Dn] [Inhabited OpV]

set_option maxHeartbeats 8000000 in
theorem commit_old (A : Nat → Addr) (B : Nat) (w : World) (hS : Sen A B w) (g : Nat) (f t s seq time : Int) (v : Value) (l : List Raw) (h : SndR w g f t s seq time v l) (c : ComV) (a1 a2 : Option Addr) (n1 c1 n2 c2 : Nat) (ho : ComOwn 0 w (.slice a1 n1 c1) (.slice a2 n2 c2) c) (hL : Light c) (ev : Value) (hev : w.cell? ⟨3, 0, none⟩ = some ev) (he : (comE c).1 = 0) (hpf : c.place = f) (x : Int) (hx : x = c.when_.getD c.place.toNat 0) (hxt : x ≤ time) : Calls Tryz.prog 59 #[.pointer (some ⟨g, 0, none⟩), .agg #[.slice a1 n1 c1, .int .i64 c.place, .slice a2 n2 c2]] w fun e w' => e = .returned (.tuple #[.agg #[.int .i64 0, .int .i64 0, .int .i64 0, .int .i64 0, .int .i64 0, .bool false, .slice none 0 0, .int .i64 0, .slice none 0 0], ev]) ∧ Below w.heap.size w w' := by
  obtain ⟨p, hp⟩ : ∃ p, p = c.place := ⟨_, rfl⟩
  obtain ⟨w0, hw0⟩ : ∃ w0, w0 = (w.alloc (.cells #[.slice a1 n1 c1, .int .i64 p, .slice a2 n2 c2] 36)).alloc (.cells #[.int .i64 0, .int .i64 0, .int .i64 0, .int .i64 0, .int .i64 0, .bool false, .slice none 0 0, .int .i64 0, .slice none 0 0] 44) := ⟨_, rfl⟩
  have I0 : Hid (CmI w (.slice a1 n1 c1) (.slice a2 n2 c2) p w0) := (show CmI _ _ _ _ _ from by rw [hw0]; exact CmI.start _ _ _ _)
  have KC := hid (checkCommit_h A B w0 (hS.below (I0.out.below.mono hS.size)) c _ _ (ho.ints.mono I0.out.below (Nat.le_refl _)) (ho.opsAt.mono I0.out.below (Nat.le_refl _)) hL)
  rw [← hp] at KC ⊢
  have HP := hid hp
  have H := hid h
  have HO := hid ho
  have HL := hid hL
  have HS := hid hS
  have p0 : w0.cell? ⟨w.heap.size, 0, none⟩ = some (.slice a1 n1 c1) := (cell_of I0.out.box).trans rfl
  have p1 : w0.cell? ⟨w.heap.size, 1, none⟩ = some (.int .i64 p) := (cell_of I0.out.box).trans rfl
  have p2 : w0.cell? ⟨w.heap.size, 2, none⟩ = some (.slice a2 n2 c2) := (cell_of I0.out.box).trans rfl
  clear hp h ho hL hS
  go_enter Tryz.func59, Tryz.ntmps59
  go_wp2_with fail
  rw [← hw0]
  clear hw0
  refine KC.out.mono ?_
  rintro e w1 ⟨ev1, rfl, herr, hb1⟩
  have I1 := hid (I0.out.moved hb1)
  have BB := hid hb1
  clear p0 p1 p2 hb1
  have hev1 := errAt_nil herr (comE_zero he).1
  subst hev1
  clear herr
  have HCZ := hid (comE_zero he)
  have ge : w1.cell? ⟨3, 0, none⟩ = some ev := by rw [I1.out.below.cell (p := ⟨3, 0, none⟩) (lt_of_cell hev)]; exact hev
  have gl0 : 3 < w.heap.size := lt_of_cell hev
  have S1 := hid (H.out.moved (w' := w1) (Below.mono (I1.out.below) (Nat.le_refl _)))
  have q0 : w1.cell? ⟨w.heap.size, 0, none⟩ = some (.slice a1 n1 c1) := (cell_of I1.out.box).trans rfl
  have q1 : w1.cell? ⟨w.heap.size, 1, none⟩ = some (.int .i64 p) := (cell_of I1.out.box).trans rfl
  have q2 : w1.cell? ⟨w.heap.size, 2, none⟩ = some (.slice a2 n2 c2) := (cell_of I1.out.box).trans rfl
  have s0 : w1.cell? ⟨g, 0, none⟩ = some (.int .i64 f) := (cell_of S1.out.box).trans rfl
  have s4 : w1.cell? ⟨g, 4, none⟩ = some (.int .i64 time) := (cell_of S1.out.box).trans rfl
  rw [hpf] at hx
  have bne : (p != f) = false := by rw [HP.out, hpf]; simp
  have hpz := HCZ.out.2
  rw [hpf] at hpz
  obtain ⟨fn, rfl⟩ : ∃ fn : Nat, f = fn := ⟨f.toNat, by omega⟩
  obtain ⟨ad, cc, hv, hnil, hcells⟩ := HO.out.ints
  injection hv with hv1 hv2 hv3
  have hfl : fn < n1 := by omega
  obtain ⟨b, o, hab, hcl⟩ : ∃ b o, a1 = some ⟨b, o, none⟩ ∧ w1.cell? ⟨b, o + fn, none⟩ = some (.int .i64 x) := by
    rcases hcells with hc | ⟨b, o, hc, hcl⟩
    · rw [hc] at hv2
      simp at hv2
      omega
    · refine ⟨b, o, hv1.trans hc, ?_⟩
      have e := hcl fn (by omega)
      rw [I1.out.below.cell (p := ⟨b, o + fn, none⟩) (lt_of_cell e), e, hx]
      simp
  subst hab
  have hfi : (fn : Int) < (n1 : Int) := by omega
  clear hcells hnil hv1 hv2 hv3 hpz hx
  go_upto_region 4 with (fail)
  go_quiet (fail)
  go_upto_region 6 with (fail)
  go_quiet (fail)
  go_wp2_with fail
  generalize hwq : World.drewN _ _ = wq
  have IW : Hid (CmI w (.slice (some ⟨b, o, none⟩) n1 c1) (.slice a2 n2 c2) p wq) := (show CmI _ _ _ _ _ from by rw [← hwq]; exact I1.out.moved ((show Below _ _ _ from ⟨rfl, rfl, rfl, Nat.le_refl _, fun _ _ => rfl⟩)))
  have ge' : wq.cell? ⟨3, 0, none⟩ = some ev := by rw [← hwq]; exact ge
  have gS : (wq.setCell ⟨w.heap.size + 1, 0, none⟩ (.int .i64 0)).cell? ⟨3, 0, none⟩ = some ev := by
    rw [World.cell?_of_block (w := wq) (a := ⟨3, 0, none⟩) (Below.heap_setCell _ _ _ _ (by show 3 ≠ w.heap.size + 1; omega))]; exact ge'
  clear hwq ge q0 q1 q2 s0 s4
  have ge := ge'
  clear ge'
  have r0 := fun j => (show ∀ j, wq.frozen? ⟨w.heap.size + 1, j, none⟩ = false from fun j => free_of IW.out.res) j
  have k0 : wq.cell? ⟨w.heap.size + 1, 0, none⟩ = some (.int .i64 0) := (cell_of IW.out.res).trans rfl
  have k1 : wq.cell? ⟨w.heap.size + 1, 1, none⟩ = some (.int .i64 0) := (cell_of IW.out.res).trans rfl
  have k2 : wq.cell? ⟨w.heap.size + 1, 2, none⟩ = some (.int .i64 0) := (cell_of IW.out.res).trans rfl
  have k3 : wq.cell? ⟨w.heap.size + 1, 3, none⟩ = some (.int .i64 0) := (cell_of IW.out.res).trans rfl
  have k4 : wq.cell? ⟨w.heap.size + 1, 4, none⟩ = some (.int .i64 0) := (cell_of IW.out.res).trans rfl
  have k5 : wq.cell? ⟨w.heap.size + 1, 5, none⟩ = some (.bool false) := (cell_of IW.out.res).trans rfl
  have k6 : wq.cell? ⟨w.heap.size + 1, 6, none⟩ = some (.slice none 0 0) := (cell_of IW.out.res).trans rfl
  have k7 : wq.cell? ⟨w.heap.size + 1, 7, none⟩ = some (.int .i64 0) := (cell_of IW.out.res).trans rfl
  have k8 : wq.cell? ⟨w.heap.size + 1, 8, none⟩ = some (.slice none 0 0) := (cell_of IW.out.res).trans rfl
  go_region
  obtain ⟨wz, hwz⟩ : ∃ wz, wz = (((((((((wq.setCell ⟨w.heap.size + 1, 0, none⟩ (.int .i64 0)).setCell ⟨w.heap.size + 1, 1, none⟩ (.int .i64 0)).setCell ⟨w.heap.size + 1, 2, none⟩ (.int .i64 0)).setCell ⟨w.heap.size + 1, 3, none⟩ (.int .i64 0)).setCell ⟨w.heap.size + 1, 4, none⟩ (.int .i64 0)).setCell ⟨w.heap.size + 1, 5, none⟩ (.bool false)).setCell ⟨w.heap.size + 1, 6, none⟩ (.slice none 0 0)).setCell ⟨w.heap.size + 1, 7, none⟩ (.int .i64 0)).setCell ⟨w.heap.size + 1, 8, none⟩ (.slice none 0 0)).drew := ⟨_, rfl⟩
  rw [← hwz]
  have HZ : Hid (wz.heap[w.heap.size + 1]? = some (.cells #[.int .i64 0, .int .i64 0, .int .i64 0, .int .i64 0, .int .i64 0, .bool false, .slice none 0 0, .int .i64 0, .slice none 0 0] 44 (0, 0))) := by
    show wz.heap[w.heap.size + 1]? = _
    rw [hwz, drew_heap]
    exact fill9n IW.out.res _ _ _ _ _ _ _ _ _
  have BZ : Hid (Below w.heap.size w wz) := by
    show Below _ _ _
    rw [hwz]
    refine Below.drew ?_
    exact below9 IW.out.below (by omega) _ _ _ _ _ _ _ _ _
  clear hwz k0 k1 k2 k3 k4 k5 k6 k7 k8 r0 gS ge
  go_wp2_with fail
  refine bodyPost_ret (ret_cell_tmp (k := 9) Tryz.results59 Tryz.isAgg44 Tryz.sizeOf44 _ _ (w.heap.size + 1) [.int .i64 0, .int .i64 0, .int .i64 0, .int .i64 0, .int .i64 0, .bool false, .slice none 0 0, .int .i64 0, .slice none 0 0] _ rfl rfl rfl (cells_heap (t := 44) _ HZ.out)) rfl ⟨rfl, BZ.out⟩
set_option maxHeartbeats 8000000 in
theorem commit_ok (A : Nat → Addr) (B : Nat) (w : World) (hS : Sen A B w) (g : Nat) (f t s seq time : Int) (v : Value) (l : List Raw) (h : SndR w g f t s seq time v l) (c : ComV) (a1 a2 : Option Addr) (n1 c1 n2 c2 : Nat) (ho : ComOwn 0 w (.slice a1 n1 c1) (.slice a2 n2 c2) c) (hL : Light c) (hl : l.length ≤ 1000) (h0 : 0 ≤ seq) (h1 : seq ≤ 1000) (he : (comE c).1 = 0) (hpf : c.place = f) (x : Int) (hx : x = c.when_.getD c.place.toNat 0) (hxt : time < x) : Calls Tryz.prog 59 #[.pointer (some ⟨g, 0, none⟩), .agg #[.slice a1 n1 c1, .int .i64 c.place, .slice a2 n2 c2]] w (BtRet w g f t s (seq + 1) x v l ⟨f, t, s, seq + 1, x, false, c⟩) := by
  obtain ⟨p, hp⟩ : ∃ p, p = c.place := ⟨_, rfl⟩
  obtain ⟨w0, hw0⟩ : ∃ w0, w0 = (w.alloc (.cells #[.slice a1 n1 c1, .int .i64 p, .slice a2 n2 c2] 36)).alloc (.cells #[.int .i64 0, .int .i64 0, .int .i64 0, .int .i64 0, .int .i64 0, .bool false, .slice none 0 0, .int .i64 0, .slice none 0 0] 44) := ⟨_, rfl⟩
  have I0 : Hid (CmI w (.slice a1 n1 c1) (.slice a2 n2 c2) p w0) := (show CmI _ _ _ _ _ from by rw [hw0]; exact CmI.start _ _ _ _)
  have KC := hid (checkCommit_h A B w0 (hS.below (I0.out.below.mono hS.size)) c _ _ (ho.ints.mono I0.out.below (Nat.le_refl _)) (ho.opsAt.mono I0.out.below (Nat.le_refl _)) hL)
  rw [← hp] at KC ⊢
  have HP := hid hp
  have H := hid h
  have HO := hid ho
  have HL := hid hL
  have HS := hid hS
  have p0 : w0.cell? ⟨w.heap.size, 0, none⟩ = some (.slice a1 n1 c1) := (cell_of I0.out.box).trans rfl
  have p1 : w0.cell? ⟨w.heap.size, 1, none⟩ = some (.int .i64 p) := (cell_of I0.out.box).trans rfl
  have p2 : w0.cell? ⟨w.heap.size, 2, none⟩ = some (.slice a2 n2 c2) := (cell_of I0.out.box).trans rfl
  clear hp h ho hL hS
  go_enter Tryz.func59, Tryz.ntmps59
  go_wp2_with fail
  rw [← hw0]
  clear hw0
  refine KC.out.mono ?_
  rintro e w1 ⟨ev1, rfl, herr, hb1⟩
  have I1 := hid (I0.out.moved hb1)
  have BB := hid hb1
  clear p0 p1 p2 hb1
  have hev1 := errAt_nil herr (comE_zero he).1
  subst hev1
  clear herr
  have HCZ := hid (comE_zero he)
  have S1 := hid (H.out.moved (w' := w1) (Below.mono (I1.out.below) (Nat.le_refl _)))
  have HV : Hid (∀ b, v.ownBlock = some b → b < w.heap.size) := fun b hb => (H.out.row.lt b hb).2
  have hg := lt_of_heap H.out.box
  have q0 : w1.cell? ⟨w.heap.size, 0, none⟩ = some (.slice a1 n1 c1) := (cell_of I1.out.box).trans rfl
  have q1 : w1.cell? ⟨w.heap.size, 1, none⟩ = some (.int .i64 p) := (cell_of I1.out.box).trans rfl
  have q2 : w1.cell? ⟨w.heap.size, 2, none⟩ = some (.slice a2 n2 c2) := (cell_of I1.out.box).trans rfl
  have s0 : w1.cell? ⟨g, 0, none⟩ = some (.int .i64 f) := (cell_of S1.out.box).trans rfl
  have s4 : w1.cell? ⟨g, 4, none⟩ = some (.int .i64 time) := (cell_of S1.out.box).trans rfl
  rw [hpf] at hx
  have bne : (p != f) = false := by rw [HP.out, hpf]; simp
  have hpz := HCZ.out.2
  rw [hpf] at hpz
  obtain ⟨fn, rfl⟩ : ∃ fn : Nat, f = fn := ⟨f.toNat, by omega⟩
  obtain ⟨ad, cc, hv, hnil, hcells⟩ := HO.out.ints
  injection hv with hv1 hv2 hv3
  have hfl : fn < n1 := by omega
  obtain ⟨b, o, hab, hcl⟩ : ∃ b o, a1 = some ⟨b, o, none⟩ ∧ w1.cell? ⟨b, o + fn, none⟩ = some (.int .i64 x) := by
    rcases hcells with hc | ⟨b, o, hc, hcl⟩
    · rw [hc] at hv2
      simp at hv2
      omega
    · refine ⟨b, o, hv1.trans hc, ?_⟩
      have e := hcl fn (by omega)
      rw [I1.out.below.cell (p := ⟨b, o + fn, none⟩) (lt_of_cell e), e, hx]
      simp
  subst hab
  have hfi : (fn : Int) < (n1 : Int) := by omega
  clear hcells hnil hv1 hv2 hv3 hpz hx
  go_upto_region 4 with (fail)
  go_quiet (fail)
  go_upto_region 6 with (fail)
  go_quiet (fail)
  have hxt' : ¬ x ≤ time := by omega
  go_upto_region 9 with (fail)
  generalize hwq : World.drewN _ _ = wq
  have hcq : ∀ a, wq.cell? a = w1.cell? a := fun a => by rw [← hwq]; rfl
  have hbq : Below w1.heap.size w1 wq := by rw [← hwq]; exact ⟨rfl, rfl, rfl, Nat.le_refl _, fun _ _ => rfl⟩
  have IW := hid (I1.out.moved hbq)
  have SW := hid (S1.out.moved hbq)
  have BW := hid IW.out.below
  have z0 := (hcq _).trans q0
  have z1 := (hcq _).trans q1
  have z2 := (hcq _).trans q2
  have KN := hid (next_raw wq g fn t s seq time 0 0 0 0 x p false (some ⟨b, o, none⟩) a2 n1 c1 n2 c2 v l ⟨fn, t, s, seq + 1, x, false, c⟩ SW.out hl h0 h1 ⟨⟨rfl, rfl, rfl, rfl, rfl, rfl, HP.out⟩, HO.out.kept (Keeps.bel BW.out)⟩ HL.out)
  clear hwq hcq hbq q0 q1 q2 s0 s4 hcl
  go_wp2_with fail
  refine KN.out.mono ?_
  rintro e w2 ⟨v', r2, ⟨q1, q2, q3, q4, q5, q6, e1, j1, f1, qq, e2, j2, f2⟩, rfl, hs2, hr2, hr3, ho2, hv2, hkp2⟩
  obtain ⟨w0, hw0⟩ : ∃ w0, w0 = wq := ⟨_, rfl⟩
  have B0 : Hid (Below w.heap.size w w0) := (show Below _ _ _ from by rw [hw0]; exact BW.out)
  have hlr := lt_of_heap IW.out.res
  have G0 : Hid (w0.heap[w.heap.size + 1]? = some (.cells #[.int .i64 0, .int .i64 0, .int .i64 0, .int .i64 0, .int .i64 0, .bool false, .slice none 0 0, .int .i64 0, .slice none 0 0] 44 (0, 0))) := (show w0.heap[w.heap.size + 1]? = _ from by rw [hw0]; exact IW.out.res)
  have hG2 : w2.heap[w.heap.size + 1]? = some (.cells #[.int .i64 0, .int .i64 0, .int .i64 0, .int .i64 0, .int .i64 0, .bool false, .slice none 0 0, .int .i64 0, .slice none 0 0] 44 (0, 0)) := ho2.box IW.out.res (by omega) fun e => by have := HV.out _ e; omega
  obtain ⟨wz, STORE, HZ⟩ := store_row hG2 [.int .i64 q1, .int .i64 q2, .int .i64 q3, .int .i64 q4, .int .i64 q5, .bool q6, .slice e1 j1 f1, .int .i64 qq, .slice e2 j2 f2] rfl rfl 44 9 rfl Tryz.sizeOf44
  have S2 := hid hs2
  rw [← hw0] at ho2 hv2 hr2 hr3 hkp2
  have O2 := hid ho2
  have V2 := hid hv2
  have R2 := hid hr2
  have R3 := hid hr3
  have KP2 := hid hkp2
  have HG2 := hid hG2
  clear hs2 ho2 hv2 hG2 hr2 hr3 hkp2 hw0
  unfold Raw.cells
  simp only
  go_wp2_with (refine STORE _ _ _ _ _ (.tmp 4) (.tmp 49) rfl rfl rfl rfl ?_)
  have hso : ∀ k, k ≠ w.heap.size + 1 → wz.heap[k]? = w2.heap[k]? := fun k hk => by rw [HZ.out.2]; exact setCells_other _ _ _ _ _ hk
  have hbz := below_setCells (B := 0) (b := w.heap.size + 1) (a := w2) (Nat.zero_le _) [.int .i64 q1, .int .i64 q2, .int .i64 q3, .int .i64 q4, .int .i64 q5, .bool q6, .slice e1 j1 f1, .int .i64 qq, .slice e2 j2 f2] 0 (Below.refl _ _)
  have hs0 : w0.heap.size ≤ w2.heap.size := O2.out.size
  have hsw := B0.out.size
  have kz : Keeps w2 wz := fun tt htt b cs hc => hso b fun e => by
    rw [e, HG2.out] at hc
    injection hc with hc
    injection hc with _ hc
    rcases htt with e | e | e <;> (rw [e] at hc; exact absurd hc (by decide))
  refine bodyPost_ret (ret_cell_tmp (k := 9) Tryz.results59 Tryz.isAgg44 Tryz.sizeOf44 _ _ (w.heap.size + 1) [.int .i64 q1, .int .i64 q2, .int .i64 q3, .int .i64 q4, .int .i64 q5, .bool q6, .slice e1 j1 f1, .int .i64 qq, .slice e2 j2 f2] _ rfl rfl rfl HZ.out.1) rfl ⟨v', r2, ⟨q1, q2, q3, q4, q5, q6, e1, j1, f1, qq, e2, j2, f2⟩, rfl, ⟨?_, ?_⟩, (R2.out.kept kz).base hsw, (R3.out.kept kz).base hsw, ⟨?_, ?_, ?_, ?_, ?_⟩, ?_, ?_⟩
  · rw [hso g (by omega)]; exact S2.out.box
  · refine owns_own S2.out.row fun b hb => hso b fun e => ?_
    have hl0 := lt_of_heap G0.out
    rcases V2.out with h | ⟨b', h, hb'⟩
    · have := HV.out b (by rw [← h]; exact hb); omega
    · have h3 := Option.some.inj (hb.symm.trans h)
      omega
  · rw [HZ.out.2]; exact hbz.os.trans (O2.out.os.trans B0.out.os)
  · rw [HZ.out.2]; exact hbz.tape.trans (O2.out.tape.trans B0.out.tape)
  · rw [HZ.out.2]; exact hbz.output.trans (O2.out.output.trans B0.out.output)
  · rw [HZ.out.2, setCells_size]; omega
  · exact fun k hk hkg hkv => by rw [hso k (by omega), O2.out.block k (by omega) hkg hkv]; exact B0.out.block k hk
  · rcases V2.out with h | ⟨b', h, hb'⟩
    · exact .inl h
    · exact .inr ⟨b', h, by omega⟩
  · exact ((Keeps.bel B0.out).trans KP2.out).trans kz
end Go.Proofs.YtefpnojanldkeaaGreatDoor
