/- PlaceTwo: all that the other one has unacked is heard, from its end or from its beginning; Again: all that is unacked, by line; PlaceTwo: the beat, what is sent again; what both places hold in the end. -/
import Derived.Test.YtefpnojanldkeaaGreatDoorJOF
import Derived.Test.YtefpnojanldkeaaGreatDoorJLI
namespace Go.Proofs.YtefpnojanldkeaaGreatDoor
open Go.RowKit Go.Maps
set_option maxRecDepth 10000
set_option linter.unusedSectionVars false
variable [Inhabited ComV] [DecidableEq D3] [Inhabited D3] [Inhabited Dd] [Inhabited Dn] [Inhabited OpV]

/-- What the other place's line to this one holds. -/
abbrev mO (id k : Nat) (O : Nat → List OpV) (s : Nat) : List MsgV := mB (1 - id) (O (1 - id)) k s (O (1 - id)).length
/-- All of it, and how many stand ahead of a line's. -/
def rowO (id k : Nat) (O : Nat → List OpV) : Nat → List MsgV
  | 0 => []
  | s + 1 => rowO id k O s ++ mO id k O s
def offO (id k : Nat) (O : Nat → List OpV) (s : Nat) : Nat := (rowO id k O s).length
theorem offO_succ (id k : Nat) (O : Nat → List OpV) (s : Nat) : offO id k O (s + 1) = offO id k O s + (mO id k O s).length := List.length_append
theorem offO_mono (id k : Nat) (O : Nat → List OpV) {s t : Nat} (h : s ≤ t) : offO id k O s ≤ offO id k O t := by
  induction t with
  | zero => obtain rfl : s = 0 := by omega
            exact Nat.le_refl _
  | succ t ih =>
    by_cases e : s = t + 1
    · rw [e]; exact Nat.le_refl _
    · have := ih (by omega)
      have := offO_succ id k O t
      omega
theorem mO_pos (id k : Nat) (O : Nat → List OpV) (s : Nat) : 1 ≤ (mO id k O s).length := by
  show 1 ≤ (mB _ _ _ _ _).length
  rw [mB_len]
  omega
theorem rowO_idx (id k : Nat) (O : Nat → List OpV) : ∀ (n r : Nat) (x : MsgV), (rowO id k O n)[r]? = some x → ∃ s, s < n ∧ offO id k O s ≤ r ∧ r < offO id k O (s + 1) ∧ (mO id k O s)[r - offO id k O s]? = some x
  | 0, r, x, h => by simp [rowO] at h
  | n + 1, r, x, h => by
    have h' : (rowO id k O n ++ mO id k O n)[r]? = some x := h
    by_cases e : r < (rowO id k O n).length
    · rw [List.getElem?_append_left e] at h'
      obtain ⟨s, h1, h2⟩ := rowO_idx id k O n r x h'
      exact ⟨s, by omega, h2⟩
    · rw [List.getElem?_append_right (by omega)] at h'
      have hlt := (List.getElem?_eq_some_iff.1 h').1
      have hs := offO_succ id k O n
      have ho : offO id k O n = (rowO id k O n).length := rfl
      exact ⟨n, by omega, by omega, by omega, h'⟩
/-- The first r are not heard yet. -/
def RvAll (id k : Nat) (O : Nat → List OpV) (r : Nat) (v : PlV) : Prop := ∀ s, s < k → (r ≤ offO id k O s → DnS (mO id k O s) (v.Y (1 - id) s)) ∧ (offO id k O s < r → RvS (mO id k O s) (min (r - offO id k O s) (mO id k O s).length) (v.Y (1 - id) s))
/-- The first r are heard. -/
def FwAll (id k : Nat) (O : Nat → List OpV) (r : Nat) (v : PlV) : Prop := ∀ s, s < k → FwS (mO id k O s) (min (r - offO id k O s) (mO id k O s).length) (v.Y (1 - id) s)
theorem rvAll_start {id k : Nat} {O : Nat → List OpV} {v : PlV} (h : ∀ s, s < k → (v.Y (1 - id) s).rt = 0 ∧ (v.Y (1 - id) s).rq = 0 ∧ ∀ j, (v.Y (1 - id) s).mm j = none) : RvAll id k O (offO id k O k) v := fun s hs => by
  have h1 := offO_succ id k O s
  have h2 := offO_mono id k O (show s + 1 ≤ k from hs)
  have h3 := mO_pos id k O s
  refine ⟨fun e => by omega, fun _ => ?_⟩
  rw [show min (offO id k O k - offO id k O s) (mO id k O s).length = (mO id k O s).length by omega]
  exact rvS0 (h s hs).1 (h s hs).2.1 (h s hs).2.2
theorem fwAll_start {id k : Nat} {O : Nat → List OpV} {v : PlV} (h : ∀ s, s < k → (v.Y (1 - id) s).rt = 0 ∧ (v.Y (1 - id) s).rq = 0 ∧ ∀ j, (v.Y (1 - id) s).mm j = none) : FwAll id k O 0 v := fun s hs => by
  rw [show min (0 - offO id k O s) (mO id k O s).length = 0 by omega]
  exact fwS0 (h s hs).1 (h s hs).2.1 (h s hs).2.2
theorem rvAll_end {id k : Nat} {O : Nat → List OpV} {v : PlV} (h : RvAll id k O 0 v) : ∀ s, s < k → DnS (mO id k O s) (v.Y (1 - id) s) := fun s hs => (h s hs).1 (Nat.zero_le _)
theorem fwAll_end {id k : Nat} {O : Nat → List OpV} {v : PlV} (h : FwAll id k O (offO id k O k) v) : ∀ s, s < k → DnS (mO id k O s) (v.Y (1 - id) s) := fun s hs => by
  have h1 := offO_succ id k O s
  have h2 := offO_mono id k O (show s + 1 ≤ k from hs)
  exact (h s hs).done (by omega)
theorem mO_few {id k : Nat} {O : Nat → List OpV} (hO : ∀ j, j < 2 → OpsR (O j)) (hid_ : id < 2) (s : Nat) : (mO id k O s).length ≤ 9 := by
  show (mB _ _ _ _ _).length ≤ 9
  rw [mB_len]
  have := msT_len (1 - id) (O (1 - id)) k s (O (1 - id)).length
  have := (hO (1 - id) (by omega)).len
  omega
theorem ms_upd (Y : Nat → Nat → LnV) (j0 s0 : Nat) (m : MsgV) (cl : List MsgV) : ∀ j s, (updL Y j0 s0 (hearY (Y j0 s0) m cl) j s).ms = (Y j s).ms := fun j s => by
  by_cases e : (j, s) = (j0, s0)
  · injection e with e1 e2
    subst e1 e2
    rw [updL_at]
    rfl
  · rw [updL_ne _ _ e]
/-- The message number r is heard, the ones behind it have been. -/
theorem hear_rev (A : Nat → Addr) (w : World) (hE : E4 A w) (h12 : 12 ≤ w.heap.size) (h : PlH) (v : PlV) (a : PlAt w h v) (hlow : ∀ b, h.foot v b → 12 ≤ b) {id k i : Nat} {O : Nat → List OpV} (hI : HrS id k O i h v) (hi : i < 200) (hO : ∀ j, j < 2 → OpsR (O j)) (hid_ : id < 2) {r : Nat} (hR : RvAll id k O (r + 1) v) {m : MsgV} (hm : (rowO id k O k)[r]? = some m) (x : Raw) (hx : RawOwn 0 w x m) :
    Calls Tryz.prog 11 #[.pointer (some ⟨h.pb, 0, none⟩), .agg x.cells.toArray] w fun e w' => ∃ (h' : PlH) (v' : PlV) (a6 : Option Addr) (c6 : Nat), e = .returned (.tuple #[.slice a6 1 c6, .nilIface]) ∧ PlAt w' h' v' ∧ PlMoves w w' h v h' v' ∧ h'.pb = h.pb ∧ HrS id k O (i + 1) h' v' ∧ RvAll id k O r v' ∧ ∀ j s, (v'.Y j s).ms = (v.Y j s).ms := by
  obtain ⟨s, hs, h1, h2, hms⟩ := rowO_idx id k O k r m hm
  have hl := mO_few (k := k) hO hid_ s
  have hos := offO_succ id k O s
  have hst := (hR s hs).2 (by omega)
  rw [show min (r + 1 - offO id k O s) (mO id k O s).length = (r - offO id k O s) + 1 by omega] at hst
  have hN : Numd (mO id k O s) := mB_numd _ _ _ _ _
  have oth : ∀ y' : LnV, (r ≤ offO id k O s → DnS (mO id k O s) y') → (offO id k O s < r → RvS (mO id k O s) (r - offO id k O s) y') → ∀ st', RvAll id k O r { v with Y := updL v.Y (1 - id) s y', st := st' } := fun y' q1 q2 st' s' hs' => by
    show (_ → DnS _ (updL v.Y (1 - id) s y' (1 - id) s')) ∧ (_ → RvS _ _ (updL v.Y (1 - id) s y' (1 - id) s'))
    by_cases e : s' = s
    · subst e
      rw [updL_at]
      refine ⟨q1, fun q => ?_⟩
      rw [show min (r - offO id k O s') (mO id k O s').length = r - offO id k O s' by omega]
      exact q2 q
    · rw [updL_ne _ _ fun e' => e (by injection e')]
      rcases Nat.lt_or_gt_of_ne e with l | l
      · have g1 := offO_succ id k O s'
        have g2 := offO_mono id k O (show s' + 1 ≤ s from l)
        have g3 := mO_pos id k O s'
        refine ⟨fun q => by omega, fun q => ?_⟩
        have := (hR s' hs').2 (by omega)
        rw [show min (r + 1 - offO id k O s') (mO id k O s').length = (mO id k O s').length by omega] at this
        rw [show min (r - offO id k O s') (mO id k O s').length = (mO id k O s').length by omega]
        exact this
      · have g2 := offO_mono id k O (show s + 1 ≤ s' from l)
        exact ⟨fun q => (hR s' hs').1 (by omega), fun q => by omega⟩
  by_cases ht : r - offO id k O s = 0
  · rw [ht] at hst hms
    obtain ⟨hf, hd⟩ := hst.last hN (by omega) hms
    refine (hear_two A w hE h12 h v a hlow hI hi hO hid_ s hs 0 (mO id k O s).length hst.rq (by show 0 + (mO id k O s).length ≤ (mO id k O s).length; omega) m (mO id k O s) (by rw [List.drop_zero, List.take_length]) hf 0 hms x hx).mono ?_
    rintro e w' ⟨h', st', a6, c6, he, hP, hM, hpb, hH⟩
    exact ⟨h', _, a6, c6, he, hP, hM, hpb, hH, oth _ (fun _ => hd) (fun q => by omega) st', ms_upd v.Y (1 - id) s m _⟩
  · obtain ⟨hf, hd⟩ := hst.step hN (by omega) (by omega) hms
    refine (hear_two A w hE h12 h v a hlow hI hi hO hid_ s hs 0 0 hst.rq (by omega) m [] (by rw [List.take_zero]) hf _ hms x hx).mono ?_
    rintro e w' ⟨h', st', a6, c6, he, hP, hM, hpb, hH⟩
    exact ⟨h', _, a6, c6, he, hP, hM, hpb, hH, oth _ (fun q => by omega) (fun _ => hd) st', ms_upd v.Y (1 - id) s m _⟩
/-- The message number r is heard, the ones ahead of it have been. -/
theorem hear_fwd (A : Nat → Addr) (w : World) (hE : E4 A w) (h12 : 12 ≤ w.heap.size) (h : PlH) (v : PlV) (a : PlAt w h v) (hlow : ∀ b, h.foot v b → 12 ≤ b) {id k i : Nat} {O : Nat → List OpV} (hI : HrS id k O i h v) (hi : i < 200) (hO : ∀ j, j < 2 → OpsR (O j)) (hid_ : id < 2) {r : Nat} (hR : FwAll id k O r v) {m : MsgV} (hm : (rowO id k O k)[r]? = some m) (x : Raw) (hx : RawOwn 0 w x m) :
    Calls Tryz.prog 11 #[.pointer (some ⟨h.pb, 0, none⟩), .agg x.cells.toArray] w fun e w' => ∃ (h' : PlH) (v' : PlV) (a6 : Option Addr) (c6 : Nat), e = .returned (.tuple #[.slice a6 1 c6, .nilIface]) ∧ PlAt w' h' v' ∧ PlMoves w w' h v h' v' ∧ h'.pb = h.pb ∧ HrS id k O (i + 1) h' v' ∧ FwAll id k O (r + 1) v' ∧ ∀ j s, (v'.Y j s).ms = (v.Y j s).ms := by
  obtain ⟨s, hs, h1, h2, hms⟩ := rowO_idx id k O k r m hm
  have hl := mO_few (k := k) hO hid_ s
  have hos := offO_succ id k O s
  have hst := hR s hs
  rw [show min (r - offO id k O s) (mO id k O s).length = r - offO id k O s by omega] at hst
  have hN : Numd (mO id k O s) := mB_numd _ _ _ _ _
  obtain ⟨hf, hd⟩ := hst.step hN (by omega) hms
  have hlt := (List.getElem?_eq_some_iff.1 hms).1
  refine (hear_two A w hE h12 h v a hlow hI hi hO hid_ s hs (r - offO id k O s) 1 hst.rq (by show r - offO id k O s + 1 ≤ (mO id k O s).length; omega) m [m] ?_ hf _ hms x hx).mono ?_
  · rw [List.take_one, List.head?_drop, hms]
    rfl
  · rintro e w' ⟨h', st', a6, c6, he, hP, hM, hpb, hH⟩
    refine ⟨h', _, a6, c6, he, hP, hM, hpb, hH, fun s' hs' => ?_, ms_upd v.Y (1 - id) s m _⟩
    show FwS _ _ (updL v.Y (1 - id) s _ (1 - id) s')
    by_cases e : s' = s
    · subst e
      rw [updL_at, show min (r + 1 - offO id k O s') (mO id k O s').length = (r - offO id k O s') + 1 by omega]
      exact hd
    · rw [updL_ne _ _ fun e' => e (by injection e')]
      have := hR s' hs'
      rcases Nat.lt_or_gt_of_ne e with l | l
      · have g1 := offO_succ id k O s'
        have g2 := offO_mono id k O (show s' + 1 ≤ s from l)
        rw [show min (r - offO id k O s') (mO id k O s').length = (mO id k O s').length by omega] at this
        rw [show min (r + 1 - offO id k O s') (mO id k O s').length = (mO id k O s').length by omega]
        exact this
      · have g2 := offO_mono id k O (show s + 1 ≤ s' from l)
        rw [show min (r - offO id k O s') (mO id k O s').length = 0 by omega] at this
        rw [show min (r + 1 - offO id k O s') (mO id k O s').length = 0 by omega]
        exact this
end Go.Proofs.YtefpnojanldkeaaGreatDoor
namespace Go.Proofs.YtefpnojanldkeaaGreatDoor
open Go.RowKit Go.Maps
set_option maxRecDepth 100000
set_option linter.unusedSectionVars false
variable [Inhabited ComV] [DecidableEq D3] [Inhabited D3] [Inhabited Dd] [Inhabited Dn] [Inhabited OpV]

/-- What gather goes on while AgainFirst runs: nothing of the place turns; the box holds what is left of the number. -/
structure AgS (w0 : World) (v : PlV) (cb : Nat) (j s : Nat) (rs : List Raw) (o : Option Nat) (W : World) : Prop where
  bel : Below w0.heap.size w0 W
  box : W.heap[cb]? = some (.cells #[.int .i64 (9223372036854775807 - (rs.length : Int))] 3 (0, 0))
  cb_ : cb = w0.heap.size
  own : F2 (RawOwn (cb + 1) W) rs (allMs (fun j s => (v.Y j s).ms) v.id v.k j ++ rowMs (fun j s => (v.Y j s).ms) j s)
  off : ∀ q, o = some q → cb < q ∧ q < W.heap.size
  jn : j ≤ v.n
  sk : s ≤ v.k
theorem RawOwn.atB {base : Nat} {w w' : World} {r : Raw} {m : MsgV} (h : RawOwn base w r m) (hk : ∀ g, base ≤ g → g < w.heap.size → w'.heap[g]? = w.heap[g]?) : RawOwn base w' r m := ⟨h.nums, h.own.at hk⟩
theorem AgS.ok {w0 : World} {h : PlH} {v : PlV} (a : PlAt w0 h v) {cb : Nat} (hL : ∀ j s, ((v.Y j s).ms).length ≤ 1000) : GaOk v.n v.k v.id h.lb h.b (fun j s => (h.X j s).g) (fun j s => (h.X j s).gr) w0.heap.size (AgS w0 v cb) where
  n6 := a.n6
  k6 := a.k6
  size := fun i => i.bel.size
  len := fun {j s rs o W} i => by
    rw [f2_len i.own, List.length_append]
    have h1 := allMs_len (tell := fun j s => (v.Y j s).ms) (L := 1000) (id := v.id) (k := v.k) hL j
    have h2 := rowMs_len (tell := fun j s => (v.Y j s).ms) (L := 1000) hL j s
    have h3 : j * (v.k * 1000) ≤ 6 * (6 * 1000) := Nat.mul_le_mul (Nat.le_trans i.jn a.n6) (Nat.mul_le_mul a.k6 (Nat.le_refl _))
    have h4 : s * 1000 ≤ 6 * 1000 := Nat.mul_le_mul (Nat.le_trans i.sk a.k6) (Nat.le_refl _)
    omega
  lines := fun {j s rs o W} i j' hj => by
    obtain ⟨cs, q1, q2⟩ := (a.keep (fun b hb => i.bel.block b (a.lt hb)) (Keeps.bel i.bel)).lines
    exact (cell_of q1).trans (q2 j' hj)
  line := fun {j s rs o W} i j' s' h1 h2 h3 => by
    obtain ⟨cs, q1, q2⟩ := (a.keep (fun b hb => i.bel.block b (a.lt hb)) (Keeps.bel i.bel)).line j' h1 h2
    exact ⟨(cell_of q1).trans (q2 s' h3).1, (cell_of q1).trans (q2 s' h3).2⟩
  below := fun {j s rs o W W'} i hb => ⟨i.bel.trans (hb.mono i.bel.size), (hb.block _ (lt_of_heap i.box)).trans i.box, i.cb_, f2_mono (fun _ _ q => q.kept (Keeps.bel hb)) i.own, fun q hq => ⟨(i.off q hq).1, Nat.lt_of_lt_of_le (i.off q hq).2 hb.size⟩, i.jn, i.sk⟩
  grown := fun {j s rs o o' W W'} i hg ht ho hlo => by
    have hk := keeps_grown hg ht
    have hsz := i.bel.size
    have hcb := lt_of_heap i.box
    refine ⟨⟨hg.os.trans i.bel.os, hg.tape.trans i.bel.tape, hg.output.trans i.bel.output, Nat.le_trans i.bel.size hg.size, fun q hq => (hg.block q (by omega) fun e => by have := (i.off q e.symm).1; have := i.cb_; omega).trans (i.bel.block q hq)⟩, (hg.block _ hcb fun e => by have := (i.off _ e.symm).1; omega).trans i.box, i.cb_, f2_mono (fun _ _ q => q.kept hk) i.own, fun q hq => ⟨?_, hlo q hq⟩, i.jn, i.sk⟩
    rcases ho with e | ⟨c, e, hc⟩
    · exact (i.off q (by rw [← e]; exact hq)).1
    · rw [e] at hq
      obtain rfl := Option.some.inj hq
      omega
  row := fun {j rs o W} hj i => by
    refine ⟨i.bel, i.box, i.cb_, ?_, i.off, by omega, Nat.zero_le _⟩
    have e : allMs (fun j s => (v.Y j s).ms) v.id v.k (j + 1) ++ rowMs (fun j s => (v.Y j s).ms) (j + 1) 0 = allMs (fun j s => (v.Y j s).ms) v.id v.k j ++ rowMs (fun j s => (v.Y j s).ms) j (if j = v.id then 0 else v.k) := by
      show (allMs _ v.id v.k j ++ if j = v.id then [] else rowMs _ j v.k) ++ [] = _
      rw [List.append_nil]
      split <;> rfl
    rw [e]
    exact i.own
theorem src_rowO {w : World} {base e size n : Nat} {v : Value} {xs : List Value} (h : w.ownsRow base e size v n xs) : SrcAt w v n size xs := by
  obtain ⟨h1, h2⟩ := h
  rcases h2 with ⟨hv, h0⟩ | ⟨g, cap, cur, hv, _, hh, hc, _, hs, ht⟩
  · subst h0
    exact .inl ⟨hv, rfl, List.length_eq_zero_iff.1 (by omega)⟩
  · refine .inr ⟨⟨g, 0, none⟩, cap, hv, h1, fun j u hu => ?_⟩
    have hj : j < n * size := by have := (List.getElem?_eq_some_iff.1 hu).1; omega
    rw [← ht, List.getElem?_take, if_pos hj, Array.getElem?_toList] at hu
    rw [Addr.add_lit, Nat.zero_add, cell_of hh]
    exact hu
theorem AgS.okUp {w0 : World} {v : PlV} {cb n k id lb B : Nat} {b : Nat → Nat} {g gr : Nat → Nat → Nat} {base : Nat} (h : GaOk n k id lb b g gr base (AgS w0 v cb)) : GaOk n k id lb b g gr B (fun j s rs o W => AgS w0 v cb j s rs o W ∧ B ≤ W.heap.size) where
  n6 := h.n6
  k6 := h.k6
  size := fun i => i.2
  len := fun i => h.len i.1
  lines := fun i => h.lines i.1
  line := fun i => h.line i.1
  below := fun i hb => ⟨h.below i.1 hb, Nat.le_trans i.2 hb.size⟩
  grown := fun i hg ht ho hlo => ⟨h.grown i.1 hg ht ho hlo, Nat.le_trans i.2 hg.size⟩
  row := fun hj i => ⟨h.row hj i.1, i.2⟩
theorem AgS.callUp {w0 : World} {v : PlV} {cb n k id B : Nat} {g gr : Nat → Nat → Nat} {F : Nat} {cap : Value} (h : GaCall n k id g gr (AgS w0 v cb) F cap) : GaCall n k id g gr (fun j s rs o W => AgS w0 v cb j s rs o W ∧ B ≤ W.heap.size) F cap := by
  intro j s rs o W h1 h2 h3 i
  refine (h j s rs o W h1 h2 h3 i.1).mono ?_
  rintro e W' ⟨a, c, r2, he, hs, hI, ho, hz⟩
  exact ⟨a, c, r2, he, hs, ⟨hI, Nat.le_trans i.2 hz⟩, ho, hz⟩
set_option maxHeartbeats 4000000 in
/-- The closure: what one line has unacked. -/
theorem AgS.call {w0 : World} {h : PlH} {v : PlV} (a : PlAt w0 h v) {cb : Nat} (hL : ∀ j s, ((v.Y j s).ms).length ≤ 1000) (hLt : ∀ j s, v.line j s → ∀ m ∈ (v.Y j s).ms, Light m.c) : GaCall v.n v.k v.id (fun j s => (h.X j s).g) (fun j s => (h.X j s).gr) (AgS w0 v cb) 72 (.pointer (some ⟨cb, 0, none⟩)) := by
  intro j s rs o W hj hne hs i
  have hlen : rs.length ≤ 100000 := (AgS.ok a (cb := cb) hL).len i
  obtain ⟨x, hx⟩ : ∃ x, x = h.X j s := ⟨_, rfl⟩
  obtain ⟨w1, hw1⟩ : ∃ w1, w1 = W.alloc (.cells #[.pointer (some ⟨x.g, 0, none⟩), .pointer (some ⟨x.gr, 0, none⟩)] 80) := ⟨_, rfl⟩
  have b1 : Below W.heap.size W w1 := by rw [hw1]; exact below_alloc _ _
  have i1 := (AgS.ok a hL).below i b1
  have L1 : LnAt w1 v.id j s x (v.Y j s) := by
    rw [hx]
    exact (a.keep (fun b hb => i1.bel.block b (a.lt hb)) (Keeps.bel i1.bel)).each j s ⟨hj, hne, hs⟩
  have e0 : w1.cell? ⟨W.heap.size, 0, none⟩ = some (.pointer (some ⟨x.g, 0, none⟩)) := by rw [hw1]; exact (cell_of (heap_new _ _)).trans rfl
  have e1 : w1.cell? ⟨cb, 0, none⟩ = some (.int .i64 (9223372036854775807 - (rs.length : Int))) := (cell_of i1.box).trans rfl
  have hl2 := hL j s
  rw [← f2_len L1.own] at hl2
  have K73 := hid (againFirst_raw w1 x.g v.id j s (v.Y j s).sq (v.Y j s).st x.v x.l (v.Y j s).ms (9223372036854775807 - (rs.length : Int)) (by omega) L1.snd hl2 L1.own (hLt j s ⟨hj, hne, hs⟩))
  have I1 := hid i1
  have B1 := hid b1
  have HLL := hid hL
  have OFF := hid (fun q hq => i.off q hq)
  show Calls Tryz.prog 72 #[.int .i64 (s : Nat), .agg #[.pointer (some ⟨(h.X j s).g, 0, none⟩), .pointer (some ⟨(h.X j s).gr, 0, none⟩)], .pointer (some ⟨cb, 0, none⟩)] W _
  rw [← hx]
  clear i i1 b1 L1 hx
  go_enter Tryz.func72, Tryz.ntmps72
  go_upto_region 1 with (fail)
  rw [← hw1]
  clear hw1
  have hms : (v.Y j s).ms.length ≤ 1000 := hL j s
  obtain ⟨mn, hmn⟩ : ∃ mn, mn = (v.Y j s).ms.length := ⟨_, rfl⟩
  obtain ⟨rn, hrn⟩ : ∃ rn, rn = rs.length := ⟨_, rfl⟩
  rw [← hmn] at hms
  rw [← hrn] at hlen e1 K73
  have HMN := hid hmn
  have HRN := hid hrn
  clear hmn hrn hL hLt hl2
  go_wp2_with fail
  refine K73.out.mono ?_
  rintro e w2 ⟨v', r2, rfl, hrow, hF, hb2⟩
  rw [← HMN.out] at hrow
  obtain ⟨a2, c2, hv⟩ := row_shape hrow
  subst hv
  have c1 : w2.cell? ⟨cb, 0, none⟩ = some (.int .i64 (9223372036854775807 - (rn : Int))) := (hb2.cell (p := ⟨cb, 0, none⟩) (lt_of_cell e1)).trans e1
  have hz2 : w2.heap[cb]? = some (.cells #[.int .i64 (9223372036854775807 - (rs.length : Int))] 3 (0, 0)) := (hb2.block _ (lt_of_heap I1.out.box)).trans I1.out.box
  have zf : w2.frozen? ⟨cb, 0, none⟩ = false := free_of hz2
  have HZ := hid hz2
  have HR := hid hrow
  have HF := hid hF
  have HB2 := hid hb2
  clear hz2 hrow hF hb2 K73 e0 e1
  go_wp2_with fail
  go_ret
  have hmn : mn = r2.length := HMN.out.trans (f2_len HF.out).symm
  have hrn := HRN.out
  obtain ⟨w3, hw3⟩ : ∃ w3, w3 = w2.setCell ⟨cb, 0, none⟩ (.int .i64 (9223372036854775807 - (rn : Int) - (mn : Int))) := ⟨_, rfl⟩
  rw [← hw3]
  have ho : ∀ q, q ≠ cb → w3.heap[q]? = w2.heap[q]? := fun q hq => by rw [hw3]; exact Below.heap_setCell _ _ _ _ hq
  have hsz3 : w3.heap.size = w2.heap.size := by rw [hw3]; exact World.size_setCell _ _ _
  have hcb := I1.out.cb_
  have hcl := lt_of_heap I1.out.box
  have hrow := HR.out
  have hbz := HB2.out.size
  have I2 := (AgS.ok a (cb := cb) HLL.out).below I1.out HB2.out
  refine ⟨a2, c2, r2, by rw [hmn]; rfl, ?_, ⟨?_, ?_, I1.out.cb_, ?_, fun q hq => ⟨(I2.off q hq).1, by rw [hsz3]; exact (I2.off q hq).2⟩, I1.out.jn, by omega⟩, fun q hq => ?_, by rw [hsz3]; exact Nat.le_trans B1.out.size hbz⟩
  · rw [hmn] at hrow
    exact src_rowO (own_keep hrow fun q hq => ho q (by have := (hrow.lt q hq).1; omega))
  · rw [hw3]
    exact I2.bel.setCell (show w0.heap.size ≤ cb by omega) _
  · rw [hw3, heap_set HZ.out _]
    have : (9223372036854775807 - (rn : Int) - (mn : Int)) = 9223372036854775807 - ((rs ++ r2).length : Int) := by rw [List.length_append]; omega
    rw [this]
    rfl
  · have e : allMs (fun j s => (v.Y j s).ms) v.id v.k j ++ rowMs (fun j s => (v.Y j s).ms) j (s + 1) = (allMs (fun j s => (v.Y j s).ms) v.id v.k j ++ rowMs (fun j s => (v.Y j s).ms) j s) ++ (v.Y j s).ms := by
      show _ ++ (rowMs _ j s ++ (v.Y j s).ms) = _
      rw [List.append_assoc]
    rw [e]
    refine f2_append' (f2_mono (fun _ _ q => q.atB fun g hg _ => ho g (by omega)) I2.own) (f2_mono (fun _ _ q => (q.base (base' := cb + 1) (by omega)).atB fun g hg _ => ho g (by omega)) HF.out)
  · have hq2 := I1.out.off q hq
    rw [ho q (by omega), HB2.out.block q hq2.2]
    exact B1.out.block q (OFF.out q hq).2
set_option maxHeartbeats 4000000 in
/-- Again: all that is unacked, in rows of its own; nothing of the place turns. -/
theorem again_any (w : World) (h : PlH) (v : PlV) (a : PlAt w h v) (hL : ∀ j s, ((v.Y j s).ms).length ≤ 1000) (hLt : ∀ j s, v.line j s → ∀ m ∈ (v.Y j s).ms, Light m.c) : Calls Tryz.prog 17 #[.pointer (some ⟨h.pb, 0, none⟩)] w fun e w' => ∃ (ra : Option Addr) (rc : Nat) (rs : List Raw), e = .returned (.slice ra rs.length rc) ∧ Below w.heap.size w w' ∧ w'.ownsRow w.heap.size 44 9 (.slice ra rs.length rc) rs.length (raws rs) ∧ F2 (RawOwn w.heap.size w') rs (allMs (fun j s => (v.Y j s).ms) v.id v.k v.n) := by
  obtain ⟨w1, hw1⟩ : ∃ w1, w1 = w.alloc (.cells #[.int .i64 9223372036854775807] 3) := ⟨_, rfl⟩
  have b1 : Below w.heap.size w w1 := by rw [hw1]; exact below_alloc _ _
  have hsz : w1.heap.size = w.heap.size + 1 := by rw [hw1]; simp
  have g1 : w1.heap[w.heap.size]? = some (.cells #[.int .i64 9223372036854775807] 3 (0, 0)) := by rw [hw1]; exact heap_new _ _
  have a1 := a.below b1
  have x4 : w1.cell? ⟨h.pb, 4, none⟩ = some (.slice (some ⟨h.lb, 0, none⟩) v.n v.n) := (cell_of a1.box).trans rfl
  have hok : GaOk v.n v.k v.id h.lb h.b (fun j s => (h.X j s).g) (fun j s => (h.X j s).gr) w1.heap.size (fun j s rs o W => AgS w v w.heap.size j s rs o W ∧ w1.heap.size ≤ W.heap.size) := AgS.okUp (AgS.ok a hL)
  have K := hid (gather_72 w1 v.n v.k v.id h.pb h.lb h.b (fun j s => (h.X j s).g) (fun j s => (h.X j s).gr) _ (.pointer (some ⟨w.heap.size, 0, none⟩)) hok (AgS.callUp (AgS.call a hL hLt)) x4 ⟨⟨b1, g1, rfl, trivial, (fun q hq => by cases hq), Nat.zero_le _, Nat.zero_le _⟩, Nat.le_refl _⟩)
  have K42 : Hid (Calls Tryz.prog 42 #[.pointer (some ⟨h.pb, 0, none⟩), .int .i64 9223372036854775807] w fun e w' => ∃ (ra : Option Addr) (rc : Nat) (rs : List Raw), e = .returned (.slice ra rs.length rc) ∧ Below w.heap.size w w' ∧ w'.ownsRow w.heap.size 44 9 (.slice ra rs.length rc) rs.length (raws rs) ∧ F2 (RawOwn w.heap.size w') rs (allMs (fun j s => (v.Y j s).ms) v.id v.k v.n)) := (show Calls _ _ _ _ _ from by
    clear a a1 b1 g1 hok hL hLt x4
    go_enter Tryz.func42, Tryz.ntmps42
    go_wp2_with fail
    rw [← hw1]
    clear hw1
    refine K.out.mono ?_
    rintro e w2 ⟨rv, rs, rfl, ⟨hI, _⟩, hrow⟩
    obtain ⟨ra, rc, hrv⟩ := row_shape hrow
    have E : Hid (Below w.heap.size w w2 ∧ w2.ownsRow w.heap.size 44 9 rv rs.length (raws rs) ∧ F2 (RawOwn w.heap.size w2) rs (allMs (fun j s => (v.Y j s).ms) v.id v.k v.n)) := (show _ ∧ _ from ⟨hI.bel, owns_base hrow (by omega), by
      have h0 := hI.own
      rw [show rowMs (fun j s => (v.Y j s).ms) v.n 0 = [] from rfl, List.append_nil] at h0
      exact f2_mono (fun _ _ q => q.base (Nat.le_succ _)) h0⟩)
    clear hI hrow K
    subst hrv
    go_wp2
    go_ret
    exact ⟨ra, rc, rs, rfl, E.out⟩)
  clear a a1 b1 g1 hok hL hLt x4 K hw1 hsz
  go_enter Tryz.func17, Tryz.ntmps17
  go_wp2_with fail
  refine K42.out.mono ?_
  rintro e w2 ⟨ra, rc, rs, rfl, hE⟩
  have E := hid hE
  clear hE
  go_wp2
  go_ret
  exact ⟨ra, rc, rs, rfl, E.out⟩
end Go.Proofs.YtefpnojanldkeaaGreatDoor
namespace Go.Proofs.YtefpnojanldkeaaGreatDoor
open Go.RowKit Go.Maps
set_option maxRecDepth 100000
set_option linter.unusedSectionVars false
variable [Inhabited ComV] [DecidableEq D3] [Inhabited D3] [Inhabited Dd] [Inhabited Dn] [Inhabited OpV]

set_option maxHeartbeats 4000000 in
theorem beat_nn (w : World) (h : PlH) (v : PlV) (a : PlAt w h v) (hok : PvOk v) : Calls Tryz.prog 10 #[.pointer (some ⟨h.pb, 0, none⟩)] w fun e w' => ∃ (h' : PlH) (rv : Value) (rs : List Raw), e = .returned rv ∧ PlG w h v rv.ownBlock h' { v with Y := beatY v } w' ∧ w'.ownsRow w.heap.size 44 9 rv rs.length (raws rs) ∧ F2 (RawOwn 0 w') rs (allMs (beatT v) v.id v.k v.n) ∧ h'.nn = h.nn := by
  obtain ⟨w1, hw1⟩ : ∃ w1, w1 = w.alloc (.cells #[.pointer (some ⟨h.pb, 0, none⟩)] 25) := ⟨_, rfl⟩
  have b1 : Below w.heap.size w w1 := by rw [hw1]; exact below_alloc _ _
  have g1 : w1.heap[w.heap.size]? = some (.cells #[.pointer (some ⟨h.pb, 0, none⟩)] 25 (0, 0)) := by rw [hw1]; exact heap_new _ _
  have a1 := a.below b1
  have x4 : w1.cell? ⟨h.pb, 4, none⟩ = some (.slice (some ⟨h.lb, 0, none⟩) v.n v.n) := (cell_of a1.box).trans rfl
  have x0 : w1.cell? ⟨w.heap.size, 0, none⟩ = some (.pointer (some ⟨h.pb, 0, none⟩)) := (cell_of g1).trans rfl
  have K := hid (gather_30 w1 v.n v.k v.id h.pb h.lb h.b (fun j s => (h.X j s).g) (fun j s => (h.X j s).gr) (GaS w1 h v (beatT v) (beatY v)) (.pointer (some ⟨w.heap.size, 0, none⟩)) (GaS.ok a1 (fun j s => by simp [beatT])) (GaS.call (P := BeatP h.pb w.heap.size v.ck) (fun W o h' v' g hc => ⟨(g.mov.block _ (lt_of_heap g1) fun e => by have := a.lt e; omega).trans g1, _, g.pb ▸ g.here.box, by rw [← hc]; rfl⟩) (beat1_tell v hok h.pb w.heap.size)) x4 ⟨⟨h, v, PlG.start a1, rfl, rfl, rfl, rfl, rfl, rfl, rfl, fun j s q => (if_neg (by omega)).symm⟩, trivial, (fun q hq => by cases hq), Nat.zero_le _, Nat.zero_le _⟩)
  have H := hid a
  have B1 := hid b1
  clear a b1 g1 a1 hok
  go_enter Tryz.func10, Tryz.ntmps10
  go_wp2_with fail
  rw [← hw1]
  clear hw1
  refine K.out.mono ?_
  rintro e w2 ⟨rv, rs, rfl, hI, hrow⟩
  obtain ⟨ra, rc, hrv⟩ := row_shape hrow
  obtain ⟨⟨h', g', _, _, _, _, r5⟩, hF⟩ := hI.done
  have G2 := hid (g'.ahead B1.out)
  have R2 := hid (owns_base hrow B1.out.size)
  have F2' := hid hF
  have R5 := hid r5
  clear hI g' hF hrow x4 x0 r5
  subst hrv
  go_wp2
  go_ret
  exact ⟨h', _, rs, rfl, G2.out, R2.out, F2'.out, R5.out⟩
/-- A place behind its commits and its beat. -/
structure BtS (id k : Nat) (O : Nat → List OpV) (h : PlH) (v : PlV) : Prop where
  vid : v.id = id
  vn : v.n = 2
  vk : v.k = k
  ck : v.ck = ((O id).length : Nat)
  st : v.st = stOf 2 ((List.range (O id).length).map (comT id (O id)))
  ln : ∀ j s, v.line j s → (v.Y j s).rt = 0 ∧ (v.Y j s).rq = 0 ∧ (∀ q, (v.Y j s).mm q = none) ∧ (v.Y j s).ms = mB id (O id) k s (O id).length
  nn : h.nn ≤ 300
  x : ∀ j s, v.line j s → (h.X j s).n ≤ 20
  all : ∀ j s, (v.Y j s).ms.length ≤ 1000
theorem CmS.beat {id k : Nat} {O : Nat → List OpV} {h h' : PlH} {v : PlV} (hI : CmS id k (O id) (O id).length h v) (hid_ : id < 2) (hO : OpsR (O id)) (hnn : h'.nn = h.nn) (hx : ∀ j s, v.line j s → (h'.X j s).n ≤ (h.X j s).n + 1) : BtS id k O h' { v with Y := beatY v } := by
  have hl := hO.len
  refine ⟨hI.vid, hI.vn, hI.vk, hI.ck, hI.st, fun j s q => ?_, by have := hI.nn; omega, fun j s q => by have := hx j s q; have := hI.x j s q; omega, fun j s => ?_⟩
  rotate_left
  · have := hI.all j s
    show ((v.Y j s).ms ++ [_]).length ≤ 1000
    rw [List.length_append]
    show (v.Y j s).ms.length + 1 ≤ 1000
    omega
  have q' : v.line j s := q
  have h1 := hI.ln j s q'
  have hj : j = 1 - id := by
    have a1 := q'.1
    have a2 := q'.2.1
    rw [hI.vn] at a1
    rw [hI.vid] at a2
    omega
  refine ⟨h1.rt, h1.rq, h1.mm, ?_⟩
  show (v.Y j s).ms ++ [beatM v.id j s ((v.Y j s).sq + 1) v.ck] = _
  rw [h1.ms, h1.sq, hI.vid, hI.ck, hj]
  rfl
/-- What is sent again. -/
theorem row_ms {id k : Nat} {O : Nat → List OpV} {v : PlV} (vid : v.id = id) (vn : v.n = 2) (vk : v.k = k) (hms : ∀ j s, v.line j s → (v.Y j s).ms = mB id (O id) k s (O id).length) (hid_ : id < 2) : allMs (fun j s => (v.Y j s).ms) v.id v.k v.n = rowO (1 - id) k O k := by
  have hr : ∀ n, n ≤ k → rowMs (fun j s => (v.Y j s).ms) (1 - id) n = rowO (1 - id) k O n := fun n => by
    induction n with
    | zero => intro _; rfl
    | succ n ih =>
      intro hn
      show rowMs _ (1 - id) n ++ (v.Y (1 - id) n).ms = rowO (1 - id) k O n ++ mO (1 - id) k O n
      rw [ih (by omega), hms (1 - id) n ⟨by rw [vn]; omega, by rw [vid]; omega, by rw [vk]; omega⟩]
      show _ = _ ++ mB (1 - (1 - id)) (O (1 - (1 - id))) k n (O (1 - (1 - id))).length
      rw [show 1 - (1 - id) = id by omega]
  rw [vid, vk, vn, ← hr k (Nat.le_refl _)]
  rcases (by omega : id = 0 ∨ id = 1) with rfl | rfl
  · rfl
  · show ([] ++ rowMs _ 0 k) ++ [] = rowMs _ 0 k
    rw [List.append_nil, List.nil_append]
theorem light_ms {id k : Nat} {O : Nat → List OpV} {v : PlV} (hms : ∀ j s, v.line j s → (v.Y j s).ms = mB id (O id) k s (O id).length) (hid_ : id < 2) (hO : OpsR (O id)) : ∀ j s, v.line j s → ∀ m ∈ (v.Y j s).ms, Light m.c := fun j s q m hm => by
  rw [hms j s q] at hm
  obtain ⟨i, hi⟩ := List.getElem?_of_mem hm
  rcases mB_get hi with ⟨t, h1, _, _, rfl⟩ | ⟨_, rfl⟩
  · exact (comT_ok hid_ hO h1).2.2.1
  · exact light_nil 0
/-- It may hear. -/
theorem BtS.start {id k : Nat} {O : Nat → List OpV} {h : PlH} {v : PlV} (hI : BtS id k O h v) (hid_ : id < 2) (hk : 1 ≤ k) : HrS id k O 0 h v := by
  refine ⟨hI.vid, hI.vn, hI.vk, hI.ck, ⟨(List.range (O id).length).map fun t => (id, t), ⟨range_nodup _ _, fun t => ?_, fun t => ?_, fun p hp => ?_⟩, by rw [hI.st, range_two O]⟩, by have := hI.nn; omega, fun j s q => by have := hI.x j s q; omega⟩
  · rw [List.mem_map]
    exact ⟨fun ⟨t', h1, h2⟩ => by injection h2 with _ h2; rw [← h2]; exact List.mem_range.1 h1, fun h1 => ⟨t, List.mem_range.2 h1, rfl⟩⟩
  · have hs : shT (O (1 - id)) k t < k := Nat.mod_lt _ (by omega)
    have h0 := (hI.ln (1 - id) _ ⟨by rw [hI.vn]; omega, by rw [hI.vid]; omega, by rw [hI.vk]; exact hs⟩).2.1
    rw [List.mem_map, h0]
    exact ⟨fun ⟨t', _, h2⟩ => by injection h2 with h2 _; omega, fun ⟨_, h1⟩ => by omega⟩
  · obtain ⟨t, _, rfl⟩ := List.mem_map.1 hp
    exact hid_
/-- What a place holds that has heard all. -/
theorem HrS.full {id k i : Nat} {O : Nat → List OpV} {h : PlH} {v : PlV} (hI : HrS id k O i h v) (hid_ : id < 2) (k1 : 1 ≤ k) (hO : ∀ j, j < 2 → OpsR (O j)) (hd : ∀ s, s < k → DnS (mO id k O s) (v.Y (1 - id) s)) : snapV v = [((O 0).length : Int), ((O 1).length : Int)] ∧ ∃ D : List (Nat × Nat), D.Nodup ∧ (∀ p, p ∈ D ↔ p.1 < 2 ∧ p.2 < (O p.1).length) ∧ v.st = stOf 2 (D.map (CT O)) := by
  have ht : ∀ s, s < k → (v.Y (1 - id) s).rt = ((O (1 - id)).length : Int) := fun s hs => by
    rw [(hd s hs).rt]
    show timeM 0 (mB _ _ _ _ _) = _
    unfold timeM mB
    rw [List.getLast?_append]
    rfl
  have hj : ∀ j, j < 2 → snapJ v j = ((O j).length : Int) := fun j hj => by
    unfold snapJ
    rw [hI.vid]
    by_cases e : j = id
    · rw [if_pos e, hI.ck, e]
    · rw [if_neg e, hI.vk, show j = 1 - id by omega]
      have hlen := (hO (1 - id) (by omega)).len
      have g1 := least_ge (rt := fun s => (v.Y (1 - id) s).rt) (x := ((O (1 - id)).length : Int)) (by omega) (k := k) fun s hs => by rw [ht s hs]; exact Int.le_refl _
      have g2 := least_le (rt := fun s => (v.Y (1 - id) s).rt) (k := k) (s := 0) (by omega)
      rw [ht 0 (by omega)] at g2
      omega
  refine ⟨?_, ?_⟩
  · unfold snapV
    rw [hI.vn]
    show [snapJ v 0, snapJ v 1] = _
    rw [hj 0 (by decide), hj 1 (by decide)]
  · obtain ⟨D, hD, hst⟩ := hI.st
    refine ⟨D, hD.nodup, fun p => ⟨fun hp => hD.in_ hid_ p hp, fun ⟨h1, h2⟩ => ?_⟩, hst⟩
    obtain ⟨a, t⟩ := p
    rcases (by simp only at h1; omega : a = id ∨ a = 1 - id) with rfl | rfl
    · exact (hD.own t).2 h2
    · have h3 : t < (O (1 - id)).length := h2
      refine (hD.oth t).2 ⟨h3, ?_⟩
      have hs : shT (O (1 - id)) k t < k := Nat.mod_lt _ (by omega)
      rw [(hd _ hs).rq]
      have := msT_lt (1 - id) (O (1 - id)) k h3
      show _ < ((mB _ _ _ _ _).length : Int)
      rw [mB_len]
      omega
/-- Both read the same. -/
theorem full_same {O : Nat → List OpV} (hO : ∀ j, j < 2 → OpsR (O j)) {D D' : List (Nat × Nat)} (hn : D.Nodup) (h : ∀ p, p ∈ D ↔ p.1 < 2 ∧ p.2 < (O p.1).length) (h' : ∀ p, p ∈ D' ↔ p.1 < 2 ∧ p.2 < (O p.1).length) {key : ByteArray} {at_ : List Int} {ds ds' : List Dn} (h1 : IsOps key (seenL (stOf 2 (D.map (CT O))) key at_) ds) (h2 : IsOps key (seenL (stOf 2 (D'.map (CT O))) key at_) ds') : ds' = ds := by
  have hk := kept_two hO D hn fun p hp => (h p).1 hp
  have sub : ∀ {D1 D2 : List (Nat × Nat)}, (∀ p, p ∈ D1 → p ∈ D2) → ∀ c ∈ seenL (stOf 2 (D1.map (CT O))) key at_, c ∈ seenL (stOf 2 (D2.map (CT O))) key at_ := fun hs c hc => by
    have g0 := List.mem_filter.1 hc
    have g1 := List.mem_filter.1 g0.1
    obtain ⟨y, g2, g3⟩ := List.mem_flatMap.1 g1.1
    obtain ⟨p, hp, rfl⟩ := List.mem_map.1 g2
    exact List.mem_filter.2 ⟨List.mem_filter.2 ⟨List.mem_flatMap.2 ⟨_, List.mem_map.2 ⟨p, hs p hp, rfl⟩, g3⟩, g1.2⟩, g0.2⟩
  have e1 : ∀ p, p ∈ D → p ∈ D' := fun p hp => (h' p).2 ((h p).1 hp)
  have e2 : ∀ p, p ∈ D' → p ∈ D := fun p hp => (h p).2 ((h' p).1 hp)
  have hone : OneDot (seenL (stOf 2 (D.map (CT O))) key at_) := fun a ha b hb e => by
    have hsub : ∀ c ∈ seenL (stOf 2 (D.map (CT O))) key at_, c ∈ (D.map (CT O)).flatMap partsC := fun c hc => seenL_mem hc
    exact oneDot_parts hk a (flat_sub hsub ha) b (flat_sub hsub hb) e
  exact isOps_turned hone (fun d => ⟨flat_sub (sub e2), flat_sub (sub e1)⟩) h1 h2
end Go.Proofs.YtefpnojanldkeaaGreatDoor
