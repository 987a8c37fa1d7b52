/- What may be read of what is put whole, or in parts, turned around: plain mathematics; The type's handle and all twelve sentinels, out of what the rows list; What the laws of versions list: six sentinels and the type's handle; Put of what may not be put: an error that is not nil; nothing turns. -/
import Derived.Test.YtefpnojanldkeaaGreatDoorJWMath
import Derived.Test.YtefpnojanldkeaaGreatDoorJVVec
import Derived.Test.YtefpnojanldkeaaGreatDoorJVRefN
import Derived.Test.YtefpnojanldkeaaGreatDoorJVOp
import Derived.Test.YtefpnojanldkeaaGreatDoorJWPutN
import Derived.Test.YtefpnojanldkeaaGreatDoorJVRow
import Derived.Test.YtefpnojanldkeaaGreatDoorJVOwnM
import Derived.Test.YtefpnojanldkeaaGreatDoorJVMap
import Derived.Test.YtefpnojanldkeaaGreatDoorJWState
import Derived.Test.YtefpnojanldkeaaGreatDoorJVOnceM
import Derived.Test.YtefpnojanldkeaaGreatDoorJSDel
import Derived.Deep.Slices
import Derived.Deep.Fields
import Derived.Test.YtefpnojanldkeaaGreatDoorJVStandM
import Derived.Test.YtefpnojanldkeaaGreatDoorJWPart
namespace Go.Proofs.YtefpnojanldkeaaGreatDoor
open Go.RowKit Go.Sort Go.Maps
set_option maxRecDepth 100000
set_option linter.unusedSectionVars false
variable [Inhabited ComV] [DecidableEq D3] [Inhabited D3] [Inhabited Dd] [Inhabited Dn] [Inhabited OpV]

theorem chk_zeros {nb : Nat} (h1 : 1 ≤ nb) (h6 : nb ≤ 6) : chk (List.replicate nb 0) = 0 := by
  rw [chk_zero]
  refine ⟨by simpa using h1, by simpa using h6, fun t ht => ?_⟩
  have : (List.replicate nb (0 : Int)).getD t 0 = 0 := by
    rw [List.getD_eq_getElem?_getD, List.getElem?_replicate]
    split <;> rfl
  rw [this]
  omega
theorem comOk_one {c : ComV} (h : ComOk c) {o : OpV} (ho : o ∈ c.ops) : ComOk (partC c o) := by
  refine ⟨h.chk, h.lo, h.hi, h.time, by simp [partC], by simp [partC], fun i hi => ?_⟩
  obtain ⟨j, hj, rfl⟩ := List.getElem_of_mem ho
  have e : (c.ops.drop j).take 1 = [c.ops[j]] := by
    rw [List.drop_eq_getElem_cons hj]
    rfl
  have := opBad_part (s := j) (m := 1) (i := i) h.ops (by rw [e]; simpa [partC] using hi)
  rw [e] at this
  exact this
theorem stOf_ok {nb : Nat} {l : List ComV} (h : KeptL nb l) (h1 : 1 ≤ nb) (h6 : nb ≤ 6) (hs : ∀ c ∈ l, SmallC c) : StOk (stOf nb l) nb := by
  have mem : ∀ x ∈ (stOf nb l).parts, ∃ c ∈ l, ∃ o ∈ c.ops, x = partC c o := fun x hx => by
    obtain ⟨c, hc, hx⟩ := List.mem_flatMap.1 hx
    obtain ⟨o, ho, rfl⟩ := List.mem_map.1 hx
    exact ⟨c, hc, o, ho, rfl⟩
  refine ⟨chk_zeros h1 h6, by simp [stOf], fun x hx => ?_, fun x hx => ?_, fun x hx => ?_⟩
  · obtain ⟨c, hc, o, ho, rfl⟩ := mem x hx
    exact comOk_one (h.ok c hc) ho
  · obtain ⟨c, hc, o, ho, rfl⟩ := mem x hx
    exact h.len c hc
  · obtain ⟨c, hc, o, ho, rfl⟩ := mem x hx
    refine ⟨(hs c hc).1, by simp [partC], fun o' ho' => ?_⟩
    obtain rfl : o' = o := by simpa [partC] using ho'
    exact (hs c hc).2.2 _ ho
theorem rowOf_perm (nb : Nat) (l : List ComV) (cut : Int) (k : ByteArray) : (rowOf (stOf nb (turnAll cut l)) k).Perm (rowOf (stOf nb l) k) := (turnAll_parts cut l).filter _
theorem seenL_perm (nb : Nat) (l : List ComV) (cut : Int) (k : ByteArray) (at_ : List Int) : (seenL (stOf nb (turnAll cut l)) k at_).Perm (seenL (stOf nb l) k at_) := (rowOf_perm nb l cut k).filter _
theorem flat_parts (l : List ComV) : (flatA (l.flatMap partsC)).map (·.dot) = l.flatMap dotsC := by
  induction l with
  | nil => rfl
  | cons c l ih =>
    rw [List.flatMap_cons, List.flatMap_cons, ← ih]
    unfold flatA
    rw [List.flatMap_append, List.map_append]
    congr 1
    unfold partsC dotsC
    induction c.ops with
    | nil => rfl
    | cons o os ih2 =>
      rw [List.map_cons, List.flatMap_cons, List.map_append, List.map_cons, ← ih2]
      rfl
theorem oneDot_parts {nb : Nat} {l : List ComV} (h : KeptL nb l) : OneDot (l.flatMap partsC) := by
  have hn := h.dots
  rw [← flat_parts] at hn
  rw [List.nodup_iff_pairwise_ne, List.pairwise_map] at hn
  intro a ha b hb e
  obtain ⟨i, hi, rfl⟩ := List.getElem_of_mem ha
  obtain ⟨j, hj, rfl⟩ := List.getElem_of_mem hb
  rw [List.pairwise_iff_getElem] at hn
  rcases Nat.lt_trichotomy i j with h1 | h1 | h1
  · exact absurd e (hn i j hi hj h1)
  · subst h1; rfl
  · exact absurd e.symm (hn j i hj hi h1)
theorem flat_sub {l l' : List ComV} (h : ∀ c ∈ l, c ∈ l') {d : Dn} (hd : d ∈ flatA l) : d ∈ flatA l' := by
  obtain ⟨c, hc, hd⟩ := flat_mem.1 hd
  exact flat_mem.2 ⟨c, h c hc, hd⟩
/-- Both tell the same. -/
theorem ops_turned {nb : Nat} {l : List ComV} (h : KeptL nb l) (cut : Int) (key : ByteArray) (at_ : List Int) {ds ds' : List Dn} (h1 : IsOps key (seenL (stOf nb l) key at_) ds) (h2 : IsOps key (seenL (stOf nb (turnAll cut l)) key at_) ds') : ds' = ds := by
  have hp := seenL_perm nb l cut key at_
  refine isOps_turned (fun a ha b hb e => ?_) (fun d => ⟨flat_sub fun c hc => hp.mem_iff.1 hc, flat_sub fun c hc => hp.mem_iff.2 hc⟩) h1 h2
  have hs : ∀ c ∈ seenL (stOf nb l) key at_, c ∈ l.flatMap partsC := fun c hc => seenL_mem hc
  exact oneDot_parts h a (flat_sub hs ha) b (flat_sub hs hb) e
theorem rowOf_few {nb : Nat} {l : List ComV} (h : KeptL nb l) (hl : l.length ≤ 80) (k : ByteArray) : (rowOf (stOf nb l) k).length ≤ 1000 := by
  have h1 : (rowOf (stOf nb l) k).length ≤ (l.flatMap partsC).length := List.length_filter_le _ _
  have h2 : ∀ l : List ComV, (∀ c ∈ l, c.ops.length ≤ 12) → (l.flatMap partsC).length ≤ 12 * l.length := fun l => by
    induction l with
    | nil => intro _; simp
    | cons c l ih =>
      intro hc
      have h3 := ih (fun x hx => hc x (by simp [hx]))
      have h4 := hc c (by simp)
      rw [List.flatMap_cons, List.length_append, List.length_cons]
      unfold partsC at h3 ⊢
      rw [List.length_map]
      omega
  have := h2 l (fun c hc => (h.ok c hc).few)
  omega
end Go.Proofs.YtefpnojanldkeaaGreatDoor
namespace Go.Proofs.YtefpnojanldkeaaGreatDoor
open Go.RowKit Go.ChangeShapes Go.WideShapes Go.ChangeAt
set_option maxRecDepth 100000
set_option linter.unusedSectionVars false
variable [Inhabited ComV] [DecidableEq D3] [Inhabited D3] [Inhabited Dd] [Inhabited Dn] [Inhabited OpV]

theorem Tryz.rt : (Tryz.prog.cutTypes.find? (·.1 == "internal/reflectlite.rtype")).map (·.2) = some 187 := by kernel_rfl
theorem Tryz.oneRow : ((List.range 269).filter fun t => Tryz.prog.rowNamed t [101, 114, 114, 111, 114]) = [27] := by kernel_rfl
theorem Tryz.tsize : Tryz.prog.types.size = 269 := by kernel_rfl
theorem Tryz.et : Tryz.prog.globalNamed "errors.errorType" = some 12 := by kernel_rfl
/-- The handle's cell. -/
theorem handle_of_laid {W : World} {l : List (String × DataW Unit)} (h : laidMetH Tryz.prog l W) (hm : ("errors.errorType", Rows.laid_errors_errorType) ∈ l) : W.cell? ⟨12, 0, none⟩ = some (.iface 187 (.agg #[.pointer (some ⟨13, 27, none⟩)])) := by
  have h' := (laidMetH_iff.1 h).2 _ (List.mem_filter.2 ⟨hm, by rfl⟩)
  have h'' : ∃ name u ty, (Rows.laid_errors_errorType (H := Unit)).handleName? = some name ∧ (Tryz.prog.cutTypes.find? (·.1 == "internal/reflectlite.rtype")).map (·.2) = some u ∧ ty < Tryz.prog.types.size ∧ Tryz.prog.rowNamed ty name = true ∧
      W.var? Tryz.prog "errors.errorType" = some #[.iface u (.agg #[typeHandle Tryz.prog ty])] := h'
  obtain ⟨name, u, ty, e1, e2, e3, e4, e5⟩ := h''
  have en : name = [101, 114, 114, 111, 114] := (Option.some.inj e1).symm
  subst en
  obtain rfl := Option.some.inj (Tryz.rt.symm.trans e2)
  have hm : ty ∈ (List.range 269).filter fun t => Tryz.prog.rowNamed t [101, 114, 114, 111, 114] := List.mem_filter.2 ⟨List.mem_range.2 (by rw [← Tryz.tsize]; exact e3), e4⟩
  rw [Tryz.oneRow] at hm
  obtain rfl := List.mem_singleton.1 hm
  have hh : typeHandle Tryz.prog 27 = .pointer (some ⟨13, 27, none⟩) := by kernel_rfl
  rw [hh] at e5
  simpa using World.var?_cell Tryz.et e5 0
def names12 : List (String × List UInt8) := [("causeway/api.ErrText", [99, 97, 117, 115, 101, 119, 97, 121, 58, 32, 116, 101, 120, 116]), ("causeway/api.ErrBound", [99, 97, 117, 115, 101, 119, 97, 121, 58, 32, 98, 111, 117, 110, 100]), ("causeway/api.ErrShape", [99, 97, 117, 115, 101, 119, 97, 121, 58, 32, 115, 104, 97, 112, 101]), ("causeway/api.ErrName", [99, 97, 117, 115, 101, 119, 97, 121, 58, 32, 110, 97, 109, 101]), ("causeway/api.ErrNone", [99, 97, 117, 115, 101, 119, 97, 121, 58, 32, 110, 111, 110, 101]), ("causeway/api.ErrExist", [99, 97, 117, 115, 101, 119, 97, 121, 58, 32, 101, 120, 105, 115, 116]), ("causeway/api.ErrFull", [99, 97, 117, 115, 101, 119, 97, 121, 58, 32, 102, 117, 108, 108]), ("causeway/api.ErrSum", [99, 97, 117, 115, 101, 119, 97, 121, 58, 32, 115, 117, 109]), ("causeway/api.ErrOld", [99, 97, 117, 115, 101, 119, 97, 121, 58, 32, 111, 108, 100]), ("causeway/api.ErrHeld", [99, 97, 117, 115, 101, 119, 97, 121, 58, 32, 104, 101, 108, 100]), ("causeway/api.ErrWait", [99, 97, 117, 115, 101, 119, 97, 121, 58, 32, 119, 97, 105, 116]), ("causeway/api.ErrKind", [99, 97, 117, 115, 101, 119, 97, 121, 58, 32, 107, 105, 110, 100])]
theorem global12 (k : Nat) (x : String × List UInt8) (h : names12[k]? = some x) : Tryz.prog.globalNamed x.1 = some (gix k) ∧ (Tryz.prog.globals[gix k]?).map (·.type) = some 27 := by
  have hk : k < 12 := (List.getElem?_eq_some_iff.1 h).1
  rcases (by omega : k = 0 ∨ k = 1 ∨ k = 2 ∨ k = 3 ∨ k = 4 ∨ k = 5 ∨ k = 6 ∨ k = 7 ∨ k = 8 ∨ k = 9 ∨ k = 10 ∨ k = 11) with rfl | rfl | rfl | rfl | rfl | rfl | rfl | rfl | rfl | rfl | rfl | rfl <;> (obtain rfl := Option.some.inj h; exact ⟨by kernel_rfl, by kernel_rfl⟩)
/-- ALL THAT THE WALKS ASK, out of a list that holds the handle and, in their order, the twelve sentinels ('keep': by name). -/
theorem sents_of_laid {W : World} {l : List (String × DataW Unit)} (h : laidMetH Tryz.prog l W) (hm : ("errors.errorType", Rows.laid_errors_errorType) ∈ l)
    (hf : (l.filter fun x => x.2.handleName?.isNone).filter (fun x => (names12.map (·.1)).contains x.1) = listed names12) : ∃ A, Sents A W.heap.size W := by
  have h12 : laidMet Tryz.prog (listed names12) W := by rw [← hf]; exact (laidMetH_iff.1 h).1.filter _
  obtain ⟨A, a1, a2, a3, a4⟩ := laidMet_sents Tryz.underlying27 Tryz.row238 Tryz.underlying238 Tryz.underlying258 rfl rfl Tryz.underlying9 Tryz.cells258 Tryz.cells9 names12 h12 (fun x hx => by
    obtain ⟨k, hk⟩ := List.getElem?_of_mem hx
    exact ⟨gix k, global12 k x hk⟩)
  have hh := handle_of_laid h hm
  refine ⟨A, ?_, Nat.le_refl _, fun k hk => ?_, fun k hk => a2 k hk, fun k hk => ?_, fun i j hi hj hne => a4 i j hi hj hne, hh⟩
  · exact lt_of_cell hh
  · have hx : names12[k]? = some (names12[k]'hk) := List.getElem?_eq_getElem _
    simpa using World.var?_cell (global12 k _ hx).1 (a1 k _ hx) 0
  · obtain ⟨v, hv⟩ := a3 k hk
    exact lt_of_cell hv
end Go.Proofs.YtefpnojanldkeaaGreatDoor
namespace Go.Proofs.YtefpnojanldkeaaGreatDoor
open Go.RowKit Go.ChangeShapes Go.WideShapes Go.ChangeAt
set_option maxRecDepth 100000
set_option linter.unusedSectionVars false
variable [Inhabited ComV] [DecidableEq D3] [Inhabited D3] [Inhabited Dd] [Inhabited Dn] [Inhabited OpV]

/-- The sentinels that values and versions hand out, and the type's handle. -/
structure SentV (A : Nat → Addr) (B : Nat) (w : World) : Prop where
  gl : 13 ≤ B
  size : B ≤ w.heap.size
  e5 : E5 A w
  c8 : w.cell? ⟨3, 0, none⟩ = some (.iface 238 (.pointer (some (A 8))))
  c5 : w.cell? ⟨4, 0, none⟩ = some (.iface 238 (.pointer (some (A 5))))
theorem SentV.e4 {A : Nat → Addr} {B : Nat} {w : World} (h : SentV A B w) : E4 A w := h.e5.e4
end Go.Proofs.YtefpnojanldkeaaGreatDoor
namespace Go.Proofs.YtefpnojanldkeaaGreatDoor
open Go.RowKit Go.Sort Go.Maps
set_option maxRecDepth 100000
set_option linter.unusedSectionVars false
variable [Inhabited ComV] [DecidableEq D3] [Inhabited D3] [Inhabited Dd] [Inhabited Dn] [Inhabited OpV]

def PutBad (w : World) (e : Ending) (w' : World) : Prop := ∃ t u, e = .returned (.iface t u) ∧ Below w.heap.size w w'
theorem err_iface {A : Nat → Addr} {w : World} {v : Value} {er : Nat × Option Nat} (h : ErrAt A w v er) (h0 : er.1 ≠ 0) : ∃ t u, v = .iface t u := by
  obtain ⟨k, o⟩ := er
  cases o with
  | none =>
    have e : v = errV A k := h
    cases k with
    | zero => exact absurd rfl h0
    | succ k => exact ⟨_, _, e⟩
  | some i =>
    obtain ⟨pb, e, _⟩ := h
    exact ⟨_, _, e⟩
set_option maxHeartbeats 2000000 in
theorem put_com (A : Nat → Addr) (w : World) (hE : E4 A w) (h12 : 12 ≤ w.heap.size) (p : Nat) (c : ComV) (wv ov : Value) (hw : IntsAt w wv c.when_) (ho : OpsAt w ov c.ops) (hwl : c.when_.length ≤ 1000000) (hol : c.ops.length ≤ 1000000) (hsm : ∀ o ∈ c.ops, Small o) (hc : (comErr c).1 ≠ 0) :
    Calls Tryz.prog 27 #[.pointer (some ⟨p, 0, none⟩), .agg #[wv, .int .i64 c.place, ov]] w fun e w' => PutBad w e w' := by
  obtain ⟨w1, hw1⟩ : ∃ w1, w1 = w.alloc (.cells #[wv, .int .i64 c.place, ov] 36) := ⟨_, rfl⟩
  have hb1 : Below w.heap.size w w1 := by rw [hw1]; exact below_alloc _ _
  have K := checkCommit A w1 (hE.below hb1 h12) (by have := hb1.size; omega) c wv ov (hw.mono hb1 (Nat.le_refl _)) (ho.mono hb1 (Nat.le_refl _)) hwl hol hsm
  unfold ComRet at K
  obtain ⟨a1, c1, rfl⟩ := hw.slice
  obtain ⟨a2, c2, rfl, _⟩ := ho.shape
  obtain ⟨n1, hn1⟩ : ∃ n1, n1 = c.when_.length := ⟨_, rfl⟩
  obtain ⟨n2, hn2⟩ : ∃ n2, n2 = c.ops.length := ⟨_, rfl⟩
  obtain ⟨pl, hpl⟩ : ∃ pl, pl = c.place := ⟨_, rfl⟩
  rw [← hn1, ← hn2, ← hpl] at K hw1 ⊢
  have HC := hid hc
  have B1 := hid hb1
  replace K := hid K
  have x1 : w1.heap[w.heap.size]? = some (.cells #[.slice a1 n1 c1, .int .i64 pl, .slice a2 n2 c2] 36 (0, 0)) := by rw [hw1]; exact (MapKept.heap_alloc _ _).1
  have d0 : w1.cell? ⟨w.heap.size, 0, none⟩ = some (.slice a1 n1 c1) := by simp only [World.cell?, x1]; rfl
  have d1 : w1.cell? ⟨w.heap.size, 1, none⟩ = some (.int .i64 pl) := by simp only [World.cell?, x1]; rfl
  have d2 : w1.cell? ⟨w.heap.size, 2, none⟩ = some (.slice a2 n2 c2) := by simp only [World.cell?, x1]; rfl
  clear hw ho hsm hc hn1 hn2 hpl hE hb1 x1
  go_enter Tryz.func27, Tryz.ntmps27
  go_wp2_with fail
  rw [← hw1]
  refine K.out.mono ?_
  rintro e w2 ⟨v2, rfl, hv2, hb2⟩
  obtain ⟨t, u, rfl⟩ := err_iface hv2 HC.out
  have B2 := hid (B1.out.trans (hb2.mono B1.out.size))
  clear hv2 hb2 hw1 d0 d1 d2
  go_wp2_with fail
  first
    | (go_ret; exact ⟨_, _, rfl, B2.out⟩)
    | (go_region; go_wp2; go_ret; exact ⟨_, _, rfl, B2.out.drew⟩)
theorem nil_of_errB {A : Nat → Addr} {w : World} {v : Value} (h : ErrAt A w v (0, none)) : v = .nilIface := h
set_option maxHeartbeats 2000000 in
theorem put_vec (A : Nat → Addr) (w : World) (hE : E4 A w) (h12 : 12 ≤ w.heap.size) (p mb db n : Nat) (f : ByteArray → Value) (s : St) (hV : VerAt w p mb db f s n) (c : ComV) (wv ov : Value) (hw : IntsAt w wv c.when_) (ho : OpsAt w ov c.ops) (hwl : c.when_.length ≤ 1000000) (hol : c.ops.length ≤ 1000000) (hsm : ∀ o ∈ c.ops, Small o) (hc : comErr c = (0, none)) (hne : c.when_.length ≠ s.base.length) :
    Calls Tryz.prog 27 #[.pointer (some ⟨p, 0, none⟩), .agg #[wv, .int .i64 c.place, ov]] w fun e w' => PutBad w e w' := by
  obtain ⟨w1, hw1⟩ : ∃ w1, w1 = w.alloc (.cells #[wv, .int .i64 c.place, ov] 36) := ⟨_, rfl⟩
  have hb1 : Below w.heap.size w w1 := by rw [hw1]; exact below_alloc _ _
  have K := checkCommit A w1 (hE.below hb1 h12) (by have := hb1.size; omega) c wv ov (hw.mono hb1 (Nat.le_refl _)) (ho.mono hb1 (Nat.le_refl _)) hwl hol hsm
  unfold ComRet at K
  rw [hc] at K
  have K37 := hid (fun W (hW : Below w.heap.size w W) => by
    obtain ⟨ba, bc, _, _, _, hbt, hpx⟩ := (hV.moved hW).boxAt
    exact checkVector_bad A W (hE.below hW h12) p _ s.base _ _ hpx hbt.at wv c.when_ (hw.mono hW (Nat.le_refl _)) hwl (fun h => hne h.2))
  obtain ⟨a1, c1, rfl⟩ := hw.slice
  obtain ⟨a2, c2, rfl, _⟩ := ho.shape
  obtain ⟨n1, hn1⟩ : ∃ n1, n1 = c.when_.length := ⟨_, rfl⟩
  obtain ⟨n2, hn2⟩ : ∃ n2, n2 = c.ops.length := ⟨_, rfl⟩
  obtain ⟨pl, hpl⟩ : ∃ pl, pl = c.place := ⟨_, rfl⟩
  rw [← hn1, ← hn2, ← hpl] at K hw1 ⊢
  rw [← hn1] at K37
  have B1 := hid hb1
  replace K := hid K
  have x1 : w1.heap[w.heap.size]? = some (.cells #[.slice a1 n1 c1, .int .i64 pl, .slice a2 n2 c2] 36 (0, 0)) := by rw [hw1]; exact (MapKept.heap_alloc _ _).1
  have X1 := hid x1
  have d0 : w1.cell? ⟨w.heap.size, 0, none⟩ = some (.slice a1 n1 c1) := by simp only [World.cell?, x1]; rfl
  have d1 : w1.cell? ⟨w.heap.size, 1, none⟩ = some (.int .i64 pl) := by simp only [World.cell?, x1]; rfl
  have d2 : w1.cell? ⟨w.heap.size, 2, none⟩ = some (.slice a2 n2 c2) := by simp only [World.cell?, x1]; rfl
  clear hw ho hsm hc hn1 hn2 hpl hE hb1 x1 hV hne
  go_enter Tryz.func27, Tryz.ntmps27
  go_wp2_with fail
  rw [← hw1]
  refine K.out.mono ?_
  rintro e w2 ⟨v2, rfl, hv2, hb2⟩
  obtain rfl := nil_of_errB hv2
  have B2 := hid (B1.out.trans (hb2.mono B1.out.size))
  have x2 : w2.heap[w.heap.size]? = some (.cells #[.slice a1 n1 c1, .int .i64 pl, .slice a2 n2 c2] 36 (0, 0)) := (hb2.block _ (lt_of_heap X1.out)).trans X1.out
  have f0 : w2.cell? ⟨w.heap.size, 0, none⟩ = some (.slice a1 n1 c1) := by simp only [World.cell?, x2]; rfl
  clear hv2 hb2 hw1 d0 d1 d2 x2
  go_wp2_with fail
  refine (K37.out w2 B2.out).mono ?_
  rintro e w3 ⟨⟨k, rfl⟩, hw3⟩
  rw [hw3]
  clear hw3
  go_wp2_with fail
  first
    | (go_ret; exact ⟨_, _, rfl, B2.out⟩)
    | (go_region; go_wp2; go_ret; exact ⟨_, _, rfl, B2.out.drew⟩)
set_option maxHeartbeats 2000000 in
theorem put_old (A : Nat → Addr) (w : World) (hE : E4 A w) (hold : w.cell? ⟨3, 0, none⟩ = some (.iface 238 (.pointer (some (A 8))))) (h12 : 12 ≤ w.heap.size) (p mb db n : Nat) (f : ByteArray → Value) (s : St) (hV : VerAt w p mb db f s n) (c : ComV) (wv ov : Value) (hw : IntsAt w wv c.when_) (ho : OpsAt w ov c.ops) (hwl : c.when_.length ≤ 1000000) (hol : c.ops.length ≤ 1000000) (hsm : ∀ o ∈ c.ops, Small o) (hc : comErr c = (0, none)) (hlen : c.when_.length = s.base.length) (hbs : chk s.base = 0) (hle : leB c.when_ s.base = true) :
    Calls Tryz.prog 27 #[.pointer (some ⟨p, 0, none⟩), .agg #[wv, .int .i64 c.place, ov]] w fun e w' => PutBad w e w' := by
  obtain ⟨w1, hw1⟩ : ∃ w1, w1 = w.alloc (.cells #[wv, .int .i64 c.place, ov] 36) := ⟨_, rfl⟩
  have hb1 : Below w.heap.size w w1 := by rw [hw1]; exact below_alloc _ _
  have K := checkCommit A w1 (hE.below hb1 h12) (by have := hb1.size; omega) c wv ov (hw.mono hb1 (Nat.le_refl _)) (ho.mono hb1 (Nat.le_refl _)) hwl hol hsm
  unfold ComRet at K
  rw [hc] at K
  have hcc := (comOk_of (c := c) (by rw [hc])).chk
  have K37 := hid (fun W (hW : Below w.heap.size w W) => by
    obtain ⟨ba, bc, _, _, _, hbt, hpx⟩ := (hV.moved hW).boxAt
    exact checkVector_ok A W (hE.below hW h12) p _ s.base _ _ hpx hbt.at wv c.when_ (hw.mono hW (Nat.le_refl _)) hcc hlen)
  obtain ⟨ba, bc, p0, _, _, hbt, hpx⟩ := hV.boxAt
  have K38 := hid (fun W (hW : Below w.heap.size w W) => within_ok A W (hE.below hW h12) wv (.slice ba s.base.length bc) c.when_ s.base (hw.mono hW (Nat.le_refl _)) (hbt.at.mono hW (Nat.le_refl _)) (two_zero.2 ⟨hcc, hbs, hlen⟩))
  rw [hle] at K38
  obtain ⟨nb, hnb⟩ : ∃ nb, nb = s.base.length := ⟨_, rfl⟩
  rw [← hnb] at p0 K38
  have P0 := hid p0
  have OLD := hid hold
  obtain ⟨a1, c1, rfl⟩ := hw.slice
  obtain ⟨a2, c2, rfl, _⟩ := ho.shape
  obtain ⟨n1, hn1⟩ : ∃ n1, n1 = c.when_.length := ⟨_, rfl⟩
  obtain ⟨n2, hn2⟩ : ∃ n2, n2 = c.ops.length := ⟨_, rfl⟩
  obtain ⟨pl, hpl⟩ : ∃ pl, pl = c.place := ⟨_, rfl⟩
  rw [← hn1, ← hn2, ← hpl] at K hw1 ⊢
  rw [← hn1] at K37 K38
  have B1 := hid hb1
  replace K := hid K
  have x1 : w1.heap[w.heap.size]? = some (.cells #[.slice a1 n1 c1, .int .i64 pl, .slice a2 n2 c2] 36 (0, 0)) := by rw [hw1]; exact (MapKept.heap_alloc _ _).1
  have X1 := hid x1
  have d0 : w1.cell? ⟨w.heap.size, 0, none⟩ = some (.slice a1 n1 c1) := by simp only [World.cell?, x1]; rfl
  have d1 : w1.cell? ⟨w.heap.size, 1, none⟩ = some (.int .i64 pl) := by simp only [World.cell?, x1]; rfl
  have d2 : w1.cell? ⟨w.heap.size, 2, none⟩ = some (.slice a2 n2 c2) := by simp only [World.cell?, x1]; rfl
  clear hw ho hsm hc hn1 hn2 hpl hE hb1 x1 hV hlen hbs hle hcc hbt hpx hnb p0 hold
  go_enter Tryz.func27, Tryz.ntmps27
  go_wp2_with fail
  rw [← hw1]
  refine K.out.mono ?_
  rintro e w2 ⟨v2, rfl, hv2, hb2⟩
  obtain rfl := nil_of_errB hv2
  have B2 := hid (B1.out.trans (hb2.mono B1.out.size))
  have x2 : w2.heap[w.heap.size]? = some (.cells #[.slice a1 n1 c1, .int .i64 pl, .slice a2 n2 c2] 36 (0, 0)) := (hb2.block _ (lt_of_heap X1.out)).trans X1.out
  have f0 : w2.cell? ⟨w.heap.size, 0, none⟩ = some (.slice a1 n1 c1) := by simp only [World.cell?, x2]; rfl
  have g0 : w2.cell? ⟨p, 0, none⟩ = some (.slice ba nb bc) := by rw [B2.out.cell (lt_of_cell P0.out)]; exact P0.out
  clear hv2 hb2 hw1 d0 d1 d2 x2
  go_wp2_with (go_at_call 53; refine (K37.out w2 B2.out).mono ?_; rintro e w' ⟨rfl, hw'⟩; rw [hw']; clear hw')
  have K38d := hid (K38.out w2.drew B2.out.drew)
  go_region_held (fun w' => w'.cell? ⟨w.heap.size, 0, none⟩ = some (.slice a1 n1 c1) ∧ w'.cell? ⟨p, 0, none⟩ = some (.slice ba nb bc)) (go_keep) (first | (go_at_call 54; refine K38d.out.mono ?_; rintro e w3 ⟨rfl, q3, hq3⟩; have k0 : w3.cell? ⟨w.heap.size, 0, none⟩ = some (.slice a1 n1 c1) := (by rw [hq3]; exact f0); have k1 : w3.cell? ⟨p, 0, none⟩ = some (.slice ba nb bc) := (by rw [hq3]; exact g0); have HQ3 := hid hq3; clear hq3))
  have hb23 : Below w.heap.size w w3 := by rw [HQ3.out]; exact below_draws B2.out.drew q3
  have ho3 : w3.cell? ⟨3, 0, none⟩ = some (.iface 238 (.pointer (some (A 8)))) := by rw [hb23.cell (lt_of_cell OLD.out)]; exact OLD.out
  have B3 := hid hb23
  clear HQ3 k0 k1 hb23 f0 g0
  go_wp2_with fail
  first
    | (go_ret; exact ⟨_, _, rfl, B3.out⟩)
    | (go_region; go_wp2; go_ret; exact ⟨_, _, rfl, B3.out.drew⟩)
end Go.Proofs.YtefpnojanldkeaaGreatDoor
