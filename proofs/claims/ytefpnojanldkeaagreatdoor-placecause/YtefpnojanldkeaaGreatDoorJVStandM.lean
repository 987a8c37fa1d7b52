/- opsOn by its contract, where nothing is wrong; What standing makes of ops: plain mathematics, and the walk's relation. -/
import Derived.Test.YtefpnojanldkeaaGreatDoorJVRow
import Derived.Test.YtefpnojanldkeaaGreatDoorJVOnceM
import Derived.Test.YtefpnojanldkeaaGreatDoorJVOp
import Derived.Test.YtefpnojanldkeaaGreatDoorJVVec
import Derived.Test.YtefpnojanldkeaaGreatDoorJVMap
namespace Go.Proofs.YtefpnojanldkeaaGreatDoor
open Go.RowKit Go.Sort Go.Maps
set_option maxRecDepth 100000
set_option linter.unusedSectionVars false
variable [Inhabited ComV] [DecidableEq D3] [Inhabited D3] [Inhabited Dd] [Inhabited Dn] [Inhabited OpV]

/-- What opsOn hands back, where nothing is wrong. -/
def OpsRet (key : ByteArray) (l : List ComV) (w : World) (e : Ending) (w' : World) : Prop :=
  ∃ v xs, e = .returned (.tuple #[v, .nilIface]) ∧ RowD w' (w.heap.size + 1) v xs ∧ IsOps key l (xs.map Dd.abs) ∧ (∀ x ∈ xs, GoodD w' x) ∧ xs.length ≤ 1000000 ∧ Below w.heap.size w w'
theorem GoodD.mono {w w' : World} {x : Dd} {B : Nat} (h : GoodD w x) (hb : Below B w w') (hB : w.heap.size ≤ B) : GoodD w' x := DotsAt.mono h hb hB
theorem kind_cell {w : World} {g : Nat} {xs : List Dd} (h : HoldsK Dd.enc 11 w g 0 xs.toArray) (h0 : 0 < xs.length) : w.cell? ⟨g, 2, none⟩ = some (.int .i64 xs[0]!.kind) := by
  have := (holdsK_iff.1 h 0 (by simpa using h0) 2 (by omega)).1
  simpa [Dd.enc, h0] using this
theorem map_filter_abs (xs : List Dd) (p : Dn → Bool) : (xs.filter fun x => p x.abs).map Dd.abs = (xs.map Dd.abs).filter p := by
  rw [List.filter_map]
  rfl
theorem addDn_len (acc : List Dn) (d : Dn) : (addDn acc d).length ≤ acc.length + 1 := by unfold addDn; split <;> simp
theorem foldl_addDn_len (ds : List Dn) : ∀ (acc : List Dn), (ds.foldl addDn acc).length ≤ acc.length + ds.length := by
  induction ds with
  | nil => intro acc; simp
  | cons d r ih => intro acc; have h1 := ih (addDn acc d); have h2 := addDn_len acc d; simp only [List.foldl_cons, List.length_cons]; omega
theorem onceA_len (l : List ComV) (h : ∀ c ∈ l, c.ops.length ≤ 12) : (onceA l).length ≤ 12 * l.length := by
  unfold onceA
  suffices hh : ∀ (l : List ComV) (acc : List Dn), (∀ c ∈ l, c.ops.length ≤ 12) → (l.foldl addCom acc).length ≤ acc.length + 12 * l.length by simpa using hh l [] h
  intro l
  induction l with
  | nil => intro acc _; simp
  | cons c r ih =>
    intro acc h
    have h1 := ih (addCom acc c) (fun c hc => h c (List.mem_cons_of_mem _ hc))
    have h2 := foldl_addDn_len (c.ops.map (dnOf c)) acc
    have h3 := h c (List.mem_cons_self ..)
    simp only [List.length_map] at h2
    simp only [List.foldl_cons, List.length_cons]
    unfold addCom at h1 ⊢
    omega
theorem RowD.shape {w : World} {B : Nat} {v : Value} {xs : List Dd} (h : RowD w B v xs) : ∃ a c, v = .slice a xs.length c := by
  rcases h with ⟨rfl, rfl⟩ | ⟨g, cap, rfl, _⟩
  · exact ⟨_, _, rfl⟩
  · exact ⟨_, _, rfl⟩
theorem RowD.block {w : World} {B : Nat} {v : Value} {xs : List Dd} (h : RowD w B v xs) {g n c : Nat} (e : v = .slice (some ⟨g, 0, none⟩) n c) : B ≤ g ∧ g < w.heap.size := by
  rcases h with ⟨rfl, _⟩ | ⟨g', cap, rfl, h1, h2, _⟩
  · cases e
  · cases e; exact ⟨h1, h2⟩
/-- CheckName of a key that is one. -/
theorem checkName_ok (w : World) (key : ByteArray) (hk : nameB key = true) : Calls Tryz.prog 69 #[.string key] w fun e w' => e = .returned .nilIface ∧ w' = w := by
  have K32 := fun W => isName_any W key
  rw [hk] at K32
  go_enter Tryz.func69, Tryz.ntmps69
  go_wp2_with (go_at_call 83; refine (K32 _).mono ?_; rintro e w' ⟨rfl, rfl⟩)
  go_ret
  exact ⟨rfl, rfl⟩
set_option maxHeartbeats 4000000 in
theorem opsOn_ok (A : Nat → Addr) (w : World) (hE : E4 A w) (h4 : 12 ≤ w.heap.size) (key : ByteArray) (hk : nameB key = true) (v : Value) (l : List ComV) (hv : ComsAt w v l) (hl : l.length ≤ 1000) (hsm : ∀ c ∈ l, SmallC c) (hok : ∀ i, i < l.length → listBad l i = 0) :
    Calls Tryz.prog 84 #[.string key, v] w fun e w' => OpsRet key l w e w' := by
  have hco : ∀ i, i < l.length → ComOk l[i]! := fun i hi => comOk_of (by
    have := hok i hi
    unfold listBad at this
    split at this
    · rename_i h; exact absurd this h
    · rename_i h; simpa using h)
  have K32 := fun W => checkName_ok W key hk
  obtain ⟨w1, hw1⟩ : ∃ w1, w1 = w.alloc (.cells #[.string key] 9) := ⟨_, rfl⟩
  have b1 : Below w.heap.size w w1 := by rw [hw1]; exact below_alloc _ _
  have s1 : w1.heap.size = w.heap.size + 1 := by rw [hw1]; simp
  have c1 : w1.cell? ⟨w.heap.size, 0, none⟩ = some (.string key) := by rw [hw1]; simp
  have K53 := hid (checkList_ok A w1 (hE.below b1 h4) (by omega) v l (hv.mono b1 (Nat.le_refl _)) (by omega) hsm hok)
  have hE1 := hid (hE.below b1 h4)
  have hV1 := hid (hv.mono b1 (Nat.le_refl _))
  have HO := hid hco
  have HW1 := hid hw1
  have B1 := hid b1
  have S1 := hid s1
  have C1 := hid c1
  obtain ⟨a, n, cp, rfl⟩ : ∃ a n cp, v = .slice a n cp := by obtain ⟨a, cp, rfl, _⟩ := hv.shape; exact ⟨_, _, _, rfl⟩
  clear hco hk b1 s1 c1 hE hv hsm hok
  go_enter Tryz.func84, Tryz.ntmps84
  go_wp2_with (go_at_call 69; refine (K32 _).mono ?_; rintro e w' ⟨rfl, rfl⟩)
  rw [← hw1]
  clear hw1
  refine K53.out.mono ?_
  rintro e w2 ⟨rfl, h2⟩
  have K54 := once_any A w2 (hE1.out.below h2 (by have := S1.out; omega)) (by have := h2.size; have := S1.out; omega) (.slice a n cp) l (hV1.out.mono h2 (Nat.le_refl _)) hl HO.out
  have H2 := hid h2
  clear h2
  go_wp2_with fail
  refine K54.mono ?_
  rintro e w3 ⟨v, nn, rfl, hI⟩
  obtain ⟨xs, hrow, habs, hgood⟩ := hI.row
  have h2 := H2.out
  have s1 := S1.out
  have hs2 : w.heap.size + 1 ≤ w2.heap.size := by have := h2.size; omega
  have hR3 : RowD w3 (w2.heap.size + 1) v xs := rowD_of_owns hrow
  have hxl : xs.length ≤ 1000000 := by
    have h1 := onceA_len l (fun c hc => by obtain ⟨i, hi, rfl⟩ := List.getElem_of_mem hc; have := (HO.out i hi).few; rwa [getElem!_pos l i hi] at this)
    have h2 : xs.length = (onceA l).length := by rw [← habs]; simp
    omega
  have c3 : w3.cell? ⟨w.heap.size, 0, none⟩ = some (.string key) := by
    rw [hI.below.cell (p := ⟨w.heap.size, 0, none⟩) (by show w.heap.size < w2.heap.size; omega), h2.cell (p := ⟨w.heap.size, 0, none⟩) (by show w.heap.size < w1.heap.size; omega)]
    exact C1.out
  have K55 := deleteFunc_row w3 (w2.heap.size + 1) 106 w.heap.size (.string key) (fun x => !decide (x.key = key)) v xs (enters_of Tryz.func106 (by kernel_rfl) rfl) (fun W x h => keyNe W x w.heap.size key h) c3 hR3 (fun g n c e => by have := (hR3.block e).1; omega) hxl
  obtain ⟨av, cv, rfl⟩ := hR3.shape
  have b3 := hid hI.below
  have s3 := hid hI.size
  have HG := hid hgood
  have HAB := hid habs
  have HXL := hid hxl
  clear hI hrow habs hgood h2 s1 c3 hR3 hxl
  go_wp2_with fail
  refine K55.mono ?_
  rintro e w4 ⟨v4, rfl, hR4, hb4, _⟩
  simp only [Bool.not_not] at hR4
  have hx4 : (xs.filter fun x => decide (x.key = key)).length ≤ 1000000 := Nat.le_trans (List.length_filter_le _ _) HXL.out
  have K57 := sortFunc_row w4 (w2.heap.size + 1) v4 _ hR4 hx4
  obtain ⟨a4, c4, rfl⟩ := hR4.shape
  obtain ⟨n4, hn4⟩ : ∃ n4, n4 = (xs.filter fun x => decide (x.key = key)).length := ⟨_, rfl⟩
  rw [← hn4] at K57 ⊢
  have HN4 := hid hn4
  have hb4' := hid hb4
  clear K55 hR4 hb4 hn4 hx4
  go_wp2_with fail
  refine K57.mono ?_
  rintro e w5 ⟨rfl, ys, hperm, hpw, hR5, hb5⟩
  have hys : ys.length = n4 := by rw [HN4.out]; exact hperm.length_eq
  have B5 : Hid (Below w2.heap.size w2 w5) := (b3.out.trans (hb4'.out.mono (by omega))).trans (hb5.mono (by omega))
  have hord : InOrder key l (ys.map Dd.abs) := by
    refine ⟨?_, ?_⟩
    · rw [← HAB.out]
      exact (hperm.map Dd.abs).trans (List.Perm.of_eq (map_filter_abs xs (fun x => decide (x.o.key = key))))
    · rw [List.pairwise_map]
      exact hpw
  have HORD := hid hord
  have BW : Hid (Below w.heap.size w w2) := B1.out.trans (H2.out.mono (by have := S1.out; omega))
  have HPM := hid hperm
  have hyl : ys.length ≤ 1000000 := by rw [hperm.length_eq]; exact Nat.le_trans (List.length_filter_le _ _) HXL.out
  clear K57 K54 hpw hord hperm
  by_cases h0 : ys = []
  · subst h0
    have hn0 : n4 = 0 := by rw [← hys]; rfl
    subst hn0
    clear hys
    go_wp2
    go_ret2
    exact ⟨_, [], rfl, .inl ⟨rfl, rfl⟩, ⟨[], HORD.out, rfl⟩, fun x hx => by simp at hx, by simp, BW.out.trans (B5.out.mono (by omega))⟩
  · have hy0 : 0 < ys.length := List.length_pos_iff.2 h0
    rcases hR5 with ⟨_, h⟩ | ⟨g, cap, hve, hBg, hg5, hcap, hH⟩
    · exact absurd h h0
    · have hk := kind_cell hH hy0
      have hR5 : RowD w5 (w2.heap.size + 1) (.slice (some ⟨g, 0, none⟩) ys.length cap) ys := .inr ⟨g, cap, rfl, hBg, hg5, hcap, hH⟩
      obtain ⟨kd, hkd⟩ : ∃ kd, kd = ys[0]!.kind := ⟨_, rfl⟩
      rw [← hkd] at hk
      have hRk : RowD (w5.alloc (.cells #[.int .i64 kd] 3)) (w2.heap.size + 1) (.slice (some ⟨g, 0, none⟩) ys.length cap) ys := .inr ⟨g, cap, rfl, hBg, by simp; omega, hcap, holdsK_below hH (below_alloc _ _) hg5⟩
      have K55 := deleteFunc_row (w5.alloc (.cells #[.int .i64 kd] 3)) (w2.heap.size + 1) 112 w5.heap.size (.int .i64 kd) (fun x => !decide (x.kind = kd)) _ ys (enters_of Tryz.func112 (by kernel_rfl) rfl) (fun W x h => kindNe W x w5.heap.size kd h) (by simp) hRk (fun g' n' c' e => by cases e; omega) hyl
      rw [hys] at hve K55
      cases hve
      have hn0 : ((n4 : Int) == 0) = false := by rw [beq_eq_false_iff_ne]; omega
      have hp4 : 0 < n4 := by omega
      have HKD := hid hkd
      have HYS := hid hys
      clear hR5 hRk hH hkd hys
      go_wp2_with fail
      refine K55.mono ?_
      rintro e w6 ⟨v6, rfl, hR6, hb6, _⟩
      simp only [Bool.not_not] at hR6
      have HR6 := hid hR6
      have HB6 := hid hb6
      clear K55 hR6 hb6
      go_wp2
      go_ret2
      have B6 : Below w2.heap.size w2 w6 := (B5.out.alloc (by omega) _).trans (HB6.out.mono (by omega))
      refine ⟨_, _, rfl, HR6.out.mono (by omega), ⟨_, HORD.out, ?_⟩, fun x hx => ?_, Nat.le_trans (List.length_filter_le _ _) hyl, BW.out.trans (B6.mono (by omega))⟩
      · unfold ofKind
        have e0 : (ys.map Dd.abs)[0]!.o.kind = kd := by
          rw [HKD.out, getElem!_pos (ys.map Dd.abs) 0 (by simpa using hy0), getElem!_pos ys 0 hy0, List.getElem_map]
          rfl
        rw [e0]
        exact map_filter_abs ys (fun x => decide (x.o.kind = kd))
      · have h1 := (List.mem_filter.1 hx).1
        have h2 := (List.mem_filter.1 (HPM.out.mem_iff.1 h1)).1
        exact (HG.out x h2).mono B6 (Nat.le_refl _)
end Go.Proofs.YtefpnojanldkeaaGreatDoor
namespace Go.Proofs.YtefpnojanldkeaaGreatDoor
open Go.RowKit Go.Maps
set_option linter.unusedSectionVars false
variable [Inhabited ComV] [DecidableEq D3] [Inhabited D3] [Inhabited Dd] [Inhabited Dn] [Inhabited OpV]

theorem Tryz.underlying3 : Tryz.prog.underlying 3 = some (.int .i64) := by kernel_rfl
theorem Tryz.zero3 (w : World) : (zeroValue 3).run Tryz.prog w = .ok (.int .i64 0) w := by kernel_rfl
theorem idxE_mk (k : Nat) (h : k ≤ 100000) : plainElem (H := Unit) Tryz.prog 3 (.int .i64 k) = some (.lit (.int .i64 k), []) := plainElem_int Tryz.underlying3 (WalkArith.wf_i64 (by omega))
def upd (M : D3 → Option ByteArray) (d : D3) (t : Option ByteArray) : D3 → Option ByteArray := fun e => if e = d then t else M e
def updI (I : D3 → Option Nat) (d : D3) (t : Option Nat) : D3 → Option Nat := fun e => if e = d then t else I e
/-- The map reads as I: where the ops are. -/
def IdxIs (D : DataW Unit) (I : D3 → Option Nat) : Prop := ∀ d, wf3 d → Maps.has D (klD d) = (I d).isSome ∧ D.atKey (klD d) (.lit (.int .i64 0)) = .lit (.int .i64 ((I d).getD 0 : Nat))
theorem IdxIs.start : IdxIs (.map []) (fun _ => none) := fun _ _ => ⟨rfl, rfl⟩
theorem IdxIs.put {D : DataW Unit} {I : D3 → Option Nat} (h : IdxIs D I) (hD : IsMap D) {d : D3} (hd : wf3 d) (t : Nat) : IdxIs (D.put (klD d) (.lit (.int .i64 t))) (updI I d (some t)) := fun e he => by
  unfold updI
  by_cases q : e = d
  · subst q
    rw [if_pos rfl, has_put_same hD (klD_key _), atKey_put_same hD (klD_key _)]
    exact ⟨rfl, rfl⟩
  · rw [if_neg q, has_put_other (fun x => q (klD_inj he hd x)), atKey_put_other (fun x => q (klD_inj he hd x))]
    exact h e he
theorem IdxIs.del {D : DataW Unit} {I : D3 → Option Nat} (h : IdxIs D I) {d : D3} (hd : wf3 d) : IdxIs (D.del (klD d)) (updI I d none) := fun e he => by
  unfold updI
  by_cases q : e = d
  · subst q
    rw [if_pos rfl, has_del_same, atKey_del_same]
    exact ⟨rfl, rfl⟩
  · rw [if_neg q, has_del_other (fun x => q (klD_inj he hd x)), atKey_del_other (fun x => q (klD_inj he hd x))]
    exact h e he
/-- The texts, by the places. -/
def TextsBy (xs : List Dd) (I : D3 → Option Nat) (M : D3 → Option ByteArray) : Prop := ∀ d, M d = (I d).map (fun i => xs[i]!.text) ∧ ∀ i, I d = some i → i < xs.length
theorem TextsBy.put {xs : List Dd} {I : D3 → Option Nat} {M : D3 → Option ByteArray} (h : TextsBy xs I M) (d : D3) {k : Nat} (hk : k < xs.length) {t : ByteArray} (ht : xs[k]!.text = t) : TextsBy xs (updI I d (some k)) (upd M d (some t)) := fun e => by
  unfold updI upd
  by_cases q : e = d
  · rw [if_pos q, if_pos q]
    exact ⟨by rw [← ht]; rfl, fun i hi => by cases hi; exact hk⟩
  · rw [if_neg q, if_neg q]
    exact h e
theorem TextsBy.del {xs : List Dd} {I : D3 → Option Nat} {M : D3 → Option ByteArray} (h : TextsBy xs I M) (d : D3) : TextsBy xs (updI I d none) (upd M d none) := fun e => by
  unfold updI upd
  by_cases q : e = d
  · rw [if_pos q, if_pos q]
    exact ⟨rfl, fun i hi => by cases hi⟩
  · rw [if_neg q, if_neg q]
    exact h e
/-- An op that adds puts its text at its dot. -/
def addStep (M : D3 → Option ByteArray) (x : Dn) : D3 → Option ByteArray := if x.o.rem = true then M else upd M x.dot (some x.o.text)
/-- A dot that is named goes, if its text is the one. -/
def delStep (t : ByteArray) (M : D3 → Option ByteArray) (d : D3) : D3 → Option ByteArray := if (M d).getD ByteArray.empty = t then upd M d none else M
theorem delStep_none {t : ByteArray} {M : D3 → Option ByteArray} {d : D3} (h : M d = none) : delStep t M d = M := by
  unfold delStep
  split
  · funext e
    unfold upd
    split
    · rename_i q; rw [q, h]
    · rfl
  · rfl
def remStep (M : D3 → Option ByteArray) (y : Dn) : D3 → Option ByteArray := y.o.dots.foldl (delStep y.o.text) M
def finalMap (ds : List Dn) : D3 → Option ByteArray := ds.foldl remStep (ds.foldl addStep fun _ => none)
/-- The ops that add, and that no op takes away. -/
def standA (ds : List Dn) : List Dn := ds.filter fun x => (finalMap ds x.dot).isSome
theorem foldl_take_succ {α β : Type} [Inhabited α] (f : β → α → β) (b : β) (l : List α) {k : Nat} (h : k < l.length) : (l.take (k + 1)).foldl f b = f ((l.take k).foldl f b) l[k]! := by
  rw [List.take_succ_eq_append_getElem h, List.foldl_append, getElem!_pos l k h]
  rfl
theorem map_get_abs (xs : List Dd) {k : Nat} (h : k < xs.length) : (xs.map Dd.abs)[k]! = xs[k]!.abs := by
  rw [getElem!_pos _ k (by simpa using h), getElem!_pos xs k h, List.getElem_map]
structure StInv (xs : List Dd) (w wr : World) (M : D3 → Option ByteArray) (n : Nat) : Prop where
  map : ∃ (D : DataW Unit) (I : D3 → Option Nat), wr.ownsMap Tryz.prog 90 (plainElem Tryz.prog 3) w.heap.size n D ∧ IdxIs D I ∧ TextsBy xs I M
  below : Below w.heap.size w wr
  size : w.heap.size + 1 ≤ wr.heap.size
section
variable {xs : List Dd}
theorem StInv.start (w : World) : StInv xs w (w.alloc (.map #[] 0)) (fun _ => none) 0 where
  map := ⟨.map [], fun _ => none, World.ownsMap_made _ _ _ _, IdxIs.start, fun _ => ⟨rfl, fun i hi => by cases hi⟩⟩
  below := below_alloc _ _
  size := by simp
theorem StInv.alloc {w wr : World} {M : D3 → Option ByteArray} {n : Nat} (h : StInv xs w wr M n) (o : Obj) : StInv xs w (wr.alloc o) M n where
  map := let ⟨D, I, h1, h2⟩ := h.map; ⟨D, I, h1.alloc o, h2⟩
  below := h.below.alloc (by have := h.size; omega) o
  size := by have := h.size; simp; omega
theorem StInv.draw {w wr : World} {M : D3 → Option ByteArray} {n : Nat} (h : StInv xs w wr M n) (q : Nat) : StInv xs w (wr.drewN q) M n where
  map := h.map
  below := below_draws h.below q
  size := h.size
theorem StInv.mono {w wr : World} {M : D3 → Option ByteArray} {n n' : Nat} (h : StInv xs w wr M n) (hn : n ≤ n') : StInv xs w wr M n' where
  map := let ⟨D, I, h1, h2⟩ := h.map; ⟨D, I, h1.mono hn, h2⟩
  below := h.below
  size := h.size
theorem StInv.turned {w wr w1 : World} {M M' : D3 → Option ByteArray} {n n' : Nat} {D : DataW Unit} {I : D3 → Option Nat} (h : StInv xs w wr M n) (hg : wr.grownBy w1 (some w.heap.size)) (hm : w1.ownsMap Tryz.prog 90 (plainElem Tryz.prog 3) w.heap.size n' D) (hI : IdxIs D I) (hM : TextsBy xs I M') : StInv xs w w1 M' n' where
  map := ⟨D, I, hm, hI, hM⟩
  below := h.below.grown hg (by have := h.size; omega) (fun j hj => by cases hj; exact Nat.le_refl _)
  size := Nat.le_trans h.size hg.size
/-- Another block than the map's has turned. -/
theorem StInv.beside {w wr w1 : World} {M : D3 → Option ByteArray} {n : Nat} {r : Option Nat} (h : StInv xs w wr M n) (hg : wr.grownBy w1 r) (hr : ∀ j, r = some j → w.heap.size + 1 ≤ j) : StInv xs w w1 M n where
  map := let ⟨D, I, h1, h2⟩ := h.map; ⟨D, I, h1.kept hg (fun e => by have := hr _ e.symm; omega), h2⟩
  below := h.below.grown hg (by have := h.size; omega) (fun j hj => by have := hr _ hj; omega)
  size := Nat.le_trans h.size hg.size
end
end Go.Proofs.YtefpnojanldkeaaGreatDoor
