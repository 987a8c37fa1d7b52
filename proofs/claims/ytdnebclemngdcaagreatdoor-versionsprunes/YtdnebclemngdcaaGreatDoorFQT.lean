/- withoutSpentRemoves by its contract: what is added; Parts that a store holds in blocks of their own: what stands while settle goes on; Two rows that are built side by side; copyParts: where its copies stand; copyParts by its contract; vector.Most by its contract; A store whose parts all lie in blocks of their own; Copy by its contract: the loop over the keys. -/
import Derived.Test.YtdnebclemngdcaaGreatDoorFQI0
import Derived.Test.YtdnebclemngdcaaGreatDoorFVTurnM
import Derived.Test.YtdnebclemngdcaaGreatDoorFWPart
import Derived.Test.YtdnebclemngdcaaGreatDoorFVOfRE
import Derived.Maps.AppendAt
import Derived.Test.YtdnebclemngdcaaGreatDoorFQD
import Derived.Test.YtdnebclemngdcaaGreatDoorFWSeen
import Derived.Deep.RegionHeld
import Derived.WalkLawsBesides
import Derived.Deep.RegionWith
import Derived.Test.YtdnebclemngdcaaGreatDoorFWReadB
import Derived.Maps.RangeWalk
namespace Go.Proofs.YtdnebclemngdcaaGreatDoor
open Go.RowKit Go.Maps
set_option maxRecDepth 100000
set_option linter.unusedSectionVars false
variable [Inhabited ComV] [DecidableEq D3] [Inhabited D3] [Inhabited Dd] [Inhabited Dn] [Inhabited OpV]

/-- All that these add. -/
def addsT (E : Nat → OpV) (l : List Rp) : List (D3 × ByteArray) := (l.filter (isAddQ E)).map fun r => (dotR E r, (E r.g).text)
theorem addsT_snoc (E : Nat → OpV) {l : List Rp} {k : Nat} {r : Rp} (h : l[k]? = some r) : addsT E (l.take (k + 1)) = addsT E (l.take k) ++ (if isAddQ E r then [(dotR E r, (E r.g).text)] else []) := by
  unfold addsT
  rw [take_snocQ h, List.filter_append, List.map_append]
  congr 1
  by_cases hr : isAddQ E r = true
  · simp [hr]
  · simp [hr]
def accQ (E : Nat → OpV) (rs os : List Rp) : Nat → List (D3 × ByteArray)
  | 0 => []
  | 1 => addsT E rs
  | _ => addsT E rs ++ addsT E os
theorem OffHeap {w w' : World} {mb n : Nat} {T : List (D3 × ByteArray)} (h : TgtAt w mb n T) (hg : w.grownBy w' (some mb)) {b : Nat} {cs : Array Value} {t : TypeId} (hb : w.heap[b]? = some (.cells cs t (0, 0))) : w'.heap[b]? = some (.cells cs t (0, 0)) := by
  rw [hg.block _ (lt_of_heapQ hb) fun e => h.ne hb (Option.some.inj e)]; exact hb
/-- What is asked of the parts of both lists. -/
structure BothOk (w : World) (E : Nat → OpV) (D : Nat → Value) (l : List Rp) : Prop where
  ops : OpsM w l E D
  dots : ∀ r ∈ l, DotsO w (D r.g) (E r.g).dots
  fit : ∀ r ∈ l, OpFit (E r.g)
  vec : ∀ r ∈ l, RpFit w E r
theorem wf_kept {w w' : World} {E : Nat → OpV} {r : Rp} (h : RpFit w E r) (hb : Below w.heap.size w w') : RpFit w' E r := ⟨h.ints.mono hb (Nat.le_refl _), h.lo, h.hi, h.wf⟩
/-- Behind the first loop. -/
structure AddW (w w0 : World) (mb n : Nat) (T : List (D3 × ByteArray)) (wr : World) : Prop where
  inv : TInv w mb T n wr
  grown : w0.grownBy wr (some mb)
theorem AddW.moved {w w0 wr w' : World} {mb n : Nat} {T : List (D3 × ByteArray)} (h : AddW w w0 mb n T wr) (hb : Below wr.heap.size wr w') : AddW w w0 mb n T w' := ⟨h.inv.moved hb, grown_transQ h.grown (grown_belowQ _ hb)⟩
theorem alloc4 (w : World) (a b c d : Obj) : ((((w.alloc a).alloc b).alloc c).alloc d).heap.size = w.heap.size + 1 + 1 + 1 + 1 ∧ ((((w.alloc a).alloc b).alloc c).alloc d).heap[w.heap.size]? = (w.alloc a).heap[w.heap.size]? ∧ ((((w.alloc a).alloc b).alloc c).alloc d).heap[w.heap.size + 1 + 1]? = (((w.alloc a).alloc b).alloc c).heap[w.heap.size + 1 + 1]? := by
  refine ⟨by simp, ?_, ?_⟩
  · rw [(MapKept.heap_alloc _ _).2 _ (by simp; omega), (MapKept.heap_alloc _ _).2 _ (by simp; omega), (MapKept.heap_alloc _ _).2 _ (by simp)]
  · rw [(MapKept.heap_alloc _ _).2 _ (by simp)]
/-- A part more in the row: the rest is as it was. -/
theorem spent_app {f : OpV → List D3} {w w6 W' : World} {rs : List Rp} {E : Nat → OpV} {D Dk : Nat → Value} {k kv ka mb n m : Nat} {v : Value} {xs : List Value} {T : List (D3 × ByteArray)} {c1 c2 : Array Value} (hr : w6.ownsRow w.heap.size 34 3 v m xs) (hs : SpW f w rs E D k Dk w6) (h1 : w6.heap[kv]? = some (.cells c1 26 (0, 0))) (h2 : w6.heap[ka]? = some (.cells c2 154 (0, 0))) (hT : TgtAt w6 mb n T) (o : Obj) (hg : (w6.alloc o).grownBy W' v.ownBlock) :
    SpW f w rs E D k Dk W' ∧ W'.heap[kv]? = some (.cells c1 26 (0, 0)) ∧ W'.heap[ka]? = some (.cells c2 154 (0, 0)) ∧ TgtAt W' mb n T := by
  have hb := below_alloc w6 o
  have hr' := owns_belowQ hr hb
  have keep : ∀ {i : Nat} {p : Obj}, w6.heap[i]? = some p → (∀ cs, p ≠ .cells cs 34 (0, 0)) → W'.heap[i]? = some p := fun {i p} hi hp => by
    have hi' := (hb.block _ (lt_of_heapQ hi)).trans hi
    rw [hg.block _ (lt_of_heapQ hi') fun e => by
      obtain ⟨cs, hcs⟩ := own_type hr' e.symm
      rw [hi'] at hcs
      exact hp cs (Option.some.inj hcs)]
    exact hi'
  refine ⟨⟨fun q hq => keep (hs.ops q hq) (fun cs e => by injection e with _ e; cases e), fun q hq => (hs.dots q hq).kept fun b hbq => ?_, hs.own, ?_⟩, keep h1 (fun cs e => by injection e with _ e; cases e), keep h2 (fun cs e => by injection e with _ e; cases e), ?_⟩
  · obtain ⟨cs, hcs⟩ := (hs.dots q hq).block hbq
    rw [keep hcs (fun cs e => by injection e with _ e; cases e), hcs]
  · refine ⟨hg.os.trans hs.off.os, hg.tape.trans hs.off.tape, hg.output.trans hs.off.output, Nat.le_trans hs.off.size (Nat.le_trans hb.size hg.size), fun i hi hn => ?_⟩
    have hi6 : i < w6.heap.size := Nat.lt_of_lt_of_le hi hs.off.size
    rw [hg.block i (Nat.lt_of_lt_of_le hi6 hb.size) fun e => by have := (hr'.lt i e.symm).1; omega, hb.block i hi6, hs.off.block i hi hn]
  · refine (hT.below hb).kept hg fun e => ?_
    obtain ⟨cs, hcs⟩ := own_type hr' e.symm
    exact (hT.below hb).ne hcs rfl
/-- The dots that an op keeps. -/
def keepD (V : D3 → Bool) (T : List (D3 × ByteArray)) (o : OpV) : List D3 := o.dots.filter fun d => !spB V T o.text d
def spQ (V : D3 → Bool) (T : List (D3 × ByteArray)) (E : Nat → OpV) (i : Nat) (r : Rp) : Bool := decide (i = 0) || (!(E r.g).rem || decide (keepD V T (E r.g) ≠ []))
/-- What withoutSpentRemoves hands back. -/
def SpentRet (V : D3 → Bool) (T : List (D3 × ByteArray)) (rs : List Rp) (E : Nat → OpV) (D : Nat → Value) (w : World) (e : Ending) (w' : World) : Prop := ∃ v D', e = .returned v ∧ RowR w' w.heap.size v (keepL (spQ V T E) 0 rs) ∧ SpW (keepD V T) w rs E D rs.length D' w'
end Go.Proofs.YtdnebclemngdcaaGreatDoor
namespace Go.Proofs.YtdnebclemngdcaaGreatDoor
open Go.RowKit Go.Maps Go.Sort
set_option maxRecDepth 100000
set_option linter.unusedSectionVars false
variable [Inhabited ComV] [DecidableEq D3] [Inhabited D3] [Inhabited Dd] [Inhabited Dn] [Inhabited OpV]

/-- What is known of a part, of its memory aside. -/
structure PF (E : Nat → OpV) (nb : Nat) (r : Rp) : Prop where
  ok : ComOk (absR E r)
  len : r.wn.length = nb
  text : (E r.g).text.size ≤ 1000
structure PO (w : World) (E : Nat → OpV) (D : Nat → Value) (nb : Nat) (rs : List Rp) : Prop where
  ops : OpsM w rs E D
  dots : ∀ r ∈ rs, DotsO w (D r.g) (E r.g).dots
  ints : ∀ r ∈ rs, IntsT w (.slice r.wa r.wn.length r.wc) r.wn
  pf : ∀ r ∈ rs, PF E nb r
theorem PF.err {E : Nat → OpV} {nb : Nat} {r : Rp} (h : PF E nb r) : opErr (E r.g) r.wn.length = 0 := opErr_of_bad (os := [E r.g]) (i := 0) (h.ok.ops 0 (by simp [absR]))
theorem PF.fit {E : Nat → OpV} {nb : Nat} {r : Rp} (h : PF E nb r) : OpFit (E r.g) := by
  obtain ⟨_, _, _, h4, h5⟩ := opOk h.err
  exact ⟨h4, h5, h.text⟩
theorem PF.wf {E : Nat → OpV} {nb : Nat} {r : Rp} (h : PF E nb r) : wf3 (dotR E r) := (dnOf_ok h.ok (o := E r.g) (by simp [absR])).dot
theorem PO.below {w w' : World} {E : Nat → OpV} {D : Nat → Value} {nb : Nat} {rs : List Rp} (h : PO w E D nb rs) (hb : Below w.heap.size w w') : PO w' E D nb rs := ⟨h.ops.below hb, fun r hr => (h.dots r hr).below hb, fun r hr => RowT.kept (h.ints r hr) (keepT_below hb (Nat.le_refl _)), h.pf⟩
theorem PO.sub {w : World} {E : Nat → OpV} {D : Nat → Value} {nb : Nat} {rs rs' : List Rp} (h : PO w E D nb rs) (hs : ∀ r ∈ rs', r ∈ rs) : PO w E D nb rs' := ⟨h.ops.sub hs, fun r hr => h.dots r (hs r hr), fun r hr => h.ints r (hs r hr), fun r hr => h.pf r (hs r hr)⟩
theorem PO.both {w : World} {E : Nat → OpV} {D : Nat → Value} {nb : Nat} {rs : List Rp} (h : PO w E D nb rs) : BothOk w E D rs := ⟨h.ops, h.dots, fun r hr => (h.pf r hr).fit, fun r hr => ⟨(h.ints r hr).at, (h.pf r hr).ok.lo, (h.pf r hr).ok.hi, (h.pf r hr).wf⟩⟩
theorem PO.cmp {w : World} {E : Nat → OpV} {D : Nat → Value} {nb : Nat} {rs : List Rp} (h : PO w E D nb rs) : ∀ r ∈ rs, CmpFit w E nb r := fun r hr => ⟨(h.ints r hr).at, (h.pf r hr).ok.chk, (h.pf r hr).len, (h.pf r hr).ok.lo, (h.pf r hr).ok.hi, (opC_all (h.ops r hr)).1⟩
/-- Only blocks of rows of parts have turned. -/
theorem PO.rows {w w' : World} {E : Nat → OpV} {D : Nat → Value} {nb : Nat} {rs : List Rp} {G : List Nat} (h : PO w E D nb rs) (ho : Off G w w') (hG : ∀ b ∈ G, ∃ cs, w.heap[b]? = some (.cells cs 34 (0, 0))) : PO w' E D nb rs := by
  have keep : ∀ {b : Nat} {cs : Array Value} {t : TypeId}, w.heap[b]? = some (.cells cs t (0, 0)) → t ≠ 34 → w'.heap[b]? = w.heap[b]? := fun {b cs t} hb ht => ho.block _ (lt_of_heapQ hb) fun hm => by
    obtain ⟨cs', h'⟩ := hG b hm
    rw [hb] at h'
    injection h' with h'
    injection h' with _ h'
    exact ht h'
  refine ⟨fun r hr => by rw [keep (h.ops r hr) (by decide)]; exact h.ops r hr, fun r hr => (h.dots r hr).kept fun b hb => ?_, fun r hr => RowT.kept (h.ints r hr) fun b cs hb => keep hb (by decide), h.pf⟩
  obtain ⟨cs, hcs⟩ := (h.dots r hr).block hb
  exact keep hcs (by decide)
theorem opErr_n {o : OpV} {m : Int} (h : opErr o m = 0) (n : Int) (hk : o.kind = 2) (hn : -1099511627776 ≤ n ∧ n ≤ 1099511627776) : opErr { o with n := n } m = 0 := by
  unfold opErr at h ⊢
  split at h
  · exact absurd h (by decide)
  · rename_i h1
    split at h
    · exact absurd h (by decide)
    · rename_i h2
      split at h
      · exact absurd h (by decide)
      · rename_i h3
        split at h
        · exact absurd h (by decide)
        · rename_i h4
          split at h
          · exact absurd h (by decide)
          · rename_i h5
            split at h
            · exact absurd h (by decide)
            · rename_i h6
              rw [if_neg h1, if_neg h2, if_neg h3, if_neg ?_, if_neg ?_, if_neg h6]
              · simp only
                omega
              · intro hf
                apply h4
                unfold foreignB at hf ⊢
                simp only [hk] at hf ⊢
                exact hf
theorem opErr_dots {o : OpV} {m : Int} (h : opErr o m = 0) (p : D3 → Bool) : opErr { o with dots := o.dots.filter p } m = 0 := by
  have hl : (o.dots.filter p).length ≤ o.dots.length := List.length_filter_le _ _
  unfold opErr at h ⊢
  split at h
  · exact absurd h (by decide)
  · rename_i h1
    split at h
    · exact absurd h (by decide)
    · rename_i h2
      split at h
      · exact absurd h (by decide)
      · rename_i h3
        split at h
        · exact absurd h (by decide)
        · rename_i h4
          split at h
          · exact absurd h (by decide)
          · rename_i h5
            split at h
            · exact absurd h (by decide)
            · rename_i h6
              rw [if_neg h1, if_neg h2, if_neg h3, if_neg ?_, if_neg ?_, if_neg ?_]
              · intro hf
                apply h6
                rw [List.all_eq_false] at hf ⊢
                obtain ⟨x, hx, hxb⟩ := hf
                exact ⟨x, (List.mem_filter.1 hx).1, hxb⟩
              · simp only
                omega
              · intro hf
                apply h4
                unfold foreignB at hf ⊢
                have hz : 0 < (o.dots.filter p).length → 0 < o.dots.length := fun x => by omega
                simp only at hf ⊢
                split
                · rename_i hk
                  rw [if_pos hk] at hf
                  simp only [Bool.or_eq_true, decide_eq_true_eq, Bool.not_eq_true', decide_eq_false_iff_not] at hf ⊢
                  rcases hf with hf | hf | hf
                  · exact .inl hf
                  · exact .inr (.inl hf)
                  · exact .inr (.inr (hz hf))
                · rename_i hk
                  rw [if_neg hk] at hf
                  split
                  · rename_i hk2
                    rw [if_pos hk2] at hf
                    simp only [Bool.or_eq_true, decide_eq_true_eq, Bool.not_eq_true', decide_eq_false_iff_not] at hf ⊢
                    rcases hf with hf | hf | hf
                    · exact .inl hf
                    · exact .inr (.inl hf)
                    · exact .inr (.inr (hz hf))
                  · rename_i hk2
                    rw [if_neg hk2] at hf
                    simp only [Bool.or_eq_true, Bool.and_eq_true, decide_eq_true_eq, Bool.not_eq_true', decide_eq_false_iff_not] at hf ⊢
                    rcases hf with hf | hf
                    · exact .inl hf
                    · exact .inr ⟨hf.1, hz hf.2⟩
/-- Another op in the same part, as good. -/
theorem comOk_swap {E E' : Nat → OpV} {r : Rp} (h : ComOk (absR E r)) (he : opErr (E' r.g) r.wn.length = 0) : ComOk (absR E' r) := by
  refine ⟨h.chk, h.lo, h.hi, h.time, by simp [absR], by simp [absR], fun i hi => ?_⟩
  obtain rfl : i = 0 := by simp [absR] at hi; exact hi
  unfold opBad
  have : opErr (absR E' r).ops[0]! (absR E' r).when_.length = 0 := he
  rw [this]
  simp
/-- What an op keeps while counters are summed. -/
theorem sumE_rest (E : Nat → OpV) (rs : List Rp) : ∀ g, (sumQ E rs).E g = E g ∨ (E g).kind = 2 ∧ g ∈ rs.map (·.g) ∧ ∃ n, sumB n = true ∧ (sumQ E rs).E g = { E g with n := n } := by
  have key : ∀ k, k ≤ rs.length → (∀ s, (sumQ E (rs.take k)).sum = some s → (E s).kind = 2 ∧ s ∈ rs.map (·.g)) ∧ ∀ g, (sumQ E (rs.take k)).E g = E g ∨ (E g).kind = 2 ∧ g ∈ rs.map (·.g) ∧ ∃ n, sumB n = true ∧ (sumQ E (rs.take k)).E g = { E g with n := n } := by
    intro k
    induction k with
    | zero => intro _; exact ⟨fun s hs => by simp [sumQ] at hs, fun g => .inl (by simp [sumQ])⟩
    | succ k ih =>
      intro hk
      obtain ⟨h1, h2⟩ := ih (by omega)
      obtain ⟨r, hr⟩ := some_of_lt (l := rs) (k := k) (by omega)
      have hmem : r.g ∈ rs.map (·.g) := List.mem_map.2 ⟨r, List.mem_of_getElem? hr, rfl⟩
      rw [sumQ_snoc E hr]
      obtain ⟨st, hst⟩ : ∃ st, st = sumQ E (rs.take k) := ⟨_, rfl⟩
      rw [← hst] at h1 h2 ⊢
      have kd : ∀ g, (st.E g).kind = (E g).kind := fun g => by
        rcases h2 g with e | ⟨_, _, n, _, e⟩
        · rw [e]
        · rw [e]
      by_cases hk2 : (st.E r.g).kind = 2
      · have hkr : (E r.g).kind = 2 := by rw [← kd]; exact hk2
        cases hs : st.sum with
        | none =>
          rw [stepQ_first hk2 hs]
          exact ⟨fun s hs' => by cases hs'; exact ⟨hkr, hmem⟩, h2⟩
        | some s =>
          by_cases hb : sumB ((st.E s).n + (st.E r.g).n) = true
          · rw [stepQ_sum hk2 hs hb]
            refine ⟨fun t ht => by cases ht; exact h1 _ hs, fun g => ?_⟩
            by_cases e : g = s
            · subst e
              refine .inr ⟨(h1 _ hs).1, (h1 _ hs).2, _, hb, ?_⟩
              show updE st.E g _ g = _
              rw [updE_same]
              rcases h2 g with e | ⟨_, _, n, _, e⟩
              · rw [e]
              · rw [e]
            · dsimp only
              rw [updE_other _ _ e]
              exact h2 g
          · rw [stepQ_full hk2 hs hb]
            exact ⟨fun s hs' => by cases hs'; exact ⟨hkr, hmem⟩, h2⟩
      · rw [stepQ_other hk2]
        exact ⟨h1, h2⟩
  have := (key rs.length (Nat.le_refl _)).2
  rwa [List.take_length] at this
theorem sumQ_sub (E : Nat → OpV) (rs : List Rp) : (sumQ E rs).kept.Sublist rs := by
  have key : ∀ k, k ≤ rs.length → (sumQ E (rs.take k)).kept.Sublist (rs.take k) := by
    intro k
    induction k with
    | zero => intro _; simp [sumQ]
    | succ k ih =>
      intro hk
      obtain ⟨r, hr⟩ := some_of_lt (l := rs) (k := k) (by omega)
      have h1 := ih (by omega)
      have ht := take_snocQ hr
      rw [sumQ_snoc E hr, ht]
      unfold stepQ
      split
      · split
        · exact h1.append (List.Sublist.refl _)
        · split
          · exact h1.trans (List.sublist_append_left _ _)
          · exact h1.append (List.Sublist.refl _)
      · exact h1.append (List.Sublist.refl _)
  have := key rs.length (Nat.le_refl _)
  rwa [List.take_length] at this
/-- Counters are summed: all parts stand. -/
theorem PO.summed {w w' : World} {E : Nat → OpV} {D : Nat → Value} {nb : Nat} {rs all : List Rp} {v : Value} (h : PO w E D nb all) (hs : ∀ r ∈ rs, r ∈ all) (hw : SumW w rs D (sumQ E rs) v w') : PO w' (sumQ E rs).E D nb all := by
  have e0 : ∀ g, g ∉ rs.map (·.g) → (sumQ E rs).E g = E g := fun g hg => by
    rcases sumE_rest E rs g with e | ⟨_, hm, _⟩
    · exact e
    · exact absurd hm hg
  have dt : ∀ g, ((sumQ E rs).E g).dots = (E g).dots := fun g => by
    rcases sumE_rest E rs g with e | ⟨_, _, n, _, e⟩ <;> rw [e]
  have tx : ∀ g, ((sumQ E rs).E g).text = (E g).text := fun g => by
    rcases sumE_rest E rs g with e | ⟨_, _, n, _, e⟩ <;> rw [e]
  have nG : ∀ {b : Nat} {cs : Array Value} {t : TypeId}, w.heap[b]? = some (.cells cs t (0, 0)) → t ≠ 76 → w'.heap[b]? = w.heap[b]? := fun {b cs t} hb ht => hw.off.block _ (lt_of_heapQ hb) fun hm => by
    obtain ⟨q, hq, e⟩ := List.mem_map.1 hm
    have := h.ops q (hs q hq)
    rw [e, hb] at this
    injection this with this
    injection this with _ this
    exact ht this
  refine ⟨fun r hr => ?_, fun r hr => ?_, fun r hr => RowT.kept (h.ints r hr) fun b cs hb => nG hb (by decide), fun r hr => ?_⟩
  · by_cases hm : r.g ∈ rs.map (·.g)
    · obtain ⟨q, hq, e⟩ := List.mem_map.1 hm
      rw [← e]; exact hw.ops q hq
    · rw [hw.off.block _ (lt_of_heapQ (h.ops r hr)) hm, e0 _ hm]; exact h.ops r hr
  · rw [dt]
    refine (h.dots r hr).kept fun b hb => ?_
    obtain ⟨cs, hcs⟩ := (h.dots r hr).block hb
    exact nG hcs (by decide)
  · have hp := h.pf r hr
    refine ⟨comOk_swap hp.ok ?_, hp.len, by rw [tx]; exact hp.text⟩
    rcases sumE_rest E rs r.g with e | ⟨hk, _, n, hn, e⟩
    · rw [e]; exact hp.err
    · rw [e]; exact opErr_n hp.err n hk (sumB_of hn)
end Go.Proofs.YtdnebclemngdcaaGreatDoor
namespace Go.Proofs.YtdnebclemngdcaaGreatDoor
open Go.RowKit Go.Maps Go.Sort
set_option maxRecDepth 100000
set_option linter.unusedSectionVars false
variable [Inhabited ComV] [DecidableEq D3] [Inhabited D3] [Inhabited Dd] [Inhabited Dn] [Inhabited OpV]

structure TwoR (w : World) (v : Value) (a : List Rp) (u : Value) (b : List Rp) (wr : World) : Prop where
  row1 : RowR wr w.heap.size v a
  row2 : RowR wr w.heap.size u b
  apart : ∀ i, v.ownBlock = some i → u.ownBlock ≠ some i
  below : Below w.heap.size w wr
theorem TwoR.start (w : World) : TwoR w (.slice none 0 0) [] (.slice none 0 0) [] w := ⟨RowR.nil _ _, RowR.nil _ _, (fun i h => by cases h), Below.refl _ _⟩
theorem TwoR.moved {w wr w' : World} {v u : Value} {a b : List Rp} (h : TwoR w v a u b wr) (hb : Below wr.heap.size wr w') : TwoR w v a u b w' := ⟨h.row1.below hb, h.row2.below hb, h.apart, h.below.trans (hb.mono h.below.size)⟩
theorem row_kept {w w' : World} {base : Nat} {v : Value} {a : List Rp} {r : Option Nat} (h : RowR w base v a) (hg : w.grownBy w' r) (hne : ∀ i, v.ownBlock = some i → r ≠ some i) : RowR w' base v a := by
  refine ⟨h.1, ?_⟩
  rcases h.2 with h0 | ⟨g, cap, cur, hv, h1, hh, h2⟩
  · exact .inl h0
  · exact .inr ⟨g, cap, cur, hv, h1, by rw [hg.block _ (lt_of_heapQ hh) fun e => hne g (by rw [hv]; rfl) e.symm]; exact hh, h2⟩
theorem TwoR.step1 {w wr w' : World} {v u v' : Value} {a b : List Rp} {r : Rp} (h : TwoR w v a u b wr) (hg : wr.grownBy w' v.ownBlock) (hr : w'.ownsRow w.heap.size 34 3 v' (a.length + 1) (a.flatMap Rp.cells ++ r.cells)) (hl : v'.ownBlock = v.ownBlock ∨ v'.ownBlock = some wr.heap.size) : TwoR w v' (a ++ [r]) u b w' where
  row1 := RowR.snoc hr
  row2 := row_kept h.row2 hg fun i hi e => h.apart i e hi
  apart := fun i hi hu => by
    rcases hl with hl | hl
    · exact h.apart i (hl ▸ hi) hu
    · have := (h.row2.lt i hu).2
      rw [hl] at hi
      cases hi
      omega
  below := h.below.trans ⟨hg.os, hg.tape, hg.output, hg.size, fun i hi => hg.block i (Nat.lt_of_lt_of_le hi h.below.size) fun e => by have := (h.row1.lt i e.symm).1; omega⟩
theorem TwoR.swap {w wr : World} {v u : Value} {a b : List Rp} (h : TwoR w v a u b wr) : TwoR w u b v a wr := ⟨h.row2, h.row1, fun i hi hv => h.apart i hv hi, h.below⟩
theorem filter_snocQ {α : Type} (p : α → Bool) {l : List α} {k : Nat} {a : α} (h : l[k]? = some a) : (l.take (k + 1)).filter p = (l.take k).filter p ++ (if p a then [a] else []) := by
  rw [take_snocQ h, List.filter_append]
  congr 1
  by_cases hp : p a = true
  · simp [hp]
  · simp [hp]
theorem Off.fresh {G G' : List Nat} {a b c : World} (h : Off G a b) (h' : Off G' b c) (hg : ∀ i ∈ G', i ∈ G ∨ a.heap.size ≤ i) : Off G a c := ⟨h'.os.trans h.os, h'.tape.trans h.tape, h'.output.trans h.output, Nat.le_trans h.size h'.size, fun i hi hn => (h'.block i (Nat.lt_of_lt_of_le hi h.size) fun hm => by
  rcases hg i hm with x | x
  · exact hn x
  · omega).trans (h.block i hi hn)⟩
theorem Off.of_grown {w w' : World} {v : Value} (h : w.grownBy w' v.ownBlock) : Off (ownL v) w w' := ⟨h.os, h.tape, h.output, h.size, fun i hi hn => h.block i hi fun e => hn (mem_ownL.2 e.symm)⟩
theorem RowR.mono {w : World} {B B' : Nat} {v : Value} {a : List Rp} (h : RowR w B v a) (hB : B' ≤ B) : RowR w B' v a := by
  refine ⟨h.1, ?_⟩
  rcases h.2 with h0 | ⟨g, cap, cur, hv, h1, h2⟩
  · exact .inl h0
  · exact .inr ⟨g, cap, cur, hv, Nat.le_trans hB h1, h2⟩
theorem RowR.off {w w' : World} {B : Nat} {v : Value} {a : List Rp} {G : List Nat} (h : RowR w B v a) (ho : Off G w w') (hn : ∀ b, v.ownBlock = some b → b ∉ G) : RowR w' B v a := by
  refine ⟨h.1, ?_⟩
  rcases h.2 with h0 | ⟨g, cap, cur, hv, h1, hh, h2⟩
  · exact .inl h0
  · exact .inr ⟨g, cap, cur, hv, h1, by rw [ho.block _ (lt_of_heapQ hh) (hn g (by rw [hv]; rfl))]; exact hh, h2⟩
theorem RowR.typed {w : World} {B : Nat} {v : Value} {a : List Rp} (h : RowR w B v a) {b : Nat} (hb : v.ownBlock = some b) : ∃ cs, w.heap[b]? = some (.cells cs 34 (0, 0)) := own_type h hb
theorem srcR {w : World} {B : Nat} {v : Value} {a : List Rp} (h : RowR w B v a) : SrcAt w v a.length 3 (a.flatMap Rp.cells) := by
  rcases h.2 with ⟨rfl, h0⟩ | ⟨g, cap, cur, rfl, _, hh, hc, _, hs, ht⟩
  · refine .inl ⟨rfl, h0, ?_⟩
    rw [List.eq_nil_of_length_eq_zero h0]
    rfl
  · refine .inr ⟨_, cap, rfl, flatR_length a, fun j u hj => ?_⟩
    rw [Addr.add_lit, Nat.zero_add]
    simp only [World.cell?, hh]
    have hl : j < a.length * 3 := by
      have := (List.getElem?_eq_some_iff.1 hj).1
      rw [flatR_length] at this
      exact this
    rw [← ht, List.getElem?_take, if_pos hl, Array.getElem?_toList] at hj
    exact hj
theorem flatR_one (a : List Rp) : ∀ u ∈ a.flatMap Rp.cells, u.oneCell' = true := fun u hu => by
  obtain ⟨r, _, hr⟩ := List.mem_flatMap.1 hu
  exact r.one u hr
/-- The blocks that a smaller list has. -/
theorem blocksG_sub {rs rs' : List Rp} {D : Nat → Value} (h : ∀ r ∈ rs', r ∈ rs) : ∀ b ∈ blocksG rs' D, b ∈ blocksG rs D := fun b hb => by
  rcases List.mem_append.1 hb with hb | hb
  · obtain ⟨q, hq, e⟩ := List.mem_map.1 hb
    exact List.mem_append_left _ (List.mem_map.2 ⟨q, h q hq, e⟩)
  · obtain ⟨q, hq, e⟩ := List.mem_flatMap.1 hb
    exact List.mem_append_right _ (List.mem_flatMap.2 ⟨q, h q hq, e⟩)
/-- The dots of trimmed ones, the others' as they were. -/
def joinD (rs : List Rp) (D' D : Nat → Value) : Nat → Value := fun g => if g ∈ rs.map (·.g) then D' g else D g
/-- Behind withoutSpentRemoves: what is kept, and what is open. -/
theorem PO.spent {w w' : World} {E : Nat → OpV} {D D' : Nat → Value} {nb : Nat} {all rs os : List Rp} {V : D3 → Bool} {T : List (D3 × ByteArray)} (h : PO w E D nb all) (h1 : ∀ r ∈ rs, r ∈ all) (h2 : ∀ r ∈ os, r ∈ all) (hdis : ∀ r ∈ rs, ∀ q ∈ os, r.g ≠ q.g)
    (hap : ∀ q ∈ all, ∀ q' ∈ all, q.g ≠ q'.g → ∀ b, (D q.g).ownBlock = some b → (D q'.g).ownBlock ≠ some b) (hs : SpW (keepD V T) w rs E D rs.length D' w') :
    PO w' (trimK (keepD V T) E rs rs.length) (joinD rs D' D) nb (rs ++ os) ∧ ∀ r ∈ rs ++ os, ((joinD rs D' D) r.g).ownBlock = (D r.g).ownBlock := by
  have hopen : ∀ q ∈ os, q.g ∉ rs.map (·.g) := fun q hq hm => by
    obtain ⟨r, hr, e⟩ := List.mem_map.1 hm
    exact hdis r hr q hq e
  have tk : ∀ r ∈ rs, trimK (keepD V T) E rs rs.length r.g = withDots (keepD V T) (E r.g) := fun r hr => by
    unfold trimK
    rw [List.take_length, if_pos (List.mem_map.2 ⟨r, hr, rfl⟩)]
  have to : ∀ q ∈ os, trimK (keepD V T) E rs rs.length q.g = E q.g := fun q hq => by
    unfold trimK
    rw [List.take_length, if_neg (hopen q hq)]
  have jr : ∀ r ∈ rs, joinD rs D' D r.g = D' r.g := fun r hr => if_pos (List.mem_map.2 ⟨r, hr, rfl⟩)
  have jo : ∀ q ∈ os, joinD rs D' D q.g = D q.g := fun q hq => if_neg (hopen q hq)
  have hops := h.ops.sub h1
  have hdts : ∀ r ∈ rs, DotsO w (D r.g) (E r.g).dots := fun r hr => h.dots r (h1 r hr)
  have oG : ∀ q ∈ os, q.g ∉ blocksG rs D := fun q hq hm => by
    rcases List.mem_append.1 hm with hm | hm
    · exact hopen q hq hm
    · obtain ⟨r, hr, e⟩ := List.mem_flatMap.1 hm
      exact (hdts r hr).ne (h.ops q (h2 q hq)) (by decide) (mem_ownL.1 e)
  refine ⟨⟨fun r hr => ?_, fun r hr => ?_, fun r hr => ?_, fun r hr => ?_⟩, fun r hr => ?_⟩
  · rcases List.mem_append.1 hr with hr | hr
    · rw [jr r hr]; exact hs.ops r hr
    · rw [jo r hr, to r hr, hs.off.block _ (lt_of_heapQ (h.ops r (h2 r hr))) (oG r hr)]; exact h.ops r (h2 r hr)
  · rcases List.mem_append.1 hr with hr | hr
    · rw [jr r hr]; exact hs.dots r hr
    · rw [jo r hr, to r hr]
      refine (h.dots r (h2 r hr)).kept fun b hb => ?_
      obtain ⟨cs, hcs⟩ := (h.dots r (h2 r hr)).block hb
      refine hs.off.block b (lt_of_heapQ hcs) fun hm => ?_
      rcases List.mem_append.1 hm with hm | hm
      · obtain ⟨q, hq, e⟩ := List.mem_map.1 hm
        have := hops q hq
        rw [e, hcs] at this
        injection this with this
        injection this with _ this
        exact absurd this (by decide)
      · obtain ⟨q, hq, e⟩ := List.mem_flatMap.1 hm
        exact hap q (h1 q hq) r (h2 r hr) (fun x => hopen r hr (List.mem_map.2 ⟨q, hq, x⟩)) b (mem_ownL.1 e) hb
  · have hall : r ∈ all := by
      rcases List.mem_append.1 hr with hr | hr
      · exact h1 r hr
      · exact h2 r hr
    refine RowT.kept (h.ints r hall) fun b cs hb => hs.off.block b (lt_of_heapQ hb) (not_blocksG hops hdts hb (by decide) (by decide))
  · rcases List.mem_append.1 hr with hr | hr
    · have hp := h.pf r (h1 r hr)
      refine ⟨comOk_swap hp.ok ?_, hp.len, by rw [tk r hr]; exact hp.text⟩
      rw [tk r hr]
      exact opErr_dots hp.err _
    · have hp := h.pf r (h2 r hr)
      refine ⟨comOk_swap hp.ok (by rw [to r hr]; exact hp.err), hp.len, by rw [to r hr]; exact hp.text⟩
  · rcases List.mem_append.1 hr with hr | hr
    · rw [jr r hr]; exact hs.own r hr
    · rw [jo r hr]
end Go.Proofs.YtdnebclemngdcaaGreatDoor
namespace Go.Proofs.YtdnebclemngdcaaGreatDoor
open Go.RowKit Go.Sort Go.Maps
set_option maxRecDepth 100000
set_option linter.unusedSectionVars false
variable [Inhabited ComV] [DecidableEq D3] [Inhabited D3] [Inhabited Dd] [Inhabited Dn] [Inhabited OpV]

/-- The op of a part, where it lies. -/
theorem op_at {w : World} {wv ov : Value} {p : Int} {c : ComV} {o : OpV} (h : ComT w [wv, .int .i64 p, ov] c) (ho : c.ops = [o]) : IntsT w wv c.when_ ∧ ∃ b off cap dv, ov = .slice (some ⟨b, off, none⟩) 1 cap ∧ (∀ i u, (opCells o dv)[i]? = some u → w.cell? ⟨b, off + i, none⟩ = some u) ∧ DotsAt w dv o.dots := by
  obtain ⟨wv', ov', he, hI, rows, hr, hf⟩ := h
  injection he with e1 e2
  injection e2 with _ e2
  injection e2 with e2
  subst e1 e2
  refine ⟨hI, ?_⟩
  rw [ho] at hf
  match rows, hf with
  | [r], hf =>
    obtain ⟨⟨dv, er, hd⟩, _⟩ := hf
    obtain ⟨ad, cap, rfl, h0, h1, h2⟩ := hr
    rcases h2 with h2 | ⟨b, off, cs, rfl, hh, hc⟩
    · cases h2
    · refine ⟨b, off, cap, dv, rfl, fun i u hu => ?_, hd.at⟩
      have := (hc 0 r rfl).2 i u (by rw [er]; exact hu)
      simp only [World.cell?, hh]
      simpa using this
theorem set3_take {c : List Value} {o : Nat} (h : o + 3 ≤ c.length) (x y z : Value) : (((c.set o x).set (o + 1) y).set (o + 2) z).take (o + 3) = c.take o ++ [x, y, z] := by
  refine List.ext_getElem? fun i => ?_
  rw [List.getElem?_take]
  by_cases hi : i < o + 3
  · rw [if_pos hi, List.getElem?_set, List.getElem?_set, List.getElem?_set]
    simp only [List.length_set]
    by_cases h2 : o + 2 = i
    · subst h2
      rw [if_pos rfl, if_pos (by omega), List.getElem?_append_right (by rw [List.length_take]; omega), List.length_take, show o + 2 - min o c.length = 2 by omega]
      rfl
    · rw [if_neg h2]
      by_cases h1 : o + 1 = i
      · subst h1
        rw [if_pos rfl, if_pos (by omega), List.getElem?_append_right (by rw [List.length_take]; omega), List.length_take, show o + 1 - min o c.length = 1 by omega]
        rfl
      · rw [if_neg h1]
        by_cases h0 : o = i
        · subst h0
          rw [if_pos rfl, if_pos (by omega), List.getElem?_append_right (by rw [List.length_take]; omega), List.length_take, show o - min o c.length = 0 by omega]
          rfl
        · rw [if_neg h0, List.getElem?_append_left (by rw [List.length_take]; omega), List.getElem?_take, if_pos (by omega)]
  · rw [if_neg hi, List.getElem?_eq_none (by rw [List.length_append, List.length_take]; simp; omega)]
/-- The row of copies, filled so far. -/
def OutAt (w : World) (ob L : Nat) (rs : List Rp) : Prop := ∃ cur, w.heap[ob]? = some (.cells cur 34 (0, 0)) ∧ cur.size = L * 3 ∧ cur.toList.take (rs.length * 3) = rs.flatMap Rp.cells
theorem OutAt.below {w w' : World} {ob L : Nat} {rs : List Rp} (h : OutAt w ob L rs) (hb : Below w.heap.size w w') : OutAt w' ob L rs := let ⟨cur, h1, h2⟩ := h; ⟨cur, (hb.block _ (lt_of_heapQ h1)).trans h1, h2⟩
theorem OutAt.step {w : World} {ob L : Nat} {rs : List Rp} (h : OutAt w ob L rs) (hl : rs.length < L) (r : Rp) : OutAt (w.setCells ob (rs.length * 3) r.cells) ob L (rs ++ [r]) := by
  obtain ⟨cur, h1, h2, h3⟩ := h
  refine ⟨((cur.setIfInBounds (rs.length * 3) (.slice r.wa r.wn.length r.wc)).setIfInBounds (rs.length * 3 + 1) (.int .i64 r.pl)).setIfInBounds (rs.length * 3 + 2) (.slice (some ⟨r.g, 0, none⟩) 1 1), heap_setQ (heap_setQ (heap_setQ h1 _ _) _ _) _ _, by simpa using h2, ?_⟩
  have hcl : cur.toList.length = L * 3 := by simpa using h2
  have hl' : rs.length * 3 + 3 ≤ cur.toList.length := by omega
  have := set3_take hl' (.slice r.wa r.wn.length r.wc) (.int .i64 r.pl) (.slice (some ⟨r.g, 0, none⟩) 1 1)
  rw [List.length_append, List.length_singleton, show (rs.length + 1) * 3 = rs.length * 3 + 3 by omega, List.flatMap_append, ← h3]
  simp only [Array.toList_setIfInBounds]
  rw [this]
  simp [Rp.cells]
theorem OutAt.cells {w : World} {ob L : Nat} {rs : List Rp} (h : OutAt w ob L rs) {k : Nat} (hk : k < L) : (∀ j, j < 3 → (w.cell? ⟨ob, k * 3 + j, none⟩).isSome = true) ∧ ∀ j, j < 3 → w.frozen? ⟨ob, k * 3 + j, none⟩ = false := by
  obtain ⟨cur, h1, h2, _⟩ := h
  refine ⟨fun j hj => ?_, fun j _ => ?_⟩
  · simp only [World.cell?, h1]
    have : k * 3 + j < cur.size := by omega
    rw [if_neg (by simp), Array.getElem?_eq_getElem this]
    rfl
  · simp only [World.frozen?, h1]; simp
/-- What stands while parts are copied. -/
structure CpInv (w : World) (nb : Nat) (l : List ComV) (k : Nat) (rs : List Rp) (E : Nat → OpV) (D : Nat → Value) (wr : World) : Prop where
  po : PO wr E D nb rs
  nd : (rs.map (·.g)).Nodup
  ap : ∀ q ∈ rs, ∀ q' ∈ rs, q.g ≠ q'.g → ∀ b, (D q.g).ownBlock = some b → (D q'.g).ownBlock ≠ some b
  ge : ∀ r ∈ rs, w.heap.size ≤ r.g ∧ ∀ b, (D r.g).ownBlock = some b → w.heap.size ≤ b
  abs_ : rs.map (absR E) = l.take k
theorem CpInv.below {w wr w' : World} {nb : Nat} {l : List ComV} {k : Nat} {rs : List Rp} {E : Nat → OpV} {D : Nat → Value} (h : CpInv w nb l k rs E D wr) (hb : Below wr.heap.size wr w') : CpInv w nb l k rs E D w' := ⟨h.po.below hb, h.nd, h.ap, h.ge, h.abs_⟩
theorem CpInv.rows {w wr w' : World} {nb : Nat} {l : List ComV} {k : Nat} {rs : List Rp} {E : Nat → OpV} {D : Nat → Value} {G : List Nat} (h : CpInv w nb l k rs E D wr) (ho : Off G wr w') (hG : ∀ b ∈ G, ∃ cs, wr.heap[b]? = some (.cells cs 34 (0, 0))) : CpInv w nb l k rs E D w' := ⟨h.po.rows ho hG, h.nd, h.ap, h.ge, h.abs_⟩
theorem PO.fresh {w : World} {E E' : Nat → OpV} {D D' : Nat → Value} {nb : Nat} {rs : List Rp} (h : PO w E D nb rs) (hE : ∀ r ∈ rs, E' r.g = E r.g) (hD : ∀ r ∈ rs, D' r.g = D r.g) : PO w E' D' nb rs := by
  refine ⟨fun r hr => ?_, fun r hr => ?_, h.ints, fun r hr => ?_⟩
  · rw [hE r hr, hD r hr]; exact h.ops r hr
  · rw [hE r hr, hD r hr]; exact h.dots r hr
  · have hp := h.pf r hr
    refine ⟨?_, hp.len, by rw [hE r hr]; exact hp.text⟩
    have : absR E' r = absR E r := by unfold absR; rw [hE r hr]
    rw [this]; exact hp.ok
/-- One part more is copied. -/
theorem CpInv.step {w wr w' : World} {nb : Nat} {l : List ComV} {k : Nat} {rs : List Rp} {E : Nat → OpV} {D : Nat → Value} {c : ComV} {o : OpV} {a1 : Option Addr} {c1 gg : Nat} {dv : Value} (h : CpInv w nb l k rs E D wr) (hw : w.heap.size ≤ wr.heap.size) (hb : Below wr.heap.size wr w') (hc : l[k]? = some c) (ho : c.ops = [o]) (hok : ComOk c) (hlen : c.when_.length = nb) (htx : o.text.size ≤ 1000)
    (hI : IntsT w' (.slice a1 c.when_.length c1) c.when_) (hO : w'.heap[gg]? = some (.cells (opCells o dv).toArray 76 (0, 0))) (hge : wr.heap.size ≤ gg) (hd : w'.ownsRow wr.heap.size 87 3 dv o.dots.length (o.dots.flatMap D3.cells)) :
    CpInv w nb l (k + 1) (rs ++ [⟨a1, c1, c.when_, c.place, gg⟩]) (updE E gg o) (updD D gg dv) w' := by
  have old : ∀ r ∈ rs, r.g ≠ gg := fun r hr e => by have := lt_of_heapQ (h.po.ops r hr); omega
  have oE : ∀ r ∈ rs, updE E gg o r.g = E r.g := fun r hr => updE_other _ _ (old r hr)
  have oD : ∀ r ∈ rs, updD D gg dv r.g = D r.g := fun r hr => if_neg (old r hr)
  have nE : updE E gg o gg = o := updE_same _ _ _
  have nD : updD D gg dv gg = dv := if_pos rfl
  have P := (h.po.below hb).fresh oE oD
  have ca : absR (updE E gg o) ⟨a1, c1, c.when_, c.place, gg⟩ = c := by
    unfold absR
    rw [nE, ← ho]
  have dlt : ∀ r ∈ rs, ∀ b, (D r.g).ownBlock = some b → b < wr.heap.size := fun r hr b hb => by
    obtain ⟨cs, hcs⟩ := (h.po.dots r hr).block hb
    exact lt_of_heapQ hcs
  refine ⟨⟨fun r hr => ?_, fun r hr => ?_, fun r hr => ?_, fun r hr => ?_⟩, ?_, fun q hq q' hq' hne b hb1 hb2 => ?_, fun r hr => ?_, ?_⟩
  · rcases List.mem_append.1 hr with hr | hr
    · exact P.ops r hr
    · rw [List.mem_singleton.1 hr]
      dsimp only
      rw [nE, nD]; exact hO
  · rcases List.mem_append.1 hr with hr | hr
    · exact P.dots r hr
    · rw [List.mem_singleton.1 hr]
      dsimp only
      rw [nE, nD]; exact ownsMono (Nat.zero_le _) hd
  · rcases List.mem_append.1 hr with hr | hr
    · exact P.ints r hr
    · rw [List.mem_singleton.1 hr]; exact hI
  · rcases List.mem_append.1 hr with hr | hr
    · exact P.pf r hr
    · rw [List.mem_singleton.1 hr]
      exact ⟨by rw [ca]; exact hok, hlen, by dsimp only; rw [nE]; exact htx⟩
  · rw [List.map_append, List.nodup_append]
    refine ⟨h.nd, by simp, fun a ha b hb e => ?_⟩
    obtain ⟨r, hr, rfl⟩ := List.mem_map.1 ha
    simp only [List.map_cons, List.map_nil, List.mem_singleton] at hb
    exact old r hr (e.trans hb)
  · rcases List.mem_append.1 hq with hq | hq
    · rw [oD q hq] at hb1
      rcases List.mem_append.1 hq' with hq' | hq'
      · rw [oD q' hq'] at hb2
        exact h.ap q hq q' hq' hne b hb1 hb2
      · rw [List.mem_singleton.1 hq'] at hb2
        dsimp only at hb2
        rw [nD] at hb2
        have := (hd.lt b hb2).1
        have := dlt q hq b hb1
        omega
    · rw [List.mem_singleton.1 hq] at hb1 hne
      dsimp only at hb1 hne
      rw [nD] at hb1
      rcases List.mem_append.1 hq' with hq' | hq'
      · rw [oD q' hq'] at hb2
        have := (hd.lt b hb1).1
        have := dlt q' hq' b hb2
        omega
      · rw [List.mem_singleton.1 hq'] at hne
        exact hne rfl
  · rcases List.mem_append.1 hr with hr | hr
    · rw [oD r hr]; exact h.ge r hr
    · rw [List.mem_singleton.1 hr]
      dsimp only
      rw [nD]
      exact ⟨by omega, fun b hb => by have := (hd.lt b hb).1; omega⟩
  · rw [List.map_append, take_snocQ hc, List.map_cons, List.map_nil, ca, ← h.abs_]
    congr 1
    exact List.map_congr_left fun r hr => by unfold absR; rw [oE r hr]
end Go.Proofs.YtdnebclemngdcaaGreatDoor
namespace Go.Proofs.YtdnebclemngdcaaGreatDoor
open Go.RowKit Go.Sort Go.Maps
set_option maxRecDepth 100000
set_option linter.unusedSectionVars false
variable [Inhabited ComV] [DecidableEq D3] [Inhabited D3] [Inhabited Dd] [Inhabited Dn] [Inhabited OpV]

/-- What is asked of the parts that are copied. -/
structure PartIn (nb : Nat) (c : ComV) : Prop where
  ok : ComOk c
  one : ∃ o, c.ops = [o]
  len : c.when_.length = nb
  text : ∀ o, c.ops = [o] → o.text.size ≤ 1000
def CopyRet (nb : Nat) (l : List ComV) (w : World) (e : Ending) (w' : World) : Prop := ∃ v rs E D, e = .returned v ∧ RowR w' w.heap.size v rs ∧ CpInv w nb l l.length rs E D w' ∧ Below w.heap.size w w'
set_option maxHeartbeats 8000000 in
theorem copyParts_ok (w : World) (lv : Value) (nb : Nat) (l : List ComV) (rows : List (List Value)) (hv : w.ownsRow 0 34 3 lv l.length rows.flatten) (hF : F2 (ComT w) rows l) (hl : ∀ c ∈ l, PartIn nb c) (hfew : l.length ≤ 1000) :
    Calls Tryz.prog 41 #[lv] w fun e w' => CopyRet nb l w e w' := by
  obtain ⟨i28, hi28, hy0, hy1, hy2⟩ := info_parts Tryz.info34q
  obtain ⟨L, hL⟩ : ∃ L, L = l.length := ⟨_, rfl⟩
  obtain ⟨la, lc, hle⟩ := row_shape hv
  rw [← hL] at hle
  have HV := hid hv
  have HF := hid hF
  have HLL := hid hl
  have HL := hid hL
  have HLE := hid hle
  rw [hle]
  rw [← hL] at hfew
  clear hv hF hl hL hle
  go_enter Tryz.func41, Tryz.ntmps41
  go_wp2_with (first | (refine wpList_make_full _ rfl _ _ 22 rfl w.heap.size 34 i28 (.agg #[.slice none 0 0, .int .i64 0, .slice none 0 0]) 3 Tryz.underlying22 hi28 hy0 hy1 .i64 .i64 _ _ L rfl rfl rfl rfl ?b2 ?b3 ?b4 ?_))
  case b2 => rw [hy2]; omega
  case b3 => unfold maxLen; omega
  case b4 => exact Nat.le_refl _
  intro w1 hown hgrow
  have O1 : Hid (OutAt w1 w.heap.size L []) := by
    rcases hown.2 with ⟨h, _⟩ | ⟨g, cap, cur, he, _, hh, hc, _, hs, _⟩
    · cases h
    · injection he with e1 e2 e3
      injection e1 with e1
      injection e1 with e1
      subst e1 e3
      exact ⟨cur, hh, hs, by simp⟩
  have B1 : Hid (Below w.heap.size w w1) := (Below.refl _ _).grown hgrow (Nat.le_refl _) (fun k hk => by cases hk)
  obtain ⟨ob, hob⟩ : ∃ ob, ob = w.heap.size := ⟨_, rfl⟩
  rw [← hob] at O1 ⊢
  have HOB := hid hob
  clear hown hgrow hob
  go_wp2_with fail
  go_loopw [11] (fun i wr => ∃ (k : Nat) (rs : List Rp) (E : Nat → OpV) (D : Nat → Value), k ≤ L ∧ i = .int .i64 k ∧ rs.length = k ∧ Hid (OutAt wr ob L rs) ∧ Hid (CpInv w nb l k rs E D wr) ∧ Hid (Below w.heap.size w wr)) (fun i _ => L - (intOf i).toNat)
  case atStart => exact ⟨0, [], fun _ => ⟨0, ByteArray.empty, 0, ByteArray.empty, 0, false, []⟩, fun _ => .slice none 0 0, Nat.zero_le _, rfl, rfl, O1.out, ⟨⟨fun r hr => by simp at hr, fun r hr => by simp at hr, fun r hr => by simp at hr, fun r hr => by simp at hr⟩, by simp, fun q hq => by simp at hq, fun r hr => by simp at hr, by simp⟩, B1.out⟩
  case round =>
    obtain ⟨k, rs, E, D, hk, rfl, hrk, HO, HI, HB⟩ := hrel
    by_cases hlt : k < L
    · have hkl : k < l.length := by rw [← HL.out]; exact hlt
      obtain ⟨b, cap, wv, ov, hv, hct, q0, q1, q2⟩ := part_at HV.out HF.out hkl
      have hc : l[k]? = some l[k]! := by rw [getElem!_pos l k hkl]; exact List.getElem?_eq_getElem _
      obtain ⟨c, hce⟩ : ∃ c, c = l[k]! := ⟨_, rfl⟩
      rw [← hce] at hct q1 hc
      have hpi := HLL.out c (List.mem_of_getElem? hc)
      obtain ⟨o, ho⟩ := hpi.one
      obtain ⟨hI, b2, off, cap2, dv, hov, hop, hdd⟩ := op_at hct ho
      rw [HLE.out] at hv
      injection hv with e1 e2 e3
      subst e1 e3
      clear e2
      subst hov
      have r0 := upQ HB.out q0
      have r1 := upQ HB.out q1
      have r2 := upQ HB.out q2
      have u : ∀ i u, (opCells o dv)[i]? = some u → wr.cell? ⟨b2, off + i, none⟩ = some u := fun i u hu => upQ HB.out (hop i u hu)
      obtain ⟨wva, wvc, hwv⟩ := hI.at.slice
      obtain ⟨dva, dvc, hdv⟩ := hdd.len
      subst hwv hdv
      obtain ⟨x1, x2, x3, x4, x5, x6, ds⟩ := o
      have u0 := u 0 _ rfl
      have u1 := u 1 _ rfl
      have u2 := u 2 _ rfl
      have u3 := u 3 _ rfl
      have u4 := u 4 _ rfl
      have u5 := u 5 _ rfl
      have u6 := u 6 _ rfl
      simp only [Nat.add_zero] at u0 u1 u2 u3 u4 u5 u6
      have hi1 : (k : Int) < (L : Int) := by omega
      obtain ⟨zs, pl, ops⟩ := c
      simp only at r0 r1 r2 hI hdd ho
      obtain ⟨w2, hw2⟩ : ∃ w2, w2 = wr.alloc (.cells #[.slice wva zs.length wvc, .int .i64 pl, .slice (some ⟨b2, off, none⟩) 1 cap2] 34) := ⟨_, rfl⟩
      have hB2 : Below wr.heap.size wr w2 := by rw [hw2]; exact below_alloc _ _
      have hBw : Below w.heap.size w w2 := HB.out.trans (hB2.mono HB.out.size)
      have x2' : w2.heap[wr.heap.size]? = some (.cells #[.slice wva zs.length wvc, .int .i64 pl, .slice (some ⟨b2, off, none⟩) 1 cap2] 34 (0, 0)) := by rw [hw2]; exact (MapKept.heap_alloc _ _).1
      obtain ⟨y0, y1, y2⟩ := box3Q x2'
      have v0 := upQ hB2 u0
      have v1 := upQ hB2 u1
      have v2 := upQ hB2 u2
      have v3 := upQ hB2 u3
      have v4 := upQ hB2 u4
      have v5 := upQ hB2 u5
      have v6 := upQ hB2 u6
      have hb2lt : b2 < w.heap.size := lt_of_cell (hop 0 _ rfl)
      obtain ⟨bx, hbx⟩ : ∃ bx, bx = wr.heap.size := ⟨_, rfl⟩
      rw [← hbx] at y0 y1 y2
      have O2 := HO.out.below hB2
      have obwr : ob < wr.heap.size := by obtain ⟨cur, h, _⟩ := HO.out; exact lt_of_heapQ h
      have nb1 : ob ≠ bx := by omega
      have nb2 : ob ≠ b2 := by have := HOB.out; omega
      have nb3 : bx ≠ ob := by omega
      have nb4 : b2 ≠ ob := by have := HOB.out; omega
      have hzl : zs.length ≤ 1000000 := by have h6 := (chk_zero.1 hpi.ok.chk).2.1; simp only at h6; omega
      have hdl : ds.length ≤ 1000000 := by
        have h0 := hpi.ok.ops 0 (by simp only [ho]; simp)
        have h1 := opErr_of_bad h0
        simp only [ho] at h1
        have := (opOk h1).2.2.2.2
        exact Nat.le_trans this (by decide)
      have K40 : ∀ q, Calls Tryz.prog 40 #[.agg #[.slice wva zs.length wvc, .int .i64 pl, .slice (some ⟨b2, off, none⟩) 1 cap2], .agg #[.int .i64 x1, .string x2, .int .i64 x3, .string x4, .int .i64 x5, .bool x6, .slice dva ds.length dvc]] (w2.drewN q) fun e w' => PartOwn ⟨zs, pl, ops⟩ ⟨x1, x2, x3, x4, x5, x6, ds⟩ (w2.drewN q) e w' := fun q => partOf_own (w2.drewN q) ⟨zs, pl, ops⟩ ⟨x1, x2, x3, x4, x5, x6, ds⟩ _ _ _ _ _ (hI.at.mono (below_draws hBw q) (Nat.le_refl _)) (hdd.mono (below_draws hBw q) (Nat.le_refl _)) hzl hdl
      have HK40 := hid K40
      have HC := hid hc
      have HOPS := hid ho
      have HPI := hid hpi
      have HB2 := hid hB2
      have HO2 := hid O2
      have HI2 := hid (HI.out.below hB2)
      have HBW := hid hBw
      have hsz2 : w.heap.size ≤ w2.heap.size := hBw.size
      obtain ⟨n1, hn1⟩ : ∃ n1, n1 = zs.length := ⟨_, rfl⟩
      obtain ⟨dl, hdl2⟩ : ∃ dl, dl = ds.length := ⟨_, rfl⟩
      rw [← hn1] at r0 y0 hw2 HK40
      rw [← hdl2] at v6 HK40
      have HN1 := hid hn1
      clear q0 q1 q2 hct hce hpi hI hop hdd u u0 u1 u2 u3 u4 u5 u6 ho hc hkl hB2 hBw x2' K40 O2 hn1 hdl2 HO HI hzl hdl obwr
      go_wp2_with fail
      rw [← hw2, ← hbx]
      clear hw2 hbx r0 r1 r2
      go_region_held (fun w' => w'.cell? ⟨bx, 0, none⟩ = some (.slice wva n1 wvc) ∧ w'.cell? ⟨bx, 1, none⟩ = some (.int .i64 pl) ∧ w'.cell? ⟨bx, 2, none⟩ = some (.slice (some ⟨b2, off, none⟩) 1 cap2) ∧ w'.cell? ⟨b2, off, none⟩ = some (.int .i64 x1) ∧ w'.cell? ⟨b2, off + 1, none⟩ = some (.string x2) ∧ w'.cell? ⟨b2, off + 2, none⟩ = some (.int .i64 x3) ∧ w'.cell? ⟨b2, off + 3, none⟩ = some (.string x4) ∧ w'.cell? ⟨b2, off + 4, none⟩ = some (.int .i64 x5) ∧ w'.cell? ⟨b2, off + 5, none⟩ = some (.bool x6) ∧ w'.cell? ⟨b2, off + 6, none⟩ = some (.slice dva dl dvc)) (go_keep) (first | (go_at_call 40; refine (HK40.out 1).mono ?_; rintro e w5 ⟨a5, c5, g5, dv5, rfl, ⟨hI5, hO5, hg5, hd5⟩, hb5⟩; have hb6 : Below w2.heap.size w2 w5 := (below_draws (Below.refl _ _) 1).trans hb5; have y0' := upQ hb6 y0; have y1' := upQ hb6 y1; have y2' := upQ hb6 y2; have v0' := upQ hb6 v0; have v1' := upQ hb6 v1; have v2' := upQ hb6 v2; have v3' := upQ hb6 v3; have v4' := upQ hb6 v4; have v5' := upQ hb6 v5; have v6' := upQ hb6 v6; have O5 := HO2.out.below hb6; obtain ⟨cz, fz⟩ := O5.cells (k := k) (by omega); obtain ⟨t0, ht0⟩ := Option.isSome_iff_exists.1 (cz 0 (by omega)); obtain ⟨t1, ht1⟩ := Option.isSome_iff_exists.1 (cz 1 (by omega)); obtain ⟨t2, ht2⟩ := Option.isSome_iff_exists.1 (cz 2 (by omega)); have f0 := fz 0 (by omega); have f1 := fz 1 (by omega); have f2 := fz 2 (by omega); simp only [Nat.add_zero] at ht0 f0; have HO5 := hid O5; have HHO5 := hid hO5; have HI5 := hid hI5; have HD5 := hid hd5; have HG5 := hid hg5; have HB6 := hid hb6; clear cz fz O5 hI5 hO5 hd5 hg5 hb5 hb6))
      obtain ⟨w6, hw6⟩ : ∃ w6, w6 = ((w5.setCell ⟨ob, k * 3, none⟩ (.slice a5 zs.length c5)).setCell ⟨ob, k * 3 + 1, none⟩ (.int .i64 pl)).setCell ⟨ob, k * 3 + 2, none⟩ (.slice (some ⟨g5, 0, none⟩) 1 1) := ⟨_, rfl⟩
      rw [← hw6]
      have hsc : w6 = w5.setCells ob (k * 3) (Rp.cells ⟨a5, c5, zs, pl, g5⟩) := by rw [hw6]; rfl
      have hoff : Off [ob] w5 w6 := by rw [hsc]; exact Off.cells (List.mem_singleton.2 rfl) _ _
      have h34 : ∀ i ∈ [ob], ∃ cs, w5.heap[i]? = some (.cells cs 34 (0, 0)) := fun i hi => by
        rw [List.mem_singleton.1 hi]
        obtain ⟨cur, h1, _⟩ := HO5.out
        exact ⟨cur, h1⟩
      have J5 := HI2.out.step hsz2 HB6.out HC.out HOPS.out HPI.out.ok HPI.out.len (HPI.out.text _ HOPS.out) HI5.out HHO5.out HG5.out HD5.out
      have J6 := hid (J5.rows hoff h34)
      have O6 : Hid (OutAt w6 ob L (rs ++ [⟨a5, c5, zs, pl, g5⟩])) := by
        rw [hsc]
        have := HO5.out.step (by rw [hrk]; exact hlt) ⟨a5, c5, zs, pl, g5⟩
        rw [hrk] at this
        exact this
      have B6 : Hid (Below w.heap.size w w6) := by
        have hb : Below w.heap.size w w5 := HBW.out.trans (HB6.out.mono HBW.out.size)
        have hge : w.heap.size ≤ ob := by rw [HOB.out]; exact Nat.le_refl _
        rw [hw6]
        exact ((hb.setCell hge _).setCell hge _).setCell hge _
      clear hw6 hsc hoff h34 J5 y0 y1 y2 v0 v1 v2 v3 v4 v5 v6 y0' y1' y2' v0' v1' v2' v3' v4' v5' v6' ht0 ht1 ht2 f0 f1 f2
      go_wp2_with fail
      refine ⟨⟨k + 1, rs ++ [(⟨a5, c5, zs, pl, g5⟩ : Rp)], _, _, by omega, by go_num, by rw [List.length_append, hrk]; rfl, O6, J6, B6⟩, by simp [intOf]; omega⟩
    · obtain rfl : k = L := by omega
      have hi3 : ¬ (k : Int) < (k : Int) := by omega
      have ROW : Hid (RowR wr w.heap.size (.slice (some ⟨ob, 0, none⟩) k k) rs) := by
        obtain ⟨cur, h1, h2, h3⟩ := HO.out
        refine ⟨flatR_length rs, .inr ⟨ob, k, cur, by rw [hrk], by rw [HOB.out]; exact Nat.le_refl _, h1, by omega, by unfold maxLen; omega, h2, h3⟩⟩
      have CP : Hid (CpInv w nb l l.length rs E D wr) := by have h := HI.out; rw [HL.out] at h; exact h
      clear HO HI
      go_wp2
      go_ret
      exact ⟨_, rs, E, D, rfl, ROW.out, CP.out, HB.out⟩
end Go.Proofs.YtdnebclemngdcaaGreatDoor
namespace Go.Proofs.YtdnebclemngdcaaGreatDoor
open Go.RowKit
set_option maxRecDepth 100000
set_option linter.unusedSectionVars false
variable [Inhabited ComV] [DecidableEq D3] [Inhabited D3] [Inhabited Dd] [Inhabited Dn] [Inhabited OpV]

def mxI (x y : Int) : Int := if x < y then y else x
theorem max_any (x y : Int) (w : World) : Calls Tryz.prog 68 #[.int .i64 x, .int .i64 y] w fun e w' => e = .returned (.int .i64 (mxI x y)) ∧ w' = w := by
  go_enter Tryz.func68, Tryz.ntmps68
  go_wp2
  go_ret
  exact ⟨ret_int (by unfold mxI; split <;> omega), rfl⟩

/-- Two lists, number by number; the first k done. -/
def mid (F : Int → Int → Int) (zs ys : List Int) (n k : Nat) : List Int := (List.range n).map fun i => if i < k then F (zs.getD i 0) (ys.getD i 0) else 0
def comb (F : Int → Int → Int) (zs ys : List Int) : List Int := mid F zs ys zs.length zs.length
theorem mid_length (F : Int → Int → Int) (zs ys : List Int) (n k : Nat) : (mid F zs ys n k).length = n := by simp [mid]
theorem mid_zero (F : Int → Int → Int) (zs ys : List Int) (n : Nat) : mid F zs ys n 0 = List.replicate n 0 := by
  simp [mid, List.map_const']
theorem mid_succ (F : Int → Int → Int) (zs ys : List Int) (n k : Nat) : (mid F zs ys n k).set k (F (zs.getD k 0) (ys.getD k 0)) = mid F zs ys n (k + 1) := by
  refine List.ext_getElem (by simp [mid]) fun i a b => ?_
  simp only [mid, List.getElem_set, List.getElem_map, List.getElem_range]
  by_cases e : k = i
  · subst e; simp
  · rw [if_neg e]
    by_cases e2 : i < k
    · rw [if_pos e2, if_pos (by omega)]
    · rw [if_neg e2, if_neg (by omega)]

theorem set_map (l : List Int) (k : Nat) (x : Int) : (l.map (Value.int .i64)).set k (.int .i64 x) = (l.set k x).map (Value.int .i64) := by
  rw [List.map_set]

set_option maxHeartbeats 4000000 in
theorem most_n (A : Nat → Addr) (w : World) (hE : E4 A w) (b1 o1 c1 b2 o2 c2 n : Nat) (zs ys : List Int) (hz : zs.length = n) (hy : ys.length = n) (h0 : two zs ys = 0) (hl : n ≤ 6)
    (h1 : ∀ t, t < n → w.cell? ⟨b1, o1 + t, none⟩ = some (.int .i64 (zs.getD t 0)))
    (h2 : ∀ t, t < n → w.cell? ⟨b2, o2 + t, none⟩ = some (.int .i64 (ys.getD t 0))) :
    Calls Tryz.prog 67 #[.slice (some ⟨b1, o1, none⟩) n c1, .slice (some ⟨b2, o2, none⟩) n c2, .func (.func 68) #[] #[]] w fun e w' => ∃ v, e = .returned (.tuple #[v, .nilIface]) ∧ IntsT w' v (comb mxI zs ys) ∧ Below w.heap.size w w' := by
  have K1 := hid (checkPair_ok A w hE (.slice (some ⟨b1, o1, none⟩) n c1) (.slice (some ⟨b2, o2, none⟩) n c2) zs ys ⟨_, c1, by rw [hz], (fun h => by cases h), .inr ⟨b1, o1, rfl, by rw [hz]; exact h1⟩⟩ ⟨_, c2, by rw [hy], (fun h => by cases h), .inr ⟨b2, o2, rfl, by rw [hy]; exact h2⟩⟩ h0)
  have HZ : Hid (zs.length = n) := hz
  have HY : Hid (ys.length = n) := hy
  have H1 := hid h1
  have H2 := hid h2
  obtain ⟨i0, hi, hz0, hz1, hz2⟩ := info_parts Tryz.info3o
  clear hz hy h1 h2 h0
  go_enter Tryz.func67, Tryz.ntmps67
  go_wp2_with fail
  refine K1.out.mono ?_
  rintro e w' ⟨rfl, rfl⟩
  go_wp2_with (first | (refine wpList_make_full _ rfl _ _ 23 rfl w'.heap.size 3 i0 (.int .i64 0) 1 Tryz.underlying23 hi hz0 hz1 .i64 .i64 _ _ n rfl rfl rfl rfl ?b2 ?b3 ?b4 ?_))
  case b2 => rw [hz2]; omega
  case b3 => unfold maxLen; omega
  case b4 => exact Nat.le_refl _
  intro w1 hown hgrow
  have HO : Hid (w1.ownsRow w'.heap.size 3 1 (.slice (some ⟨w'.heap.size, 0, none⟩) n n) n ((mid mxI zs ys n 0).map (Value.int .i64))) := by
    have e : (madeCells #[Value.int IntKind.i64 0] n).toList = (mid mxI zs ys n 0).map (Value.int .i64) := by
      rw [mid_zero, List.map_replicate]
      exact toList_madeCells_one _ _
    rw [e] at hown
    exact hown
  have HB : Hid (Below w'.heap.size w' w1) := (Below.refl _ _).grown hgrow (Nat.le_refl _) (fun k hk => by cases hk)
  clear hown hgrow
  have hE1 : w'.heap.size < w1.heap.size := by
    obtain ⟨_, h⟩ := HO.out
    rcases h with ⟨h, _⟩ | ⟨g, _, _, h, _, hg, _⟩
    · cases h
    · simp only [Value.slice.injEq, Option.some.injEq, Addr.mk.injEq] at h
      obtain ⟨⟨rfl, _⟩, _⟩ := h
      exact (Array.getElem?_eq_some_iff.1 hg).1
  go_wp2
  go_loopw [22] (fun i wr => ∃ k : Nat, k ≤ n ∧ i = .int .i64 k ∧ wr.ownsRow w'.heap.size 3 1 (.slice (some ⟨w'.heap.size, 0, none⟩) n n) n ((mid mxI zs ys n k).map (Value.int .i64)) ∧ Below w'.heap.size w' wr) (fun i _ => n - (intOf i).toNat)
  case atStart => exact ⟨0, Nat.zero_le _, rfl, HO.out, HB.out⟩
  case round =>
    obtain ⟨k, hk, rfl, hown, hbl⟩ := hrel
    have HOW := hid hown
    have HBL := hid hbl
    have hsz : w'.heap.size ≤ wr.heap.size := hbl.size
    by_cases hlt : k < n
    · have e1 : wr.cell? ⟨b1, o1 + k, none⟩ = some (.int .i64 (zs.getD k 0)) := by rw [hbl.cell (p := ⟨b1, o1 + k, none⟩) (lt_of_cell (H1.out k hlt))]; exact H1.out k hlt
      have e2 : wr.cell? ⟨b2, o2 + k, none⟩ = some (.int .i64 (ys.getD k 0)) := by rw [hbl.cell (p := ⟨b2, o2 + k, none⟩) (lt_of_cell (H2.out k hlt))]; exact H2.out k hlt
      obtain ⟨x, hx⟩ : ∃ x, x = zs.getD k 0 := ⟨_, rfl⟩
      obtain ⟨y, hy⟩ : ∃ y, y = ys.getD k 0 := ⟨_, rfl⟩
      rw [← hx] at e1
      rw [← hy] at e2
      obtain ⟨z, e3⟩ : ∃ z, wr.cell? ⟨w'.heap.size, k, none⟩ = some z := by
        rw [hown.cellAt k (by omega), List.getElem?_eq_getElem (by rw [List.length_map, mid_length]; omega)]
        exact ⟨_, rfl⟩
      have e4 := hown.frozenAt k
      have hi' : (k : Int) < (n : Int) := by omega
      have HX := hid hx
      have HYY := hid hy
      clear hx hy hown hbl hE1
      go_wp2
      go_region_with (go_at_call 68; refine (max_any _ _ _).mono ?_; rintro e w2 ⟨rfl, rfl⟩)
      all_goals
        go_wp2
        go_roundw
        case rel =>
          refine ⟨k + 1, by omega, by go_num, ?_, ?_⟩
          · have hs := (HOW.out.stored k (.int .i64 (mxI x y))).1
            rw [set_map, HX.out, HYY.out, mid_succ] at hs
            rw [HX.out, HYY.out]
            exact hs
          · exact (HBL.out.setCell (p := ⟨w'.heap.size, k, none⟩) (Nat.le_refl _) _).drew
        case measure => simp [intOf]; omega
    · obtain rfl : k = n := by omega
      clear hown hbl
      go_wp2
      go_ret2
      refine ⟨_, rfl, ?_, HBL.out⟩
      have e : comb mxI zs ys = mid mxI zs ys k k := by unfold comb; rw [HZ.out]
      rw [e]
      refine intsT_of_owns (base := w'.heap.size) ?_
      rw [mid_length]
      exact HOW.out
set_option maxHeartbeats 1000000 in
theorem Most_ok (A : Nat → Addr) (w : World) (hE : E4 A w) (v u : Value) (zs ys : List Int) (h1 : IntsAt w v zs) (h2 : IntsAt w u ys) (h0 : two zs ys = 0) :
    Calls Tryz.prog 44 #[v, u] w fun e w' => ∃ r, e = .returned (.tuple #[r, .nilIface]) ∧ IntsT w' r (comb mxI zs ys) ∧ Below w.heap.size w w' := by
  obtain ⟨hz, hy, hn⟩ := two_zero.1 h0
  have hz' := chk_zero.1 hz
  obtain ⟨b1, o1, c1, rfl, g1⟩ := h1.some hz'.1
  obtain ⟨b2, o2, c2, rfl, g2⟩ := h2.some (by omega)
  rw [← hn] at g2 ⊢
  have K1 := hid (most_n A w hE b1 o1 c1 b2 o2 c2 zs.length zs ys rfl hn.symm h0 hz'.2.1 g1 g2)
  clear g1 g2 h0 hz hy hn hz' h1 h2
  go_enter Tryz.func44, Tryz.ntmps44
  go_wp2_with fail
  refine K1.out.mono ?_
  rintro e w' ⟨r, rfl, hr, hb⟩
  go_wp2
  go_ret2
  exact ⟨r, rfl, hr, hb⟩
end Go.Proofs.YtdnebclemngdcaaGreatDoor
namespace Go.Proofs.YtdnebclemngdcaaGreatDoor
open Go.RowKit Go.Sort Go.Maps
set_option maxRecDepth 100000
set_option linter.unusedSectionVars false
variable [Inhabited ComV] [DecidableEq D3] [Inhabited D3] [Inhabited Dd] [Inhabited Dn] [Inhabited OpV]

/-- Rows of parts by keys, all of them apart. -/
structure RowsO (B : Nat) (w : World) (nb : Nat) (f : ByteArray → Value) (R : ByteArray → List Rp) (E : Nat → OpV) (D : Nat → Value) : Prop where
  rows : ∀ k, RowR w B (f k) (R k)
  po : ∀ k, PO w E D nb (R k)
  nd : ∀ k, ((R k).map (·.g)).Nodup
  ap : ∀ k, ∀ q ∈ R k, ∀ q' ∈ R k, q.g ≠ q'.g → ∀ b, (D q.g).ownBlock = some b → (D q'.g).ownBlock ≠ some b
  sep : ∀ k k', k ≠ k' → ∀ r ∈ R k, ∀ q ∈ R k', r.g ≠ q.g ∧ ∀ b, (D r.g).ownBlock = some b → (D q.g).ownBlock ≠ some b
  apart : ∀ k k', k ≠ k' → ∀ b, (f k).ownBlock = some b → (f k').ownBlock ≠ some b
  ge : ∀ k, ∀ r ∈ R k, B ≤ r.g ∧ ∀ b, (D r.g).ownBlock = some b → B ≤ b
theorem RowsO.below {B : Nat} {w w' : World} {nb : Nat} {f : ByteArray → Value} {R : ByteArray → List Rp} {E : Nat → OpV} {D : Nat → Value} (h : RowsO B w nb f R E D) (hb : Below w.heap.size w w') : RowsO B w' nb f R E D := ⟨fun k => (h.rows k).below hb, fun k => (h.po k).below hb, h.nd, h.ap, h.sep, h.apart, h.ge⟩
theorem cells_keep {w w' : World} {r : Nat} (hg : w.grownBy w' (some r)) (hr : ∀ cs t, w.heap[r]? ≠ some (.cells cs t (0, 0))) {b : Nat} {cs : Array Value} {t : TypeId} (hb : w.heap[b]? = some (.cells cs t (0, 0))) : w'.heap[b]? = w.heap[b]? := hg.block b (lt_of_heapQ hb) fun e => by
  cases e
  exact hr cs t hb
/-- A block that holds no cells has turned. -/
theorem RowsO.turned {B : Nat} {w w' : World} {nb : Nat} {f : ByteArray → Value} {R : ByteArray → List Rp} {E : Nat → OpV} {D : Nat → Value} {r : Nat} (h : RowsO B w nb f R E D) (hg : w.grownBy w' (some r)) (hr : ∀ cs t, w.heap[r]? ≠ some (.cells cs t (0, 0))) : RowsO B w' nb f R E D := by
  have keep := fun {b cs t} => cells_keep (b := b) (cs := cs) (t := t) hg hr
  refine ⟨fun k => ?_, fun k => ⟨fun r hr => ?_, fun r hr => ?_, fun r hr => ?_, (h.po k).pf⟩, h.nd, h.ap, h.sep, h.apart, h.ge⟩
  · refine ⟨(h.rows k).1, ?_⟩
    rcases (h.rows k).2 with h0 | ⟨g, cap, cur, hv, h1, hh, h2⟩
    · exact .inl h0
    · exact .inr ⟨g, cap, cur, hv, h1, by rw [keep hh]; exact hh, h2⟩
  · rw [keep ((h.po k).ops r hr)]; exact (h.po k).ops r hr
  · refine ((h.po k).dots r hr).kept fun b hb => ?_
    obtain ⟨cs, hcs⟩ := ((h.po k).dots r hr).block hb
    exact keep hcs
  · exact RowT.kept ((h.po k).ints r hr) fun b cs hb => keep hb
/-- A part of such a row, as it is read. -/
theorem PO.comT {w : World} {nb : Nat} {rs : List Rp} {E : Nat → OpV} {D : Nat → Value} (h : PO w E D nb rs) : F2 (ComT w) (rs.map Rp.cells) (rs.map (absR E)) := by
  have one : ∀ r ∈ rs, ComT w r.cells (absR E r) := fun r hr => by
    obtain ⟨a, c, hs⟩ := (h.dots r hr).shape
    exact part_fin (dv := D r.g) (h.ints r hr) (h.ops r hr) (dotsT_of_owns (h.dots r hr))
  clear h
  induction rs with
  | nil => exact trivial
  | cons x r ih => exact ⟨one x (by simp), ih fun y hy => one y (by simp [hy])⟩
theorem flatten_map (rs : List Rp) : (rs.map Rp.cells).flatten = rs.flatMap Rp.cells := by rw [List.flatMap_def]
/-- Two copies beside each other: the ops of both. -/
def joinE (m : Nat) (E E' : Nat → OpV) : Nat → OpV := fun g => if g < m then E g else E' g
def joinV (m : Nat) (D D' : Nat → Value) : Nat → Value := fun g => if g < m then D g else D' g
def updR (R : ByteArray → List Rp) (k : ByteArray) (rs : List Rp) : ByteArray → List Rp := fun k' => if k' = k then rs else R k'
theorem updR_same (R : ByteArray → List Rp) (k : ByteArray) (rs : List Rp) : updR R k rs k = rs := if_pos rfl
theorem updR_other (R : ByteArray → List Rp) {k k' : ByteArray} (rs : List Rp) (h : k' ≠ k) : updR R k rs k' = R k' := if_neg h
theorem updF_same (f : ByteArray → Value) (k : ByteArray) (v : Value) : updF f k v k = v := if_pos rfl
theorem updF_other (f : ByteArray → Value) {k k' : ByteArray} (v : Value) (h : k' ≠ k) : updF f k v k' = f k' := if_neg h
/-- A row more, all of it new. -/
theorem RowsO.add {B : Nat} {w w' : World} {nb : Nat} {f : ByteArray → Value} {R : ByteArray → List Rp} {E E' : Nat → OpV} {D D' : Nat → Value} {k : ByteArray} {v : Value} {rs : List Rp} {l : List ComV} (h : RowsO B w nb f R E D) (hb : Below w.heap.size w w') (hB : B ≤ w.heap.size) (hv : RowR w' w.heap.size v rs) (hc : CpInv w nb l l.length rs E' D' w') :
    RowsO B w' nb (updF f k v) (updR R k rs) (joinE w.heap.size E E') (joinV w.heap.size D D') := by
  have lo : ∀ k', ∀ r ∈ R k', r.g < w.heap.size := fun k' r hr => lt_of_heapQ ((h.po k').ops r hr)
  have hE1 : ∀ k', ∀ r ∈ R k', joinE w.heap.size E E' r.g = E r.g := fun k' r hr => if_pos (lo k' r hr)
  have hD1 : ∀ k', ∀ r ∈ R k', joinV w.heap.size D D' r.g = D r.g := fun k' r hr => if_pos (lo k' r hr)
  have hE2 : ∀ r ∈ rs, joinE w.heap.size E E' r.g = E' r.g := fun r hr => if_neg (by have := (hc.ge r hr).1; omega)
  have hD2 : ∀ r ∈ rs, joinV w.heap.size D D' r.g = D' r.g := fun r hr => if_neg (by have := (hc.ge r hr).1; omega)
  have dlt : ∀ k', ∀ r ∈ R k', ∀ b, (D r.g).ownBlock = some b → b < w.heap.size := fun k' r hr b hb => by
    obtain ⟨cs, hcs⟩ := ((h.po k').dots r hr).block hb
    exact lt_of_heapQ hcs
  have nw : ∀ k', k' ≠ k → ∀ r ∈ R k', ∀ q ∈ rs, r.g ≠ q.g ∧ ∀ b, (D r.g).ownBlock = some b → (D' q.g).ownBlock ≠ some b := fun k' _ r hr q hq => by
    refine ⟨fun e => ?_, fun b hb1 hb2 => ?_⟩
    · have := lo k' r hr; have := (hc.ge q hq).1; omega
    · have := dlt k' r hr b hb1; have := (hc.ge q hq).2 b hb2; omega
  refine ⟨fun k' => ?_, fun k' => ?_, fun k' => ?_, fun k' => ?_, fun k1 k2 hk r hr q hq => ?_, fun k1 k2 hk b hb1 hb2 => ?_, fun k' r hr => ?_⟩
  · by_cases e : k' = k
    · subst e; rw [updF_same, updR_same]; exact hv.mono hB
    · rw [updF_other _ _ e, updR_other _ _ e]; exact (h.rows k').below hb
  · by_cases e : k' = k
    · subst e; rw [updR_same]; exact hc.po.fresh hE2 hD2
    · rw [updR_other _ _ e]; exact ((h.po k').below hb).fresh (hE1 k') (hD1 k')
  · by_cases e : k' = k
    · subst e; rw [updR_same]; exact hc.nd
    · rw [updR_other _ _ e]; exact h.nd k'
  · by_cases e : k' = k
    · subst e; rw [updR_same]
      intro q hq q' hq' hne b hb1 hb2
      rw [hD2 q hq] at hb1
      rw [hD2 q' hq'] at hb2
      exact hc.ap q hq q' hq' hne b hb1 hb2
    · rw [updR_other _ _ e]
      intro q hq q' hq' hne b hb1 hb2
      rw [hD1 k' q hq] at hb1
      rw [hD1 k' q' hq'] at hb2
      exact h.ap k' q hq q' hq' hne b hb1 hb2
  · by_cases e1 : k1 = k
    · subst e1
      have e2 : k2 ≠ k1 := fun x => hk x.symm
      rw [updR_same] at hr
      rw [updR_other _ _ e2] at hq
      obtain ⟨n1, n2⟩ := nw k2 e2 q hq r hr
      rw [hD2 r hr, hD1 k2 q hq]
      exact ⟨fun e => n1 e.symm, fun b hb1 hb2 => n2 b hb2 hb1⟩
    · rw [updR_other _ _ e1] at hr
      by_cases e2 : k2 = k
      · subst e2
        rw [updR_same] at hq
        rw [hD1 k1 r hr, hD2 q hq]
        exact nw k1 e1 r hr q hq
      · rw [updR_other _ _ e2] at hq
        rw [hD1 k1 r hr, hD1 k2 q hq]
        exact h.sep k1 k2 hk r hr q hq
  · by_cases e1 : k1 = k
    · subst e1
      have e2 : k2 ≠ k1 := fun x => hk x.symm
      rw [updF_same] at hb1
      rw [updF_other _ _ e2] at hb2
      have := (hv.lt b hb1).1
      have := ((h.rows k2).lt b hb2).2
      omega
    · rw [updF_other _ _ e1] at hb1
      by_cases e2 : k2 = k
      · subst e2
        rw [updF_same] at hb2
        have := (hv.lt b hb2).1
        have := ((h.rows k1).lt b hb1).2
        omega
      · rw [updF_other _ _ e2] at hb2
        exact h.apart k1 k2 hk b hb1 hb2
  · by_cases e : k' = k
    · subst e
      rw [updR_same] at hr
      rw [hD2 r hr]
      exact ⟨Nat.le_trans hB (hc.ge r hr).1, fun b hb => Nat.le_trans hB ((hc.ge r hr).2 b hb)⟩
    · rw [updR_other _ _ e] at hr
      rw [hD1 k' r hr]
      exact h.ge k' r hr
end Go.Proofs.YtdnebclemngdcaaGreatDoor
namespace Go.Proofs.YtdnebclemngdcaaGreatDoor
open Go.RowKit Go.Sort Go.Maps
set_option maxRecDepth 100000
set_option linter.unusedSectionVars false
variable [Inhabited ComV] [DecidableEq D3] [Inhabited D3] [Inhabited Dd] [Inhabited Dn] [Inhabited OpV]

theorem run_makeMap80 (m : Int) (w : World) : (Instr.makeMap 80 (some (.int .i64 m))).run Tryz.prog w = .ok (.map (some w.heap.size)) (w.alloc (.map #[] 0)) := by
  simp [Instr.makeMap, run_underlying Tryz.underlying80, asInt, asIntOf, Result.andThen]
theorem keyStr_inv {key : Value} {kl : Lit} (h : keyOf Tryz.prog 9 key = some kl) : ∃ x : ByteArray, key = .string x := by
  cases key <;> simp [keyOf, Tryz.underlying9, mapKey] at h
  exact ⟨_, rfl⟩
theorem keyStr_lit {x : ByteArray} {kl : Lit} (h : keyOf Tryz.prog 9 (.string x) = some kl) : kl = klS x := by
  simp [keyOf, Tryz.underlying9, mapKey] at h
  exact h.2.symm
def mkSl (c : Option Addr × Nat × Nat) : Value := .slice c.1 c.2.1 c.2.2
theorem sliceV_inv {v : Value} {y : DataW Unit × List MemPlace} (h : sliceElem v = some y) : ∃ c, v = mkSl c := by
  rcases sliceElem_inv h with ⟨rfl, _⟩ | ⟨g, n, c, rfl, _⟩
  · exact ⟨(none, 0, 0), rfl⟩
  · exact ⟨(some ⟨g, 0, none⟩, n, c), rfl⟩
/-- What has been copied so far: those keys that are no longer to come. -/
def doneK (D0 : DataW Unit) (left : Lit → Bool) (k : ByteArray) : Bool := Maps.has D0 (klS k) && !left (klS k)
structure CopyInv (w : World) (nb ob : Nat) (s : St) (D0 : DataW Unit) (left : Lit → Bool) (m : Nat) (f : ByteArray → Value) (R : ByteArray → List Rp) (E : Nat → OpV) (D : Nat → Value) (wr : World) : Prop where
  rows : RowsO w.heap.size wr nb f R E D
  abs_ : ∀ k, (R k).map (absR E) = if doneK D0 left k = true then rowOf s k else []
  out : ∃ Dm : DataW Unit, wr.ownsMap Tryz.prog 9 sliceElem ob m Dm ∧ ∀ k, Maps.has Dm (klS k) = doneK D0 left k ∧ Dm.atKey (klS k) .nil = rowDat (f k)
  below : Below w.heap.size w wr
  none_ : ∀ k, doneK D0 left k = false → f k = .slice none 0 0
  left : ∀ z, left z = true → Maps.has D0 z = true
/-- A store whose parts all lie in blocks of their own. -/
structure VerO (B : Nat) (w : World) (p mb db n nb : Nat) (f : ByteArray → Value) (s : St) (R : ByteArray → List Rp) (E : Nat → OpV) (D : Nat → Value) : Prop where
  box : ∃ bv, w.heap[p]? = some (.cells #[bv, .map (some mb), .map (some db)] 83 (0, 0)) ∧ IntsT w bv s.base
  dots : DotSet w db n fun d => decide (d ∈ s.dots)
  map : ∃ Dm : DataW Unit, w.ownsMap Tryz.prog 9 sliceElem mb n Dm ∧ ∀ k, Maps.has Dm (klS k) = decide (rowOf s k ≠ []) ∧ Dm.atKey (klS k) .nil = rowDat (f k)
  rows : RowsO B w nb f R E D
  abs_ : ∀ k, (R k).map (absR E) = rowOf s k
  ne : mb ≠ db
def CopyOut (w : World) (s : St) (n nb : Nat) (e : Ending) (w' : World) : Prop := ∃ p' mb' db' f' R E D, e = .returned (.pointer (some ⟨p', 0, none⟩)) ∧ VerO w.heap.size w' p' mb' db' n nb f' s R E D ∧ Below w.heap.size w w' ∧ w.heap.size ≤ p' ∧ w.heap.size ≤ mb' ∧ w.heap.size ≤ db'
theorem map_no_cells {w : World} {k b n : Nat} {R : Value → Option (DataW Unit × List MemPlace)} {D : DataW Unit} (h : w.ownsMap Tryz.prog k R b n D) : ∀ cs t, w.heap[b]? ≠ some (.cells cs t (0, 0)) := fun _ _ e => cells_ne_map h e rfl
theorem iter_no_cells {w : World} {k b r n cnt : Nat} {R : Value → Option (DataW Unit × List MemPlace)} {D : DataW Unit} {left : Lit → Bool} (h : w.ranges Tryz.prog k R b r n D left cnt) : ∀ cs t, w.heap[r]? ≠ some (.cells cs t (0, 0)) := fun _ _ e => by
  obtain ⟨_, _, _, _, _, _, _, _, _, h, _⟩ := h
  rw [e] at h
  cases h
theorem rowDat_nil : rowDat (.slice none 0 0) = .nil := rfl
theorem doneK_next {D0 : DataW Unit} {left : Lit → Bool} {x : ByteArray} (hl : left (klS x) = true) (hD : Maps.has D0 (klS x) = true) (k : ByteArray) : doneK D0 (fun z => left z && !z.sameKey (klS x)) k = if k = x then true else doneK D0 left k := by
  unfold doneK
  dsimp only
  by_cases e : k = x
  · subst e
    rw [WideAt.sameKey_self (klS_key _), hD, if_pos rfl]
    simp
  · rw [Maps.sameKey_ne (fun h => e (klS_inj h)), if_neg e]
    simp
/-- A key more has been copied. -/
theorem CopyInv.next {w w1 w2 w3 : World} {nb ob m : Nat} {s : St} {D0 : DataW Unit} {left : Lit → Bool} {f : ByteArray → Value} {R : ByteArray → List Rp} {E E2 : Nat → OpV} {D D2 : Nat → Value} {x : ByteArray} {v2 : Value} {rs2 : List Rp} {Dm : DataW Unit}
    (hrows : RowsO w.heap.size w1 nb f R E D) (habs : ∀ k, (R k).map (absR E) = if doneK D0 left k = true then rowOf s k else []) (hDk : ∀ k, Maps.has Dm (klS k) = doneK D0 left k ∧ Dm.atKey (klS k) .nil = rowDat (f k)) (hnone : ∀ k, doneK D0 left k = false → f k = .slice none 0 0) (hleft : ∀ z, left z = true → Maps.has D0 z = true)
    (hB1 : Below w.heap.size w w1) (hob : w.heap.size ≤ ob) (hl : left (klS x) = true) (hB2 : Below w1.heap.size w1 w2) (hrow2 : RowR w2 w1.heap.size v2 rs2) (hcp : CpInv w1 nb (rowOf s x) (rowOf s x).length rs2 E2 D2 w2)
    (hDm : w2.ownsMap Tryz.prog 9 sliceElem ob m Dm) (hg3 : w2.grownBy w3 (some ob)) (hm3 : w3.ownsMap Tryz.prog 9 sliceElem ob (m + 1) (Dm.put (klS x) (rowDat v2))) :
    CopyInv w nb ob s D0 (fun z => left z && !z.sameKey (klS x)) (m + 1) (updF f x v2) (updR R x rs2) (joinE w1.heap.size E E2) (joinV w1.heap.size D D2) w3 := by
  have hd := doneK_next hl (hleft _ hl)
  have hRA := (hrows.add (k := x) hB2 hB1.size hrow2 hcp).turned hg3 (map_no_cells hDm)
  have lo : ∀ k', ∀ r ∈ R k', r.g < w1.heap.size := fun k' r hr => lt_of_heapQ ((hrows.po k').ops r hr)
  refine ⟨hRA, fun k => ?_, ⟨_, hm3, fun k => ?_⟩, ?_, fun k hk => ?_, fun z hz => ?_⟩
  · rw [hd k]
    by_cases e : k = x
    · subst e
      rw [updR_same, if_pos rfl, if_pos rfl]
      have h1 := hcp.abs_
      rw [List.take_length] at h1
      refine Eq.trans (List.map_congr_left fun r hr => ?_) h1
      unfold absR joinE
      rw [if_neg (by have := (hcp.ge r hr).1; omega)]
    · rw [updR_other _ _ e, if_neg e]
      refine Eq.trans (List.map_congr_left fun r hr => ?_) (habs k)
      unfold absR joinE
      rw [if_pos (lo k r hr)]
  · rw [hd k]
    by_cases e : k = x
    · subst e
      rw [has_put_same hDm.isMap (klS_key _), atKey_put_same hDm.isMap (klS_key _), updF_same, if_pos rfl]
      exact ⟨rfl, rfl⟩
    · rw [has_put_other (fun h => e (klS_inj h)), atKey_put_other (fun h => e (klS_inj h)), updF_other _ _ e, if_neg e]
      exact hDk k
  · have h2 : Below w.heap.size w w2 := hB1.trans ⟨hB2.os, hB2.tape, hB2.output, hB2.size, fun i hi => hB2.block i (Nat.lt_of_lt_of_le hi hB1.size)⟩
    exact h2.grown hg3 h2.size (fun j hj => by cases hj; exact hob)
  · rw [hd k] at hk
    by_cases e : k = x
    · rw [if_pos e] at hk; cases hk
    · rw [if_neg e] at hk
      rw [updF_other _ _ e]
      exact hnone k hk
  · exact hleft z (by revert hz; cases left z <;> simp)
theorem below_up {a b : World} {B B' : Nat} (h : Below B a b) (hB : B' ≤ B) : Below B' a b := ⟨h.os, h.tape, h.output, h.size, fun i hi => h.block i (Nat.lt_of_lt_of_le hi hB)⟩
/-- All has been copied. -/
theorem copy_end {w wr w4 w5 : World} {nb ob m n : Nat} {s : St} {D0 D1 : DataW Unit} {left : Lit → Bool} {f : ByteArray → Value} {R : ByteArray → List Rp} {E : Nat → OpV} {D : Nat → Value} {bv : Value}
    (hI : CopyInv w nb ob s D0 left m f R E D wr) (hleft : ∀ z, left z = false) (hsp : ∀ k, Maps.has D0 (klS k) = decide (rowOf s k ≠ [])) (hm : m ≤ n) (hob : w.heap.size ≤ ob) (hoblt : ob < wr.heap.size)
    (hB4 : Below wr.drew.heap.size wr.drew w4) (hT4 : IntsT w4 bv s.base) (hB5 : Below w4.heap.size w4 w5) (hM5 : w5.ownsMap Tryz.prog 87 unitElem w4.heap.size n D1) (hdk : ∀ d, wf3 d → Maps.has D1 (klD d) = decide (d ∈ s.dots)) :
    CopyOut w s n nb (.returned (.pointer (some ⟨w5.heap.size, 0, none⟩))) (w5.alloc (.cells #[bv, .map (some ob), .map (some w4.heap.size)] 83 (0, 0))) := by
  have hb4 : Below wr.heap.size wr w4 := (below_draws (Below.refl wr.heap.size wr) 1).trans hB4
  have hb5 : Below wr.heap.size wr w5 := hb4.trans (below_up hB5 hb4.size)
  have hb6 : Below wr.heap.size wr (w5.alloc (.cells #[bv, .map (some ob), .map (some w4.heap.size)] 83 (0, 0))) := hb5.alloc hb5.size _
  have hdone : ∀ k, doneK D0 left k = decide (rowOf s k ≠ []) := fun k => by unfold doneK; rw [hleft, hsp k]; simp
  obtain ⟨Dm, hDm, hDk⟩ := hI.out
  have h45 := hB5.size
  have h4r := hb4.size
  have hwr := hI.below.size
  have h4r' : wr.heap.size ≤ w4.heap.size := h4r
  refine ⟨w5.heap.size, ob, w4.heap.size, f, R, E, D, rfl, ⟨⟨bv, (MapKept.heap_alloc _ _).1, ?_⟩, ⟨D1, hM5.alloc _, hdk⟩, ⟨Dm, ?_, fun k => ?_⟩, hI.rows.below hb6, fun k => ?_, by omega⟩, hI.below.trans (below_up hb6 hwr), by omega, hob, by omega⟩
  · exact intsT_keep (intsT_keep hT4 (Keep3.of_below hB5 (Nat.le_refl _))) (Keep3.of_below (below_alloc w5 _) (Nat.le_refl _))
  · exact (hDm.kept (grown_belowQ none hb6) (by simp)).mono hm
  · rw [← hdone k]; exact hDk k
  · rw [hI.abs_ k, hdone k]
    by_cases h : rowOf s k = []
    · rw [h]; simp
    · rw [if_pos (decide_eq_true h)]
set_option maxHeartbeats 8000000 in
theorem copy_ok (w : World) (p mb db n nb : Nat) (f : ByteArray → Value) (s : St) (hV : VerAt w p mb db f s n) (hS : StOk s nb) (hin : ∀ c ∈ s.parts, PartIn nb c) (hfew : ∀ k, (rowOf s k).length ≤ 1000) (hn : n ≤ 1000000) :
    Calls Tryz.prog 11 #[.pointer (some ⟨p, 0, none⟩)] w fun e w' => CopyOut w s n nb e w' := by
  obtain ⟨bv, hbox, hbT⟩ := hV.box
  obtain ⟨D0, hD0, hsp⟩ := hV.map
  have hmm := fun m => run_makeMap80 m
  have hlen := fun ty => hD0.len Tryz.underlying80 ty
  have nq : ∀ w, (binOp .eql 26 (.pointer (some ⟨p, 0, none⟩)) (.pointer none)).run Tryz.prog w = .ok (.bool false) w := fun w => by kernel_rfl
  have c1 : w.cell? ⟨p, 1, none⟩ = some (.map (some mb)) := by simp only [World.cell?, hbox]; rfl
  have hplt : p < w.heap.size := lt_of_heapQ hbox
  have hmlt : mb < w.heap.size := hD0.lt
  obtain ⟨m0, hm0⟩ : ∃ m0 : Nat, m0 = Maps.size D0 := ⟨_, rfl⟩
  rw [← hm0] at hlen
  have c1a : (w.alloc (.map #[] 0)).cell? ⟨p, 1, none⟩ = some (.map (some mb)) := cell_alloc c1 _
  have e1 : (w.alloc (.map #[] 0)).heap.size = w.heap.size + 1 := by simp
  obtain ⟨ob, hob⟩ : ∃ ob, ob = w.heap.size := ⟨_, rfl⟩
  have HD0 := hid hD0
  have HSP := hid hsp
  have HV := hid hV
  have HS := hid hS
  have HIN := hid hin
  have HFEW := hid hfew
  have HM0 := hid hm0
  clear hV hS hin hfew hm0 hsp
  go_enter Tryz.func11, Tryz.ntmps11
  go_wp2_with (first | (at_range; refine wpList_range_own _ rfl _ 80 rfl 9 22 keyed9 Tryz.underlying80 _ mb n _ rfl (HD0.out.alloc _) ?_; intro w0 hrg0 hg0 hs0) | go_in)
  go_frame
  rw [e1] at hrg0 hs0 ⊢
  rw [← hob] at hrg0 ⊢
  have hg0w : w.grownBy w0 none := ⟨hg0.os, hg0.tape, hg0.output, Nat.le_trans (by omega) hg0.size, fun i hi hne => (hg0.block i (by omega) (by simp)).trans ((MapKept.heap_alloc _ _).2 i hi)⟩
  have hB0 : Below w.heap.size w w0 := ⟨hg0w.os, hg0w.tape, hg0w.output, hg0w.size, fun i hi => hg0w.block i hi (by simp)⟩
  have hout0 : w0.ownsMap Tryz.prog 9 sliceElem ob 0 (.map []) := by rw [hob]; exact (World.ownsMap_made (H := Unit) w Tryz.prog 9 sliceElem).kept hg0 (by simp)
  have hd0 : ∀ k, doneK D0 (Maps.has D0) k = false := fun k => by unfold doneK; cases Maps.has D0 (klS k) <;> rfl
  have C0 : Hid (CopyInv w nb ob s D0 (Maps.has D0) 0 (fun _ => .slice none 0 0) (fun _ => []) (fun _ => ⟨0, ByteArray.empty, 0, ByteArray.empty, 0, false, []⟩) (fun _ => .slice none 0 0) w0) := by
    refine ⟨⟨fun k => RowR.nil _ _, fun k => ⟨fun r hr => by simp at hr, fun r hr => by simp at hr, fun r hr => by simp at hr, fun r hr => by simp at hr⟩, fun k => by simp, fun k q hq => by simp at hq, fun k k' _ r hr => by simp at hr, fun k k' _ b hb => (by cases hb), fun k r hr => by simp at hr⟩, fun k => by rw [hd0 k]; rfl, ⟨_, hout0, fun k => ⟨by rw [hd0 k]; rfl, rfl⟩⟩, hB0, fun _ _ => rfl, fun z hz => hz⟩
  have HRG0 := hid hrg0
  have HOB := hid hob
  clear hg0 hg0w hB0 hout0 hd0 hob c1a hs0 hD0 hlen
  go_loopw [4] (fun _ wr => ∃ (left : Lit → Bool) (cnt m : Nat) (f' : ByteArray → Value) (R : ByteArray → List Rp) (E : Nat → OpV) (D : Nat → Value), Hid (wr.ranges Tryz.prog 9 sliceElem mb (ob + 1) n D0 left cnt) ∧ m + cnt ≤ m0 ∧ Hid (CopyInv w nb ob s D0 left m f' R E D wr)) (fun _ wr => wr.rangeLeft mb (ob + 1))
  case atStart => exact ⟨_, _, 0, _, _, _, _, hrg0, (by rw [HM0.out]; omega), C0.out⟩
  case round =>
    obtain ⟨left, cnt, m, f', R, E, D, HR, hcnt, HI⟩ := hrel
    have hrg := HR.out
    go_wp2_with (first
      | (at_next; refine wpList_next_ranges _ rfl _ rfl 9 keyed9 sliceElem Value.string mkSl (fun key kl h => keyStr_inv h) (fun v y h => sliceV_inv h) mb (ob + 1) n _ _ _ rfl hrg ?_ ?_)
      | go_in)
    · intro hc0 hl0
      have hBr := HI.out.below
      have hboxr : wr.heap[p]? = _ := (hBr.block p hplt).trans hbox
      have hIr : IntsT wr bv s.base := intsT_keep hbT (Keep3.of_below hBr (Nat.le_refl _))
      obtain ⟨D1, hD1, hdk⟩ := (HV.out.moved hBr).dots
      obtain ⟨ba, bc, rfl⟩ := hIr.at.slice
      have hblen : s.base.length ≤ 1000000 := Nat.le_of_not_lt fun h => by have h1 := chk_shape (zs := s.base) (.inr (by omega)); rw [HS.out.base] at h1; cases h1
      obtain ⟨bn, hbn⟩ : ∃ bn, bn = s.base.length := ⟨_, rfl⟩
      have k0 : wr.cell? ⟨p, 0, none⟩ = some (.slice ba s.base.length bc) := by simp only [World.cell?, hboxr]; rfl
      have k2 : wr.cell? ⟨p, 2, none⟩ = some (.map (some db)) := by simp only [World.cell?, hboxr]; rfl
      have K42 := fun W (h : IntsAt W (.slice ba s.base.length bc) s.base) => clone_ints W _ s.base h hblen
      rw [← hbn] at k0 K42
      have HBN := hid hbn
      have K43 : ∀ W : World, W.ownsMap Tryz.prog 87 unitElem db n D1 → Calls Tryz.prog 43 #[.map (some db)] W fun e w' => e = .returned (.map (some W.heap.size)) ∧ w'.ownsMap Tryz.prog 87 unitElem W.heap.size n D1 ∧ w'.ownsMap Tryz.prog 87 unitElem db n D1 ∧ Below W.heap.size W w' := fun W h => AnyW.maps_Clone_owns Tryz.cloneDots 87 unitElem db n D1 W h
      have HD2 : Hid (wr.drew.ownsMap Tryz.prog 87 unitElem db n D1) := hid hD1
      have HIr := hid hIr
      have HD1 := hid hD1
      have HDK := hid hdk
      have HBR := hid hBr
      clear hrg hBr hboxr hIr hD1 hdk HR c1 hblen hbn hbox hbT
      go_wp2_with fail
      go_region_held (fun w' => w'.cell? ⟨p, 0, none⟩ = some (.slice ba bn bc) ∧ w'.cell? ⟨p, 2, none⟩ = some (.map (some db))) (go_keep) (first
        | (go_at_call 42; refine (K42 _ ?hI).mono ?_; (case hI => rw [HBN.out]; exact HIr.out.at); rintro e w4 ⟨a4, c4, rfl, hT4, hb4⟩; have k0' : w4.cell? ⟨p, 0, none⟩ = some (.slice ba bn bc) := (by rw [hb4.cell (lt_of_cell k0)]; exact k0); have k2' : w4.cell? ⟨p, 2, none⟩ = some (.map (some db)) := (by rw [hb4.cell (lt_of_cell k2)]; exact k2); have HB4 := hid hb4; have HT4 := hid hT4; clear hb4 hT4)
        | (go_at_call 43; refine (K43 _ ?hM).mono ?_; (case hM => exact HD2.out.kept (row := none) (grown_belowQ none HB4.out) (by simp)); rintro e w5 ⟨rfl, hM5, _, hb5⟩; have k0'' : w5.cell? ⟨p, 0, none⟩ = some (.slice ba bn bc) := (by rw [hb5.cell (lt_of_cell k0')]; exact k0'); have k2'' : w5.cell? ⟨p, 2, none⟩ = some (.map (some db)) := (by rw [hb5.cell (lt_of_cell k2')]; exact k2'); have HB5 := hid hb5; have HM5 := hid hM5; clear hb5 hM5))
      have hsz : Maps.size D0 ≤ n := HD0.out.size_le
      have hend := hid (copy_end HI.out hl0 (fun k => (HSP.out k).1) (by have := HM0.out; omega) (by have := HOB.out; omega) (by obtain ⟨Dm, hDm, _⟩ := HI.out.out; exact hDm.lt) HB4.out HT4.out HB5.out HM5.out HDK.out)
      go_wp2_with fail
      go_ret
      exact hend.out
    · intro x ca cn cc kl y1 y2 w1 cnt1 hkey hlk hv hat hrg1 hlt hg1 hs1 hen
      obtain rfl := keyStr_lit hkey
      obtain ⟨rows, hrow, hF⟩ := HV.out.rows x
      have hfx : mkSl (ca, cn, cc) = f x := sliceElem_inj hv (sliceElem_row hrow) ((hat .nil).symm.trans (HSP.out x).2)
      have hBr := HI.out.below
      have hB1 : Below w.heap.size w w1 := hBr.grown hg1 hBr.size (fun j hj => by cases hj; have := HOB.out; omega)
      have V1 := HV.out.moved hB1
      obtain ⟨rows1, hrow1, hF1⟩ := V1.rows x
      rw [← hfx] at hrow1
      have K41 := hid (copyParts_ok w1 (mkSl (ca, cn, cc)) nb (rowOf s x) rows1 hrow1 hF1 (fun c hc => HIN.out c (mem_rowOf hc)) (HFEW.out x))
      have hRows1 := HI.out.rows.turned hg1 (iter_no_cells hrg)
      obtain ⟨Dm, hDm, hDk⟩ := HI.out.out
      have hDm1 := hDm.kept hg1 (by simp)
      have hne : rowOf s x ≠ [] := by
        have h1 := HI.out.left _ hlk
        rw [(HSP.out x).1] at h1
        exact of_decide_eq_true h1
      have hdx : doneK D0 left x = false := by unfold doneK; rw [hlk]; simp
      have HABS := hid HI.out.abs_
      have HNONE := hid HI.out.none_
      have HLEFT := hid HI.out.left
      have HDK := hid hDk
      have HRG1 := hid hrg1
      have HROWS1 := hid hRows1
      have HDM1 := hid hDm1
      have HB1 := hid hB1
      have HFX := hid hfx
      have HKEY := hid hkey
      clear hrow hF hrow1 hF1 V1 hBr hB1 hRows1 hDm hDk hDm1 hrg1 hrg hat hv HI hfx
      unfold mkSl at hen K41 ⊢
      dsimp only at hen K41 ⊢
      go_wp2_with fail
      refine K41.out.mono ?_
      rintro e w2 ⟨v2, rs2, E2, D2, rfl, hrow2, hcp2, hB2⟩
      have hDm2 := HDM1.out.kept (grown_belowQ none hB2) (by simp)
      obtain ⟨w3, hrun, hm3, hg3⟩ := hDm2.update keyed9 Tryz.underlying80 (show m < maxLen by unfold maxLen; have := HM0.out; have hsz : Maps.size D0 ≤ n := HD0.out.size_le; omega) HKEY.out (sliceElem_row hrow2)
      obtain ⟨a2, c2, hv2⟩ := hrow2.shape
      have HN := hid (CopyInv.next HROWS1.out HABS.out HDK.out HNONE.out HLEFT.out HB1.out (by have := HOB.out; omega) hlk hB2 hrow2 hcp2 hDm2 hg3 hm3)
      have hrg3 := (HRG1.out.kept (grown_belowQ none hB2) (by simp) (by simp)).kept hg3 (by have := HOB.out; intro h; injection h; omega) (by intro h; injection h; omega)
      have HRG3 := hid hrg3
      clear hrg3 hDm2 hm3 hg3 hcp2 hB2
      rw [hv2] at hrun
      rw [hv2]
      go_wp2_with fail
      exact ⟨⟨_, _, _, _, _, _, _, HRG3, (by omega), HN⟩, (by rw [HRG3.out.left_eq, HR.out.left_eq]; exact hlt)⟩
end Go.Proofs.YtdnebclemngdcaaGreatDoor
