/- A set of one text; SameTexts by its contract; Where ValuesSets' first loop stands. -/
import Derived.Test.YtilonnkohcocoaaGreatDoorJVSetsM
namespace Go.Proofs.YtilonnkohcocoaaGreatDoor
open Go.RowKit Go.Sort Go.Maps
set_option maxRecDepth 100000
set_option linter.unusedSectionVars false
variable [Inhabited ComV] [DecidableEq D3] [Inhabited D3] [Inhabited Dd] [Inhabited Dn] [Inhabited OpV]

theorem compact_upTo_rep (x : List UInt8) (n : Nat) : ∀ m, m ≤ n → Lib.compactUpTo (List.replicate n x).toArray m = if m = 0 then [] else [x] := by
  intro m
  induction m with
  | zero => intro _; rfl
  | succ m ih =>
    intro hm
    have g : ∀ j, j < n → (List.replicate n x).toArray[j]! = x := fun j hj => by
      rw [getElem!_pos _ j (by simpa using hj)]
      simp
    rw [Lib.compactUpTo_succ, ih (by omega), if_neg (by omega : ¬ m + 1 = 0)]
    by_cases h : m = 0
    · subst h
      rw [if_pos rfl, Lib.keeps_lt_one _ 0 (by decide), if_pos rfl, g 0 (by omega)]
      rfl
    · rw [if_neg h, Lib.keeps_neg (by omega) (by rw [g m (by omega), g (m - 1) (by omega)]), if_neg (by decide)]
      rfl
theorem setA_rep (t : ByteArray) (n : Nat) : setA (List.replicate n t) = if n = 0 then [] else [t.data.toList] := by
  unfold setA
  rw [List.map_replicate]
  have hp := List.mergeSort_perm (List.replicate n t.data.toList) fun x y => decide (x ≤ y)
  rw [List.perm_replicate.1 hp]
  unfold Lib.compact
  rw [List.length_replicate, compact_upTo_rep _ _ _ (Nat.le_refl _)]
set_option maxHeartbeats 1000000 in
theorem sameTexts_one (w : World) (b1 c1 b2 c2 : Nat) (t : ByteArray) (h1 : w.cell? ⟨b1, 0, none⟩ = some (.string t)) (h2 : w.cell? ⟨b2, 0, none⟩ = some (.string t)) :
    Calls Tryz.prog 30 #[.slice (some ⟨b1, 0, none⟩) 1 c1, .slice (some ⟨b2, 0, none⟩) 1 c2] w fun e w' => e = .returned (.bool true) ∧ ∃ q, w' = w.drewN q := by
  go_enter Tryz.func30, Tryz.ntmps30
  go_wp2
  refine wp_loop_rounds 2 ?_
  rw [rounds_succ]
  go_wp2
  go_quiet (fail)
  go_wp2
  rw [rounds_succ]
  go_wp2
  go_ret
  exact ⟨rfl, _, rfl⟩
end Go.Proofs.YtilonnkohcocoaaGreatDoor
namespace Go.Proofs.YtilonnkohcocoaaGreatDoor
open Go.RowKit Go.Sort Go.Maps
set_option maxRecDepth 100000
set_option linter.unusedSectionVars false
variable [Inhabited ComV] [DecidableEq D3] [Inhabited D3] [Inhabited Dd] [Inhabited Dn] [Inhabited OpV]

theorem heap_set {w : World} {b j : Nat} {cs : Array Value} {t : TypeId} (h : w.heap[b]? = some (.cells cs t (0, 0))) (v : Value) : (w.setCell ⟨b, j, none⟩ v).heap[b]? = some (.cells (cs.setIfInBounds j v) t (0, 0)) := by
  simp only [World.setCell, Array.getElem?_modify, h]
  simp
/-- A commit with one op that names no dots, in two blocks of its own. -/
def ComBlk (w : World) (r : List Value) (c : ComV) : Prop := ∃ wb ob o, c.ops = [o] ∧ o.dots = [] ∧ r = [.slice (some ⟨wb, 0, none⟩) 6 6, .int .i64 c.place, .slice (some ⟨ob, 0, none⟩) 1 1] ∧ c.when_.length = 6 ∧
  w.heap[wb]? = some (.cells (c.when_.map (Value.int .i64)).toArray 3 (0, 0)) ∧ w.heap[ob]? = some (.cells (opCells o (.slice none 0 0)).toArray 24 (0, 0))
theorem ComBlk.kept {w w' : World} {r : List Value} {c : ComV} (h : ComBlk w r c) (hk : ∀ (b : Nat) (cs : Array Value), w.heap[b]? = some (.cells cs 3 (0, 0)) ∨ w.heap[b]? = some (.cells cs 24 (0, 0)) ∧ cs.getD 5 undef ≠ .bool true → w'.heap[b]? = w.heap[b]?) (ho : ∀ o, c.ops = [o] → o.rem = false) : ComBlk w' r c := by
  obtain ⟨wb, ob, o, h1, h2, h3, h4, h5, h6⟩ := h
  have h7 : (opCells o (.slice none 0 0)).toArray.getD 5 undef ≠ .bool true := by
    have := ho o h1
    simp [opCells, this]
  exact ⟨wb, ob, o, h1, h2, h3, h4, by rw [hk wb _ (.inl h5)]; exact h5, by rw [hk ob _ (.inr ⟨h6, h7⟩)]; exact h6⟩
theorem ComBlk.row {w : World} {r : List Value} {c : ComV} (h : ComBlk w r c) : ComRow w r c := by
  obtain ⟨wb, ob, o, h1, h2, rfl, h4, h5, h6⟩ := h
  refine ⟨_, _, rfl, ints_lit h5 h4.symm, ?_⟩
  rw [h1]
  exact ⟨[opCells o (.slice none 0 0)], rowAt_lit h6 [_] (by simp) (fun r hr => by rw [List.mem_singleton.1 hr]; rfl) rfl (Nat.le_refl _), ⟨⟨_, rfl, by rw [h2]; exact dots_nil _⟩, trivial⟩⟩
theorem f2_append {α β : Type} {R : α → β → Prop} : ∀ {l : List α} {m : List β} {a : α} {b : β}, F2 R l m → R a b → F2 R (l ++ [a]) (m ++ [b])
  | [], [], _, _, _, h => ⟨h, trivial⟩
  | _ :: _, _ :: _, _, _, ⟨h1, h2⟩, h => ⟨h1, f2_append h2 h⟩
theorem f2_kept {α β : Type} {R S : α → β → Prop} : ∀ {l : List α} {m : List β}, F2 R l m → (∀ a b, b ∈ m → R a b → S a b) → F2 S l m
  | [], [], _, _ => trivial
  | _ :: _, _ :: _, ⟨h1, h2⟩, h => ⟨h _ _ (List.mem_cons_self ..) h1, f2_kept h2 fun a b hb => h a b (List.mem_cons_of_mem _ hb)⟩
theorem own_type {w : World} {base e size : Nat} {v : Value} {n : Nat} {xs : List Value} (h : w.ownsRow base e size v n xs) {b : Nat} (hb : v.ownBlock = some b) : ∃ cs, w.heap[b]? = some (.cells cs e (0, 0)) := by
  rcases h.2 with ⟨rfl, _⟩ | ⟨g, cap, cur, rfl, _, hh, _⟩
  · cases hb
  · obtain rfl := Option.some.inj hb
    exact ⟨_, hh⟩
theorem rowAt_of_owns {w : World} {base e k : Nat} {v : Value} {n : Nat} {rows : List (List Value)} (h : w.ownsRow base e k v n rows.flatten) (hn : n = rows.length) (hk : ∀ r ∈ rows, r.length = k) : RowAt k w v rows := by
  subst hn
  obtain ⟨_, h2⟩ := h
  rcases h2 with ⟨rfl, h0⟩ | ⟨g, cap, cur, rfl, _, hh, hc, _, hs, ht⟩
  · obtain rfl := List.eq_nil_of_length_eq_zero h0
    exact ⟨_, _, rfl, fun _ => rfl, Nat.le_refl _, .inl rfl⟩
  · refine ⟨_, cap, rfl, (fun h => by cases h), hc, .inr ⟨g, 0, rfl, fun j r hr => ?_⟩⟩
    have hj : j < rows.length := (List.getElem?_eq_some_iff.1 hr).1
    have hrm : r ∈ rows := List.mem_of_getElem? hr
    refine ⟨hk r hrm, fun i u hu => ?_⟩
    have hi : i < k := by have := (List.getElem?_eq_some_iff.1 hu).1; rw [hk r hrm] at this; exact this
    have hfl : ∀ (rows : List (List Value)) (j : Nat) (r : List Value), (∀ r ∈ rows, r.length = k) → rows[j]? = some r → ∀ i u, i < k → r[i]? = some u → rows.flatten[j * k + i]? = some u := by
      intro rows
      induction rows with
      | nil => intro j r _ h; simp at h
      | cons x rest ih =>
        intro j r hk h i u hi hu
        have hx := hk x (List.mem_cons_self ..)
        rw [List.flatten_cons]
        cases j with
        | zero =>
          simp at h
          subst h
          rw [List.getElem?_append_left (by omega), Nat.zero_mul, Nat.zero_add]
          exact hu
        | succ j =>
          rw [List.getElem?_append_right (by rw [hx, Nat.add_mul]; omega), hx, show (j + 1) * k + i - k = j * k + i by rw [Nat.add_mul]; omega]
          exact ih j r (fun r hr => hk r (List.mem_cons_of_mem _ hr)) (by simpa using h) i u hi hu
    have e := hfl rows j r hk hr i u hi hu
    have hb : j * k + i < rows.length * k := by
      have : (j + 1) * k ≤ rows.length * k := Nat.mul_le_mul_right k hj
      rw [Nat.add_mul] at this
      omega
    rw [← ht, List.getElem?_take, if_pos hb, Array.getElem?_toList] at e
    simp only [World.cell?, hh, Nat.zero_add]
    rw [e]
    simp
theorem dots_of_owns {w : World} {base n : Nat} {v : Value} {ts : List D3} (h : w.ownsRow base 65 3 v n (ts.flatMap D3.cells)) (hn : n = ts.length) : DotsAt w v ts := by
  subst hn
  rcases h.2 with ⟨rfl, h0⟩ | ⟨g, cap, cur, rfl, _⟩
  · obtain rfl := List.eq_nil_of_length_eq_zero h0
    exact dots_nil _
  · obtain ⟨h1, _, _, _, h5⟩ := holds3_of_owns h
    simpa using dots_of_holds h1 (by simpa using h5)

/-- k commits are made, s dots are seen; the drop lies in its box. -/
structure SetsInv (w0 : World) (text : ByteArray) (k s : Nat) (lv dv : Value) (rows : List (List Value)) (w : World) : Prop where
  below : Below w0.heap.size w0 w
  size : w0.heap.size + 1 ≤ w.heap.size
  box : w.heap[w0.heap.size]? = some (.cells (opCells (dropOp text 0) dv).toArray 24 (0, 0))
  dots : w.ownsRow (w0.heap.size + 1) 65 3 dv s (((List.range s).map dotI).flatMap D3.cells)
  row : w.ownsRow (w0.heap.size + 1) 28 3 lv k rows.flatten
  coms : F2 (ComBlk w) rows ((List.range k).map (comI text))
theorem comI_rem {text : ByteArray} {k : Nat} {c : ComV} (h : c ∈ (List.range k).map (comI text)) : ∀ o, c.ops = [o] → o.rem = false := by
  obtain ⟨i, _, rfl⟩ := List.mem_map.1 h
  intro o ho
  obtain rfl : addOp text = o := by simpa [comI] using ho
  rfl
theorem lt_of_heap {w : World} {b : Nat} {o : Obj} (h : w.heap[b]? = some o) : b < w.heap.size := (Array.getElem?_eq_some_iff.1 h).1
theorem owns_below {w w' : World} {base e size : Nat} {v : Value} {n : Nat} {xs : List Value} (h : w.ownsRow base e size v n xs) (hb : ∀ (b : Nat) (cs : Array Value), w.heap[b]? = some (.cells cs e (0, 0)) → w'.heap[b]? = w.heap[b]?) : w'.ownsRow base e size v n xs := by
  obtain ⟨h1, h2⟩ := h
  refine ⟨h1, ?_⟩
  rcases h2 with h2 | ⟨g, cap, cur, hv, hg, hh, r⟩
  · exact .inl h2
  · exact .inr ⟨g, cap, cur, hv, hg, by rw [hb g _ hh]; exact hh, r⟩
theorem SetsInv.moved {w0 w w' : World} {text : ByteArray} {k s : Nat} {lv dv : Value} {rows : List (List Value)} (h : SetsInv w0 text k s lv dv rows w) (hb : Below w.heap.size w w') : SetsInv w0 text k s lv dv rows w' where
  below := h.below.trans (hb.mono (by have := h.size; omega))
  size := Nat.le_trans h.size hb.size
  box := by rw [hb.block _ (by have := h.size; omega)]; exact h.box
  dots := owns_below h.dots fun b cs hc => hb.block b (lt_of_heap hc)
  row := owns_below h.row fun b cs hc => hb.block b (lt_of_heap hc)
  coms := f2_kept h.coms fun a b hm hc => hc.kept (fun b cs h => hb.block b (by rcases h with h | ⟨h, _⟩ <;> exact lt_of_heap h)) (comI_rem hm)
theorem SetsInv.commit {w0 w w' : World} {text : ByteArray} {k s : Nat} {lv lv' dv : Value} {rows : List (List Value)} {r : List Value} (h : SetsInv w0 text k s lv dv rows w) (hg : w.grownBy w' lv.ownBlock) (hr : w'.ownsRow (w0.heap.size + 1) 28 3 lv' (k + 1) (rows.flatten ++ r)) (hc : ComBlk w r (comI text k)) : SetsInv w0 text (k + 1) s lv' dv (rows ++ [r]) w' := by
  have hne : ∀ (b : Nat) (cs : Array Value) (t : TypeId), t ≠ 28 → w.heap[b]? = some (.cells cs t (0, 0)) → w'.heap[b]? = w.heap[b]? := fun b cs t ht hb => hg.block b (lt_of_heap hb) fun e => by
    obtain ⟨cs', h'⟩ := own_type h.row e.symm
    rw [hb] at h'
    injection h' with h'
    injection h' with _ h'
    exact ht h'
  have kp : ∀ r c, (∀ o, c.ops = [o] → o.rem = false) → ComBlk w r c → ComBlk w' r c := fun r c hm hc => hc.kept (fun b cs h => by
    rcases h with h | ⟨h, _⟩
    · exact hne b cs 3 (by decide) h
    · exact hne b cs 24 (by decide) h) hm
  refine ⟨h.below.trans ⟨hg.os, hg.tape, hg.output, hg.size, fun i hi => hg.block i (by have := h.size; omega) fun e => by have := (h.row.lt i e.symm).1; omega⟩, Nat.le_trans h.size hg.size, by rw [hne _ _ 24 (by decide) h.box]; exact h.box, owns_below h.dots fun b cs hb => hne b cs 65 (by decide) hb, by simpa using hr, ?_⟩
  rw [List.range_succ, List.map_append]
  exact f2_append (f2_kept h.coms fun a b hm hc => kp a b (comI_rem hm) hc) (kp r _ (fun o ho => by obtain rfl : addOp text = o := by simpa [comI] using ho
                                                                                                    rfl) hc)
theorem SetsInv.seen {w0 w w1 : World} {text : ByteArray} {k s : Nat} {lv dv dv' : Value} {rows : List (List Value)} (h : SetsInv w0 text k s lv dv rows w) (hg : w.grownBy w1 dv.ownBlock) (hr : w1.ownsRow (w0.heap.size + 1) 65 3 dv' (s + 1) (((List.range s).map dotI).flatMap D3.cells ++ (dotI s).cells)) : SetsInv w0 text k (s + 1) lv dv' rows (w1.setCell ⟨w0.heap.size, 6, none⟩ dv') := by
  have hne : ∀ (b : Nat) (cs : Array Value) (t : TypeId), t ≠ 65 → w.heap[b]? = some (.cells cs t (0, 0)) → w1.heap[b]? = w.heap[b]? := fun b cs t ht hb => hg.block b (lt_of_heap hb) fun e => by
    obtain ⟨cs', h'⟩ := own_type h.dots e.symm
    rw [hb] at h'
    injection h' with h'
    injection h' with _ h'
    exact ht h'
  have hbx : w1.heap[w0.heap.size]? = some (.cells (opCells (dropOp text 0) dv).toArray 24 (0, 0)) := by rw [hne _ _ 24 (by decide) h.box]; exact h.box
  have hb1 : Below w0.heap.size w0 w1 := h.below.trans ⟨hg.os, hg.tape, hg.output, hg.size, fun i hi => hg.block i (by have := h.size; omega) fun e => by have := (h.dots.lt i e.symm).1; omega⟩
  have hs : ∀ i : Nat, i ≠ w0.heap.size → (w1.setCell ⟨w0.heap.size, 6, none⟩ dv').heap[i]? = w1.heap[i]? := fun i hi => Below.heap_setCell _ _ _ _ hi
  refine ⟨hb1.setCell (Nat.le_refl _) _, by have := h.size; have := hg.size; simp [World.setCell]; omega, ?_, ?_, ?_, ?_⟩
  · rw [heap_set hbx]
    rfl
  · have := ownsRow_setCell_below hr (a := ⟨w0.heap.size, 6, none⟩) (Nat.lt_succ_self _) dv'
    rw [List.range_succ, List.map_append, List.flatMap_append]
    simpa using this
  · exact ownsRow_setCell_below (owns_below h.row fun b cs hb => hne b cs 28 (by decide) hb) (Nat.lt_succ_self _) dv'
  · refine f2_kept h.coms fun a c hm hc => hc.kept (fun b cs hb => ?_) (comI_rem hm)
    have e1 : w1.heap[b]? = w.heap[b]? := by
      rcases hb with hb | ⟨hb, _⟩
      · exact hne b cs 3 (by decide) hb
      · exact hne b cs 24 (by decide) hb
    rw [hs b (fun e => ?_)]
    · exact e1
    · rw [e, h.box] at hb
      rcases hb with hb | ⟨hb, hb2⟩
      · injection hb with hb
        injection hb with _ hb
        exact absurd hb (by decide)
      · injection hb with hb
        injection hb with hb
        subst hb
        exact hb2 rfl
theorem SetsInv.start (w0 : World) (text : ByteArray) : SetsInv w0 text 0 0 (.slice none 0 0) (.slice none 0 0) [] (w0.alloc (.cells (opCells (dropOp text 0) (.slice none 0 0)).toArray 24 (0, 0))) where
  below := below_alloc _ _
  size := by simp
  box := (MapKept.heap_alloc _ _).1
  dots := World.ownsRow_nil _ _ _ _
  row := World.ownsRow_nil _ _ _ _
  coms := trivial
/-- All are made, and the last one that drops. -/
theorem SetsInv.all {w0 w w' : World} {text : ByteArray} {k s : Nat} {lv lv' dv : Value} {rows : List (List Value)} {wb ob : Nat} (h : SetsInv w0 text k s lv dv rows w) (hg : w.grownBy w' lv.ownBlock)
    (hr : w'.ownsRow (w0.heap.size + 1) 28 3 lv' (k + 1) (rows.flatten ++ [.slice (some ⟨wb, 0, none⟩) 6 6, .int .i64 0, .slice (some ⟨ob, 0, none⟩) 1 1]))
    (hs : s ≤ 6) (hw : w.heap[wb]? = some (.cells ((whenD s).map (Value.int .i64)).toArray 3 (0, 0))) (ho : w.heap[ob]? = some (.cells (opCells (dropOp text s) dv).toArray 24 (0, 0))) : ComsAt w' lv' (setsL text k s) ∧ Below w0.heap.size w0 w' := by
  have hne : ∀ (b : Nat) (cs : Array Value) (t : TypeId), t ≠ 28 → w.heap[b]? = some (.cells cs t (0, 0)) → w'.heap[b]? = w.heap[b]? := fun b cs t ht hb => hg.block b (lt_of_heap hb) fun e => by
    obtain ⟨cs', h'⟩ := own_type h.row e.symm
    rw [hb] at h'
    injection h' with h'
    injection h' with _ h'
    exact ht h'
  refine ⟨⟨rows ++ [[.slice (some ⟨wb, 0, none⟩) 6 6, .int .i64 0, .slice (some ⟨ob, 0, none⟩) 1 1]], ?_, ?_⟩, h.below.trans ⟨hg.os, hg.tape, hg.output, hg.size, fun i hi => hg.block i (by have := h.size; omega) fun e => by have := (h.row.lt i e.symm).1; omega⟩⟩
  · refine rowAt_of_owns (by simpa using hr) ?_ ?_
    · have := f2_len h.coms
      simp at this
      simp [this]
    · intro r hr
      rcases List.mem_append.1 hr with hr | hr
      · obtain ⟨i, hi, rfl⟩ := List.getElem_of_mem hr
        have hl := f2_len h.coms
        have : ∀ {rows : List (List Value)} {cs : List ComV}, F2 (ComBlk w) rows cs → ∀ r ∈ rows, r.length = 3 := by
          intro rows
          induction rows with
          | nil => intro _ _ r hr; simp at hr
          | cons x t ih =>
            intro cs hf r hr
            match cs, hf with
            | _ :: _, ⟨h1, h2⟩ =>
              rcases List.mem_cons.1 hr with rfl | hr
              · obtain ⟨_, _, _, _, _, rfl, _⟩ := h1
                rfl
              · exact ih h2 r hr
        exact this h.coms _ (List.getElem_mem hi)
      · rw [List.mem_singleton.1 hr]
        rfl
  · unfold setsL
    refine f2_append (f2_kept h.coms fun a c hm hc => (hc.kept (fun b cs hb => ?_) (comI_rem hm)).row) ?_
    · rcases hb with hb | ⟨hb, _⟩
      · exact hne b cs 3 (by decide) hb
      · exact hne b cs 24 (by decide) hb
    · refine ⟨_, _, rfl, ints_lit (by rw [hne _ _ 3 (by decide) hw]; exact hw) (whenD_len hs).symm, [opCells (dropOp text s) dv], rowAt_lit (by rw [hne _ _ 24 (by decide) ho]; exact ho) [_] (by simp) (fun r hr => by rw [List.mem_singleton.1 hr]; rfl) rfl (Nat.le_refl _), ⟨⟨_, rfl, ?_⟩, trivial⟩⟩
      exact dots_of_owns (ts := (List.range s).map dotI) (owns_below h.dots fun b cs hb => hne b cs 65 (by decide) hb) (by rw [List.length_map, List.length_range])
end Go.Proofs.YtilonnkohcocoaaGreatDoor
