/- Dots by its contract, where nothing is wrong; Where ValuesSets' first loop stands; Copies: appending a whole slice to none; where OwnCommit stands. -/
import Derived.Test.YtefpnojanldkeaaDoorJVOf
import Derived.Test.YtefpnojanldkeaaDoorJVOp2
import Derived.Test.YtefpnojanldkeaaDoorJVCmp
import Derived.Laws.ResultCell
import Derived.Shelf.GgSortFunc.RowK
import Derived.Test.YtefpnojanldkeaaDoorJVCom
import Derived.Laws.AppendOwnNone
namespace Go.Proofs.YtefpnojanldkeaaDoor
open Go.RowKit Go.Sort Go.Maps Go.Shelf
set_option maxRecDepth 100000
set_option linter.unusedSectionVars false
variable [Inhabited ComV] [DecidableEq D3] [Inhabited D3] [Inhabited Dn] [Inhabited OpV]

theorem dots_nil (w : World) : DotsAt w (.slice none 0 0) [] := ⟨none, 0, rfl, fun _ => rfl, Nat.le_refl _, .inl rfl⟩
theorem Tryd.info96 : (Tryd.prog.info? 96).map (fun i => (i.zero, i.size, i.bytes)) = some (some (.agg #[.int .i64 0, .int .i64 0, .int .i64 0]), 3, 24) := by kernel_rfl
theorem D3.one (d : D3) : ∀ v ∈ d.cells, v.oneCell' = true := fun v hv => by
  simp only [D3.cells, List.mem_cons, List.not_mem_nil, or_false] at hv
  rcases hv with rfl | rfl | rfl <;> rfl
theorem flat3_get (xs : List D3) : ∀ (j i : Nat), j < xs.length → i < 3 → (xs.flatMap D3.cells)[j * 3 + i]? = some (xs[j]!.cells[i]!) := by
  induction xs with
  | nil => intro j i hj; simp at hj
  | cons x r ih =>
    intro j i hj hi
    rw [List.flatMap_cons]
    cases j with
    | zero =>
      rw [List.getElem?_append_left (by show _ < 3; omega), Nat.zero_mul, Nat.zero_add, List.getElem?_eq_getElem (show i < x.cells.length from hi)]
      show some _ = some (x.cells[i]!)
      rw [getElem!_pos x.cells i hi]
      rfl
    | succ j =>
      rw [List.getElem?_append_right (by show 3 ≤ _; omega), show (j + 1) * 3 + i - x.cells.length = j * 3 + i by show _ - 3 = _; omega, ih j i (by simpa using hj) hi]
      simp
theorem holds3_iff {w : World} {g : Nat} {d : Array D3} : HoldsK D3.cells 3 w g 0 d ↔ ∀ j, j < d.size → ∀ i, i < 3 → w.cell? ⟨g, j * 3 + i, none⟩ = some (d[j]!.cells[i]!) ∧ w.frozen? ⟨g, j * 3 + i, none⟩ = false := by
  constructor
  · intro h j hj i hi
    have := h (j * 3 + i) (by rw [size_flatK]; omega)
    rw [get_flatK _ _ _ _ (by omega), show (j * 3 + i) / 3 = j by omega, show (j * 3 + i) % 3 = i by omega, Nat.zero_add] at this
    exact this
  · intro h t ht
    rw [size_flatK] at ht
    rw [get_flatK _ _ _ _ ht, Nat.zero_add]
    have := h (t / 3) (by omega) (t % 3) (by omega)
    rw [show t / 3 * 3 + t % 3 = t by omega] at this
    exact this
theorem dots_of_holds {w : World} {g cap : Nat} {d : Array D3} (h : HoldsK D3.cells 3 w g 0 d) (hc : d.size ≤ cap) : DotsAt w (.slice (some ⟨g, 0, none⟩) d.size cap) d.toList := by
  refine ⟨_, cap, by simp, (fun e => by cases e), by simpa using hc, .inr ⟨g, 0, rfl, fun j r hr => ?_⟩⟩
  rw [List.getElem?_map] at hr
  cases hj : d.toList[j]? with
  | none => rw [hj] at hr; cases hr
  | some x =>
    rw [hj] at hr
    obtain rfl := Option.some.inj hr
    obtain ⟨hl, hx⟩ := List.getElem?_eq_some_iff.1 hj
    have hl' : j < d.size := by simpa using hl
    refine ⟨rfl, fun i u hu => ?_⟩
    have hi : i < 3 := (List.getElem?_eq_some_iff.1 hu).1
    have := (holds3_iff.1 h j hl' i hi).1
    have e : d[j]! = x := by rw [getElem!_pos d j hl', ← hx]; simp
    rw [Nat.zero_add, this, e, List.getElem!_eq_getElem?_getD, hu]
    rfl
/-- A row of dots that the call owns. -/
theorem holds3_of_owns {w : World} {base g n cap : Nat} {ts : List D3} (h : w.ownsRow base 96 3 (.slice (some ⟨g, 0, none⟩) n cap) ts.length (ts.flatMap D3.cells)) : HoldsK D3.cells 3 w g 0 ts.toArray ∧ base ≤ g ∧ g < w.heap.size ∧ n = ts.length ∧ ts.length ≤ cap := by
  obtain ⟨_, h2⟩ := h
  rcases h2 with ⟨h, _⟩ | ⟨g', cap', cur, he, hb, hh, hn, hm, hs, ht⟩
  · cases h
  · cases he
    refine ⟨?_, hb, (Array.getElem?_eq_some_iff.1 hh).1, rfl, hn⟩
    rw [holds3_iff]
    intro j hj i hi
    have hj' : j < ts.length := by simpa using hj
    have e := flat3_get ts j i hj' hi
    rw [← ht, List.getElem?_take, if_pos (by omega), Array.getElem?_toList] at e
    refine ⟨?_, ?_⟩
    · simp only [World.cell?, hh]
      rw [e]
      simp
    · simp only [World.frozen?, hh]
      simp
end Go.Proofs.YtefpnojanldkeaaDoor
namespace Go.Proofs.YtefpnojanldkeaaDoor
open Go.RowKit Go.Sort Go.Maps
set_option maxRecDepth 100000
set_option linter.unusedSectionVars false
variable [Inhabited ComV] [DecidableEq D3] [Inhabited D3] [Inhabited Dn] [Inhabited OpV]

theorem heap_set {w : World} {b j : Nat} {cs : Array Value} {t : TypeId} (h : w.heap[b]? = some (.cells cs t (0, 0))) (v : Value) : (w.setCell ⟨b, j, none⟩ v).heap[b]? = some (.cells (cs.setIfInBounds j v) t (0, 0)) := by
  simp only [World.setCell, Array.getElem?_modify, h]
  simp
theorem f2_append {α β : Type} {R : α → β → Prop} : ∀ {l : List α} {m : List β} {a : α} {b : β}, F2 R l m → R a b → F2 R (l ++ [a]) (m ++ [b])
  | [], [], _, _, _, h => ⟨h, trivial⟩
  | _ :: _, _ :: _, _, _, ⟨h1, h2⟩, h => ⟨h1, f2_append h2 h⟩
theorem own_type {w : World} {base e size : Nat} {v : Value} {n : Nat} {xs : List Value} (h : w.ownsRow base e size v n xs) {b : Nat} (hb : v.ownBlock = some b) : ∃ cs, w.heap[b]? = some (.cells cs e (0, 0)) := by
  rcases h.2 with ⟨rfl, _⟩ | ⟨g, cap, cur, rfl, _, hh, _⟩
  · cases hb
  · obtain rfl := Option.some.inj hb
    exact ⟨_, hh⟩
theorem rowAt_of_owns {w : World} {base e k : Nat} {v : Value} {n : Nat} {rows : List (List Value)} (h : w.ownsRow base e k v n rows.flatten) (hn : n = rows.length) (hk : ∀ r ∈ rows, r.length = k) : RowAt k w v rows := by
  subst hn
  obtain ⟨_, h2⟩ := h
  rcases h2 with ⟨rfl, h0⟩ | ⟨g, cap, cur, rfl, _, hh, hc, _, hs, ht⟩
  · obtain rfl := List.eq_nil_of_length_eq_zero h0
    exact ⟨_, _, rfl, fun _ => rfl, Nat.le_refl _, .inl rfl⟩
  · refine ⟨_, cap, rfl, (fun h => by cases h), hc, .inr ⟨g, 0, rfl, fun j r hr => ?_⟩⟩
    have hj : j < rows.length := (List.getElem?_eq_some_iff.1 hr).1
    have hrm : r ∈ rows := List.mem_of_getElem? hr
    refine ⟨hk r hrm, fun i u hu => ?_⟩
    have hi : i < k := by have := (List.getElem?_eq_some_iff.1 hu).1; rw [hk r hrm] at this; exact this
    have hfl : ∀ (rows : List (List Value)) (j : Nat) (r : List Value), (∀ r ∈ rows, r.length = k) → rows[j]? = some r → ∀ i u, i < k → r[i]? = some u → rows.flatten[j * k + i]? = some u := by
      intro rows
      induction rows with
      | nil => intro j r _ h; simp at h
      | cons x rest ih =>
        intro j r hk h i u hi hu
        have hx := hk x (List.mem_cons_self ..)
        rw [List.flatten_cons]
        cases j with
        | zero =>
          simp at h
          subst h
          rw [List.getElem?_append_left (by omega), Nat.zero_mul, Nat.zero_add]
          exact hu
        | succ j =>
          rw [List.getElem?_append_right (by rw [hx, Nat.add_mul]; omega), hx, show (j + 1) * k + i - k = j * k + i by rw [Nat.add_mul]; omega]
          exact ih j r (fun r hr => hk r (List.mem_cons_of_mem _ hr)) (by simpa using h) i u hi hu
    have e := hfl rows j r hk hr i u hi hu
    have hb : j * k + i < rows.length * k := by
      have : (j + 1) * k ≤ rows.length * k := Nat.mul_le_mul_right k hj
      rw [Nat.add_mul] at this
      omega
    rw [← ht, List.getElem?_take, if_pos hb, Array.getElem?_toList] at e
    simp only [World.cell?, hh, Nat.zero_add]
    rw [e]
    simp
theorem dots_of_owns {w : World} {base n : Nat} {v : Value} {ts : List D3} (h : w.ownsRow base 96 3 v n (ts.flatMap D3.cells)) (hn : n = ts.length) : DotsAt w v ts := by
  subst hn
  rcases h.2 with ⟨rfl, h0⟩ | ⟨g, cap, cur, rfl, _⟩
  · obtain rfl := List.eq_nil_of_length_eq_zero h0
    exact dots_nil _
  · obtain ⟨h1, _, _, _, h5⟩ := holds3_of_owns h
    simpa using dots_of_holds h1 (by simpa using h5)
theorem lt_of_heap {w : World} {b : Nat} {o : Obj} (h : w.heap[b]? = some o) : b < w.heap.size := (Array.getElem?_eq_some_iff.1 h).1
theorem owns_below {w w' : World} {base e size : Nat} {v : Value} {n : Nat} {xs : List Value} (h : w.ownsRow base e size v n xs) (hb : ∀ (b : Nat) (cs : Array Value), w.heap[b]? = some (.cells cs e (0, 0)) → w'.heap[b]? = w.heap[b]?) : w'.ownsRow base e size v n xs := by
  obtain ⟨h1, h2⟩ := h
  refine ⟨h1, ?_⟩
  rcases h2 with h2 | ⟨g, cap, cur, hv, hg, hh, r⟩
  · exact .inl h2
  · exact .inr ⟨g, cap, cur, hv, hg, by rw [hb g _ hh]; exact hh, r⟩
end Go.Proofs.YtefpnojanldkeaaDoor
namespace Go.Proofs.YtefpnojanldkeaaDoor
open Go.RowKit Go.Sort Go.Maps
set_option maxRecDepth 100000
set_option linter.unusedSectionVars false
variable [Inhabited ComV] [DecidableEq D3] [Inhabited D3] [Inhabited Dn] [Inhabited OpV]

/-- The slice v reads, in w, as m elements: the cells news. -/
def SrcAt (w : World) (v : Value) (m size : Nat) (news : List Value) : Prop :=
  (v = .slice none 0 0 ∧ m = 0 ∧ news = []) ∨ ∃ ad c, v = .slice (some ad) m c ∧ news.length = m * size ∧ ∀ j u, news[j]? = some u → w.cell? (ad.add j) = some u
theorem src_ints {w : World} {v : Value} {zs : List Int} (h : IntsAt w v zs) : SrcAt w v zs.length 1 (zs.map (Value.int .i64)) := by
  obtain ⟨ad, c, rfl, h0, h⟩ := h
  cases ad with
  | none =>
    obtain rfl := h0 rfl
    rcases h with rfl | ⟨b, o, he, _⟩
    · exact .inl ⟨rfl, rfl, rfl⟩
    · cases he
  | some a =>
    refine .inr ⟨a, c, rfl, by simp, fun j u hj => ?_⟩
    rcases h with rfl | ⟨b, o, he, h⟩
    · simp at hj
    · obtain rfl := Option.some.inj he
      rw [List.getElem?_map] at hj
      cases hjj : zs[j]? with
      | none => rw [hjj] at hj; cases hj
      | some z =>
        rw [hjj] at hj
        obtain rfl := Option.some.inj hj
        have hlt : j < zs.length := (List.getElem?_eq_some_iff.1 hjj).1
        have := h j hlt
        rw [List.getD_eq_getElem?_getD, hjj] at this
        rw [Addr.add_lit]
        exact this
theorem src_dots {w : World} {v : Value} {ds : List D3} (h : DotsAt w v ds) : SrcAt w v ds.length 3 (ds.flatMap D3.cells) := by
  obtain ⟨ad, c, rfl, h0, _, h⟩ := h
  rw [List.length_map]
  cases ad with
  | none =>
    obtain rfl := h0 rfl
    rcases h with h | ⟨b, o, he, _⟩
    · obtain rfl : ds = [] := by simpa using h
      exact .inl ⟨rfl, rfl, rfl⟩
    · cases he
  | some a =>
    have hlen : ∀ ds : List D3, (ds.flatMap D3.cells).length = ds.length * 3 := by
      intro ds
      induction ds with
      | nil => rfl
      | cons x r ih => rw [List.flatMap_cons, List.length_append, ih, List.length_cons]; show 3 + _ = _; omega
    refine .inr ⟨a, c, rfl, hlen ds, fun j u hj => ?_⟩
    rcases h with h | ⟨b, o, he, h⟩
    · obtain rfl : ds = [] := by simpa using h
      simp at hj
    · obtain rfl := Option.some.inj he
      have hjl : j < ds.length * 3 := by have := (List.getElem?_eq_some_iff.1 hj).1; rw [hlen] at this; exact this
      have hq : j / 3 < ds.length := by omega
      have hr : j % 3 < 3 := by omega
      have e := flat3_get ds (j / 3) (j % 3) hq hr
      rw [show j / 3 * 3 + j % 3 = j by omega, hj] at e
      have hrow : (ds.map D3.cells)[j / 3]? = some (ds[j / 3]!.cells) := by rw [List.getElem?_map, List.getElem?_eq_getElem hq, getElem!_pos ds _ hq]; rfl
      have hl3 : ds[j / 3]!.cells.length = 3 := rfl
      have := (h (j / 3) _ hrow).2 (j % 3) u (by
        rw [List.getElem?_eq_getElem (by rw [hl3]; exact hr)]
        rw [getElem!_pos _ _ (by rw [hl3]; exact hr)] at e
        exact e.symm)
      rw [Addr.add_lit, ← this]
      congr 2
      omega
theorem SrcAt.moved {w w' : World} {v : Value} {m size : Nat} {news : List Value} (h : SrcAt w v m size news) (hk : ∀ a u, w.cell? a = some u → w'.cell? a = some u) : SrcAt w' v m size news := by
  rcases h with h | ⟨ad, c, h1, h2, h3⟩
  · exact .inl h
  · exact .inr ⟨ad, c, h1, h2, fun j u hj => hk _ _ (h3 j u hj)⟩
/-- An op that is copied: its dots in a row of their own. -/
def OpOwn (base : Nat) (w : World) (r : List Value) (o : OpV) : Prop := ∃ dv, r = opCells o dv ∧ w.ownsRow base 96 3 dv o.dots.length (o.dots.flatMap D3.cells)
theorem OpOwn.kept {base : Nat} {w w' : World} {r : List Value} {o : OpV} (h : OpOwn base w r o) (hb : ∀ (b : Nat) (cs : Array Value), w.heap[b]? = some (.cells cs 96 (0, 0)) → w'.heap[b]? = w.heap[b]?) : OpOwn base w' r o :=
  let ⟨dv, h1, h2⟩ := h; ⟨dv, h1, owns_below h2 hb⟩
end Go.Proofs.YtefpnojanldkeaaDoor
