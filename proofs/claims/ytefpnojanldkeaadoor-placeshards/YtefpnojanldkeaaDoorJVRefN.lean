/- Rows in blocks whose type is known: what stays where other blocks turn; OwnCommit by its contract; OwnCommits by its contract; The reference's VectorError, IsName, OpError by their contracts. -/
import Derived.Test.YtefpnojanldkeaaDoorJVOwnM
import Derived.Test.YtefpnojanldkeaaDoorJVOp2
import Derived.Test.YtefpnojanldkeaaDoorJVCom
import Derived.Test.YtefpnojanldkeaaDoorJVCmp
import Derived.Test.YtefpnojanldkeaaDoorJVOf
import Derived.Laws.ResultCell
namespace Go.Proofs.YtefpnojanldkeaaDoor
open Go.RowKit Go.Sort Go.Maps
set_option maxRecDepth 100000
set_option linter.unusedSectionVars false
variable [Inhabited ComV] [DecidableEq D3] [Inhabited D3] [Inhabited Dn] [Inhabited OpV]

/-- The slice v reads as these rows of k cells, out of a block of type t. -/
def RowT (t : TypeId) (k : Nat) (w : World) (v : Value) (rows : List (List Value)) : Prop :=
  ∃ ad cap, v = .slice ad rows.length cap ∧ (ad = none → cap = 0) ∧ rows.length ≤ cap ∧ (rows = [] ∨ ∃ b off cs, ad = some ⟨b, off, none⟩ ∧ w.heap[b]? = some (.cells cs t (0, 0)) ∧ ∀ j r, rows[j]? = some r → r.length = k ∧ ∀ i u, r[i]? = some u → cs[off + j * k + i]? = some u)
theorem RowT.at {t : TypeId} {k : Nat} {w : World} {v : Value} {rows : List (List Value)} (h : RowT t k w v rows) : RowAt k w v rows := by
  obtain ⟨ad, cap, rfl, h1, h2, h3⟩ := h
  refine ⟨ad, cap, rfl, h1, h2, ?_⟩
  rcases h3 with h | ⟨b, off, cs, rfl, hh, h⟩
  · exact .inl h
  · refine .inr ⟨b, off, rfl, fun j r hr => ⟨(h j r hr).1, fun i u hu => ?_⟩⟩
    simp only [World.cell?, hh]
    rw [(h j r hr).2 i u hu]
    simp
def KeepT (t : TypeId) (w w' : World) : Prop := ∀ (b : Nat) (cs : Array Value), w.heap[b]? = some (.cells cs t (0, 0)) → w'.heap[b]? = w.heap[b]?
theorem RowT.kept {t : TypeId} {k : Nat} {w w' : World} {v : Value} {rows : List (List Value)} (h : RowT t k w v rows) (hk : KeepT t w w') : RowT t k w' v rows := by
  obtain ⟨ad, cap, rfl, h1, h2, h3⟩ := h
  refine ⟨ad, cap, rfl, h1, h2, ?_⟩
  rcases h3 with h | ⟨b, off, cs, rfl, hh, h⟩
  · exact .inl h
  · exact .inr ⟨b, off, cs, rfl, by rw [hk b cs hh]; exact hh, h⟩
theorem rowT_of_owns {w : World} {base e k : Nat} {v : Value} {n : Nat} {rows : List (List Value)} (h : w.ownsRow base e k v n rows.flatten) (hn : n = rows.length) (hk : ∀ r ∈ rows, r.length = k) : RowT e k w v rows := by
  subst hn
  obtain ⟨_, h2⟩ := h
  rcases h2 with ⟨rfl, h0⟩ | ⟨g, cap, cur, rfl, _, hh, hc, _, hs, ht⟩
  · obtain rfl := List.eq_nil_of_length_eq_zero h0
    exact ⟨_, _, rfl, fun _ => rfl, Nat.le_refl _, .inl rfl⟩
  · refine ⟨_, cap, rfl, (fun h => by cases h), hc, .inr ⟨g, 0, cur, rfl, hh, fun j r hr => ?_⟩⟩
    have hj : j < rows.length := (List.getElem?_eq_some_iff.1 hr).1
    have hrm : r ∈ rows := List.mem_of_getElem? hr
    refine ⟨hk r hrm, fun i u hu => ?_⟩
    have hi : i < k := by have := (List.getElem?_eq_some_iff.1 hu).1; rw [hk r hrm] at this; exact this
    have hfl : ∀ (rows : List (List Value)) (j : Nat) (r : List Value), (∀ r ∈ rows, r.length = k) → rows[j]? = some r → ∀ i u, i < k → r[i]? = some u → rows.flatten[j * k + i]? = some u := by
      intro rows
      induction rows with
      | nil => intro j r _ h; simp at h
      | cons x rest ih =>
        intro j r hk h i u hi hu
        have hx := hk x (List.mem_cons_self ..)
        rw [List.flatten_cons]
        cases j with
        | zero =>
          simp at h
          subst h
          rw [List.getElem?_append_left (by omega), Nat.zero_mul, Nat.zero_add]
          exact hu
        | succ j =>
          rw [List.getElem?_append_right (by rw [hx, Nat.add_mul]; omega), hx, show (j + 1) * k + i - k = j * k + i by rw [Nat.add_mul]; omega]
          exact ih j r (fun r hr => hk r (List.mem_cons_of_mem _ hr)) (by simpa using h) i u hi hu
    have e := hfl rows j r hk hr i u hi hu
    have hb : j * k + i < rows.length * k := by
      have : (j + 1) * k ≤ rows.length * k := Nat.mul_le_mul_right k hj
      rw [Nat.add_mul] at this
      omega
    rw [← ht, List.getElem?_take, if_pos hb, Array.getElem?_toList] at e
    rw [Nat.zero_add]
    exact e
def IntsT (w : World) (v : Value) (zs : List Int) : Prop := RowT 3 1 w v (zs.map fun z => [.int .i64 z])
def OpT (w : World) (r : List Value) (o : OpV) : Prop := ∃ dv, r = opCells o dv ∧ RowT 96 3 w dv (o.dots.map D3.cells)
def OpsT (w : World) (v : Value) (os : List OpV) : Prop := ∃ rows, RowT 43 7 w v rows ∧ F2 (OpT w) rows os
/-- A commit's three cells. -/
def ComT (w : World) (r : List Value) (c : ComV) : Prop := ∃ wv ov, r = [wv, .int .i64 c.place, ov] ∧ IntsT w wv c.when_ ∧ OpsT w ov c.ops
/-- Blocks of ints, ops and dots stay. -/
structure Keep3 (w w' : World) : Prop where
  ints : KeepT 3 w w'
  ops : KeepT 43 w w'
  dots : KeepT 96 w w'
theorem Keep3.of_below {w w' : World} {B : Nat} (h : Below B w w') (hB : w.heap.size ≤ B) : Keep3 w w' :=
  ⟨fun b _ hb => h.block b (Nat.lt_of_lt_of_le (lt_of_heap hb) hB), fun b _ hb => h.block b (Nat.lt_of_lt_of_le (lt_of_heap hb) hB), fun b _ hb => h.block b (Nat.lt_of_lt_of_le (lt_of_heap hb) hB)⟩
theorem Keep3.trans {a b c : World} (h1 : Keep3 a b) (h2 : Keep3 b c) : Keep3 a c :=
  ⟨fun k cs hb => (h2.ints k cs ((h1.ints k cs hb).trans hb)).trans (h1.ints k cs hb), fun k cs hb => (h2.ops k cs ((h1.ops k cs hb).trans hb)).trans (h1.ops k cs hb), fun k cs hb => (h2.dots k cs ((h1.dots k cs hb).trans hb)).trans (h1.dots k cs hb)⟩
/-- A row of commits has grown in its place. -/
theorem Keep3.grown {w w' : World} {base n : Nat} {v : Value} {xs : List Value} (hr : w.ownsRow base 37 3 v n xs) (hg : w.grownBy w' v.ownBlock) : Keep3 w w' := by
  have hne : ∀ t : TypeId, t ≠ 37 → KeepT t w w' := fun t ht b cs hb => hg.block b (lt_of_heap hb) fun e => by
    obtain ⟨cs', h'⟩ := own_type hr e.symm
    rw [hb] at h'
    injection h' with h'
    injection h' with _ h'
    exact ht h'
  exact ⟨hne 3 (by decide), hne 43 (by decide), hne 96 (by decide)⟩
theorem OpT.kept {w w' : World} {r : List Value} {o : OpV} (h : OpT w r o) (hk : Keep3 w w') : OpT w' r o :=
  let ⟨dv, h1, h2⟩ := h; ⟨dv, h1, h2.kept hk.dots⟩
theorem OpsT.kept {w w' : World} {v : Value} {os : List OpV} (h : OpsT w v os) (hk : Keep3 w w') : OpsT w' v os :=
  let ⟨rows, h1, h2⟩ := h; ⟨rows, h1.kept hk.ops, f2_mono (fun _ _ h => h.kept hk) h2⟩
theorem ComT.kept {w w' : World} {r : List Value} {c : ComV} (h : ComT w r c) (hk : Keep3 w w') : ComT w' r c :=
  let ⟨wv, ov, h1, h2, h3⟩ := h; ⟨wv, ov, h1, RowT.kept h2 hk.ints, h3.kept hk⟩
theorem IntsT.at {w : World} {v : Value} {zs : List Int} (h : IntsT w v zs) : IntsAt w v zs := by
  obtain ⟨ad, cap, rfl, h1, h2, h3⟩ := RowT.at h
  refine ⟨ad, cap, by rw [List.length_map], h1, ?_⟩
  rcases h3 with hq | ⟨b, off, rfl, hq⟩
  · exact .inl (by simpa using hq)
  · refine .inr ⟨b, off, rfl, fun t ht => ?_⟩
    have := (hq t [.int .i64 (zs.getD t 0)] (by rw [List.getElem?_map, List.getElem?_eq_getElem ht, List.getD_eq_getElem?_getD, List.getElem?_eq_getElem ht]; rfl)).2 0 _ rfl
    rwa [Nat.mul_one, Nat.add_zero] at this
theorem OpsT.at {w : World} {v : Value} {os : List OpV} (h : OpsT w v os) : OpsAt w v os :=
  let ⟨rows, h1, h2⟩ := h; ⟨rows, h1.at, f2_mono (fun _ _ ⟨dv, h3, h4⟩ => ⟨dv, h3, h4.at⟩) h2⟩
theorem flat1 (zs : List Int) : (zs.map fun z => [Value.int .i64 z]).flatten = zs.map (Value.int .i64) := by
  induction zs with
  | nil => rfl
  | cons z r ih => rw [List.map_cons, List.flatten_cons, ih]; rfl
theorem intsT_of_owns {w : World} {base : Nat} {v : Value} {zs : List Int} (h : w.ownsRow base 3 1 v zs.length (zs.map (Value.int .i64))) : IntsT w v zs := by
  refine rowT_of_owns (base := base) (n := zs.length) ?_ (by simp) (fun r hr => by obtain ⟨z, _, rfl⟩ := List.mem_map.1 hr; rfl)
  rw [flat1]
  exact h
theorem dotsT_of_owns {w : World} {base : Nat} {v : Value} {ds : List D3} (h : w.ownsRow base 96 3 v ds.length (ds.flatMap D3.cells)) : RowT 96 3 w v (ds.map D3.cells) := by
  refine rowT_of_owns (base := base) (n := ds.length) ?_ (by simp) (fun r hr => by obtain ⟨z, _, rfl⟩ := List.mem_map.1 hr; rfl)
  rw [← List.flatMap_def]
  exact h
end Go.Proofs.YtefpnojanldkeaaDoor
namespace Go.Proofs.YtefpnojanldkeaaDoor
open Go.RowKit Go.Sort Go.Maps
set_option maxRecDepth 100000
set_option linter.unusedSectionVars false
variable [Inhabited ComV] [DecidableEq D3] [Inhabited D3] [Inhabited Dn] [Inhabited OpV]

theorem Tryd.info3o : (Tryd.prog.info? 3).map (fun i => (i.zero, i.size, i.bytes)) = some (some (.int .i64 0), 1, 8) := by kernel_rfl
theorem Tryd.info43 : (Tryd.prog.info? 43).map (fun i => (i.zero, i.size, i.bytes)) = some (some (.agg #[.int .i64 0, .string ByteArray.empty, .int .i64 0, .string ByteArray.empty, .int .i64 0, .bool false, .slice none 0 0]), 7, 88) := by kernel_rfl
theorem ints_one (zs : List Int) : ∀ u ∈ zs.map (Value.int .i64), u.oneCell' = true := fun u hu => by
  obtain ⟨z, _, rfl⟩ := List.mem_map.1 hu
  rfl
theorem dots_one (ds : List D3) : ∀ u ∈ ds.flatMap D3.cells, u.oneCell' = true := fun u hu => by
  obtain ⟨d, _, h⟩ := List.mem_flatMap.1 hu
  exact D3.one d u h
theorem row_shape {w : World} {base e size : Nat} {v : Value} {n : Nat} {xs : List Value} (h : w.ownsRow base e size v n xs) : ∃ a c, v = .slice a n c := by
  rcases h.2 with ⟨rfl, rfl⟩ | ⟨g, cap, cur, rfl, _⟩
  · exact ⟨_, _, rfl⟩
  · exact ⟨_, _, rfl⟩
theorem one7 (o : OpV) (a : Option Addr) (l c : Nat) : ∀ v ∈ opCells o (.slice a l c), v.oneCell' = true := fun v hv => by
  simp only [opCells, List.mem_cons, List.not_mem_nil, or_false] at hv
  rcases hv with rfl | rfl | rfl | rfl | rfl | rfl | rfl <;> rfl
end Go.Proofs.YtefpnojanldkeaaDoor
namespace Go.Proofs.YtefpnojanldkeaaDoor
open Go.RowKit Go.Sort Go.Maps
set_option maxRecDepth 100000
set_option linter.unusedSectionVars false
variable [Inhabited ComV] [DecidableEq D3] [Inhabited D3] [Inhabited Dn] [Inhabited OpV]

theorem Tryd.info28o : (Tryd.prog.info? 37).map (fun i => (i.zero, i.size, i.bytes)) = some (some (.agg #[.slice none 0 0, .int .i64 0, .slice none 0 0]), 3, 56) := by kernel_rfl
theorem one3v (w1 w2 : Value) (p : Int) (a1 a2 : Option Addr) (l1 c1 l2 c2 : Nat) (e1 : w1 = .slice a1 l1 c1) (e2 : w2 = .slice a2 l2 c2) : ∀ v ∈ [w1, .int .i64 p, w2], v.oneCell' = true := fun v hv => by
  subst e1 e2
  simp only [List.mem_cons, List.not_mem_nil, or_false] at hv
  rcases hv with rfl | rfl | rfl <;> rfl
end Go.Proofs.YtefpnojanldkeaaDoor
namespace Go.Proofs.YtefpnojanldkeaaDoor
open Go.RowKit
set_option maxRecDepth 100000
set_option linter.unusedSectionVars false
variable [Inhabited ComV] [DecidableEq D3] [Inhabited D3] [Inhabited OpV]

/-! ### the reference -/
set_option maxHeartbeats 1000000 in
theorem rIsName (w : World) (s : ByteArray) : Calls Tryd.prog 6 #[.string s] w fun e w' => e = .returned (.bool (nameB s)) ∧ w' = w := by
  by_cases h1 : s.size < 1
  · have e1 : (s.size : Int) < 1 := by omega
    go_enter Tryd.func6, Tryd.ntmps6
    go_wp2
    go_ret
    exact ⟨ret_bool (nameB_false (.inl h1)).symm, rfl⟩
  · have e1 : ¬ (s.size : Int) < 1 := by omega
    by_cases h2 : 16 < s.size
    · have e2 : 16 < (s.size : Int) := by omega
      go_enter Tryd.func6, Tryd.ntmps6
      go_wp2
      go_ret
      exact ⟨ret_bool (nameB_false (.inr h2)).symm, rfl⟩
    · have e2 : ¬ 16 < (s.size : Int) := by omega
      go_enter Tryd.func6, Tryd.ntmps6
      go_wp2
      go_loop [3] (fun i => ∃ k : Nat, k ≤ s.size ∧ i = .int .i64 k ∧ ∀ t (ht : t < s.size), t < k → letterB s[t] = true) (fun i => s.size - (intOf i).toNat)
      case atStart => exact ⟨0, Nat.zero_le _, rfl, fun t _ ht => absurd ht (Nat.not_lt_zero _)⟩
      case round =>
        obtain ⟨k, hk, rfl, hin⟩ := hrel
        have HI := hid hin
        clear hin
        by_cases hlt : k < s.size
        · by_cases hb : letterB s[k] = true
          · have hb' := hb
            simp only [letterB, decide_eq_true_eq] at hb'
            have HB := hid hb
            clear hb
            by_cases a1 : 97 ≤ (s[k].toNat : Int)
            · have a2 : (s[k].toNat : Int) ≤ 122 := by omega
              clear hb'
              go_wp2
              go_round
              case rel => exact ⟨k + 1, by omega, by go_num, fun t ht h => by rcases Nat.lt_succ_iff_lt_or_eq.1 h with h | rfl; exact HI.out t ht h; exact HB.out⟩
              case measure => simp [intOf]; omega
            · by_cases a3 : 48 ≤ (s[k].toNat : Int)
              · have a4 : (s[k].toNat : Int) ≤ 57 := by omega
                clear hb'
                go_wp2
                go_round
                case rel => exact ⟨k + 1, by omega, by go_num, fun t ht h => by rcases Nat.lt_succ_iff_lt_or_eq.1 h with h | rfl; exact HI.out t ht h; exact HB.out⟩
                case measure => simp [intOf]; omega
              · have a5 : (s[k].toNat : Int) = 45 := by omega
                have a6 : ((s[k].toNat : Int) == 45) = true := by rw [a5]; rfl
                clear hb' a5
                go_wp2
                go_round
                case rel => exact ⟨k + 1, by omega, by go_num, fun t ht h => by rcases Nat.lt_succ_iff_lt_or_eq.1 h with h | rfl; exact HI.out t ht h; exact HB.out⟩
                case measure => simp [intOf]; omega
          · have hf : letterB s[k] = false := by simpa using hb
            have hb' := hf
            simp only [letterB, decide_eq_false_iff_not] at hb'
            have a6 : ((s[k].toNat : Int) == 45) = false := by simp; omega
            have HF := hid (letters_bad hlt hf)
            have HN := hid hb'
            clear hf hb hb'
            by_cases a1 : 97 ≤ (s[k].toNat : Int)
            · have a2 : ¬ (s[k].toNat : Int) ≤ 122 := by have := HN.out; omega
              have a3 : 48 ≤ (s[k].toNat : Int) := by omega
              have a4 : ¬ (s[k].toNat : Int) ≤ 57 := by omega
              go_wp2
              go_ret
              exact ⟨ret_bool HF.out.symm, rfl⟩
            · by_cases a3 : 48 ≤ (s[k].toNat : Int)
              · have a4 : ¬ (s[k].toNat : Int) ≤ 57 := by have := HN.out; omega
                go_wp2
                go_ret
                exact ⟨ret_bool HF.out.symm, rfl⟩
              · go_wp2
                go_ret
                exact ⟨ret_bool HF.out.symm, rfl⟩
        · obtain rfl : k = s.size := by omega
          go_wp2
          go_ret
          exact ⟨ret_bool (letters_ok (by omega) (by omega) fun t ht => HI.out t ht ht).symm, rfl⟩
end Go.Proofs.YtefpnojanldkeaaDoor
