/- Rows in blocks whose type is known: what stays where other blocks turn; All twelve sentinels and the type's handle: a predicate that every world of a call keeps; vector.checkPair and Within by their contracts; OwnCommit by its contract; OwnCommits by its contract; Commits in another order, in parts, some twice: what once makes of them: plain mathematics; The reference's VectorError, IsName, OpError by their contracts. -/
import Derived.Test.YtefpnojanldkeaaGreatDoorJVOwnM
import Derived.Test.YtefpnojanldkeaaGreatDoorJVMap
import Derived.Test.YtefpnojanldkeaaGreatDoorJVVec
import Derived.Test.YtefpnojanldkeaaGreatDoorJVOp
import Derived.Test.YtefpnojanldkeaaGreatDoorJVStandM
import Derived.Test.YtefpnojanldkeaaGreatDoorJVOnceM
import Derived.Test.YtefpnojanldkeaaGreatDoorJVRow
import Derived.Test.YtefpnojanldkeaaGreatDoorJVOf
namespace Go.Proofs.YtefpnojanldkeaaGreatDoor
open Go.RowKit Go.Sort Go.Maps
set_option maxRecDepth 100000
set_option linter.unusedSectionVars false
variable [Inhabited ComV] [DecidableEq D3] [Inhabited D3] [Inhabited Dd] [Inhabited Dn] [Inhabited OpV]

/-- The slice v reads as these rows of k cells, out of a block of type t. -/
def RowT (t : TypeId) (k : Nat) (w : World) (v : Value) (rows : List (List Value)) : Prop :=
  ∃ ad cap, v = .slice ad rows.length cap ∧ (ad = none → cap = 0) ∧ rows.length ≤ cap ∧ (rows = [] ∨ ∃ b off cs, ad = some ⟨b, off, none⟩ ∧ w.heap[b]? = some (.cells cs t (0, 0)) ∧ ∀ j r, rows[j]? = some r → r.length = k ∧ ∀ i u, r[i]? = some u → cs[off + j * k + i]? = some u)
theorem RowT.at {t : TypeId} {k : Nat} {w : World} {v : Value} {rows : List (List Value)} (h : RowT t k w v rows) : RowAt k w v rows := by
  obtain ⟨ad, cap, rfl, h1, h2, h3⟩ := h
  refine ⟨ad, cap, rfl, h1, h2, ?_⟩
  rcases h3 with h | ⟨b, off, cs, rfl, hh, h⟩
  · exact .inl h
  · refine .inr ⟨b, off, rfl, fun j r hr => ⟨(h j r hr).1, fun i u hu => ?_⟩⟩
    simp only [World.cell?, hh]
    rw [(h j r hr).2 i u hu]
    simp
def KeepT (t : TypeId) (w w' : World) : Prop := ∀ (b : Nat) (cs : Array Value), w.heap[b]? = some (.cells cs t (0, 0)) → w'.heap[b]? = w.heap[b]?
theorem RowT.kept {t : TypeId} {k : Nat} {w w' : World} {v : Value} {rows : List (List Value)} (h : RowT t k w v rows) (hk : KeepT t w w') : RowT t k w' v rows := by
  obtain ⟨ad, cap, rfl, h1, h2, h3⟩ := h
  refine ⟨ad, cap, rfl, h1, h2, ?_⟩
  rcases h3 with h | ⟨b, off, cs, rfl, hh, h⟩
  · exact .inl h
  · exact .inr ⟨b, off, cs, rfl, by rw [hk b cs hh]; exact hh, h⟩
theorem rowT_of_owns {w : World} {base e k : Nat} {v : Value} {n : Nat} {rows : List (List Value)} (h : w.ownsRow base e k v n rows.flatten) (hn : n = rows.length) (hk : ∀ r ∈ rows, r.length = k) : RowT e k w v rows := by
  subst hn
  obtain ⟨_, h2⟩ := h
  rcases h2 with ⟨rfl, h0⟩ | ⟨g, cap, cur, rfl, _, hh, hc, _, hs, ht⟩
  · obtain rfl := List.eq_nil_of_length_eq_zero h0
    exact ⟨_, _, rfl, fun _ => rfl, Nat.le_refl _, .inl rfl⟩
  · refine ⟨_, cap, rfl, (fun h => by cases h), hc, .inr ⟨g, 0, cur, rfl, hh, fun j r hr => ?_⟩⟩
    have hj : j < rows.length := (List.getElem?_eq_some_iff.1 hr).1
    have hrm : r ∈ rows := List.mem_of_getElem? hr
    refine ⟨hk r hrm, fun i u hu => ?_⟩
    have hi : i < k := by have := (List.getElem?_eq_some_iff.1 hu).1; rw [hk r hrm] at this; exact this
    have hfl : ∀ (rows : List (List Value)) (j : Nat) (r : List Value), (∀ r ∈ rows, r.length = k) → rows[j]? = some r → ∀ i u, i < k → r[i]? = some u → rows.flatten[j * k + i]? = some u := by
      intro rows
      induction rows with
      | nil => intro j r _ h; simp at h
      | cons x rest ih =>
        intro j r hk h i u hi hu
        have hx := hk x (List.mem_cons_self ..)
        rw [List.flatten_cons]
        cases j with
        | zero =>
          simp at h
          subst h
          rw [List.getElem?_append_left (by omega), Nat.zero_mul, Nat.zero_add]
          exact hu
        | succ j =>
          rw [List.getElem?_append_right (by rw [hx, Nat.add_mul]; omega), hx, show (j + 1) * k + i - k = j * k + i by rw [Nat.add_mul]; omega]
          exact ih j r (fun r hr => hk r (List.mem_cons_of_mem _ hr)) (by simpa using h) i u hi hu
    have e := hfl rows j r hk hr i u hi hu
    have hb : j * k + i < rows.length * k := by
      have : (j + 1) * k ≤ rows.length * k := Nat.mul_le_mul_right k hj
      rw [Nat.add_mul] at this
      omega
    rw [← ht, List.getElem?_take, if_pos hb, Array.getElem?_toList] at e
    rw [Nat.zero_add]
    exact e
def IntsT (w : World) (v : Value) (zs : List Int) : Prop := RowT 3 1 w v (zs.map fun z => [.int .i64 z])
def OpT (w : World) (r : List Value) (o : OpV) : Prop := ∃ dv, r = opCells o dv ∧ RowT 90 3 w dv (o.dots.map D3.cells)
def OpsT (w : World) (v : Value) (os : List OpV) : Prop := ∃ rows, RowT 34 7 w v rows ∧ F2 (OpT w) rows os
/-- A commit's three cells. -/
def ComT (w : World) (r : List Value) (c : ComV) : Prop := ∃ wv ov, r = [wv, .int .i64 c.place, ov] ∧ IntsT w wv c.when_ ∧ OpsT w ov c.ops
/-- Blocks of ints, ops and dots stay. -/
structure Keep3 (w w' : World) : Prop where
  ints : KeepT 3 w w'
  ops : KeepT 34 w w'
  dots : KeepT 90 w w'
theorem Keep3.of_below {w w' : World} {B : Nat} (h : Below B w w') (hB : w.heap.size ≤ B) : Keep3 w w' :=
  ⟨fun b _ hb => h.block b (Nat.lt_of_lt_of_le (lt_of_heap hb) hB), fun b _ hb => h.block b (Nat.lt_of_lt_of_le (lt_of_heap hb) hB), fun b _ hb => h.block b (Nat.lt_of_lt_of_le (lt_of_heap hb) hB)⟩
theorem Keep3.trans {a b c : World} (h1 : Keep3 a b) (h2 : Keep3 b c) : Keep3 a c :=
  ⟨fun k cs hb => (h2.ints k cs ((h1.ints k cs hb).trans hb)).trans (h1.ints k cs hb), fun k cs hb => (h2.ops k cs ((h1.ops k cs hb).trans hb)).trans (h1.ops k cs hb), fun k cs hb => (h2.dots k cs ((h1.dots k cs hb).trans hb)).trans (h1.dots k cs hb)⟩
/-- A row of commits has grown in its place. -/
theorem Keep3.grown {w w' : World} {base n : Nat} {v : Value} {xs : List Value} (hr : w.ownsRow base 36 3 v n xs) (hg : w.grownBy w' v.ownBlock) : Keep3 w w' := by
  have hne : ∀ t : TypeId, t ≠ 36 → KeepT t w w' := fun t ht b cs hb => hg.block b (lt_of_heap hb) fun e => by
    obtain ⟨cs', h'⟩ := own_type hr e.symm
    rw [hb] at h'
    injection h' with h'
    injection h' with _ h'
    exact ht h'
  exact ⟨hne 3 (by decide), hne 34 (by decide), hne 90 (by decide)⟩
theorem OpT.kept {w w' : World} {r : List Value} {o : OpV} (h : OpT w r o) (hk : Keep3 w w') : OpT w' r o :=
  let ⟨dv, h1, h2⟩ := h; ⟨dv, h1, h2.kept hk.dots⟩
theorem OpsT.kept {w w' : World} {v : Value} {os : List OpV} (h : OpsT w v os) (hk : Keep3 w w') : OpsT w' v os :=
  let ⟨rows, h1, h2⟩ := h; ⟨rows, h1.kept hk.ops, f2_mono (fun _ _ h => h.kept hk) h2⟩
theorem ComT.kept {w w' : World} {r : List Value} {c : ComV} (h : ComT w r c) (hk : Keep3 w w') : ComT w' r c :=
  let ⟨wv, ov, h1, h2, h3⟩ := h; ⟨wv, ov, h1, RowT.kept h2 hk.ints, h3.kept hk⟩
theorem IntsT.at {w : World} {v : Value} {zs : List Int} (h : IntsT w v zs) : IntsAt w v zs := by
  obtain ⟨ad, cap, rfl, h1, h2, h3⟩ := RowT.at h
  refine ⟨ad, cap, by rw [List.length_map], h1, ?_⟩
  rcases h3 with hq | ⟨b, off, rfl, hq⟩
  · exact .inl (by simpa using hq)
  · refine .inr ⟨b, off, rfl, fun t ht => ?_⟩
    have := (hq t [.int .i64 (zs.getD t 0)] (by rw [List.getElem?_map, List.getElem?_eq_getElem ht, List.getD_eq_getElem?_getD, List.getElem?_eq_getElem ht]; rfl)).2 0 _ rfl
    rwa [Nat.mul_one, Nat.add_zero] at this
theorem OpsT.at {w : World} {v : Value} {os : List OpV} (h : OpsT w v os) : OpsAt w v os :=
  let ⟨rows, h1, h2⟩ := h; ⟨rows, h1.at, f2_mono (fun _ _ ⟨dv, h3, h4⟩ => ⟨dv, h3, h4.at⟩) h2⟩
theorem ComT.row {w : World} {r : List Value} {c : ComV} (h : ComT w r c) : ComRow w r c :=
  let ⟨wv, ov, h1, h2, h3⟩ := h; ⟨wv, ov, h1, h2.at, h3.at⟩
theorem ComT.len {w : World} {r : List Value} {c : ComV} (h : ComT w r c) : r.length = 3 := by
  obtain ⟨_, _, rfl, _⟩ := h
  rfl
theorem f2_rows {R : List Value → ComV → Prop} (hR : ∀ r c, R r c → r.length = 3) : ∀ {rows : List (List Value)} {cs : List ComV}, F2 R rows cs → ∀ r ∈ rows, r.length = 3
  | [], [], _, r, hr => by simp at hr
  | _ :: _, _ :: _, ⟨h1, h2⟩, r, hr => by
    rcases List.mem_cons.1 hr with rfl | hr
    · exact hR _ _ h1
    · exact f2_rows hR h2 r hr
/-- A row of commits that the call owns. -/
theorem coms_of_owns {w : World} {base n : Nat} {v : Value} {rows : List (List Value)} {l : List ComV} (h : w.ownsRow base 36 3 v n rows.flatten) (hn : n = l.length) (hf : F2 (ComT w) rows l) : ComsAt w v l :=
  ⟨rows, rowAt_of_owns h (by rw [hn, f2_len hf]) (f2_rows (fun _ _ h => h.len) hf), f2_mono (fun _ _ h => h.row) hf⟩
theorem flat1 (zs : List Int) : (zs.map fun z => [Value.int .i64 z]).flatten = zs.map (Value.int .i64) := by
  induction zs with
  | nil => rfl
  | cons z r ih => rw [List.map_cons, List.flatten_cons, ih]; rfl
theorem intsT_of_owns {w : World} {base : Nat} {v : Value} {zs : List Int} (h : w.ownsRow base 3 1 v zs.length (zs.map (Value.int .i64))) : IntsT w v zs := by
  refine rowT_of_owns (base := base) (n := zs.length) ?_ (by simp) (fun r hr => by obtain ⟨z, _, rfl⟩ := List.mem_map.1 hr; rfl)
  rw [flat1]
  exact h
theorem dotsT_of_owns {w : World} {base : Nat} {v : Value} {ds : List D3} (h : w.ownsRow base 90 3 v ds.length (ds.flatMap D3.cells)) : RowT 90 3 w v (ds.map D3.cells) := by
  refine rowT_of_owns (base := base) (n := ds.length) ?_ (by simp) (fun r hr => by obtain ⟨z, _, rfl⟩ := List.mem_map.1 hr; rfl)
  rw [← List.flatMap_def]
  exact h
end Go.Proofs.YtefpnojanldkeaaGreatDoor
namespace Go.Proofs.YtefpnojanldkeaaGreatDoor
open Go.RowKit
set_option linter.unusedSectionVars false
variable [Inhabited ComV] [DecidableEq D3] [Inhabited D3] [Inhabited Dd] [Inhabited Dn] [Inhabited OpV]

structure Sents (A : Nat → Addr) (B : Nat) (w : World) : Prop where
  gl : 13 ≤ B
  size : B ≤ w.heap.size
  cell : ∀ k, k < 12 → w.cell? ⟨gix k, 0, none⟩ = some (.iface 238 (.pointer (some (A k))))
  row : ∀ k, k < 12 → ∃ c t, w.heap[(A k).block]? = some (.cells c t (0, 0))
  lt : ∀ k, k < 12 → (A k).block < B
  ne : ∀ i j, i < 12 → j < 12 → i ≠ j → A i ≠ A j
  handle : w.cell? ⟨12, 0, none⟩ = some (.iface 187 (.agg #[.pointer (some ⟨13, 27, none⟩)]))
theorem Sents.below {A : Nat → Addr} {B : Nat} {w w' : World} (h : Sents A B w) (hb : Below B w w') : Sents A B w' where
  gl := h.gl
  size := Nat.le_trans h.size hb.size
  cell := fun k hk => by rw [hb.cell (p := ⟨gix k, 0, none⟩) (by have := h.gl; have := gix_lt k; show gix k < B; omega)]; exact h.cell k hk
  row := fun k hk => by rw [hb.block _ (h.lt k hk)]; exact h.row k hk
  lt := h.lt
  ne := h.ne
  handle := by rw [hb.cell (p := ⟨12, 0, none⟩) (by have := h.gl; show 12 < B; omega)]; exact h.handle
theorem Sents.e4 {A : Nat → Addr} {B : Nat} {w : World} (h : Sents A B w) : E4 A w := ⟨h.cell 1 (by decide), h.cell 2 (by decide), h.cell 3 (by decide), h.cell 11 (by decide)⟩
/-- What values hands out, and what errors.As reads. -/
structure E5 (A : Nat → Addr) (w : World) : Prop where
  e4 : E4 A w
  handle : w.cell? ⟨12, 0, none⟩ = some (.iface 187 (.agg #[.pointer (some ⟨13, 27, none⟩)]))
theorem E5.size {A : Nat → Addr} {w : World} (h : E5 A w) : 13 ≤ w.heap.size := lt_of_cell h.handle
theorem E5.below {A : Nat → Addr} {B : Nat} {w w' : World} (h : E5 A w) (hb : Below B w w') (hB : 13 ≤ B) : E5 A w' :=
  ⟨h.e4.below hb (by omega), by rw [hb.cell (p := ⟨12, 0, none⟩) (Nat.lt_of_lt_of_le (by decide) hB)]; exact h.handle⟩
theorem Sents.e5 {A : Nat → Addr} {B : Nat} {w : World} (h : Sents A B w) : E5 A w := ⟨h.e4, h.handle⟩
end Go.Proofs.YtefpnojanldkeaaGreatDoor
namespace Go.Proofs.YtefpnojanldkeaaGreatDoor
open Go.RowKit

theorem IntsAt.slice {w : World} {v : Value} {zs : List Int} (h : IntsAt w v zs) : ∃ ad c, v = .slice ad zs.length c := by
  obtain ⟨ad, c, rfl, _⟩ := h
  exact ⟨ad, c, rfl⟩
set_option maxHeartbeats 1000000 in
theorem checkPair_ok (A : Nat → Addr) (w : World) (hE : E4 A w) (v u : Value) (zs ys : List Int) (h1 : IntsAt w v zs) (h2 : IntsAt w u ys) (h0 : two zs ys = 0) :
    Calls Tryz.prog 77 #[v, u] w fun e w' => e = .returned .nilIface ∧ w' = w := by
  obtain ⟨hz, hy, hn⟩ := two_zero.1 h0
  have k1 := check_ok A w hE v zs h1 hz
  have k2 := check_ok A w hE u ys h2 hy
  obtain ⟨a1, c1, rfl⟩ := h1.slice
  obtain ⟨a2, c2, rfl⟩ := h2.slice
  have K1 := hid k1
  have K2 := hid k2
  have hb : ((zs.length : Int) != (ys.length : Int)) = false := by rw [bne_eq_false_iff_eq]; omega
  clear k1 k2 h0 hz hy hn
  go_enter Tryz.func77, Tryz.ntmps77
  go_wp2_with fail
  refine K1.out.mono ?_
  rintro e w' ⟨rfl, rfl⟩
  go_wp2_with fail
  refine K2.out.mono ?_
  rintro e w' ⟨rfl, rfl⟩
  go_wp2
  go_ret
  exact ⟨rfl, rfl⟩
/-! ### the reference -/
theorem draws2 {w wr : World} {q n : Nat} (h : wr = w.drewN q) : wr.drewN n = w.drewN (q + n) := by rw [h]; exact World.drewN_drewN _ _ _
theorem le_any (x y : Int) (w : World) : Calls Tryz.prog 95 #[.int .i64 x, .int .i64 y] w fun e w' => e = .returned (.bool (decide (x ≤ y))) ∧ w' = w := by
  go_enter Tryz.func95, Tryz.ntmps95
  go_wp2
  go_ret
  exact ⟨rfl, rfl⟩
set_option maxHeartbeats 1000000 in
theorem within_n (w : World) (b1 o1 c1 b2 o2 c2 n : Nat) (zs ys : List Int) (hz : zs.length = n) (hy : ys.length = n) (hl : n ≤ 1000000)
    (h1 : ∀ t, t < n → w.cell? ⟨b1, o1 + t, none⟩ = some (.int .i64 (zs.getD t 0)))
    (h2 : ∀ t, t < n → w.cell? ⟨b2, o2 + t, none⟩ = some (.int .i64 (ys.getD t 0))) :
    Calls Tryz.prog 78 #[.slice (some ⟨b1, o1, none⟩) n c1, .slice (some ⟨b2, o2, none⟩) n c2] w fun e w' => e = .returned (.bool (leB zs ys)) ∧ ∃ q, w' = w.drewN q := by
  have HZ : Hid (zs.length = n) := hz
  have HY : Hid (ys.length = n) := hy
  have H1 := hid h1
  have H2 := hid h2
  clear hz hy h1 h2
  go_enter Tryz.func78, Tryz.ntmps78
  go_wp2
  go_loopw [10] (fun i wr => ∃ k q : Nat, k ≤ n ∧ i = .int .i64 k ∧ (∀ t, t < k → zs.getD t 0 ≤ ys.getD t 0) ∧ wr = w.drewN q) (fun i _ => n - (intOf i).toNat)
  case atStart => exact ⟨0, 0, Nat.zero_le _, rfl, fun t ht => absurd ht (Nat.not_lt_zero _), rfl⟩
  case round =>
    obtain ⟨k, q, hk, rfl, heq, hq⟩ := hrel
    have HE := hid heq
    have HQ := hid hq
    have e1' : k < n → wr.cell? ⟨b1, o1 + k, none⟩ = some (.int .i64 (zs.getD k 0)) := fun h => by rw [hq]; exact H1.out k h
    have e2' : k < n → wr.cell? ⟨b2, o2 + k, none⟩ = some (.int .i64 (ys.getD k 0)) := fun h => by rw [hq]; exact H2.out k h
    clear heq hq
    by_cases hlt : k < n
    · have e1 := e1' hlt
      have e2 := e2' hlt
      clear e1' e2'
      obtain ⟨x, hx⟩ : ∃ x, x = zs.getD k 0 := ⟨_, rfl⟩
      obtain ⟨y, hy⟩ : ∃ y, y = ys.getD k 0 := ⟨_, rfl⟩
      rw [← hx] at e1
      rw [← hy] at e2
      have HX := hid hx
      have HYY := hid hy
      have hi : (k : Int) < (n : Int) := by omega
      clear hx hy
      by_cases hd : x ≤ y
      · have hb : decide (x ≤ y) = true := decide_eq_true hd
        go_wp2
        go_quiet ((go_at_call 95; exact Calls.quiet_of_same (le_any _ _ _)))
        go_wp2
        go_roundw
        case rel =>
          refine ⟨k + 1, _, by omega, by go_num, fun t ht => ?_, draws2 HQ.out⟩
          rcases Nat.lt_succ_iff_lt_or_eq.1 ht with h | rfl
          · exact HE.out t h
          · rw [← HX.out, ← HYY.out]; exact hd
        case measure => simp [intOf]; omega
      · have hb : decide (x ≤ y) = false := decide_eq_false hd
        go_wp2
        go_quiet ((go_at_call 95; exact Calls.quiet_of_same (le_any _ _ _)))
        go_wp2
        go_ret
        refine ⟨ret_bool ?_, _, draws2 HQ.out⟩
        rw [eq_comm, Bool.eq_false_iff]
        intro h
        have := leB_iff.1 h k (by have := HZ.out; omega)
        rw [← HX.out, ← HYY.out] at this
        omega
    · obtain rfl : k = n := by omega
      go_wp2
      go_ret
      exact ⟨ret_bool (leB_iff.2 (fun i hi => HE.out i (by have := HZ.out; omega))).symm, _, HQ.out⟩
theorem within_any (w : World) (v u : Value) (zs ys : List Int) (h1 : IntsAt w v zs) (h2 : IntsAt w u ys) (hn : zs.length = ys.length) (h0 : 1 ≤ zs.length) (hl : zs.length ≤ 1000000) :
    Calls Tryz.prog 78 #[v, u] w fun e w' => e = .returned (.bool (leB zs ys)) ∧ ∃ q, w' = w.drewN q := by
  obtain ⟨a1, c1, rfl, _, h1⟩ := h1
  obtain ⟨a2, c2, rfl, _, h2⟩ := h2
  rcases h1 with rfl | ⟨b1, o1, rfl, h1⟩
  · simp at h0
  rcases h2 with rfl | ⟨b2, o2, rfl, h2⟩
  · rw [hn] at h0; simp at h0
  rw [← hn] at h2 ⊢
  exact within_n w b1 o1 c1 b2 o2 c2 zs.length zs ys rfl hn.symm hl h1 h2
set_option maxHeartbeats 1000000 in
theorem Within_ok (A : Nat → Addr) (w : World) (hE : E4 A w) (v u : Value) (zs ys : List Int) (h1 : IntsAt w v zs) (h2 : IntsAt w u ys) (h0 : two zs ys = 0) :
    Calls Tryz.prog 48 #[v, u] w fun e w' => e = .returned (.tuple #[.bool (leB zs ys), .nilIface]) ∧ ∃ q, w' = w.drewN q := by
  obtain ⟨hz, hy, hn⟩ := two_zero.1 h0
  have hz' := chk_zero.1 hz
  have K1 := hid (checkPair_ok A w hE v u zs ys h1 h2 h0)
  have K2 := hid (within_any w v u zs ys h1 h2 hn hz'.1 (by omega))
  clear h0 hz hy hn hz'
  go_enter Tryz.func48, Tryz.ntmps48
  go_wp2_with fail
  refine K1.out.mono ?_
  rintro e w' ⟨rfl, rfl⟩
  go_wp2_with fail
  refine K2.out.mono ?_
  rintro e w' ⟨rfl, hq⟩
  go_wp2
  go_ret2
  exact ⟨rfl, hq⟩
end Go.Proofs.YtefpnojanldkeaaGreatDoor
namespace Go.Proofs.YtefpnojanldkeaaGreatDoor
open Go.RowKit Go.Sort Go.Maps
set_option maxRecDepth 100000
set_option linter.unusedSectionVars false
variable [Inhabited ComV] [DecidableEq D3] [Inhabited D3] [Inhabited Dd] [Inhabited Dn] [Inhabited OpV]

theorem Tryz.info3o : (Tryz.prog.info? 3).map (fun i => (i.zero, i.size, i.bytes)) = some (some (.int .i64 0), 1, 8) := by kernel_rfl
theorem Tryz.info34 : (Tryz.prog.info? 34).map (fun i => (i.zero, i.size, i.bytes)) = some (some (.agg #[.int .i64 0, .string ByteArray.empty, .int .i64 0, .string ByteArray.empty, .int .i64 0, .bool false, .slice none 0 0]), 7, 88) := by kernel_rfl
theorem ints_one (zs : List Int) : ∀ u ∈ zs.map (Value.int .i64), u.oneCell' = true := fun u hu => by
  obtain ⟨z, _, rfl⟩ := List.mem_map.1 hu
  rfl
theorem dots_one (ds : List D3) : ∀ u ∈ ds.flatMap D3.cells, u.oneCell' = true := fun u hu => by
  obtain ⟨d, _, h⟩ := List.mem_flatMap.1 hu
  exact D3.one d u h
theorem row_shape {w : World} {base e size : Nat} {v : Value} {n : Nat} {xs : List Value} (h : w.ownsRow base e size v n xs) : ∃ a c, v = .slice a n c := by
  rcases h.2 with ⟨rfl, rfl⟩ | ⟨g, cap, cur, rfl, _⟩
  · exact ⟨_, _, rfl⟩
  · exact ⟨_, _, rfl⟩
theorem one7 (o : OpV) (a : Option Addr) (l c : Nat) : ∀ v ∈ opCells o (.slice a l c), v.oneCell' = true := fun v hv => by
  simp only [opCells, List.mem_cons, List.not_mem_nil, or_false] at hv
  rcases hv with rfl | rfl | rfl | rfl | rfl | rfl | rfl <;> rfl
end Go.Proofs.YtefpnojanldkeaaGreatDoor
namespace Go.Proofs.YtefpnojanldkeaaGreatDoor
open Go.RowKit Go.Sort Go.Maps
set_option maxRecDepth 100000
set_option linter.unusedSectionVars false
variable [Inhabited ComV] [DecidableEq D3] [Inhabited D3] [Inhabited Dd] [Inhabited Dn] [Inhabited OpV]

theorem Tryz.info28o : (Tryz.prog.info? 36).map (fun i => (i.zero, i.size, i.bytes)) = some (some (.agg #[.slice none 0 0, .int .i64 0, .slice none 0 0]), 3, 56) := by kernel_rfl
/-- k commits are copied. -/
structure OwnsInv (w : World) (l : List ComV) (v : Value) (rows : List (List Value)) (wr : World) : Prop where
  below : Below w.heap.size w wr
  row : wr.ownsRow w.heap.size 36 3 v l.length rows.flatten
  coms : F2 (ComT wr) rows l
theorem OwnsInv.start (w : World) : OwnsInv w [] (.slice none 0 0) [] w := ⟨Below.refl _ _, World.ownsRow_nil _ _ _ _, trivial⟩
theorem OwnsInv.moved {w wr w' : World} {l : List ComV} {v : Value} {rows : List (List Value)} (h : OwnsInv w l v rows wr) (hb : Below wr.heap.size wr w') : OwnsInv w l v rows w' where
  below := h.below.trans (hb.mono h.below.size)
  row := owns_below h.row fun b _ hc => hb.block b (lt_of_heap hc)
  coms := f2_mono (fun _ _ h => h.kept (Keep3.of_below hb (Nat.le_refl _))) h.coms
theorem OwnsInv.step {w wr w' : World} {l : List ComV} {v v' : Value} {rows : List (List Value)} {r : List Value} {c : ComV} (h : OwnsInv w l v rows wr) (hc : ComT wr r c) (hg : wr.grownBy w' v.ownBlock) (hr : w'.ownsRow w.heap.size 36 3 v' (l.length + 1) (rows.flatten ++ r)) : OwnsInv w (l ++ [c]) v' (rows ++ [r]) w' where
  below := h.below.trans ⟨hg.os, hg.tape, hg.output, hg.size, fun i hi => hg.block i (Nat.lt_of_lt_of_le hi h.below.size) fun e => by have := (h.row.lt i e.symm).1; omega⟩
  row := by simpa using hr
  coms := f2_append (f2_mono (fun _ _ x => x.kept (Keep3.grown h.row hg)) h.coms) (hc.kept (Keep3.grown h.row hg))
theorem one3v (w1 w2 : Value) (p : Int) (a1 a2 : Option Addr) (l1 c1 l2 c2 : Nat) (e1 : w1 = .slice a1 l1 c1) (e2 : w2 = .slice a2 l2 c2) : ∀ v ∈ [w1, .int .i64 p, w2], v.oneCell' = true := fun v hv => by
  subst e1 e2
  simp only [List.mem_cons, List.not_mem_nil, or_false] at hv
  rcases hv with rfl | rfl | rfl <;> rfl
theorem ComT.shape {w : World} {wv ov : Value} {p : Int} {c : ComV} (h : ComT w [wv, .int .i64 p, ov] c) : (∃ a1 c1, wv = .slice a1 c.when_.length c1) ∧ ∃ a2 c2, ov = .slice a2 c.ops.length c2 := by
  obtain ⟨wv', ov', he, ⟨a1, c1, h1, _⟩, rows, ⟨a2, c2, h2, _⟩, hf⟩ := h
  injection he with e1 e2
  injection e2 with _ e2
  injection e2 with e2
  subst e1 e2
  rw [h1, h2, List.length_map, f2_len hf]
  exact ⟨⟨_, _, rfl⟩, _, _, rfl⟩
end Go.Proofs.YtefpnojanldkeaaGreatDoor
namespace Go.Proofs.YtefpnojanldkeaaGreatDoor
open Go.RowKit
set_option linter.unusedSectionVars false
variable [Inhabited ComV] [DecidableEq D3] [Inhabited D3] [Inhabited Dd] [Inhabited Dn] [Inhabited OpV]

/-- All ops, as they come. -/
def flatA (l : List ComV) : List Dn := l.flatMap fun c => c.ops.map (dnOf c)
theorem foldl_addCom (l : List ComV) : ∀ acc, l.foldl addCom acc = (flatA l).foldl addDn acc := by
  induction l with
  | nil => intro acc; rfl
  | cons c r ih =>
    intro acc
    have e : flatA (c :: r) = c.ops.map (dnOf c) ++ flatA r := rfl
    rw [e, List.foldl_append, List.foldl_cons, ih]
    rfl
theorem onceA_flat (l : List ComV) : onceA l = (flatA l).foldl addDn [] := foldl_addCom l []
theorem mem_addDn {acc : List Dn} {d x : Dn} (h : x ∈ addDn acc d) : x ∈ acc ∨ x = d := by
  unfold addDn at h
  split at h
  · exact .inl h
  · rcases List.mem_append.1 h with h | h
    · exact .inl h
    · exact .inr (List.mem_singleton.1 h)
theorem mem_addDn_left {acc : List Dn} {x : Dn} (h : x ∈ acc) (d : Dn) : x ∈ addDn acc d := by
  unfold addDn
  split
  · exact h
  · exact List.mem_append_left _ h
theorem foldl_addDn_left (ds : List Dn) : ∀ {acc : List Dn} {x : Dn}, x ∈ acc → x ∈ ds.foldl addDn acc := by
  induction ds with
  | nil => intro acc x h; exact h
  | cons d r ih => intro acc x h; exact ih (mem_addDn_left h d)
theorem foldl_addDn_mem (ds : List Dn) : ∀ {acc : List Dn} {x : Dn}, x ∈ ds.foldl addDn acc → x ∈ acc ∨ x ∈ ds := by
  induction ds with
  | nil => intro acc x h; exact .inl h
  | cons d r ih =>
    intro acc x h
    rcases ih h with h | h
    · rcases mem_addDn h with h | h
      · exact .inl h
      · exact .inr (by rw [h]; exact List.mem_cons_self ..)
    · exact .inr (List.mem_cons_of_mem _ h)
theorem addDn_dot (acc : List Dn) (d : Dn) : ∃ e ∈ addDn acc d, e.dot = d.dot := by
  unfold addDn
  split
  · rename_i h
    obtain ⟨x, hx, he⟩ := List.any_eq_true.1 h
    exact ⟨x, hx, of_decide_eq_true he⟩
  · exact ⟨d, List.mem_append_right _ (List.mem_singleton.2 rfl), rfl⟩
theorem foldl_addDn_dot (ds : List Dn) : ∀ {acc : List Dn} {d : Dn}, d ∈ ds → ∃ e ∈ ds.foldl addDn acc, e.dot = d.dot := by
  induction ds with
  | nil => intro acc d h; simp at h
  | cons x r ih =>
    intro acc d h
    rcases List.mem_cons.1 h with rfl | h
    · obtain ⟨e, he, hd⟩ := addDn_dot acc d
      exact ⟨e, foldl_addDn_left r he, hd⟩
    · exact ih h
/-- No two ops have one dot. -/
def OneDot (l : List ComV) : Prop := ∀ a ∈ flatA l, ∀ b ∈ flatA l, a.dot = b.dot → a = b
theorem mem_onceA {l : List ComV} (h : OneDot l) (d : Dn) : d ∈ onceA l ↔ d ∈ flatA l := by
  rw [onceA_flat]
  constructor
  · intro hd
    rcases foldl_addDn_mem _ hd with h | h
    · simp at h
    · exact h
  · intro hd
    obtain ⟨e, he, hde⟩ := foldl_addDn_dot (flatA l) (acc := []) hd
    rcases foldl_addDn_mem _ he with h' | h'
    · simp at h'
    · rw [← h e h' d hd hde]
      exact he
theorem perm_of_mem {α : Type} : ∀ {a b : List α}, a.Pairwise (· ≠ ·) → b.Pairwise (· ≠ ·) → (∀ x, x ∈ a ↔ x ∈ b) → a.Perm b
  | [], b, _, _, h => by
    have : b = [] := List.eq_nil_iff_forall_not_mem.2 fun x hx => by simpa using (h x).2 hx
    rw [this]
  | x :: a, b, ha, hb, h => by
    obtain ⟨b1, b2, rfl⟩ := List.append_of_mem ((h x).1 (List.mem_cons_self ..))
    have hp : (b1 ++ x :: b2).Perm (x :: (b1 ++ b2)) := List.perm_middle
    have hb' := hb.perm hp (fun h => Ne.symm h)
    refine (List.Perm.cons x (perm_of_mem (List.pairwise_cons.1 ha).2 (List.pairwise_cons.1 hb').2 fun y => ?_)).trans hp.symm
    have h1 := (h y).trans hp.mem_iff
    rw [List.mem_cons, List.mem_cons] at h1
    have hxa : x ∉ a := fun hx => (List.pairwise_cons.1 ha).1 x hx rfl
    have hxb : x ∉ b1 ++ b2 := fun hx => (List.pairwise_cons.1 hb').1 x hx rfl
    constructor
    · intro hy
      rcases h1.1 (.inr hy) with rfl | h2
      · exact absurd hy hxa
      · exact h2
    · intro hy
      rcases h1.2 (.inr hy) with rfl | h2
      · exact absurd hy hxb
      · exact h2
theorem onceA_distinct (l : List ComV) : (onceA l).Pairwise (· ≠ ·) := by
  have := onceA_nodup l
  rw [List.Nodup, List.pairwise_map] at this
  exact this.imp fun h e => h (by rw [e])
/-- The same ops, in any order and however often: the same ones count. -/
theorem onceA_perm {l l' : List ComV} (h : OneDot l) (hm : ∀ d, d ∈ flatA l' ↔ d ∈ flatA l) : (onceA l').Perm (onceA l) := by
  have h' : OneDot l' := fun a ha b hb => h a ((hm a).1 ha) b ((hm b).1 hb)
  exact perm_of_mem (onceA_distinct _) (onceA_distinct _) fun x => by rw [mem_onceA h', mem_onceA h, hm]
theorem isOps_turned {key : ByteArray} {l l' : List ComV} {ds ds' : List Dn} (h : OneDot l) (hm : ∀ d, d ∈ flatA l' ↔ d ∈ flatA l) (h1 : IsOps key l ds) (h2 : IsOps key l' ds') : ds' = ds := by
  obtain ⟨ys, hy, rfl⟩ := h1
  obtain ⟨ys', hy', rfl⟩ := h2
  have : InOrder key l ys' := ⟨hy'.1.trans ((onceA_perm h hm).filter _), hy'.2⟩
  rw [inOrder_unique this hy]
theorem at_rise {n : Int} {os : List OpV} (h : ∀ i, i < os.length → opBad n os i = 0) : ∀ i j, i < j → j < os.length → os[i]!.at_ < os[j]!.at_ := by
  intro i j hij
  induction j with
  | zero => omega
  | succ j ih =>
    intro hj
    have hb := h (j + 1) hj
    have he := opErr_of_bad hb
    unfold opBad at hb
    rw [if_neg (by rw [he]; decide)] at hb
    have hlt : os[j]!.at_ < os[j + 1]!.at_ := by
      by_cases h : os[j]!.at_ < os[j + 1]!.at_
      · exact h
      · rw [if_pos ⟨by omega, by rw [Nat.add_sub_cancel]; omega⟩] at hb
        exact absurd hb (by decide)
    rcases Nat.lt_or_ge i j with h | h
    · exact Int.lt_trans (ih h (by omega)) hlt
    · obtain rfl : i = j := by omega
      exact hlt
/-- A commit in parts. -/
def cutC (cut : Int) (c : ComV) : List ComV := if 0 < cut ∧ cut < c.ops.length then [{ c with ops := c.ops.drop cut.toNat }, { c with ops := c.ops.take cut.toNat }] else [c]
theorem opBad_part {n : Int} {os : List OpV} {s m i : Nat} (h : ∀ i, i < os.length → opBad n os i = 0) (hi : i < ((os.drop s).take m).length) : opBad n ((os.drop s).take m) i = 0 := by
  have hl : ((os.drop s).take m).length ≤ os.length - s := by simp; omega
  have g : ∀ j, j < ((os.drop s).take m).length → ((os.drop s).take m)[j]! = os[s + j]! := fun j hj => by
    rw [getElem!_pos _ j hj, getElem!_pos os (s + j) (by omega), List.getElem_take, List.getElem_drop]
  have hb := h (s + i) (by omega)
  have he := opErr_of_bad hb
  unfold opBad at hb ⊢
  rw [if_neg (by rw [he]; decide)] at hb
  rw [g i hi, if_neg (by rw [he]; decide)]
  split
  · rename_i hc
    rw [if_pos ⟨by omega, by rw [show s + i - 1 = s + (i - 1) by omega, ← g (i - 1) (by omega)]; exact hc.2⟩] at hb
    exact absurd hb (by decide)
  · rfl
theorem comErr_of {c : ComV} (h : ComOk c) : (comErr c).1 = 0 := by
  have h1 := h.lo
  have h2 := h.hi
  have h3 := h.time
  have h4 := h.few
  unfold comErr
  rw [if_neg (by rw [h.chk]; decide), if_neg (by omega), if_neg h.some_, scan_none h.ops]
theorem flat_mem {l : List ComV} {d : Dn} : d ∈ flatA l ↔ ∃ c ∈ l, d ∈ c.ops.map (dnOf c) := List.mem_flatMap
theorem listOk_of {l : List ComV} {n : Nat} (h1 : ∀ c ∈ l, ComOk c) (h2 : ∀ c ∈ l, c.when_.length = n) : ∀ i, i < l.length → listBad l i = 0 := by
  intro i hi
  unfold listBad
  have e : ∀ j, j < l.length → l[j]! ∈ l := fun j hj => by rw [getElem!_pos l j hj]; exact List.getElem_mem _
  rw [if_neg (by rw [comErr_of (h1 _ (e i hi))]; decide), if_neg (by rw [h2 _ (e i hi), h2 _ (e 0 (by omega))]; exact fun h => h rfl)]
end Go.Proofs.YtefpnojanldkeaaGreatDoor
namespace Go.Proofs.YtefpnojanldkeaaGreatDoor
open Go.RowKit
set_option maxRecDepth 100000
set_option linter.unusedSectionVars false
variable [Inhabited ComV] [DecidableEq D3] [Inhabited D3] [Inhabited Dd] [Inhabited OpV]

/-! ### the reference -/
set_option maxHeartbeats 1000000 in
theorem rIsName (w : World) (s : ByteArray) : Calls Tryz.prog 8 #[.string s] w fun e w' => e = .returned (.bool (nameB s)) ∧ w' = w := by
  by_cases h1 : s.size < 1
  · have e1 : (s.size : Int) < 1 := by omega
    go_enter Tryz.func8, Tryz.ntmps8
    go_wp2
    go_ret
    exact ⟨ret_bool (nameB_false (.inl h1)).symm, rfl⟩
  · have e1 : ¬ (s.size : Int) < 1 := by omega
    by_cases h2 : 16 < s.size
    · have e2 : 16 < (s.size : Int) := by omega
      go_enter Tryz.func8, Tryz.ntmps8
      go_wp2
      go_ret
      exact ⟨ret_bool (nameB_false (.inr h2)).symm, rfl⟩
    · have e2 : ¬ 16 < (s.size : Int) := by omega
      go_enter Tryz.func8, Tryz.ntmps8
      go_wp2
      go_loop [3] (fun i => ∃ k : Nat, k ≤ s.size ∧ i = .int .i64 k ∧ ∀ t (ht : t < s.size), t < k → letterB s[t] = true) (fun i => s.size - (intOf i).toNat)
      case atStart => exact ⟨0, Nat.zero_le _, rfl, fun t _ ht => absurd ht (Nat.not_lt_zero _)⟩
      case round =>
        obtain ⟨k, hk, rfl, hin⟩ := hrel
        have HI := hid hin
        clear hin
        by_cases hlt : k < s.size
        · by_cases hb : letterB s[k] = true
          · have hb' := hb
            simp only [letterB, decide_eq_true_eq] at hb'
            have HB := hid hb
            clear hb
            by_cases a1 : 97 ≤ (s[k].toNat : Int)
            · have a2 : (s[k].toNat : Int) ≤ 122 := by omega
              clear hb'
              go_wp2
              go_round
              case rel => exact ⟨k + 1, by omega, by go_num, fun t ht h => by rcases Nat.lt_succ_iff_lt_or_eq.1 h with h | rfl; exact HI.out t ht h; exact HB.out⟩
              case measure => simp [intOf]; omega
            · by_cases a3 : 48 ≤ (s[k].toNat : Int)
              · have a4 : (s[k].toNat : Int) ≤ 57 := by omega
                clear hb'
                go_wp2
                go_round
                case rel => exact ⟨k + 1, by omega, by go_num, fun t ht h => by rcases Nat.lt_succ_iff_lt_or_eq.1 h with h | rfl; exact HI.out t ht h; exact HB.out⟩
                case measure => simp [intOf]; omega
              · have a5 : (s[k].toNat : Int) = 45 := by omega
                have a6 : ((s[k].toNat : Int) == 45) = true := by rw [a5]; rfl
                clear hb' a5
                go_wp2
                go_round
                case rel => exact ⟨k + 1, by omega, by go_num, fun t ht h => by rcases Nat.lt_succ_iff_lt_or_eq.1 h with h | rfl; exact HI.out t ht h; exact HB.out⟩
                case measure => simp [intOf]; omega
          · have hf : letterB s[k] = false := by simpa using hb
            have hb' := hf
            simp only [letterB, decide_eq_false_iff_not] at hb'
            have a6 : ((s[k].toNat : Int) == 45) = false := by simp; omega
            have HF := hid (letters_bad hlt hf)
            have HN := hid hb'
            clear hf hb hb'
            by_cases a1 : 97 ≤ (s[k].toNat : Int)
            · have a2 : ¬ (s[k].toNat : Int) ≤ 122 := by have := HN.out; omega
              have a3 : 48 ≤ (s[k].toNat : Int) := by omega
              have a4 : ¬ (s[k].toNat : Int) ≤ 57 := by omega
              go_wp2
              go_ret
              exact ⟨ret_bool HF.out.symm, rfl⟩
            · by_cases a3 : 48 ≤ (s[k].toNat : Int)
              · have a4 : ¬ (s[k].toNat : Int) ≤ 57 := by have := HN.out; omega
                go_wp2
                go_ret
                exact ⟨ret_bool HF.out.symm, rfl⟩
              · go_wp2
                go_ret
                exact ⟨ret_bool HF.out.symm, rfl⟩
        · obtain rfl : k = s.size := by omega
          go_wp2
          go_ret
          exact ⟨ret_bool (letters_ok (by omega) (by omega) fun t ht => HI.out t ht ht).symm, rfl⟩
end Go.Proofs.YtefpnojanldkeaaGreatDoor
