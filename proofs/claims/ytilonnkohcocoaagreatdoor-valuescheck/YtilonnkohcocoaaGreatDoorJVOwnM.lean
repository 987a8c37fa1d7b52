/- HeavyCommit by its contract; Copies: appending a whole slice to none; where OwnCommit stands. -/
import Derived.Test.YtilonnkohcocoaaGreatDoorJVSetsM
import Derived.Test.YtilonnkohcocoaaGreatDoorJVSetsI
import Derived.Laws.AppendOwnNone
namespace Go.Proofs.YtilonnkohcocoaaGreatDoor
open Go.RowKit Go.Sort Go.Maps
set_option maxRecDepth 100000
set_option linter.unusedSectionVars false
variable [Inhabited ComV] [DecidableEq D3] [Inhabited D3] [Inhabited Dd] [Inhabited Dn] [Inhabited OpV]

/-- An op is too much for a statement. -/
def heavyO (o : OpV) : Bool := decide (60 < o.key.size) || (decide (200 < o.text.size) || decide (70 < o.dots.length))
/-- A commit is. -/
def heavyB (c : ComV) : Bool := decide (20 < c.when_.length) || (decide (20 < c.ops.length) || c.ops.any heavyO)
def heavyN (c : ComV) : Int := if heavyB c = true then 1 else 0
def HeavyRet (c : ComV) (w : World) (e : Ending) (w' : World) : Prop := e = .returned (.int .i64 (heavyN c)) ∧ Below w.heap.size w w'
theorem heavyN_one {c : ComV} (h : heavyB c = true) : heavyN c = 1 := if_pos h
theorem heavyN_zero {c : ComV} (h : heavyB c = false) : heavyN c = 0 := if_neg (by rw [h]; decide)
theorem heavyN_long {c : ComV} (h : 20 < c.when_.length ∨ 20 < c.ops.length) : heavyN c = 1 := heavyN_one (by
  unfold heavyB
  rcases h with h | h
  · rw [decide_eq_true h]; rfl
  · rw [decide_eq_true h]; simp)
theorem heavyN_op {c : ComV} {o : OpV} (h : o ∈ c.ops) (ho : heavyO o = true) : heavyN c = 1 := heavyN_one (by
  unfold heavyB
  rw [List.any_eq_true.2 ⟨o, h, ho⟩]
  simp)
theorem heavyN_light {c : ComV} (h1 : ¬20 < c.when_.length) (h2 : ¬20 < c.ops.length) (h3 : ∀ j, j < c.ops.length → heavyO c.ops[j]! = false) : heavyN c = 0 := heavyN_zero (by
  unfold heavyB
  rw [decide_eq_false h1, decide_eq_false h2, List.any_eq_false.2 fun o ho => by
    obtain ⟨j, hj, rfl⟩ := List.getElem_of_mem ho
    have := h3 j hj
    rw [getElem!_pos c.ops j hj] at this
    rw [this]
    decide]
  rfl)

set_option maxHeartbeats 2000000 in
theorem heavyCommit (w : World) (c : ComV) (wv ov : Value) (hw : IntsAt w wv c.when_) (ho : OpsAt w ov c.ops) :
    Calls Tryz.prog 10 #[.agg #[wv, .int .i64 c.place, ov]] w fun e w' => HeavyRet c w e w' := by
  obtain ⟨a1, c1, rfl, _, _⟩ := hw
  obtain ⟨a2, c2, rfl, _, _, ho⟩ := ho.shape
  obtain ⟨n, hn⟩ : ∃ n, n = c.when_.length := ⟨_, rfl⟩
  obtain ⟨m, hm⟩ : ∃ m, m = c.ops.length := ⟨_, rfl⟩
  rw [← hn, ← hm]
  have HN := hid hn
  have HM := hid hm
  have HO := hid ho
  obtain ⟨p, hp⟩ : ∃ p, p = c.place := ⟨_, rfl⟩
  rw [← hp]
  clear hn hm ho hp
  go_enter Tryz.func10, Tryz.ntmps10
  by_cases h1 : (20 : Int) < n
  · go_wp2
    go_ret
    exact ⟨ret_int (heavyN_long (.inl (by have := HN.out; omega))).symm, below_alloc _ _⟩
  by_cases h2 : (20 : Int) < m
  · go_wp2
    go_ret
    exact ⟨ret_int (heavyN_long (.inr (by have := HM.out; omega))).symm, below_alloc _ _⟩
  have b1 : decide ((20 : Int) < n) = false := decide_eq_false h1
  have b2 : decide ((20 : Int) < m) = false := decide_eq_false h2
  have H1 := hid h1
  have H2 := hid h2
  have hm20 : m ≤ 20 := by omega
  clear h1 h2
  go_upto_region 4 with (fail)
  clear b1 b2
  go_loopw [3] (fun i wr => ∃ k : Nat, k ≤ m ∧ i = .int .i64 k ∧ Hid (∀ t, t < k → heavyO c.ops[t]! = false) ∧ Hid (Below w.heap.size w wr) ∧ Hid (w.heap.size < wr.heap.size) ∧ wr.cell? ⟨w.heap.size, 2, none⟩ = some (.slice a2 m c2)) (fun i _ => m - (intOf i).toNat)
  case atStart => exact ⟨0, Nat.zero_le _, rfl, fun t ht => absurd ht (Nat.not_lt_zero _), below_alloc _ _, (show w.heap.size < (w.alloc _).heap.size by simp), (World.cell?_alloc_at _ _ _ _ rfl).trans rfl⟩
  case round =>
    obtain ⟨k, hk, rfl, HL, HB, HS, hc⟩ := hrel
    by_cases hlt : k < m
    · obtain ⟨b, off, rfl, ho'⟩ := HO.out.resolve_left (fun h => by have := HM.out; rw [h] at this; simp at this; omega)
      obtain ⟨dp, dc, _, _, q1, _, q3, _, _, q6⟩ := ho' k (by have := HM.out; omega)
      have up : ∀ {a : Addr} {v : Value}, w.cell? a = some v → wr.cell? a = some v := fun {a v} h => by rw [HB.out.cell (lt_of_cell h)]; exact h
      have r1 := up q1
      have r3 := up q3
      have r6 := up q6
      have hmem : c.ops[k]! ∈ c.ops := by rw [getElem!_pos c.ops k (by have := HM.out; omega)]; exact List.getElem_mem _
      obtain ⟨o, hoe⟩ : ∃ o, o = c.ops[k]! := ⟨_, rfl⟩
      rw [← hoe] at r1 r3 r6 hmem
      have HOE := hid hoe
      have HMEM := hid hmem
      clear q1 q3 q6 ho' up hoe hmem
      by_cases x1 : (60 : Int) < o.key.size
      · go_wp2
        go_ret
        exact ⟨ret_int (heavyN_op HMEM.out (by unfold heavyO; rw [decide_eq_true (by omega : 60 < o.key.size)]; rfl)).symm, HB.out⟩
      by_cases x2 : (200 : Int) < o.text.size
      · go_wp2
        go_ret
        exact ⟨ret_int (heavyN_op HMEM.out (by unfold heavyO; rw [decide_eq_true (by omega : 200 < o.text.size)]; simp)).symm, HB.out⟩
      by_cases x3 : (70 : Int) < o.dots.length
      · go_wp2
        go_ret
        exact ⟨ret_int (heavyN_op HMEM.out (by unfold heavyO; rw [decide_eq_true (by omega : 70 < o.dots.length)]; simp)).symm, HB.out⟩
      have hlo : Hid (heavyO o = false) := by
        unfold heavyO
        rw [decide_eq_false (by omega : ¬60 < o.key.size), decide_eq_false (by omega : ¬200 < o.text.size), decide_eq_false (by omega : ¬70 < o.dots.length)]
        exact hid rfl
      go_wp2
      go_roundw
      case rel => exact ⟨k + 1, by omega, by go_num, fun t ht => by rcases Nat.lt_succ_iff_lt_or_eq.1 ht with h | rfl; exact HL.out t h; rw [← HOE.out]; exact hlo.out, HB.out, HS.out, hc⟩
      case measure => simp [intOf]; omega
    · obtain rfl : k = m := by omega
      go_wp2
      go_ret
      exact ⟨ret_int (heavyN_light (by have := HN.out; have := H1.out; omega) (by have := HM.out; have := H2.out; omega) (fun j hj => HL.out j (by have := HM.out; omega))).symm, HB.out⟩

/-- Commits are too much for a statement. -/
def heavyL (l : List ComV) : Bool := decide (30 < l.length) || l.any heavyB
def HeavyLRet (l : List ComV) (w : World) (e : Ending) (w' : World) : Prop := e = .returned (.bool (heavyL l)) ∧ Below w.heap.size w w'
theorem heavyN_pos (c : ComV) : (0 < heavyN c) = (heavyB c = true) := by
  unfold heavyN
  cases heavyB c <;> simp
set_option maxHeartbeats 2000000 in
theorem heavy_ok (w : World) (v : Value) (l : List ComV) (hv : ComsAt w v l) :
    Calls Tryz.prog 18 #[v] w fun e w' => HeavyLRet l w e w' := by
  obtain ⟨ad, cap, rfl, _, _, ho⟩ := hv.shape
  obtain ⟨m, hm⟩ : ∃ m, m = l.length := ⟨_, rfl⟩
  rw [← hm]
  have HM := hid hm
  have HO := hid ho
  clear hm ho hv
  go_enter Tryz.func18, Tryz.ntmps18
  by_cases h1 : (30 : Int) < m
  · go_wp2
    go_ret
    exact ⟨ret_bool (by unfold heavyL; rw [decide_eq_true (by have := HM.out; omega)]; rfl), Below.refl _ _⟩
  have hm30 : m ≤ 30 := by omega
  go_wp2
  go_loopw [3] (fun i wr => ∃ k : Nat, k ≤ m ∧ i = .int .i64 k ∧ Hid (∀ t, t < k → heavyB l[t]! = false) ∧ Hid (Below w.heap.size w wr)) (fun i _ => m - (intOf i).toNat)
  case atStart => exact ⟨0, Nat.zero_le _, rfl, fun t ht => absurd ht (Nat.not_lt_zero _), Below.refl _ _⟩
  case round =>
    obtain ⟨k, hk, rfl, HL, HB⟩ := hrel
    by_cases hlt : k < m
    · obtain ⟨b, off, rfl, ho'⟩ := HO.out.resolve_left (fun h => by have := HM.out; rw [h] at this; simp at this; omega)
      obtain ⟨wv, ov, hi, hop, q0, q1, q2⟩ := ho' k (by have := HM.out; omega)
      have up : ∀ {a : Addr} {v : Value}, w.cell? a = some v → wr.cell? a = some v := fun {a v} h => by rw [HB.out.cell (lt_of_cell h)]; exact h
      have r0 := up q0
      have r1 := up q1
      have r2 := up q2
      have hmem : l[k]! ∈ l := by rw [getElem!_pos l k (by have := HM.out; omega)]; exact List.getElem_mem _
      obtain ⟨c, hce⟩ : ∃ c, c = l[k]! := ⟨_, rfl⟩
      rw [← hce] at r1 hmem hi hop
      have K9 := heavyCommit wr c wv ov (hi.mono HB.out (Nat.le_refl _)) (hop.mono HB.out (Nat.le_refl _))
      obtain ⟨a1, c1, rfl, _⟩ := hi
      obtain ⟨a2, c2, rfl, _⟩ := hop.shape
      have HCE := hid hce
      have HMEM := hid hmem
      clear q0 q1 q2 ho' up hce hmem hop
      cases hh : heavyB c with
      | true =>
        have hN : heavyN c = 1 := heavyN_one hh
        rw [show HeavyRet c wr = fun e w' => e = .returned (.int .i64 1) ∧ Below wr.heap.size wr w' from by funext e w'; unfold HeavyRet; rw [hN]] at K9
        go_wp2_with (go_at_call 10; refine K9.mono ?_; rintro e w' ⟨rfl, hb⟩)
        go_ret
        exact ⟨ret_bool (by unfold heavyL; rw [List.any_eq_true.2 ⟨c, HMEM.out, hh⟩]; simp), HB.out.trans (hb.mono HB.out.size)⟩
      | false =>
        have hN : heavyN c = 0 := heavyN_zero hh
        rw [show HeavyRet c wr = fun e w' => e = .returned (.int .i64 0) ∧ Below wr.heap.size wr w' from by funext e w'; unfold HeavyRet; rw [hN]] at K9
        have HH := hid hh
        clear hh
        go_wp2_with (go_at_call 10; refine K9.mono ?_; rintro e w' ⟨rfl, hb⟩)
        go_roundw
        case rel => exact ⟨k + 1, by omega, by go_num, fun t ht => by rcases Nat.lt_succ_iff_lt_or_eq.1 ht with h | rfl; exact HL.out t h; rw [← HCE.out]; exact HH.out, HB.out.trans (hb.mono HB.out.size)⟩
        case measure => simp [intOf]; omega
    · obtain rfl : k = m := by omega
      go_wp2
      go_ret
      exact ⟨ret_bool (by
        unfold heavyL
        rw [decide_eq_false (by have := HM.out; omega), List.any_eq_false.2 fun o ho => by
          obtain ⟨j, hj, rfl⟩ := List.getElem_of_mem ho
          have := HL.out j (by have := HM.out; omega)
          rw [getElem!_pos l j hj] at this
          rw [this]
          decide]
        rfl), HB.out⟩
end Go.Proofs.YtilonnkohcocoaaGreatDoor
namespace Go.Proofs.YtilonnkohcocoaaGreatDoor
open Go.RowKit Go.Sort Go.Maps
set_option maxRecDepth 100000
set_option linter.unusedSectionVars false
variable [Inhabited ComV] [DecidableEq D3] [Inhabited D3] [Inhabited Dd] [Inhabited Dn] [Inhabited OpV]

/-- The slice v reads, in w, as m elements: the cells news. -/
def SrcAt (w : World) (v : Value) (m size : Nat) (news : List Value) : Prop :=
  (v = .slice none 0 0 ∧ m = 0 ∧ news = []) ∨ ∃ ad c, v = .slice (some ad) m c ∧ news.length = m * size ∧ ∀ j u, news[j]? = some u → w.cell? (ad.add j) = some u
theorem src_ints {w : World} {v : Value} {zs : List Int} (h : IntsAt w v zs) : SrcAt w v zs.length 1 (zs.map (Value.int .i64)) := by
  obtain ⟨ad, c, rfl, h0, h⟩ := h
  cases ad with
  | none =>
    obtain rfl := h0 rfl
    rcases h with rfl | ⟨b, o, he, _⟩
    · exact .inl ⟨rfl, rfl, rfl⟩
    · cases he
  | some a =>
    refine .inr ⟨a, c, rfl, by simp, fun j u hj => ?_⟩
    rcases h with rfl | ⟨b, o, he, h⟩
    · simp at hj
    · obtain rfl := Option.some.inj he
      rw [List.getElem?_map] at hj
      cases hjj : zs[j]? with
      | none => rw [hjj] at hj; cases hj
      | some z =>
        rw [hjj] at hj
        obtain rfl := Option.some.inj hj
        have hlt : j < zs.length := (List.getElem?_eq_some_iff.1 hjj).1
        have := h j hlt
        rw [List.getD_eq_getElem?_getD, hjj] at this
        rw [Addr.add_lit]
        exact this
theorem src_dots {w : World} {v : Value} {ds : List D3} (h : DotsAt w v ds) : SrcAt w v ds.length 3 (ds.flatMap D3.cells) := by
  obtain ⟨ad, c, rfl, h0, _, h⟩ := h
  rw [List.length_map]
  cases ad with
  | none =>
    obtain rfl := h0 rfl
    rcases h with h | ⟨b, o, he, _⟩
    · obtain rfl : ds = [] := by simpa using h
      exact .inl ⟨rfl, rfl, rfl⟩
    · cases he
  | some a =>
    have hlen : ∀ ds : List D3, (ds.flatMap D3.cells).length = ds.length * 3 := by
      intro ds
      induction ds with
      | nil => rfl
      | cons x r ih => rw [List.flatMap_cons, List.length_append, ih, List.length_cons]; show 3 + _ = _; omega
    refine .inr ⟨a, c, rfl, hlen ds, fun j u hj => ?_⟩
    rcases h with h | ⟨b, o, he, h⟩
    · obtain rfl : ds = [] := by simpa using h
      simp at hj
    · obtain rfl := Option.some.inj he
      have hjl : j < ds.length * 3 := by have := (List.getElem?_eq_some_iff.1 hj).1; rw [hlen] at this; exact this
      have hq : j / 3 < ds.length := by omega
      have hr : j % 3 < 3 := by omega
      have e := flat3_get ds (j / 3) (j % 3) hq hr
      rw [show j / 3 * 3 + j % 3 = j by omega, hj] at e
      have hrow : (ds.map D3.cells)[j / 3]? = some (ds[j / 3]!.cells) := by rw [List.getElem?_map, List.getElem?_eq_getElem hq, getElem!_pos ds _ hq]; rfl
      have hl3 : ds[j / 3]!.cells.length = 3 := rfl
      have := (h (j / 3) _ hrow).2 (j % 3) u (by
        rw [List.getElem?_eq_getElem (by rw [hl3]; exact hr)]
        rw [getElem!_pos _ _ (by rw [hl3]; exact hr)] at e
        exact e.symm)
      rw [Addr.add_lit, ← this]
      congr 2
      omega
theorem SrcAt.moved {w w' : World} {v : Value} {m size : Nat} {news : List Value} (h : SrcAt w v m size news) (hk : ∀ a u, w.cell? a = some u → w'.cell? a = some u) : SrcAt w' v m size news := by
  rcases h with h | ⟨ad, c, h1, h2, h3⟩
  · exact .inl h
  · exact .inr ⟨ad, c, h1, h2, fun j u hj => hk _ _ (h3 j u hj)⟩
/-- append(nil, x...): a row of the call's own. -/
theorem wpList_append_src {w : World} {ops : Array Oper} {rest : List Oper} {o : Oper} {a : Act} {Q : Exit → Act → World → Prop} (hgd : o.guard = none) (s x : Operand) (t : TypeId)
    (ho : o.op = .call { callee := .builtin .append, args := #[s, x], argTypes := #[t, t] })
    (base : Nat) (e : TypeId) (i : TypeInfo) (z : Value) (size bytes : Nat) (ht : Tryz.prog.underlying t = some (.slice e)) (hi : Tryz.prog.info? e = some i) (hz : i.zero = some z)
    (hsize : i.size = size) (hby : i.bytes = bytes) (hzs : z.cells.size = size) (hsz : 0 < size)
    (hs : a.eval s = .slice none 0 0) (v : Value) (m : Nat) (news : List Value) (hx : a.eval x = v) (hv : SrcAt w v m size news) (h1 : ∀ u ∈ news, u.oneCell' = true)
    (h63 : m ≤ maxLen) (hbytes : m * bytes ≤ 140737488355328) (hbase : base ≤ w.heap.size)
    (h : ∀ v' w', w'.ownsRow base e size v' m news → w.grownBy w' none → wpList Tryz.prog ops Q rest (a.put o.dst v') w') : wpList Tryz.prog ops Q (o :: rest) a w := by
  rcases hv with ⟨rfl, rfl, rfl⟩ | ⟨ad, c, rfl, hl, hn⟩
  · exact wpList_append_own_none hgd s x t ho base e i size ht hi _ 0 [] hs (World.ownsRow_nil _ _ _ _) hx (h _ _ (World.ownsRow_nil _ _ _ _) ⟨rfl, rfl, rfl, Nat.le_refl _, fun _ _ _ => rfl⟩)
  · refine wpList_append_own w hgd s x t ho base e i z size bytes ht hi hz hsize hby hzs hsz _ 0 [] hs (World.ownsRow_nil _ _ _ _) ad m c news hx hl hn h1 (by omega) (by rw [Nat.zero_add]; exact hbytes) hbase fun v' w' h2 h3 _ => ?_
    rw [Nat.zero_add, List.nil_append] at h2
    exact h v' w' h2 h3

/-- An op that is copied: its dots in a row of their own. -/
def OpOwn (base : Nat) (w : World) (r : List Value) (o : OpV) : Prop := ∃ dv, r = opCells o dv ∧ w.ownsRow base 65 3 dv o.dots.length (o.dots.flatMap D3.cells)
/-- k ops are copied. -/
structure OwnInv (w : World) (c : ComV) (wv ov : Value) (k : Nat) (wv' ov' : Value) (rows : List (List Value)) (wr : World) : Prop where
  below : Below w.heap.size w wr
  size : w.heap.size + 3 ≤ wr.heap.size
  box : wr.heap[w.heap.size]? = some (.cells #[wv, .int .i64 c.place, ov] 28 (0, 0))
  res : wr.heap[w.heap.size + 1]? = some (.cells #[.slice none 0 0, .int .i64 0, .slice none 0 0] 28 (0, 0))
  out : wr.heap[w.heap.size + 2]? = some (.cells #[wv', .int .i64 c.place, ov'] 28 (0, 0))
  when_ : wr.ownsRow (w.heap.size + 3) 3 1 wv' c.when_.length (c.when_.map (Value.int .i64))
  row : wr.ownsRow (w.heap.size + 3) 24 7 ov' k rows.flatten
  ops : F2 (OpOwn (w.heap.size + 3) wr) rows (c.ops.take k)
theorem OpOwn.kept {base : Nat} {w w' : World} {r : List Value} {o : OpV} (h : OpOwn base w r o) (hb : ∀ (b : Nat) (cs : Array Value), w.heap[b]? = some (.cells cs 65 (0, 0)) → w'.heap[b]? = w.heap[b]?) : OpOwn base w' r o :=
  let ⟨dv, h1, h2⟩ := h; ⟨dv, h1, owns_below h2 hb⟩
theorem OwnInv.moved {w wr w' : World} {c : ComV} {wv ov wv' ov' : Value} {k : Nat} {rows : List (List Value)} (h : OwnInv w c wv ov k wv' ov' rows wr) (hb : Below wr.heap.size wr w') : OwnInv w c wv ov k wv' ov' rows w' where
  below := h.below.trans (hb.mono (by have := h.size; omega))
  size := Nat.le_trans h.size hb.size
  box := by rw [hb.block _ (by have := h.size; omega)]; exact h.box
  res := by rw [hb.block _ (by have := h.size; omega)]; exact h.res
  out := by rw [hb.block _ (by have := h.size; omega)]; exact h.out
  when_ := owns_below h.when_ fun b cs hc => hb.block b (lt_of_heap hc)
  row := owns_below h.row fun b cs hc => hb.block b (lt_of_heap hc)
  ops := f2_mono (fun _ _ h => h.kept fun b cs hc => hb.block b (lt_of_heap hc)) h.ops
theorem OwnInv.start {w w4 : World} {c : ComV} {wv ov wv' : Value} (hg : (((w.alloc (.cells #[wv, .int .i64 c.place, ov] 28)).alloc (.cells #[.slice none 0 0, .int .i64 0, .slice none 0 0] 28)).alloc (.cells #[.slice none 0 0, .int .i64 c.place, .slice none 0 0] 28)).grownBy w4 none)
    (hr : w4.ownsRow (w.heap.size + 3) 3 1 wv' c.when_.length (c.when_.map (Value.int .i64))) : OwnInv w c wv ov 0 wv' (.slice none 0 0) [] (w4.setCell ⟨w.heap.size + 2, 0, none⟩ wv') := by
  have hsz : (((w.alloc (.cells #[wv, .int .i64 c.place, ov] 28)).alloc (.cells #[.slice none 0 0, .int .i64 0, .slice none 0 0] 28)).alloc (.cells #[.slice none 0 0, .int .i64 c.place, .slice none 0 0] 28)).heap.size = w.heap.size + 3 := by simp
  have hb := fun i (hi : i < w.heap.size + 3) => hg.block i (by rw [hsz]; exact hi) (by simp)
  have hs : ∀ i : Nat, i ≠ w.heap.size + 2 → (w4.setCell ⟨w.heap.size + 2, 0, none⟩ wv').heap[i]? = w4.heap[i]? := fun i hi => Below.heap_setCell _ _ _ _ hi
  have h2 : w4.heap[w.heap.size + 2]? = some (.cells #[.slice none 0 0, .int .i64 c.place, .slice none 0 0] 28 (0, 0)) := by
    rw [hb _ (by omega), show w.heap.size + 2 = ((w.alloc (.cells #[wv, .int .i64 c.place, ov] 28)).alloc (.cells #[.slice none 0 0, .int .i64 0, .slice none 0 0] 28)).heap.size by simp]
    exact (MapKept.heap_alloc _ _).1
  refine ⟨⟨hg.os, hg.tape, hg.output, ?_, fun i hi => ?_⟩, ?_, ?_, ?_, ?_, ?_, World.ownsRow_nil _ _ _ _, trivial⟩
  · have := hg.size
    rw [hsz] at this
    simp [World.setCell]
    omega
  · rw [hs i (by omega), hb i (by omega), (MapKept.heap_alloc _ _).2 _ (by simp; omega), (MapKept.heap_alloc _ _).2 _ (by simp; omega), (MapKept.heap_alloc _ _).2 _ hi]
  · have := hg.size
    rw [hsz] at this
    simp [World.setCell]
    omega
  · rw [hs _ (by omega), hb _ (by omega), (MapKept.heap_alloc _ _).2 _ (by simp; omega), (MapKept.heap_alloc _ _).2 _ (by simp)]
    exact (MapKept.heap_alloc _ _).1
  · rw [hs _ (by omega), hb _ (by omega), (MapKept.heap_alloc _ _).2 _ (by simp)]
    rw [show w.heap.size + 1 = (w.alloc (.cells #[wv, .int .i64 c.place, ov] 28)).heap.size by simp]
    exact (MapKept.heap_alloc _ _).1
  · rw [heap_set h2]
    rfl
  · exact ownsRow_setCell_below hr (Nat.lt_succ_self _) _
theorem OwnInv.op {w wr w1 : World} {c : ComV} {wv ov wv' ov' ov2 dv : Value} {k : Nat} {rows : List (List Value)} {o : OpV} (h : OwnInv w c wv ov k wv' ov' rows wr) (hg : wr.grownBy w1 ov'.ownBlock) (hr : w1.ownsRow (w.heap.size + 3) 24 7 ov2 (k + 1) (rows.flatten ++ opCells o dv))
    (hd : wr.ownsRow (w.heap.size + 3) 65 3 dv o.dots.length (o.dots.flatMap D3.cells)) (ho : c.ops.take (k + 1) = c.ops.take k ++ [o]) : OwnInv w c wv ov (k + 1) wv' ov2 (rows ++ [opCells o dv]) (w1.setCell ⟨w.heap.size + 2, 2, none⟩ ov2) := by
  have hne : ∀ (b : Nat) (cs : Array Value) (t : TypeId), t ≠ 24 → wr.heap[b]? = some (.cells cs t (0, 0)) → w1.heap[b]? = wr.heap[b]? := fun b cs t ht hb => hg.block b (lt_of_heap hb) fun e => by
    obtain ⟨cs', h'⟩ := own_type h.row e.symm
    rw [hb] at h'
    injection h' with h'
    injection h' with _ h'
    exact ht h'
  have hs : ∀ i : Nat, i ≠ w.heap.size + 2 → (w1.setCell ⟨w.heap.size + 2, 2, none⟩ ov2).heap[i]? = w1.heap[i]? := fun i hi => Below.heap_setCell _ _ _ _ hi
  have hb1 : Below w.heap.size w w1 := h.below.trans ⟨hg.os, hg.tape, hg.output, hg.size, fun i hi => hg.block i (by have := h.size; omega) fun e => by have := (h.row.lt i e.symm).1; omega⟩
  have h2 : w1.heap[w.heap.size + 2]? = some (.cells #[wv', .int .i64 c.place, ov'] 28 (0, 0)) := by rw [hne _ _ 28 (by decide) h.out]; exact h.out
  have lo : ∀ {e size n : Nat} {v : Value} {xs : List Value}, w1.ownsRow (w.heap.size + 3) e size v n xs → (w1.setCell ⟨w.heap.size + 2, 2, none⟩ ov2).ownsRow (w.heap.size + 3) e size v n xs := fun h => ownsRow_setCell_below h (Nat.lt_succ_self _) _
  refine ⟨hb1.setCell (by show _ ≤ w.heap.size + 2; omega) _, by have := h.size; have := hg.size; simp [World.setCell]; omega, ?_, ?_, ?_, ?_, ?_, ?_⟩
  · rw [hs _ (by omega), hne _ _ 28 (by decide) h.box]; exact h.box
  · rw [hs _ (by omega), hne _ _ 28 (by decide) h.res]; exact h.res
  · rw [heap_set h2]
    rfl
  · exact lo (owns_below h.when_ fun b cs hb => hne b cs 3 (by decide) hb)
  · simpa using lo hr
  · rw [ho]
    refine f2_append (f2_mono (fun _ _ h => ?_) h.ops) ⟨dv, rfl, lo (owns_below hd fun b cs hb => hne b cs 65 (by decide) hb)⟩
    obtain ⟨dv, h1, h2⟩ := h
    exact ⟨dv, h1, lo (owns_below h2 fun b cs hb => hne b cs 65 (by decide) hb)⟩
theorem ints_of_row {w : World} {base : Nat} {v : Value} {zs : List Int} (h : w.ownsRow base 3 1 v zs.length (zs.map (Value.int .i64))) : IntsAt w v zs := by
  obtain ⟨_, h2⟩ := h
  rcases h2 with ⟨rfl, h0⟩ | ⟨g, cap, cur, rfl, hb, hh, hn, hm, hs, ht⟩
  · exact ⟨none, 0, by rw [h0], (fun _ => rfl), .inl (List.eq_nil_of_length_eq_zero h0)⟩
  · refine ⟨_, cap, rfl, (fun h => by cases h), .inr ⟨g, 0, rfl, fun t htt => ?_⟩⟩
    have e : cur[t]? = some (.int .i64 (zs.getD t 0)) := by
      have h1 : (cur.toList.take (zs.length * 1))[t]? = (zs.map (Value.int .i64))[t]? := by rw [ht]
      rw [List.getElem?_take, if_pos (by omega), Array.getElem?_toList] at h1
      rw [h1, List.getElem?_map, List.getElem?_eq_getElem htt, List.getD_eq_getElem?_getD, List.getElem?_eq_getElem htt]
      rfl
    simp only [World.cell?, hh, Nat.zero_add]
    exact e
/-- All are copied. -/
theorem OwnInv.all {w wr : World} {c : ComV} {wv ov wv' ov' : Value} {rows : List (List Value)} (h : OwnInv w c wv ov c.ops.length wv' ov' rows wr) : IntsAt wr wv' c.when_ ∧ OpsAt wr ov' c.ops := by
  have hops := h.ops
  rw [List.take_length] at hops
  refine ⟨ints_of_row h.when_, rows, rowAt_of_owns h.row (f2_len hops).symm ?_, f2_mono (fun r o ho => ?_) hops⟩
  · have : ∀ {rows : List (List Value)} {os : List OpV}, F2 (OpOwn (w.heap.size + 3) wr) rows os → ∀ r ∈ rows, r.length = 7 := by
      intro rows
      induction rows with
      | nil => intro _ _ r hr; simp at hr
      | cons x t ih =>
        intro cs hf r hr
        match cs, hf with
        | _ :: _, ⟨h1, h2⟩ =>
          rcases List.mem_cons.1 hr with rfl | hr
          · obtain ⟨_, rfl, _⟩ := h1
            rfl
          · exact ih h2 r hr
    exact this hops
  · obtain ⟨dv, rfl, hd⟩ := ho
    exact ⟨dv, rfl, dots_of_owns hd rfl⟩
end Go.Proofs.YtilonnkohcocoaaGreatDoor
