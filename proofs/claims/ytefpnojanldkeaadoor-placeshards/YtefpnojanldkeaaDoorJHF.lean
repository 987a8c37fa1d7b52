/- slices.Clone; a message copied; A message copied. -/
import Derived.Test.YtefpnojanldkeaaDoorJHC
import Derived.Test.YtefpnojanldkeaaDoorJVOwnM
import Derived.Test.YtefpnojanldkeaaDoorJVCmp
import Derived.Test.YtefpnojanldkeaaDoorJVRefN
import Derived.Test.YtefpnojanldkeaaDoorJWPutN
import Derived.Test.YtefpnojanldkeaaDoorJWNew
import Derived.Test.YtefpnojanldkeaaDoorJVOp2
import Derived.Test.YtefpnojanldkeaaDoorJVCom
import Derived.Lib.SliceRun
import Derived.Laws.OwnMore
import Derived.Maps.AppendAt
import Derived.Test.YtefpnojanldkeaaDoorJVOfRE
import Derived.Test.YtefpnojanldkeaaDoorJSBeat
import Derived.Test.YtefpnojanldkeaaDoorJWPart2
namespace Go.Proofs.YtefpnojanldkeaaDoor
open Go.RowKit
set_option maxRecDepth 100000
set_option linter.unusedSectionVars false
variable [Inhabited ComV] [DecidableEq D3] [Inhabited D3] [Inhabited Dn] [Inhabited OpV]

/-- append(row of one's own, x...). -/
theorem wpList_append_own_srcS {w : World} {ops : Array Oper} {rest : List Oper} {o : Oper} {a : Act} {Q : Exit → Act → World → Prop} (hgd : o.guard = none) (s x : Operand) (t : TypeId)
    (ho : o.op = .call { callee := .builtin .append, args := #[s, x], argTypes := #[t, t] })
    (base : Nat) (e : TypeId) (i : TypeInfo) (z : Value) (size bytes : Nat) (ht : Tryd.prog.underlying t = some (.slice e)) (hi : Tryd.prog.info? e = some i) (hz : i.zero = some z)
    (hsize : i.size = size) (hby : i.bytes = bytes) (hzs : z.cells.size = size) (hsz : 0 < size)
    (v0 : Value) (n : Nat) (xs : List Value) (hs : a.eval s = v0) (hown : w.ownsRow base e size v0 n xs) (v : Value) (m : Nat) (news : List Value) (hx : a.eval x = v) (hv : SrcAt w v m size news) (h1 : ∀ u ∈ news, u.oneCell' = true)
    (h63 : n + m ≤ maxLen) (hbytes : (n + m) * bytes ≤ 140737488355328) (hbase : base ≤ w.heap.size)
    (h : ∀ v' w', w'.ownsRow base e size v' (n + m) (xs ++ news) → w.grownBy w' v0.ownBlock → (v'.ownBlock = v0.ownBlock ∨ v'.ownBlock = some w.heap.size) → wpList Tryd.prog ops Q rest (a.put o.dst v') w') : wpList Tryd.prog ops Q (o :: rest) a w := by
  rcases hv with ⟨rfl, rfl, rfl⟩ | ⟨ad, c, rfl, hl, hn⟩
  · exact wpList_append_own_none hgd s x t ho base e i size ht hi v0 n xs hs hown hx (h _ _ (by simpa using hown) ⟨rfl, rfl, rfl, Nat.le_refl _, fun _ _ _ => rfl⟩ (.inl rfl))
  · refine wpList_plain hgd fun _ hK => ?_
    obtain ⟨v', w', hr, h2, h3, _, h5⟩ := run_append_own_at (P := Tryd.prog) w base t o.type e i z size bytes ht hi hz hsize hby hzs hsz v0 n xs hown ad m c news hl hn h1 h63 hbytes hbase
    unfold Oper.wp execOp
    simp only [ho, resolve, invoke, builtin, Sem.run_bind, Sem.run_pure, Result.andThen_ok, List.map_toArray, List.map_cons, List.map_nil, hs, hx, hr]
    exact hK _ _ (h v' w' h2 h3 h5)
theorem SrcAt.nil_len {w : World} {n c m size : Nat} {news : List Value} (h : SrcAt w (.slice none n c) m size news) : n = 0 ∧ c = 0 ∧ m = 0 ∧ news = [] := by
  rcases h with ⟨h1, h2, h3⟩ | ⟨ad, c', h1, _⟩
  · injection h1 with _ h4 h5
    exact ⟨h4, h5, h2, h3⟩
  · cases h1
/-- What Clone of a row leaves. -/
def ClRet (e size : Nat) (w : World) (n : Nat) (news : List Value) (x : Ending) (w' : World) : Prop := ∃ a c, x = .returned (.slice a n c) ∧ w'.ownsRow w.heap.size e size (.slice a n c) n news ∧ Below w.heap.size w w'
set_option maxHeartbeats 2000000 in
theorem clone48 (w : World) (a : Option Addr) (n c : Nat) (news : List Value) (h : SrcAt w (.slice a n c) n 1 news) (h1 : ∀ u ∈ news, u.oneCell' = true) (hl : n ≤ 1000000) :
    Calls Tryd.prog 33 #[.slice a n c] w (ClRet 3 1 w n news) := by
  have q22 : ∀ (w : World) (a : Option Addr) (n c n' c' : Nat), (binOp .eql 34 (.slice a n c) (.slice none n' c')).run Tryd.prog w = .ok (.bool a.isNone) w := fun w a n c n' c' => Lib.run_eql_slice_nil w _ _ a n c n' c' Tryd.underlying34
  obtain ⟨i0, hi, hz0, hz1, hz2⟩ := info_parts Tryd.info3
  have HS := hid h
  have H1 := hid h1
  clear h h1
  cases a with
  | none =>
    obtain ⟨rfl, rfl, _, rfl⟩ := HS.out.nil_len
    go_enter Tryd.func33, Tryd.ntmps33
    go_wp2
    go_ret
    exact ⟨none, 0, rfl, World.ownsRow_nil _ _ _ _, Below.refl _ _⟩
  | some ad =>
    go_enter Tryd.func33, Tryd.ntmps33
    go_wp2_with (at_builtin; refine wpList_append_own_srcS rfl _ _ 34 rfl w.heap.size 3 i0 _ 1 8 Tryd.underlying34 hi hz0 hz1 hz2 rfl (by decide) _ _ _ rfl (World.ownsRow_made w #[] 0 (Nat.le_refl _) (Nat.zero_le _) rfl) _ n news rfl ?hs1 H1.out ?hm2 ?hm3 ?hm4 ?_; (case hs1 => exact HS.out.moved (fun a u h => cell_alloc h _)); (case hm2 => unfold maxLen; omega); (case hm3 => omega); (case hm4 => simp); intro v3 w3 hown3 hgrow3 _)
    rw [Nat.zero_add, List.nil_append] at hown3
    obtain ⟨a3, c3, rfl⟩ := row_shape hown3
    have HT := hid hown3
    have HB : Hid (Below w.heap.size w w3) := ((Below.refl _ w).alloc (Nat.le_refl _) _).grown hgrow3 (by simp) (fun k hk => ((World.ownsRow_made (e := 3) (size := 1) (base := w.heap.size) w #[] 0 (Nat.le_refl _) (Nat.zero_le _) rfl).lt k hk).1)
    clear hown3 hgrow3
    go_wp2
    go_ret
    exact ⟨a3, c3, rfl, HT.out, HB.out⟩
set_option maxHeartbeats 2000000 in
theorem clone49 (w : World) (a : Option Addr) (n c : Nat) (news : List Value) (h : SrcAt w (.slice a n c) n 7 news) (h1 : ∀ u ∈ news, u.oneCell' = true) (hl : n ≤ 1000000) :
    Calls Tryd.prog 34 #[.slice a n c] w (ClRet 43 7 w n news) := by
  have q22 : ∀ (w : World) (a : Option Addr) (n c n' c' : Nat), (binOp .eql 35 (.slice a n c) (.slice none n' c')).run Tryd.prog w = .ok (.bool a.isNone) w := fun w a n c n' c' => Lib.run_eql_slice_nil w _ _ a n c n' c' Tryd.underlying35
  obtain ⟨i0, hi, hz0, hz1, hz2⟩ := info_parts Tryd.info43
  have HS := hid h
  have H1 := hid h1
  clear h h1
  cases a with
  | none =>
    obtain ⟨rfl, rfl, _, rfl⟩ := HS.out.nil_len
    go_enter Tryd.func34, Tryd.ntmps34
    go_wp2
    go_ret
    exact ⟨none, 0, rfl, World.ownsRow_nil _ _ _ _, Below.refl _ _⟩
  | some ad =>
    go_enter Tryd.func34, Tryd.ntmps34
    go_wp2_with (at_builtin; refine wpList_append_own_srcS rfl _ _ 35 rfl w.heap.size 43 i0 _ 7 88 Tryd.underlying35 hi hz0 hz1 hz2 rfl (by decide) _ _ _ rfl (World.ownsRow_made w #[] 0 (Nat.le_refl _) (Nat.zero_le _) rfl) _ n news rfl ?hs1 H1.out ?hm2 ?hm3 ?hm4 ?_; (case hs1 => exact HS.out.moved (fun a u h => cell_alloc h _)); (case hm2 => unfold maxLen; omega); (case hm3 => omega); (case hm4 => simp); intro v3 w3 hown3 hgrow3 _)
    rw [Nat.zero_add, List.nil_append] at hown3
    obtain ⟨a3, c3, rfl⟩ := row_shape hown3
    have HT := hid hown3
    have HB : Hid (Below w.heap.size w w3) := ((Below.refl _ w).alloc (Nat.le_refl _) _).grown hgrow3 (by simp) (fun k hk => ((World.ownsRow_made (e := 43) (size := 7) (base := w.heap.size) w #[] 0 (Nat.le_refl _) (Nat.zero_le _) rfl).lt k hk).1)
    clear hown3 hgrow3
    go_wp2
    go_ret
    exact ⟨a3, c3, rfl, HT.out, HB.out⟩
set_option maxHeartbeats 2000000 in
theorem clone50 (w : World) (a : Option Addr) (n c : Nat) (news : List Value) (h : SrcAt w (.slice a n c) n 3 news) (h1 : ∀ u ∈ news, u.oneCell' = true) (hl : n ≤ 1000000) :
    Calls Tryd.prog 35 #[.slice a n c] w (ClRet 96 3 w n news) := by
  have q22 : ∀ (w : World) (a : Option Addr) (n c n' c' : Nat), (binOp .eql 41 (.slice a n c) (.slice none n' c')).run Tryd.prog w = .ok (.bool a.isNone) w := fun w a n c n' c' => Lib.run_eql_slice_nil w _ _ a n c n' c' Tryd.underlying41
  obtain ⟨i0, hi, hz0, hz1, hz2⟩ := info_parts Tryd.info96
  have HS := hid h
  have H1 := hid h1
  clear h h1
  cases a with
  | none =>
    obtain ⟨rfl, rfl, _, rfl⟩ := HS.out.nil_len
    go_enter Tryd.func35, Tryd.ntmps35
    go_wp2
    go_ret
    exact ⟨none, 0, rfl, World.ownsRow_nil _ _ _ _, Below.refl _ _⟩
  | some ad =>
    go_enter Tryd.func35, Tryd.ntmps35
    go_wp2_with (at_builtin; refine wpList_append_own_srcS rfl _ _ 41 rfl w.heap.size 96 i0 _ 3 24 Tryd.underlying41 hi hz0 hz1 hz2 rfl (by decide) _ _ _ rfl (World.ownsRow_made w #[] 0 (Nat.le_refl _) (Nat.zero_le _) rfl) _ n news rfl ?hs1 H1.out ?hm2 ?hm3 ?hm4 ?_; (case hs1 => exact HS.out.moved (fun a u h => cell_alloc h _)); (case hm2 => unfold maxLen; omega); (case hm3 => omega); (case hm4 => simp); intro v3 w3 hown3 hgrow3 _)
    rw [Nat.zero_add, List.nil_append] at hown3
    obtain ⟨a3, c3, rfl⟩ := row_shape hown3
    have HT := hid hown3
    have HB : Hid (Below w.heap.size w w3) := ((Below.refl _ w).alloc (Nat.le_refl _) _).grown hgrow3 (by simp) (fun k hk => ((World.ownsRow_made (e := 96) (size := 3) (base := w.heap.size) w #[] 0 (Nat.le_refl _) (Nat.zero_le _) rfl).lt k hk).1)
    clear hown3 hgrow3
    go_wp2
    go_ret
    exact ⟨a3, c3, rfl, HT.out, HB.out⟩
/-- A slice of ops as the source of an append. -/
theorem flat7_at : ∀ (rows : List (List Value)) (q j : Nat) (r : List Value), (∀ x ∈ rows, x.length = 7) → rows[q]? = some r → j < 7 → rows.flatten[q * 7 + j]? = r[j]?
  | [], _, _, _, _, h, _ => by simp at h
  | x :: rows, 0, j, r, hx, h, hj => by
    simp at h
    subst h
    rw [List.flatten_cons, List.getElem?_append_left (by rw [hx x (List.mem_cons_self ..)]; omega), Nat.zero_mul, Nat.zero_add]
  | x :: rows, q + 1, j, r, hx, h, hj => by
    have hx7 := hx x (List.mem_cons_self ..)
    rw [List.flatten_cons, List.getElem?_append_right (by rw [hx7]; omega), show (q + 1) * 7 + j - x.length = q * 7 + j by rw [hx7]; omega]
    exact flat7_at rows q j r (fun y hy => hx y (List.mem_cons_of_mem _ hy)) (by simpa using h) hj
theorem flat7_len : ∀ rows : List (List Value), (∀ x ∈ rows, x.length = 7) → rows.flatten.length = rows.length * 7
  | [], _ => rfl
  | x :: r, h => by rw [List.flatten_cons, List.length_append, h x (List.mem_cons_self ..), flat7_len r (fun y hy => h y (List.mem_cons_of_mem _ hy)), List.length_cons]; omega
theorem src_ops {w : World} {v : Value} {rows : List (List Value)} (h : RowAt 7 w v rows) (h7 : ∀ x ∈ rows, x.length = 7) : SrcAt w v rows.length 7 rows.flatten := by
  obtain ⟨ad, c, rfl, h0, _, h⟩ := h
  cases ad with
  | none =>
    obtain rfl := h0 rfl
    rcases h with h | ⟨b, o, he, _⟩
    · subst h
      exact .inl ⟨rfl, rfl, rfl⟩
    · cases he
  | some a =>
    refine .inr ⟨a, c, rfl, flat7_len rows h7, fun j u hj => ?_⟩
    rcases h with h | ⟨b, o, he, h⟩
    · subst h
      simp at hj
    · obtain rfl := Option.some.inj he
      have hjl : j < rows.length * 7 := by have := (List.getElem?_eq_some_iff.1 hj).1; rw [flat7_len rows h7] at this; exact this
      have hq : j / 7 < rows.length := by omega
      have hr : j % 7 < 7 := by omega
      have hd : rows[j / 7]? = some rows[j / 7] := List.getElem?_eq_getElem hq
      have e := flat7_at rows (j / 7) (j % 7) _ h7 hd hr
      rw [show j / 7 * 7 + j % 7 = j by omega, hj] at e
      have := (h (j / 7) _ hd).2 (j % 7) u e.symm
      rw [Addr.add_lit, ← this]
      congr 2
      omega
theorem rows7_one {w : World} : ∀ {rows : List (List Value)} {os : List OpV}, F2 (OpRow w) rows os → ∀ u ∈ rows.flatten, u.oneCell' = true
  | [], [], _, _, hr => by simp at hr
  | r :: _, _ :: _, ⟨⟨dv, h1, hd⟩, h2⟩, u, hu => by
    rw [List.flatten_cons, List.mem_append] at hu
    rcases hu with hu | hu
    · subst h1
      obtain ⟨a, c, rfl⟩ := hd.len
      exact one7S _ _ _ _ u hu
    · exact rows7_one h2 u hu
end Go.Proofs.YtefpnojanldkeaaDoor
namespace Go.Proofs.YtefpnojanldkeaaDoor
open Go.RowKit
set_option maxRecDepth 100000
set_option linter.unusedSectionVars false
variable [Inhabited ComV] [DecidableEq D3] [Inhabited D3] [Inhabited Dn] [Inhabited OpV]

/-- One cell of one row turned. -/
theorem flat_set (A B : List (List Value)) (x : List Value) (u : Value) (hA : ∀ y ∈ A, y.length = 7) (hx : x.length = 7) : ((A ++ x :: B).flatten).set (A.length * 7 + 6) u = (A ++ x.set 6 u :: B).flatten := by
  have h1 := flat7_len A hA
  rw [List.flatten_append, List.flatten_append, List.flatten_cons, List.flatten_cons, List.set_append_right _ _ (by omega), List.set_append_left _ _ (by omega), show A.length * 7 + 6 - A.flatten.length = 6 by omega]
/-- k ops have dots of their own. -/
structure CpI (w : World) (p : Int) (ws : List Int) (os : List OpV) (n1 n2 : Nat) (a1 : Option Addr) (c1 : Nat) (a2 : Option Addr) (c2 : Nat) (k : Nat) (wr : World) : Prop where
  below : Below w.heap.size w wr
  box : wr.heap[w.heap.size]? = some (.cells #[.slice a1 n1 c1, .int .i64 p, .slice a2 n2 c2] 37 (0, 0))
  res : wr.heap[w.heap.size + 1]? = some (.cells #[.slice none 0 0, .int .i64 0, .slice none 0 0] 37 (0, 0))
  when_ : wr.ownsRow (w.heap.size + 2) 3 1 (.slice a1 n1 c1) n1 (ws.map (Value.int .i64))
  ops : ∃ A B, wr.ownsRow (w.heap.size + 2) 43 7 (.slice a2 n2 c2) n2 (A ++ B).flatten ∧ F2 (OpOwn (w.heap.size + 2) wr) A (os.take k) ∧ F2 (OpRow w) B (os.drop k)
theorem drop_cons {α : Type} {l : List α} {k : Nat} {x : α} (h : l[k]? = some x) : l.drop k = x :: l.drop (k + 1) := by
  obtain ⟨h1, h2⟩ := List.getElem?_eq_some_iff.1 h
  rw [List.drop_eq_getElem_cons h1, h2]
/-- The next op: where it lies, its dots. -/
theorem CpI.next {w wr : World} {p : Int} {ws : List Int} {os : List OpV} {n1 n2 : Nat} {a1 a2 : Option Addr} {c1 c2 k : Nat} (h : CpI w p ws os n1 n2 a1 c1 a2 c2 k wr) {o : OpV} (ho : os[k]? = some o) :
    ∃ b dp dc, a2 = some ⟨b, 0, none⟩ ∧ wr.cell? ⟨b, k * 7 + 6, none⟩ = some (.slice dp o.dots.length dc) ∧ (∀ u : World, u.heap[b]? = wr.heap[b]? → u.cell? ⟨b, k * 7 + 6, none⟩ = some (.slice dp o.dots.length dc) ∧ u.frozen? ⟨b, k * 7 + 6, none⟩ = false) ∧ DotsAt w (.slice dp o.dots.length dc) o.dots ∧ w.heap.size + 2 ≤ b ∧ b < wr.heap.size ∧
      ∀ (w1 : World) (a5 : Option Addr) (c5 : Nat), Below wr.heap.size wr w1 → w1.ownsRow wr.heap.size 96 3 (.slice a5 o.dots.length c5) o.dots.length (o.dots.flatMap D3.cells) → CpI w p ws os n1 n2 a1 c1 a2 c2 (k + 1) (w1.setCell ⟨b, k * 7 + 6, none⟩ (.slice a5 o.dots.length c5)) := by
  obtain ⟨A, B, hr, hA, hB⟩ := h.ops
  have hkl : k < os.length := (List.getElem?_eq_some_iff.1 ho).1
  rw [drop_cons ho] at hB
  match B, hB with
  | r :: B, ⟨⟨dv, hrc, hd⟩, hB⟩ =>
    obtain ⟨dp, dc, rfl⟩ := hd.len
    have hAl : A.length = k := by rw [f2_len hA, List.length_take]; omega
    have hBl : B.length = os.length - (k + 1) := by rw [f2_len hB, List.length_drop]
    have hA7 : ∀ y ∈ A, y.length = 7 := rows7 (f2_opRow hA)
    have hB7 : ∀ y ∈ B, y.length = 7 := rows7 hB
    have hr7 : r.length = 7 := by rw [hrc]; rfl
    have hall : ∀ y ∈ A ++ r :: B, y.length = 7 := fun y hy => by
      rcases List.mem_append.1 hy with hy | hy
      · exact hA7 y hy
      · rcases List.mem_cons.1 hy with rfl | hy
        · exact hr7
        · exact hB7 y hy
    have hlen := hr.1
    rw [flat7_len _ hall, List.length_append, List.length_cons, hAl, hBl] at hlen
    have hn2 : n2 = os.length := by omega
    rcases hr.2 with ⟨h1, h0⟩ | ⟨b, cap, cur, hv, hgb, hh, _⟩
    · omega
    · injection hv with hv _ _
      subst hv
      have hblt : b < wr.heap.size := lt_of_heap hh
      have hcell : wr.cell? ⟨b, k * 7 + 6, none⟩ = some (.slice dp o.dots.length dc) := by
        rw [hr.cellAt (k * 7 + 6) (by omega), flat7_at _ k 6 r hall (by rw [List.getElem?_append_right (by omega), hAl, Nat.sub_self]; rfl) (by omega), hrc]
        rfl
      refine ⟨b, dp, dc, rfl, hcell, fun u hu => ⟨?_, ?_⟩, hd, hgb, hblt, fun w1 a5 c5 hb1 hd5 => ?_⟩
      · rw [World.cell?_of_block (w := wr) hu]; exact hcell
      · rw [free_of (hu.trans hh)]
      · have hbk := hb1.block
        have hr1 := owns_at hr fun g _ h2 => hbk g h2
        have hh1 : w1.heap[b]? = _ := (hbk b hblt).trans hh
        have hst := (hr1.stored (k * 7 + 6) (.slice a5 o.dots.length c5)).1
        rw [show k * 7 + 6 = A.length * 7 + 6 by rw [hAl], flat_set A B r _ hA7 hr7] at hst
        rw [hAl] at hst
        have ne : ∀ (t : TypeId) (q : Nat) (cs : Array Value), t ≠ 43 → w1.heap[q]? = some (.cells cs t (0, 0)) → (w1.setCell ⟨b, k * 7 + 6, none⟩ (.slice a5 o.dots.length c5)).heap[q]? = w1.heap[q]? := fun t q cs ht hq => Below.heap_setCell _ _ _ _ fun e => by
          have e' : q = b := e
          rw [e', hh1] at hq
          injection hq with hq
          injection hq with _ hq
          exact ht hq.symm
        have low : ∀ q, q < w.heap.size + 2 → (w1.setCell ⟨b, k * 7 + 6, none⟩ (.slice a5 o.dots.length c5)).heap[q]? = wr.heap[q]? := fun q hq => by
          rw [Below.heap_setCell _ _ _ _ (by show q ≠ b; omega)]
          exact hbk q (by omega)
        refine ⟨⟨hb1.os.trans h.below.os, hb1.tape.trans h.below.tape, hb1.output.trans h.below.output, ?_, fun q hq => (low q (by omega)).trans (h.below.block q hq)⟩, (low _ (by omega)).trans h.box, (low _ (by omega)).trans h.res, ?_, A ++ [opCells o (.slice a5 o.dots.length c5)], B, ?_, ?_, hB⟩
        · have h1 := hb1.size
          have h2 := h.below.size
          rw [show (w1.setCell ⟨b, k * 7 + 6, none⟩ (.slice a5 o.dots.length c5)).heap.size = w1.heap.size by simp]
          omega
        · exact owns_below (owns_at h.when_ fun g _ h2 => hbk g h2) fun q cs hq => ne 3 q cs (by decide) hq
        · rw [List.append_assoc]
          have e : r.set 6 (.slice a5 o.dots.length c5) = opCells o (.slice a5 o.dots.length c5) := by rw [hrc]; rfl
          rw [← e]
          exact hst
        · rw [List.take_succ_eq_append_getElem hkl, (List.getElem?_eq_some_iff.1 ho).2]
          refine f2_append (f2_mono (fun _ _ q => (q.at fun g _ h2 => hbk g h2).kept fun b' cs hc => ne 96 b' cs (by decide) hc) hA) ⟨_, rfl, ?_⟩
          exact owns_below (owns_baseS hd5 (by have := hb1.size; omega)) fun q cs hq => ne 96 q cs (by decide) hq
end Go.Proofs.YtefpnojanldkeaaDoor
