/- Put's mathematics: what a commit adds to a store; what turns; Put's step: a part goes to its key's row: what append leaves, and the map behind it; Put: one op more is put. -/
import Derived.Test.YtefpnojanldkeaaGreatDoorJWState
import Derived.Test.YtefpnojanldkeaaGreatDoorJVMap
import Derived.Test.YtefpnojanldkeaaGreatDoorJWPart
import Derived.Test.YtefpnojanldkeaaGreatDoorJVOp
import Derived.Test.YtefpnojanldkeaaGreatDoorJVRefN
import Derived.Test.YtefpnojanldkeaaGreatDoorJVStandM
import Derived.Test.YtefpnojanldkeaaGreatDoorJVVec
import Derived.Test.YtefpnojanldkeaaGreatDoorJVOnceM
import Derived.Test.YtefpnojanldkeaaGreatDoorJVOwnM
import Derived.Deep.RegionHeldLaw
import Derived.Test.YtefpnojanldkeaaGreatDoorJVOf
namespace Go.Proofs.YtefpnojanldkeaaGreatDoor
open Go.RowKit Go.Sort Go.Maps
set_option maxRecDepth 100000
set_option linter.unusedSectionVars false
variable [Inhabited ComV] [DecidableEq D3] [Inhabited D3] [Inhabited Dd] [Inhabited Dn] [Inhabited OpV]

def partC (c : ComV) (o : OpV) : ComV := ⟨c.when_, c.place, [o]⟩
def dotC (c : ComV) (o : OpV) : D3 := ⟨c.place, c.when_.getD c.place.toNat 0, o.at_⟩
/-- The first j ops of a commit are put. -/
def putTo (s : St) (c : ComV) (j : Nat) : St := ⟨s.base, s.parts ++ (c.ops.take j).map (partC c), s.dots ++ (c.ops.take j).map (dotC c)⟩
theorem putTo_zero (s : St) (c : ComV) : putTo s c 0 = s := by
  unfold putTo
  simp
theorem putTo_succ (s : St) (c : ComV) {j : Nat} (h : j < c.ops.length) : putTo s c (j + 1) = ⟨s.base, (putTo s c j).parts ++ [partC c c.ops[j]!], (putTo s c j).dots ++ [dotC c c.ops[j]!]⟩ := by
  unfold putTo
  rw [List.take_succ_eq_append_getElem h, getElem!_pos c.ops j h, List.map_append, List.map_append, ← List.append_assoc, ← List.append_assoc]
  rfl
/-- What else was there stands: all blocks but the store's maps and rows. -/
structure Turn (w w' : World) (mb db : Nat) (f f' : ByteArray → Value) : Prop where
  os : w'.os = w.os
  tape : w'.tape = w.tape
  output : w'.output = w.output
  size : w.heap.size ≤ w'.heap.size
  block : ∀ b, b < w.heap.size → b ≠ mb → b ≠ db → (∀ k, (f k).ownBlock ≠ some b) → w'.heap[b]? = w.heap[b]?
  fresh : ∀ k b, (f' k).ownBlock = some b → (∃ k', (f k').ownBlock = some b) ∨ w.heap.size ≤ b
theorem Turn.refl (w : World) (mb db : Nat) (f : ByteArray → Value) : Turn w w mb db f f := ⟨rfl, rfl, rfl, Nat.le_refl _, fun _ _ _ _ _ => rfl, fun k _ h => .inl ⟨k, h⟩⟩
theorem Turn.below {w w1 w2 : World} {mb db : Nat} {f f' : ByteArray → Value} (h : Turn w w1 mb db f f') (hb : Below w1.heap.size w1 w2) : Turn w w2 mb db f f' :=
  ⟨hb.os.trans h.os, hb.tape.trans h.tape, hb.output.trans h.output, Nat.le_trans h.size hb.size, fun b h1 h2 h3 h4 => (hb.block b (Nat.lt_of_lt_of_le h1 h.size)).trans (h.block b h1 h2 h3 h4), h.fresh⟩
theorem Turn.grown {w w1 w2 : World} {mb db : Nat} {f f' : ByteArray → Value} {r : Option Nat} (h : Turn w w1 mb db f f') (hg : w1.grownBy w2 r) (hr : ∀ b, b < w.heap.size → b ≠ mb → b ≠ db → (∀ k, (f k).ownBlock ≠ some b) → some b ≠ r) : Turn w w2 mb db f f' :=
  ⟨hg.os.trans h.os, hg.tape.trans h.tape, hg.output.trans h.output, Nat.le_trans h.size hg.size, fun b h1 h2 h3 h4 => (hg.block b (Nat.lt_of_lt_of_le h1 h.size) (hr b h1 h2 h3 h4)).trans (h.block b h1 h2 h3 h4), h.fresh⟩
theorem Turn.upd {w w1 : World} {mb db : Nat} {f f' : ByteArray → Value} {k0 : ByteArray} {v' : Value} {wx : World} (h : Turn w w1 mb db f f') (hloc : v'.ownBlock = (f' k0).ownBlock ∨ v'.ownBlock = some wx.heap.size) (hx : w.heap.size ≤ wx.heap.size) : Turn w w1 mb db f (updF f' k0 v') :=
  ⟨h.os, h.tape, h.output, h.size, h.block, fun k b hb => by
    unfold updF at hb
    split at hb
    · rcases hloc with e | e
      · rw [e] at hb; exact h.fresh k0 b hb
      · rw [e] at hb
        have := Option.some.inj hb
        exact .inr (by omega)
    · exact h.fresh k b hb⟩
theorem keyOf_str (k : ByteArray) (h : k.size ≤ 1000000) : keyOf Tryz.prog 9 (.string k) = some (klS k) := WideMaps.keyOf_string_mk (P := Tryz.prog) Tryz.underlying9 (by unfold maxLen; omega)
theorem Tryz.zero43 (w : World) : (zeroValue 116).run Tryz.prog w = .ok (.slice none 0 0) w := by kernel_rfl
theorem Tryz.zero111 (w : World) : (zeroValue 110).run Tryz.prog w = .ok (.agg #[]) w := by kernel_rfl
/-- Is a dot there? -/
theorem VerAt.look {w : World} {p mb db n : Nat} {f : ByteArray → Value} {s : St} (h : VerAt w p mb db f s n) (d : D3) (hd : wf3 d) : (Instr.lookup 107 (.map (some db)) (.agg #[.int .i64 d.p, .int .i64 d.t, .int .i64 d.a]) true).run Tryz.prog w = .ok (.tuple #[.agg #[], .bool (decide (d ∈ s.dots))]) w := by
  obtain ⟨D, h1, h2⟩ := h.dots
  obtain ⟨v, ps, hrun, hR⟩ := h1.look_ok keyed65 Tryz.underlying107 (Tryz.zero111 w) unitElem_mk (key_dot d hd)
  obtain ⟨rfl, _⟩ := unitElem_inv hR
  rw [hrun, h2 d hd]
/-- A key's row. -/
theorem VerAt.row {w : World} {p mb db n : Nat} {f : ByteArray → Value} {s : St} (h : VerAt w p mb db f s n) (k : ByteArray) (hk : k.size ≤ 1000000) : (Instr.lookup 106 (.map (some mb)) (.string k) false).run Tryz.prog w = .ok (f k) w := by
  obtain ⟨D, h1, h2⟩ := h.map
  obtain ⟨v, ps, hrun, hR⟩ := h1.lookup keyed9 Tryz.underlying106 (Tryz.zero43 w) (zd := .nil) (zp := []) rfl (keyOf_str k hk)
  obtain ⟨rows, hr, _⟩ := h.rows k
  have : v = f k := sliceElem_inj hR (sliceElem_row hr) (h2 k).2
  rw [hrun, this]
theorem VerAt.boxAt {w : World} {p mb db n : Nat} {f : ByteArray → Value} {s : St} (h : VerAt w p mb db f s n) : ∃ a c, w.cell? ⟨p, 0, none⟩ = some (.slice a s.base.length c) ∧ w.cell? ⟨p, 1, none⟩ = some (.map (some mb)) ∧ w.cell? ⟨p, 2, none⟩ = some (.map (some db)) ∧ IntsT w (.slice a s.base.length c) s.base ∧ w.heap[p]? = some (.cells #[.slice a s.base.length c, .map (some mb), .map (some db)] 109 (0, 0)) := by
  obtain ⟨bv, h1, h2⟩ := h.box
  obtain ⟨a, c, rfl⟩ := h2.at.slice
  refine ⟨a, c, ?_, ?_, ?_, h2, h1⟩ <;> (simp only [World.cell?, h1]; rfl)
theorem name_of_opErr {o : OpV} {n : Int} (h : opErr o n = 0) : o.key.size ≤ 16 := by
  unfold opErr at h
  split at h
  · exact absurd h (by decide)
  · split at h
    · exact absurd h (by decide)
    · rename_i _ hn
      have : nameB o.key = true := by simpa using hn
      unfold nameB at this
      simp only [Bool.and_eq_true, decide_eq_true_eq] at this
      exact this.2.1
theorem ints_cell {w : World} {b o n c : Nat} {zs : List Int} (h : IntsT w (.slice (some ⟨b, o, none⟩) n c) zs) {t : Nat} (ht : t < zs.length) : w.cell? ⟨b, o + t, none⟩ = some (.int .i64 (zs.getD t 0)) := by
  obtain ⟨ad, cap, he, _, hc⟩ := h.at
  injection he with e1 _ _
  rcases hc with hc | ⟨b', o', e2, hc⟩
  · rw [hc] at ht; simp at ht
  · rw [e2] at e1
    injection e1 with e1
    injection e1 with e3 e4 _
    subst e3 e4
    exact hc t ht
theorem cell_ne_map {w : World} {k b n : Nat} {R : Value → Option (DataW Unit × List MemPlace)} {D : DataW Unit} {a : Addr} {v : Value} (h : w.ownsMap Tryz.prog k R b n D) (hc : w.cell? a = some v) : a.block ≠ b := fun e => by
  obtain ⟨es, clock, hb⟩ := map_obj h
  rw [← e] at hb
  simp [World.cell?, hb] at hc
theorem rowAt_cells {k : Nat} {w w' : World} {v : Value} {rows : List (List Value)} (h : RowAt k w v rows) (hk : ∀ a u, w.cell? a = some u → w'.cell? a = some u) : RowAt k w' v rows := by
  obtain ⟨ad, cap, rfl, hn, hc, h⟩ := h
  refine ⟨ad, cap, rfl, hn, hc, ?_⟩
  rcases h with h | ⟨b, off, rfl, h⟩
  · exact .inl h
  · exact .inr ⟨b, off, rfl, fun j r hr => ⟨(h j r hr).1, fun i u hu => hk _ _ ((h j r hr).2 i u hu)⟩⟩
/-- What a store's first j ops have turned. -/
structure PutInv (s : St) (c : ComV) (p mb db n : Nat) (f : ByteArray → Value) (w : World) (j : Nat) (wr : World) (fj : ByteArray → Value) : Prop where
  ver : VerAt wr p mb db fj (putTo s c j) (n + 2 * j)
  turn : Turn w wr mb db f fj
  keep : Keep3 w wr
  off : ∀ k, (fj k).ownBlock ≠ some w.heap.size
  size : w.heap.size < wr.heap.size
theorem VerAt.few {w : World} {p mb db n : Nat} {f : ByteArray → Value} {s : St} (h : VerAt w p mb db f s n) (k : ByteArray) {b : Nat} (hb : (f k).ownBlock = some b) : b < w.heap.size := by
  obtain ⟨rows, h1, _⟩ := h.rows k
  exact (h1.lt b hb).2
theorem rowOf_putTo (s : St) (c : ComV) (j : Nat) (k : ByteArray) : (rowOf (putTo s c j) k).length ≤ (rowOf s k).length + j := by
  unfold rowOf putTo
  rw [List.filter_append, List.length_append]
  have := List.length_filter_le (fun c => decide (keyOfC c = k)) ((c.ops.take j).map (partC c))
  simp at this ⊢
  omega
end Go.Proofs.YtefpnojanldkeaaGreatDoor
namespace Go.Proofs.YtefpnojanldkeaaGreatDoor
open Go.RowKit Go.Sort Go.Maps
set_option maxRecDepth 100000
set_option linter.unusedSectionVars false
variable [Inhabited ComV] [DecidableEq D3] [Inhabited D3] [Inhabited Dd] [Inhabited Dn] [Inhabited OpV]

/-- append to a row of one's own, as one step of a region that draws. -/
theorem step_append_at {ops : Array Oper} {o : Oper} {a : Act} {w : World} {K : Act → World → Prop} {Q : Exit → Act → World → Prop} {E : Prop} (hgd : o.guard = none) (s x : Operand) (t : TypeId)
    (ho : o.op = .call { callee := .builtin .append, args := #[s, x], argTypes := #[t, t] })
    (base : Nat) (e : TypeId) (i : TypeInfo) (z : Value) (size bytes : Nat) (ht : Tryz.prog.underlying t = some (.slice e)) (hi : Tryz.prog.info? e = some i) (hz : i.zero = some z)
    (hsize : i.size = size) (hby : i.bytes = bytes) (hzs : z.cells.size = size) (hsz : 0 < size)
    (v : Value) (n : Nat) (xs : List Value) (hs : a.eval s = v) (hown : w.ownsRow base e size v n xs)
    (ad : Addr) (m c : Nat) (news : List Value) (hx : a.eval x = .slice (some ad) m c) (hl : news.length = m * size) (hnews : ∀ j u, news[j]? = some u → w.cell? (ad.add j) = some u) (h1 : ∀ u ∈ news, u.oneCell' = true)
    (h63 : n + m ≤ maxLen) (hbytes : (n + m) * bytes ≤ 140737488355328) (hbase : base ≤ w.heap.size)
    (h : ∀ v' w', w'.ownsRow base e size v' (n + m) (xs ++ news) → w.grownBy w' v.ownBlock → (v'.ownBlock = v.ownBlock ∨ v'.ownBlock = some w.heap.size) → K (a.put o.dst v') w') :
    if Region.wanted o (yielded ops a.tmps) = true then Oper.wp Tryz.prog o a w K Q else E := by
  have hw : Region.wanted o (yielded ops a.tmps) = true := by simp [Region.wanted, hgd]
  rw [if_pos hw]
  obtain ⟨v', w', hr, h2, h3, _, h5⟩ := run_append_own_at (P := Tryz.prog) w base t o.type e i z size bytes ht hi hz hsize hby hzs hsz v n xs hown ad m c news hl hnews h1 h63 hbytes hbase
  unfold Oper.wp execOp
  simp only [ho, resolve, invoke, builtin, Sem.run_bind, Sem.run_pure, Result.andThen_ok, List.map_toArray, List.map_cons, List.map_nil, hs, hx, hr]
  exact h v' w' h2 h3 h5
theorem cells3_new (w : World) (t : TypeId) (cs : List Value) : ∀ j u, cs[j]? = some u → (w.alloc (.cells cs.toArray t)).cell? ((⟨w.heap.size, 0, none⟩ : Addr).add j) = some u := fun j u hj => by
  rw [Addr.add_lit, Nat.zero_add, World.cell?_alloc_at _ _ _ _ rfl]
  simpa using hj
/-- What stands behind append and the map's update. -/
structure Stepped (w8 : World) (p mb db n : Nat) (f : ByteArray → Value) (s : St) (c : ComV) (fv v9 : Value) (w9 w10 : World) : Prop where
  ver : VerAt w10 p mb db (updF f (keyOfC c) v9) ⟨s.base, s.parts ++ [c], s.dots⟩ (n + 1)
  grown : w9.grownBy w10 (some mb)
  keep : Keep3 w8 w10
  old9 : ∀ b, b < w8.heap.size → fv.ownBlock ≠ some b → w9.heap[b]? = w8.heap[b]?
  old10 : ∀ b, b < w8.heap.size → b ≠ mb → fv.ownBlock ≠ some b → w10.heap[b]? = w8.heap[b]?
theorem VerAt.step2 {w8 : World} {p mb db n : Nat} {f : ByteArray → Value} {s : St} (V8 : VerAt w8 p mb db f s n) (hn : n ≤ 4000000) (c : ComV) (r0 r1 r2 : Value) (hc : ComT w8 [r0, r1, r2] c) (hk : (keyOfC c).size ≤ 1000000) (fv : Value) (hfv : f (keyOfC c) = fv) (L : Nat) (hL : (rowOf s (keyOfC c)).length = L) :
    ∃ rs, w8.ownsRow 0 36 3 fv L rs ∧ ∀ v9 w9, w9.ownsRow 0 36 3 v9 (L + 1) (rs ++ [r0, r1, r2]) → w8.grownBy w9 fv.ownBlock → (v9.ownBlock = fv.ownBlock ∨ v9.ownBlock = some w8.heap.size) →
      ∃ w10, (Instr.mapUpdate 106 (.map (some mb)) (.string (keyOfC c)) v9).run Tryz.prog w9 = .ok () w10 ∧ Stepped w8 p mb db n f s c fv v9 w9 w10 := by
  subst hfv
  subst hL
  obtain ⟨rows, hrow, hF⟩ := V8.rows (keyOfC c)
  refine ⟨rows.flatten, hrow, fun v9 w9 hown9 hg9 hloc9 => ?_⟩
  obtain ⟨D8, hD8, hs8⟩ := V8.map
  have hD9 : w9.ownsMap Tryz.prog 9 sliceElem mb n D8 := hD8.kept hg9 (fun e => by
    obtain ⟨cs, hcs⟩ := own_type hrow e.symm
    exact cells_ne_map hD8 hcs rfl)
  obtain ⟨w10, hrun10, hm10, hg10⟩ := hD9.update keyed9 Tryz.underlying106 (show n < maxLen from (by unfold maxLen; omega)) (keyOf_str _ hk) (sliceElem_row hown9)
  have h9 : ∀ b, b < w8.heap.size → (f (keyOfC c)).ownBlock ≠ some b → w9.heap[b]? = w8.heap[b]? := fun b hb hv => hg9.block b hb (fun e => hv e.symm)
  exact ⟨w10, hrun10, ⟨V8.addPart hD8 hs8 hrow hF hc hg9 hown9 hloc9 hg10 hm10, hg10, (Keep3.grown hrow hg9).trans (keep3_map hD9 hg10), h9, fun b hb hm hv => (hg10.block b (Nat.lt_of_lt_of_le hb hg9.size) (fun e => hm (Option.some.inj e))).trans (h9 b hb hv)⟩⟩
end Go.Proofs.YtefpnojanldkeaaGreatDoor
namespace Go.Proofs.YtefpnojanldkeaaGreatDoor
open Go.RowKit Go.Sort Go.Maps
set_option maxRecDepth 100000
set_option linter.unusedSectionVars false
variable [Inhabited ComV] [DecidableEq D3] [Inhabited D3] [Inhabited Dd] [Inhabited Dn] [Inhabited OpV]

theorem below_undrew {B : Nat} {w w' : World} (h : Below B w.drew w') : Below B w w' := ⟨h.os, h.tape, h.output, h.size, h.block⟩
theorem PutInv.next {s : St} {c : ComV} {p mb db n : Nat} {f : ByteArray → Value} {w : World} {t : Nat} {wr : World} {ft : ByteArray → Value} (TI : PutInv s c p mb db n f w t wr ft) {w5 w6 w8 w9 w10 : World} {x2 : ByteArray} {fv v9 : Value} {S' : St} {C' : ComV} {n5 : Nat} {D5 : DataW Unit} {R : Value → Option (DataW Unit × List MemPlace)} {kt : Nat}
    (hb5 : Below wr.heap.size wr w5) (hD5 : w5.ownsMap Tryz.prog kt R db n5 D5) (hg6 : w5.grownBy w6 (some db)) (hb68 : Below w6.heap.size w6 w8) (hfv : fv = ft x2) (hg9 : w8.grownBy w9 fv.ownBlock) (hat : v9.ownBlock = fv.ownBlock ∨ v9.ownBlock = some w8.heap.size)
    (hst : Stepped w8 p mb db (n + 2 * t + 1) ft S' C' fv v9 w9 w10) (hkey : keyOfC C' = x2) (hS : (⟨S'.base, S'.parts ++ [C'], S'.dots⟩ : St) = putTo s c (t + 1)) : PutInv s c p mb db n f w (t + 1) w10 (updF ft x2 v9) := by
  subst hkey
  have h1 := hb5.size
  have h2 := hg6.size
  have h3 := hb68.size
  have h4 := hg9.size
  have h5 := hst.grown.size
  have h6 := TI.size
  refine ⟨?_, ?_, (((TI.keep.trans (Keep3.of_below hb5 (Nat.le_refl _))).trans (keep3_map hD5 hg6)).trans (Keep3.of_below hb68 (Nat.le_refl _))).trans hst.keep, fun k e => ?_, by omega⟩
  · have hv := hst.ver
    rw [hS, show n + 2 * t + 1 + 1 = n + 2 * (t + 1) by omega] at hv
    exact hv
  · have T5 := TI.turn.below hb5
    have T6 := T5.grown hg6 (fun b _ _ h3 _ e => h3 (Option.some.inj e))
    have T8 := T6.below hb68
    have T9 := T8.grown hg9 (fun b k1 _ _ k4 e => by
      rcases TI.turn.fresh (keyOfC C') b (by rw [← hfv]; exact e.symm) with ⟨k', hk⟩ | hge
      · exact k4 k' hk
      · omega)
    have T10 := T9.grown hst.grown (fun b _ h2 _ _ e => h2 (Option.some.inj e))
    exact T10.upd (wx := w8) (by rw [← hfv]; exact hat) (by omega)
  · unfold updF at e
    split at e
    · rcases hat with h | h
      · rw [h, hfv] at e
        exact TI.off _ e
      · rw [h] at e
        have := Option.some.inj e
        omega
    · exact TI.off k e
end Go.Proofs.YtefpnojanldkeaaGreatDoor
