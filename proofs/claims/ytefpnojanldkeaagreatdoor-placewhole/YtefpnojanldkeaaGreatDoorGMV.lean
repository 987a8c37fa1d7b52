/- PlaceWhole: its ops' literal; the rows; Slices of strings and of ints as they come in. -/
import Derived.Test.YtefpnojanldkeaaGreatDoorGMH
import Derived.Test.YtefpnojanldkeaaGreatDoorJWMath
import Derived.Test.YtefpnojanldkeaaGreatDoorJHF
import Derived.Laws.Tables
import Derived.Great.BuildSlice
import Derived.Test.YtefpnojanldkeaaGreatDoorJVOp
import Derived.Test.YtefpnojanldkeaaGreatDoorJSDel
import Derived.Test.YtefpnojanldkeaaGreatDoorJVVec
import Derived.Deep.Strs
import Derived.ProofKit
import Derived.LaidMore
import Derived.OpenShut
namespace Go.Proofs.YtefpnojanldkeaaGreatDoor
open Go.RowKit Go.Maps
set_option maxRecDepth 100000
set_option linter.unusedSectionVars false
variable [Inhabited ComV] [DecidableEq D3] [Inhabited D3] [Inhabited Dd] [Inhabited Dn] [Inhabited OpV]

def opC (o : OpV) : List Value := opCells o (.slice none 0 0)
def litC (key : ByteArray) : Array Value := #[.int .i64 0, .string key, .int .i64 2, .string ⟨#[]⟩, .int .i64 1, .bool false, .slice none 0 0]
theorem litC_op (key : ByteArray) : (litC key).toList = opC (cOp key) := rfl
theorem wpList_build_k (w : World) {ops : Array Oper} {rest : List Oper} {o : Oper} {a : Act} {Q : Exit → Act → World → Prop} (hg : o.guard = none) (t : TypeId) (parts : Array (Nat × Operand)) (hop : o.op = .build t parts) (cells : Array Value) (vs : List (Nat × Value)) (hv : (parts.map fun (i, x) => (i, a.eval x)).toList = vs) (hc : Tryz.prog.built t vs = some cells)
    (hK : wpList Tryz.prog ops Q rest (a.put o.dst (.agg cells)) w) : wpList Tryz.prog ops Q (o :: rest) a w := by
  subst hv
  refine wpList_plain hg fun K' hK' => ?_
  refine wp_build t parts hop (by rw [hc]; rfl) ?_
  rw [hc]
  exact hK' _ _ hK
theorem builtC (key : ByteArray) : Tryz.prog.built 34 [(1, .string key), (2, .int .i64 2), (4, .int .i64 1)] = some (litC key) := by kernel_rfl
theorem builtCS (key : ByteArray) (W : World) : (Instr.buildSlice 30 1 #[(0, .agg (litC key))]).run Tryz.prog W = .ok (.slice (some ⟨W.heap.size, 0, none⟩) 1 1) (W.alloc (.cells (litC key) 34)) := by kernel_rfl
theorem put_eval (a : Act) (k : Nat) (v : Value) (h : k < a.tmps.size) : (a.put (some k) v).eval (.tmp k) = v := by simp [Act.put, Act.eval, h]
theorem put_other (a : Act) (k j : Nat) (v : Value) (h : j ≠ k) : (a.put (some k) v).eval (.tmp j) = a.eval (.tmp j) := by simp [Act.put, Act.eval, Ne.symm h]
/-- The literal of one op, in a row of its own. -/
theorem wpList_litC (w : World) {ops : Array Oper} {rest : List Oper} {o1 o2 : Oper} {a : Act} {Q : Exit → Act → World → Prop} (s k1 k2 : Nat) (hs : k1 < a.tmps.size) (g1 : o1.guard = none) (g2 : o2.guard = none) (d1 : o1.dst = some k1) (d2 : o2.dst = some k2)
    (h1 : o1.op = .build 34 #[(1, .tmp s), (2, .const (.int .i64 2)), (4, .const (.int .i64 1))]) (h2 : o2.op = .buildSlice 30 1 #[(0, .tmp k1)]) (key : ByteArray) (hv : a.eval (.tmp s) = .string key)
    (hK : wpList Tryz.prog ops Q rest ((a.put (some k1) (.agg (litC key))).put (some k2) (.slice (some ⟨w.heap.size, 0, none⟩) 1 1)) (w.alloc (.cells (litC key) 34))) :
    wpList Tryz.prog ops Q (o1 :: o2 :: rest) a w := by
  refine wpList_build_k w g1 34 _ h1 _ [(1, .string key), (2, .int .i64 2), (4, .int .i64 1)] ?_ (builtC key) ?_
  · simp only [List.map_toArray, List.map_cons, List.map_nil]
    rw [hv]
    rfl
  rw [d1]
  have e1 := put_eval a k1 (.agg (litC key)) hs
  refine wpList_plain g2 fun K' hK' => ?_
  unfold Oper.wp
  simp only [execOp, h2, List.map_toArray, List.map_cons, List.map_nil, e1, Sem.run_bind, builtCS, Result.andThen_ok]
  refine hK' _ _ ?_
  rw [d2]
  exact hK
theorem src_litC {W : World} {m : Nat} {key : ByteArray} (h : W.heap[m]? = some (.cells (litC key) 34 (0, 0))) : SrcAt W (.slice (some ⟨m, 0, none⟩) 1 1) 1 7 (opC (cOp key)) := by
  refine .inr ⟨⟨m, 0, none⟩, 1, rfl, rfl, fun j u hu => ?_⟩
  rw [Go.WideShapes.add_plain, Nat.zero_add, cell_of h, ← hu, ← litC_op]
  simp
theorem one_litC (key : ByteArray) : ∀ u ∈ opC (cOp key), u.oneCell' = true := fun u hu => by
  simp only [opC, opCells, List.mem_cons, List.not_mem_nil, or_false] at hu
  rcases hu with rfl | rfl | rfl | rfl | rfl | rfl | rfl <;> rfl
theorem f2_ops (w : World) : ∀ l : List ByteArray, F2 (OpOwn 0 w) ((cOps l).map opC) (cOps l)
  | [] => trivial
  | _ :: l => ⟨⟨.slice none 0 0, rfl, World.ownsRow_nil _ _ _ _⟩, f2_ops w l⟩
/-- A row of ops, each one more at a key. -/
theorem ops_own {w : World} {base m : Nat} {v : Value} {l : List ByteArray} (hm : m = l.length) (h : w.ownsRow base 34 7 v m ((cOps l).map opC).flatten) : OpsAt w v (cOps l) := by
  have hl : (cOps l).length = m := by simp [cOps, hm]
  have : ComOwn 0 w (.slice none 0 0) v ⟨[], 0, cOps l⟩ := ⟨World.ownsRow_nil _ _ _ _, _, by show w.ownsRow 0 34 7 v (cOps l).length _; rw [hl]; exact owns_base h (Nat.zero_le _), f2_ops w l⟩
  exact this.opsAt
theorem new_w0 (W : World) (k : Nat) (k1 : 1 ≤ k) (k6 : k ≤ 6) : Calls Tryz.prog 7 #[.int .i64 0, .int .i64 2, .int .i64 k] W fun e w' => ∃ h : PlH, e = .returned (.tuple #[.pointer (some ⟨h.pb, 0, none⟩), .nilIface]) ∧ PlAt w' h (pv0 0 2 k) ∧ (∀ b, h.foot (pv0 0 2 k) b → W.heap.size ≤ b) ∧ Below W.heap.size W w' ∧ h.nn = 0 ∧ ∀ j s, (pv0 0 2 k).line j s → (h.X j s).n = 0 :=
  new_any W 0 2 k (by decide) (by decide) k1 k6
theorem new_w1 (W : World) (k : Nat) (k1 : 1 ≤ k) (k6 : k ≤ 6) : Calls Tryz.prog 7 #[.int .i64 1, .int .i64 2, .int .i64 k] W fun e w' => ∃ h : PlH, e = .returned (.tuple #[.pointer (some ⟨h.pb, 0, none⟩), .nilIface]) ∧ PlAt w' h (pv0 1 2 k) ∧ (∀ b, h.foot (pv0 1 2 k) b → W.heap.size ≤ b) ∧ Below W.heap.size W w' ∧ h.nn = 0 ∧ ∀ j s, (pv0 1 2 k).line j s → (h.X j s).n = 0 :=
  new_any W 1 2 k (by decide) (by decide) k1 k6
/-- The row of ops while it grows. -/
structure OpsI (w3 : World) (ks : List ByteArray) (m : Nat) (ov : Value) (W : World) : Prop where
  bel : Below w3.heap.size w3 W
  row : W.ownsRow w3.heap.size 34 7 ov m ((cOps (ks.take m)).map opC).flatten
  nm : ∀ key ∈ ks.take m, nameB key = true
theorem OpsI.zero (w3 : World) (ks : List ByteArray) : OpsI w3 ks 0 (.slice none 0 0) w3 := ⟨Below.refl _ _, World.ownsRow_nil _ _ _ _, fun key h => by simp at h⟩
theorem OpsI.next {w3 W W3 : World} {ks : List ByteArray} {m : Nat} {ov v3 : Value} (I : OpsI w3 ks m ov W) {ky : ByteArray} (hk : ks[m]? = some ky) (hn : nameB ky = true) {o : Obj} (hg : (W.alloc o).grownBy W3 ov.ownBlock) (hrow : W3.ownsRow w3.heap.size 34 7 v3 (m + 1) (((cOps (ks.take m)).map opC).flatten ++ opC (cOp ky))) : OpsI w3 ks (m + 1) v3 W3 := by
  have e : ks.take (m + 1) = ks.take m ++ [ky] := by rw [List.take_add_one, hk]; rfl
  have hsz := I.bel.size
  refine ⟨((I.bel.alloc hsz o).grown hg (by simp; omega) fun q hq => (I.row.lt q hq).1), ?_, fun key hkey => ?_⟩
  · rw [e]
    have : ((cOps (ks.take m ++ [ky])).map opC).flatten = ((cOps (ks.take m)).map opC).flatten ++ opC (cOp ky) := by simp [cOps]
    rw [this]
    exact hrow
  · rw [e] at hkey
    rcases List.mem_append.1 hkey with h | h
    · exact I.nm key h
    · obtain rfl := List.mem_singleton.1 h
      exact hn
theorem builtZ2 (W : World) : (Instr.buildSlice 23 2 #[(0, .int .i64 0), (1, .int .i64 0)]).run Tryz.prog W = .ok (.slice (some ⟨W.heap.size, 0, none⟩) 2 2) (W.alloc (.cells #[.int .i64 0, .int .i64 0] 3)) := by kernel_rfl
theorem builtZ3 (W : World) : (Instr.buildSlice 23 3 #[(0, .int .i64 0), (1, .int .i64 0), (2, .int .i64 0)]).run Tryz.prog W = .ok (.slice (some ⟨W.heap.size, 0, none⟩) 3 3) (W.alloc (.cells #[.int .i64 0, .int .i64 0, .int .i64 0] 3)) := by kernel_rfl
theorem wpList_zero2 (w : World) {ops : Array Oper} {rest : List Oper} {o : Oper} {a : Act} {Q : Exit → Act → World → Prop} (g : o.guard = none) (h : o.op = .buildSlice 23 2 #[(0, .const (.int .i64 0)), (1, .const (.int .i64 0))])
    (hK : wpList Tryz.prog ops Q rest (a.put o.dst (.slice (some ⟨w.heap.size, 0, none⟩) 2 2)) (w.alloc (.cells #[.int .i64 0, .int .i64 0] 3))) : wpList Tryz.prog ops Q (o :: rest) a w := by
  refine wpList_plain g fun K' hK' => ?_
  unfold Oper.wp
  simp only [execOp, h, List.map_toArray, List.map_cons, List.map_nil, Act.eval, Sem.run_bind, builtZ2, Result.andThen_ok]
  exact hK' _ _ hK
theorem wpList_zero3 (w : World) {ops : Array Oper} {rest : List Oper} {o : Oper} {a : Act} {Q : Exit → Act → World → Prop} (g : o.guard = none) (h : o.op = .buildSlice 23 3 #[(0, .const (.int .i64 0)), (1, .const (.int .i64 0)), (2, .const (.int .i64 0))])
    (hK : wpList Tryz.prog ops Q rest (a.put o.dst (.slice (some ⟨w.heap.size, 0, none⟩) 3 3)) (w.alloc (.cells #[.int .i64 0, .int .i64 0, .int .i64 0] 3))) : wpList Tryz.prog ops Q (o :: rest) a w := by
  refine wpList_plain g fun K' hK' => ?_
  unfold Oper.wp
  simp only [execOp, h, List.map_toArray, List.map_cons, List.map_nil, Act.eval, Sem.run_bind, builtZ3, Result.andThen_ok]
  exact hK' _ _ hK
/-- own: a copy of numbers. -/
theorem own_copy (w : World) (ad : Option Addr) (n c : Nat) (zs : List Int) (hl : zs.length ≤ 1000000) (h : IntsAt w (.slice ad n c) zs) :
    Calls Tryz.prog 14 #[.slice ad n c] w fun e w' => ∃ a1 c1, e = .returned (.slice a1 n c1) ∧ IntsAt w' (.slice a1 n c1) zs ∧ Below w.heap.size w w' := by
  obtain ⟨i0, hi, hz0, hz1, hz2⟩ := info_parts Tryz.info3n
  have hn : n = zs.length := by obtain ⟨_, _, he, _⟩ := h; injection he
  have HS := hid (src_ints h)
  have hl' : n ≤ 1000000 := by omega
  have HN := hid hn
  rw [← hn] at HS
  clear h hn hl
  go_enter Tryz.func14, Tryz.ntmps14
  go_wp2_with (at_builtin; refine wpList_append_own_srcS rfl _ _ 23 rfl w.heap.size 3 i0 _ 1 8 Tryz.underlying23 hi hz0 hz1 hz2 rfl (by decide) _ _ _ rfl (World.ownsRow_nil _ _ _ _) _ n (zs.map (Value.int .i64)) rfl HS.out (ints_one _) ?hm2 ?hm3 ?hm4 ?_; (case hm2 => unfold maxLen; omega); (case hm3 => omega); (case hm4 => exact Nat.le_refl _); intro v3 w3 hown3 hgrow3 _)
  rw [Nat.zero_add, List.nil_append] at hown3
  obtain ⟨a3, c3, rfl⟩ := row_shape hown3
  have HT : Hid (IntsAt w3 (.slice a3 n c3) zs) := (show IntsAt _ _ _ from by
    have h := hown3
    rw [HN.out] at h ⊢
    exact (intsT_of_owns h).at)
  have HB : Hid (Below w.heap.size w w3) := (show Below _ _ _ from (Below.refl _ w).grown hgrow3 (Nat.le_refl _) (fun k hk => by cases hk))
  clear hown3 hgrow3
  go_wp2
  go_ret
  exact ⟨a3, c3, rfl, HT.out, HB.out⟩
end Go.Proofs.YtefpnojanldkeaaGreatDoor
namespace Go.Proofs.YtefpnojanldkeaaGreatDoor
open Go.ChangeShapes Go.WideShapes Go.ChangeAt Go.RowKit
set_option maxRecDepth 100000
set_option linter.unusedSectionVars false
variable [Inhabited ComV] [DecidableEq D3] [Inhabited D3] [Inhabited Dd] [Inhabited Dn] [Inhabited OpV]

theorem Tryz.laidOutP : laidOutB Tryz.prog = true := by kernel_rfl
theorem Tryz.cellsP3 : Tryz.prog.cellsOf 3 = 1 := by kernel_rfl
theorem Tryz.cellsP9 : Tryz.prog.cellsOf 9 = 1 := by kernel_rfl
theorem Tryz.readP22 : Tryz.prog.readableRec 22 = true := by kernel_rfl
theorem Tryz.ltP22 : 22 < Tryz.prog.types.size := of_decide_eq_true (by kernel_rfl)
theorem Tryz.readP23 : Tryz.prog.readableRec 23 = true := by kernel_rfl
theorem Tryz.ltP23 : 23 < Tryz.prog.types.size := of_decide_eq_true (by kernel_rfl)
/-- A slice of strings that came in. -/
def StrsIn (w : World) (v : Value) (ks : List ByteArray) : Prop := ∃ ad cap, v = .slice ad ks.length cap ∧ (ks = [] ∨ ∃ b off, ad = some ⟨b, off, none⟩ ∧ ∀ i, (hi : i < ks.length) → w.cell? ⟨b, off + i, none⟩ = some (.string ks[i]))
theorem strs_view {H : Type} {enc : TypeId × Value → H} {W : World} {base : Nat} {v : Value} {d : DataW H} {p : List MemPlace} (hv : Value.okWide Tryz.prog W .any base 22 v) (h : DataW.Trod enc Tryz.prog W 0 (fun _ => true) true 22 v d p) :
    ∃ ks, StrsIn W v ks := by
  obtain ⟨a0, len, cap, rfl⟩ := okWide_slice Tryz.underlying22 hv
  obtain ⟨fuel, hf⟩ := h
  rcases Go.Deep.open_strs Tryz.underlying22 Tryz.underlying9 Tryz.cellsP9 hf with ⟨hcs, hx⟩ | ⟨a, len', cap', m, Sx, hcs, _, hl, hm, hz, hx, hcell⟩
  · simp [Value.cells] at hcs
    obtain ⟨rfl, rfl, rfl⟩ := hcs
    exact ⟨[], none, 0, rfl, .inl rfl⟩
  · simp [Value.cells] at hcs
    obtain ⟨rfl, rfl, rfl⟩ := hcs
    simp only [if_true] at hz
    refine ⟨(List.range len).map Sx, some a, cap, by simp, ?_⟩
    by_cases h0 : len = 0
    · subst h0; exact .inl rfl
    · obtain ⟨b, off, spot⟩ := a
      have hspot : spot = none := by simpa [Addr.add] using World.cell?_spot (hcell 0 (by omega)).1
      subst hspot
      refine .inr ⟨b, off, rfl, fun i hi => ?_⟩
      have hi' : i < len := by simpa using hi
      have h1 := (hcell i (by omega)).1
      rw [Go.WideShapes.add_plain] at h1
      rw [h1]
      simp
theorem strs_stay {H : Type} {enc : TypeId × Value → H} {W W' : World} {v : Value} {d : DataW H} {p : List MemPlace} (h : DataW.Trod enc Tryz.prog W 0 (fun _ => true) true 22 v d p) (hb : Below W.heap.size W W') (hlt : ∀ x ∈ p, x.block < W.heap.size) :
    DataW.Trod enc Tryz.prog W' 0 (fun b => decide (b < W.heap.size)) true 22 v d p :=
  Below.trod Tryz.laidOutP Tryz.readP22 Tryz.ltP22 h hb hlt
/-- A slice of ints that came in. -/
theorem ints_view {H : Type} {enc : TypeId × Value → H} {W : World} {base : Nat} {v : Value} {d : DataW H} {p : List MemPlace} (hv : Value.okWide Tryz.prog W .any base 23 v) (h : DataW.Trod enc Tryz.prog W 0 (fun _ => true) true 23 v d p) :
    ∃ zs, IntsAt W v zs := by
  obtain ⟨a0, len, cap, rfl⟩ := okWide_slice Tryz.underlying23 hv
  obtain ⟨fuel, hf⟩ := h
  rcases open_ints Tryz.underlying23 Tryz.underlying3 Tryz.cellsP3 hf with ⟨hcs, hx⟩ | ⟨a, len', cap', zs, hcs, _, hl, hm, hz, hx, hcell, hwz⟩
  · simp [Value.cells] at hcs
    obtain ⟨rfl, rfl, rfl⟩ := hcs
    exact ⟨[], none, 0, rfl, (fun _ => rfl), .inl rfl⟩
  · simp [Value.cells] at hcs
    obtain ⟨rfl, rfl, rfl⟩ := hcs
    simp only [if_true] at hz
    have hlen : (zs.take len).length = len := by rw [List.length_take]; omega
    refine ⟨zs.take len, some a, cap, by rw [hlen], (fun h => by cases h), ?_⟩
    by_cases h0 : len = 0
    · subst h0; exact .inl rfl
    · obtain ⟨b, off, rfl, hc⟩ := ints_at hcell (by omega)
      refine .inr ⟨b, off, rfl, fun t ht => ?_⟩
      rw [hlen] at ht
      rw [hc t (by omega)]
      simp [List.getD_eq_getElem?_getD, ht]
theorem ints_stay {H : Type} {enc : TypeId × Value → H} {W W' : World} {v : Value} {d : DataW H} {p : List MemPlace} (h : DataW.Trod enc Tryz.prog W 0 (fun _ => true) true 23 v d p) (hb : Below W.heap.size W W') (hlt : ∀ x ∈ p, x.block < W.heap.size) :
    DataW.Trod enc Tryz.prog W' 0 (fun b => decide (b < W.heap.size)) true 23 v d p :=
  Below.trod Tryz.laidOutP Tryz.readP23 Tryz.ltP23 h hb hlt
end Go.Proofs.YtefpnojanldkeaaGreatDoor
