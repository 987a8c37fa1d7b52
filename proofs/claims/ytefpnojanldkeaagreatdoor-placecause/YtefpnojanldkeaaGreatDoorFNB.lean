/- PlaceWhole: its ops' literal; the rows; PlaceCause: a commit and a beat of a place among others; what is read of commits of one op each; PlaceCause: three places side by side. -/
import Derived.Test.YtefpnojanldkeaaGreatDoorFMH
import Derived.Test.YtefpnojanldkeaaGreatDoorJWMath
import Derived.Test.YtefpnojanldkeaaGreatDoorJHF
import Derived.Laws.Tables
import Derived.Great.BuildSlice
namespace Go.Proofs.YtefpnojanldkeaaGreatDoor
open Go.RowKit Go.Maps
set_option maxRecDepth 100000
set_option linter.unusedSectionVars false
variable [Inhabited ComV] [DecidableEq D3] [Inhabited D3] [Inhabited Dd] [Inhabited Dn] [Inhabited OpV]

def opC (o : OpV) : List Value := opCells o (.slice none 0 0)
def litC (key : ByteArray) : Array Value := #[.int .i64 0, .string key, .int .i64 2, .string ⟨#[]⟩, .int .i64 1, .bool false, .slice none 0 0]
theorem litC_op (key : ByteArray) : (litC key).toList = opC (cOp key) := rfl
theorem wpList_build_k (w : World) {ops : Array Oper} {rest : List Oper} {o : Oper} {a : Act} {Q : Exit → Act → World → Prop} (hg : o.guard = none) (t : TypeId) (parts : Array (Nat × Operand)) (hop : o.op = .build t parts) (cells : Array Value) (vs : List (Nat × Value)) (hv : (parts.map fun (i, x) => (i, a.eval x)).toList = vs) (hc : Tryz.prog.built t vs = some cells)
    (hK : wpList Tryz.prog ops Q rest (a.put o.dst (.agg cells)) w) : wpList Tryz.prog ops Q (o :: rest) a w := by
  subst hv
  refine wpList_plain hg fun K' hK' => ?_
  refine wp_build t parts hop (by rw [hc]; rfl) ?_
  rw [hc]
  exact hK' _ _ hK
theorem builtC (key : ByteArray) : Tryz.prog.built 34 [(1, .string key), (2, .int .i64 2), (4, .int .i64 1)] = some (litC key) := by kernel_rfl
theorem builtCS (key : ByteArray) (W : World) : (Instr.buildSlice 30 1 #[(0, .agg (litC key))]).run Tryz.prog W = .ok (.slice (some ⟨W.heap.size, 0, none⟩) 1 1) (W.alloc (.cells (litC key) 34)) := by kernel_rfl
theorem put_eval (a : Act) (k : Nat) (v : Value) (h : k < a.tmps.size) : (a.put (some k) v).eval (.tmp k) = v := by simp [Act.put, Act.eval, h]
theorem put_other (a : Act) (k j : Nat) (v : Value) (h : j ≠ k) : (a.put (some k) v).eval (.tmp j) = a.eval (.tmp j) := by simp [Act.put, Act.eval, Ne.symm h]
/-- The literal of one op, in a row of its own. -/
theorem wpList_litC (w : World) {ops : Array Oper} {rest : List Oper} {o1 o2 : Oper} {a : Act} {Q : Exit → Act → World → Prop} (s k1 k2 : Nat) (hs : k1 < a.tmps.size) (g1 : o1.guard = none) (g2 : o2.guard = none) (d1 : o1.dst = some k1) (d2 : o2.dst = some k2)
    (h1 : o1.op = .build 34 #[(1, .tmp s), (2, .const (.int .i64 2)), (4, .const (.int .i64 1))]) (h2 : o2.op = .buildSlice 30 1 #[(0, .tmp k1)]) (key : ByteArray) (hv : a.eval (.tmp s) = .string key)
    (hK : wpList Tryz.prog ops Q rest ((a.put (some k1) (.agg (litC key))).put (some k2) (.slice (some ⟨w.heap.size, 0, none⟩) 1 1)) (w.alloc (.cells (litC key) 34))) :
    wpList Tryz.prog ops Q (o1 :: o2 :: rest) a w := by
  refine wpList_build_k w g1 34 _ h1 _ [(1, .string key), (2, .int .i64 2), (4, .int .i64 1)] ?_ (builtC key) ?_
  · simp only [List.map_toArray, List.map_cons, List.map_nil]
    rw [hv]
    rfl
  rw [d1]
  have e1 := put_eval a k1 (.agg (litC key)) hs
  refine wpList_plain g2 fun K' hK' => ?_
  unfold Oper.wp
  simp only [execOp, h2, List.map_toArray, List.map_cons, List.map_nil, e1, Sem.run_bind, builtCS, Result.andThen_ok]
  refine hK' _ _ ?_
  rw [d2]
  exact hK
theorem src_litC {W : World} {m : Nat} {key : ByteArray} (h : W.heap[m]? = some (.cells (litC key) 34 (0, 0))) : SrcAt W (.slice (some ⟨m, 0, none⟩) 1 1) 1 7 (opC (cOp key)) := by
  refine .inr ⟨⟨m, 0, none⟩, 1, rfl, rfl, fun j u hu => ?_⟩
  rw [Go.WideShapes.add_plain, Nat.zero_add, cell_of h, ← hu, ← litC_op]
  simp
theorem one_litC (key : ByteArray) : ∀ u ∈ opC (cOp key), u.oneCell' = true := fun u hu => by
  simp only [opC, opCells, List.mem_cons, List.not_mem_nil, or_false] at hu
  rcases hu with rfl | rfl | rfl | rfl | rfl | rfl | rfl <;> rfl
theorem f2_ops (w : World) : ∀ l : List ByteArray, F2 (OpOwn 0 w) ((cOps l).map opC) (cOps l)
  | [] => trivial
  | _ :: l => ⟨⟨.slice none 0 0, rfl, World.ownsRow_nil _ _ _ _⟩, f2_ops w l⟩
/-- A row of ops, each one more at a key. -/
theorem ops_own {w : World} {base m : Nat} {v : Value} {l : List ByteArray} (hm : m = l.length) (h : w.ownsRow base 34 7 v m ((cOps l).map opC).flatten) : OpsAt w v (cOps l) := by
  have hl : (cOps l).length = m := by simp [cOps, hm]
  have : ComOwn 0 w (.slice none 0 0) v ⟨[], 0, cOps l⟩ := ⟨World.ownsRow_nil _ _ _ _, _, by show w.ownsRow 0 34 7 v (cOps l).length _; rw [hl]; exact owns_base h (Nat.zero_le _), f2_ops w l⟩
  exact this.opsAt
theorem new_w0 (W : World) (k : Nat) (k1 : 1 ≤ k) (k6 : k ≤ 6) : Calls Tryz.prog 7 #[.int .i64 0, .int .i64 2, .int .i64 k] W fun e w' => ∃ h : PlH, e = .returned (.tuple #[.pointer (some ⟨h.pb, 0, none⟩), .nilIface]) ∧ PlAt w' h (pv0 0 2 k) ∧ (∀ b, h.foot (pv0 0 2 k) b → W.heap.size ≤ b) ∧ Below W.heap.size W w' ∧ h.nn = 0 ∧ ∀ j s, (pv0 0 2 k).line j s → (h.X j s).n = 0 :=
  new_any W 0 2 k (by decide) (by decide) k1 k6
theorem new_w1 (W : World) (k : Nat) (k1 : 1 ≤ k) (k6 : k ≤ 6) : Calls Tryz.prog 7 #[.int .i64 1, .int .i64 2, .int .i64 k] W fun e w' => ∃ h : PlH, e = .returned (.tuple #[.pointer (some ⟨h.pb, 0, none⟩), .nilIface]) ∧ PlAt w' h (pv0 1 2 k) ∧ (∀ b, h.foot (pv0 1 2 k) b → W.heap.size ≤ b) ∧ Below W.heap.size W w' ∧ h.nn = 0 ∧ ∀ j s, (pv0 1 2 k).line j s → (h.X j s).n = 0 :=
  new_any W 1 2 k (by decide) (by decide) k1 k6
/-- The row of ops while it grows. -/
structure OpsI (w3 : World) (ks : List ByteArray) (m : Nat) (ov : Value) (W : World) : Prop where
  bel : Below w3.heap.size w3 W
  row : W.ownsRow w3.heap.size 34 7 ov m ((cOps (ks.take m)).map opC).flatten
  nm : ∀ key ∈ ks.take m, nameB key = true
theorem OpsI.zero (w3 : World) (ks : List ByteArray) : OpsI w3 ks 0 (.slice none 0 0) w3 := ⟨Below.refl _ _, World.ownsRow_nil _ _ _ _, fun key h => by simp at h⟩
theorem OpsI.next {w3 W W3 : World} {ks : List ByteArray} {m : Nat} {ov v3 : Value} (I : OpsI w3 ks m ov W) {ky : ByteArray} (hk : ks[m]? = some ky) (hn : nameB ky = true) {o : Obj} (hg : (W.alloc o).grownBy W3 ov.ownBlock) (hrow : W3.ownsRow w3.heap.size 34 7 v3 (m + 1) (((cOps (ks.take m)).map opC).flatten ++ opC (cOp ky))) : OpsI w3 ks (m + 1) v3 W3 := by
  have e : ks.take (m + 1) = ks.take m ++ [ky] := by rw [List.take_add_one, hk]; rfl
  have hsz := I.bel.size
  refine ⟨((I.bel.alloc hsz o).grown hg (by simp; omega) fun q hq => (I.row.lt q hq).1), ?_, fun key hkey => ?_⟩
  · rw [e]
    have : ((cOps (ks.take m ++ [ky])).map opC).flatten = ((cOps (ks.take m)).map opC).flatten ++ opC (cOp ky) := by simp [cOps]
    rw [this]
    exact hrow
  · rw [e] at hkey
    rcases List.mem_append.1 hkey with h | h
    · exact I.nm key h
    · obtain rfl := List.mem_singleton.1 h
      exact hn
theorem builtZ2 (W : World) : (Instr.buildSlice 23 2 #[(0, .int .i64 0), (1, .int .i64 0)]).run Tryz.prog W = .ok (.slice (some ⟨W.heap.size, 0, none⟩) 2 2) (W.alloc (.cells #[.int .i64 0, .int .i64 0] 3)) := by kernel_rfl
theorem builtZ3 (W : World) : (Instr.buildSlice 23 3 #[(0, .int .i64 0), (1, .int .i64 0), (2, .int .i64 0)]).run Tryz.prog W = .ok (.slice (some ⟨W.heap.size, 0, none⟩) 3 3) (W.alloc (.cells #[.int .i64 0, .int .i64 0, .int .i64 0] 3)) := by kernel_rfl
theorem wpList_zero2 (w : World) {ops : Array Oper} {rest : List Oper} {o : Oper} {a : Act} {Q : Exit → Act → World → Prop} (g : o.guard = none) (h : o.op = .buildSlice 23 2 #[(0, .const (.int .i64 0)), (1, .const (.int .i64 0))])
    (hK : wpList Tryz.prog ops Q rest (a.put o.dst (.slice (some ⟨w.heap.size, 0, none⟩) 2 2)) (w.alloc (.cells #[.int .i64 0, .int .i64 0] 3))) : wpList Tryz.prog ops Q (o :: rest) a w := by
  refine wpList_plain g fun K' hK' => ?_
  unfold Oper.wp
  simp only [execOp, h, List.map_toArray, List.map_cons, List.map_nil, Act.eval, Sem.run_bind, builtZ2, Result.andThen_ok]
  exact hK' _ _ hK
theorem wpList_zero3 (w : World) {ops : Array Oper} {rest : List Oper} {o : Oper} {a : Act} {Q : Exit → Act → World → Prop} (g : o.guard = none) (h : o.op = .buildSlice 23 3 #[(0, .const (.int .i64 0)), (1, .const (.int .i64 0)), (2, .const (.int .i64 0))])
    (hK : wpList Tryz.prog ops Q rest (a.put o.dst (.slice (some ⟨w.heap.size, 0, none⟩) 3 3)) (w.alloc (.cells #[.int .i64 0, .int .i64 0, .int .i64 0] 3))) : wpList Tryz.prog ops Q (o :: rest) a w := by
  refine wpList_plain g fun K' hK' => ?_
  unfold Oper.wp
  simp only [execOp, h, List.map_toArray, List.map_cons, List.map_nil, Act.eval, Sem.run_bind, builtZ3, Result.andThen_ok]
  exact hK' _ _ hK
/-- own: a copy of numbers. -/
theorem own_copy (w : World) (ad : Option Addr) (n c : Nat) (zs : List Int) (hl : zs.length ≤ 1000000) (h : IntsAt w (.slice ad n c) zs) :
    Calls Tryz.prog 14 #[.slice ad n c] w fun e w' => ∃ a1 c1, e = .returned (.slice a1 n c1) ∧ IntsAt w' (.slice a1 n c1) zs ∧ Below w.heap.size w w' := by
  obtain ⟨i0, hi, hz0, hz1, hz2⟩ := info_parts Tryz.info3n
  have hn : n = zs.length := by obtain ⟨_, _, he, _⟩ := h; injection he
  have HS := hid (src_ints h)
  have hl' : n ≤ 1000000 := by omega
  have HN := hid hn
  rw [← hn] at HS
  clear h hn hl
  go_enter Tryz.func14, Tryz.ntmps14
  go_wp2_with (at_builtin; refine wpList_append_own_srcS rfl _ _ 23 rfl w.heap.size 3 i0 _ 1 8 Tryz.underlying23 hi hz0 hz1 hz2 rfl (by decide) _ _ _ rfl (World.ownsRow_nil _ _ _ _) _ n (zs.map (Value.int .i64)) rfl HS.out (ints_one _) ?hm2 ?hm3 ?hm4 ?_; (case hm2 => unfold maxLen; omega); (case hm3 => omega); (case hm4 => exact Nat.le_refl _); intro v3 w3 hown3 hgrow3 _)
  rw [Nat.zero_add, List.nil_append] at hown3
  obtain ⟨a3, c3, rfl⟩ := row_shape hown3
  have HT : Hid (IntsAt w3 (.slice a3 n c3) zs) := (show IntsAt _ _ _ from by
    have h := hown3
    rw [HN.out] at h ⊢
    exact (intsT_of_owns h).at)
  have HB : Hid (Below w.heap.size w w3) := (show Below _ _ _ from (Below.refl _ w).grown hgrow3 (Nat.le_refl _) (fun k hk => by cases hk))
  clear hown3 hgrow3
  go_wp2
  go_ret
  exact ⟨a3, c3, rfl, HT.out, HB.out⟩
end Go.Proofs.YtefpnojanldkeaaGreatDoor
namespace Go.Proofs.YtefpnojanldkeaaGreatDoor
open Go.RowKit Go.Maps
set_option maxRecDepth 10000
set_option linter.unusedSectionVars false
variable [Inhabited ComV] [DecidableEq D3] [Inhabited D3] [Inhabited Dd] [Inhabited Dn] [Inhabited OpV]

/-- What a commit of counters hands back. -/
def CommitGen (n1 n2 : Nat) (w : World) (h : PlH) (v : PlV) (c : ComV) (e : Ending) (w' : World) : Prop :=
  ∃ (h' : PlH) (a3 a4 : Option Addr) (c3 c4 : Nat) (rv : Value) (rs : List Raw), e = .returned (.tuple #[.agg #[.slice a3 n1 c3, .int .i64 v.id, .slice a4 n2 c4], rv, .nilIface]) ∧ h'.pb = h.pb ∧ rs.length ≤ v.n * v.k ∧ PlAt w' h' (pv2 v c) ∧ PlMoves w w' h v h' (pv2 v c) ∧ w'.ownsRow w.heap.size 44 9 rv rs.length (raws rs) ∧ (∀ q, rv.ownBlock = some q → ¬ h'.foot (pv2 v c) q) ∧ F2 (RawOwn 0 w') rs (allMs (sendT (comV1 v c) c) v.id v.k v.n)
theorem commit_gen (A : Nat → Addr) {w0 W : World} {n id k : Nat} {C : Nat → ComV} {J : Nat → Prop} {i : Nat} {h : PlH} {v : PlV} {ks : List ByteArray} (hS : Sen A w0.heap.size W) (a : PlAt W h v) (la : ∀ q, h.foot v q → w0.heap.size ≤ q) (hI : RcI n id k C J i h v) (hi : i ≤ 70) (hC : ∀ j, J j → SrcOk n C j) (hks : ks ≠ []) (h12 : ks.length ≤ 12) (hn : ∀ key ∈ ks, nameB key = true) (a1 a2 : Option Addr) (n1 c1 n2 c2 : Nat) (hv : IntsAt W (.slice a1 n1 c1) (snapV v)) (hO : OpsAt W (.slice a2 n2 c2) (cOps ks)) :
    Calls Tryz.prog 9 #[.pointer (some ⟨h.pb, 0, none⟩), .slice a1 n1 c1, .slice a2 n2 c2] W (CommitGen n1 n2 W h v (comN (snapV v) v.id 1 (cOps ks))) := by
  obtain ⟨hT, _, hok, _⟩ := hI.tx a hi hC hks h12 hn
  refine (commit_any A w0.heap.size W hS hS.e4 h v a la hok a1 a2 n1 c1 n2 c2 (snapV v) (cOps ks) hv hO hT).mono ?_
  have ec : comN (snapV v) v.id (v.ck + 1) (cOps ks) = comN (snapV v) v.id 1 (cOps ks) := by rw [hI.ck]; rfl
  rw [ec]
  rintro e W' ⟨⟨h', a3, a4, c3, c4, rv, rs, he, hP, hM, hpb, _, hfr, hrow, hF, _⟩⟩
  refine ⟨h', a3, a4, c3, c4, rv, rs, he, hpb, ?_, hP, hM, hrow, hfr, hF⟩
  rw [f2_len hF]
  have h1 := allMs_len (tell := sendT (comV1 v (comN (snapV v) v.id 1 (cOps ks))) (comN (snapV v) v.id 1 (cOps ks))) (L := 1) (id := v.id) (k := v.k) (fun j s => by unfold sendT; split <;> simp) v.n
  rw [Nat.mul_one] at h1
  exact h1
def BeatGen (w : World) (h : PlH) (v : PlV) (c : ComV) (e : Ending) (w' : World) : Prop :=
  ∃ (h' : PlH) (v' : PlV) (rv : Value) (rs : List Raw), e = .returned rv ∧ h'.pb = h.pb ∧ rs.length ≤ v.n * v.k ∧ PlAt w' h' v' ∧ PlMoves w w' h (pv2 v c) h' v' ∧ w'.ownsRow w.heap.size 44 9 rv rs.length (raws rs) ∧ F2 (RawOwn 0 w') rs (allMs (beatT (pv2 v c)) (pv2 v c).id (pv2 v c).k (pv2 v c).n)
theorem beat_gen {W : World} {n id k : Nat} {C : Nat → ComV} {J : Nat → Prop} {i : Nat} {h0 h : PlH} {v : PlV} {c : ComV} (a : PlAt W h (pv2 v c)) (hI : RcI n id k C J i h0 v) (hok : PvOk v) (ht : timeC c = 1) :
    Calls Tryz.prog 10 #[.pointer (some ⟨h.pb, 0, none⟩)] W (BeatGen W h v c) := by
  refine (beat_any W h _ a (pvOk2 hok hI.sn hI.ck ht)).mono ?_
  rintro e W' ⟨h', rv, r2, he, hG, hrow, hF⟩
  refine ⟨h', _, rv, r2, he, hG.pb, ?_, hG.here, hG.mov, hrow, hF⟩
  rw [f2_len hF]
  have h1 := allMs_len (tell := beatT (pv2 v c)) (L := 1) (id := (pv2 v c).id) (k := (pv2 v c).k) (fun j s => by simp [beatT]) (pv2 v c).n
  rw [Nat.mul_one] at h1
  exact h1
theorem all_one {d0 : Dn} : ∀ {l : List Dn}, (l.map (·.dot)).Nodup → (∀ d ∈ l, d = d0) → l ≠ [] → l = [d0]
  | [], _, _, h => absurd rfl h
  | [a], _, h, _ => by rw [h a (by simp)]
  | a :: b :: l, hn, h, _ => by
    have ha := h a (by simp)
    have hb := h b (by simp)
    subst ha hb
    simp at hn
/-- Commits of one op each, of keys that differ: a key reads 1 or 0. -/
theorem one_n {n id k : Nat} {C : Nat → ComV} {J : Nat → Prop} {i : Nat} {h : PlH} {v : PlV} (hI : RcI n id k C J i h v) (hC : ∀ j, J j → SrcOk n C j) (n1 : 1 ≤ n) (n6 : n ≤ 6) (k1 : 1 ≤ k) {ky : Nat → ByteArray} (hops : ∀ j, J j → (C j).ops = opsIdx (cOps [ky j])) (hky : ∀ j j', J j → J j' → ky j = ky j' → j = j') {j : Nat} (hJ : J j) (hj : j < n) (hne : j ≠ id) {at_ : List Int} {ds : List Dn} (hd : IsOps (ky j) (seenL v.st (ky j) at_) ds) :
    (leB (C j).when_ at_ = false → (valA ds).n = 0) ∧ (leB (C j).when_ at_ = true → (∀ s, s < k → (v.Y j s).rt = 1) → (valA ds).n = 1) := by
  obtain ⟨D, hK, hlen, hSt, hst, hD, hmem⟩ := hI.kept hC n1 n6
  rw [hst] at hd
  have hone : ∀ j, J j → ∀ o ∈ (C j).ops, o = { cOp (ky j) with at_ := 0 } := fun j hJ o ho => by
    rw [hops j hJ] at ho
    have e : opsIdx (cOps [ky j]) = [{ cOp (ky j) with at_ := 0 }] := rfl
    rw [e] at ho
    simpa using ho
  have hx : ∀ x ∈ seenL (stOf n (D.map (partP C k))) (ky j) at_, x = partC (C j) { cOp (ky j) with at_ := 0 } ∧ leB (C j).when_ at_ = true := fun x hx => by
    obtain ⟨p, hp, o, ho, hxe, hk, _, hle⟩ := seen_mem hx
    have hpJ := ((hmem p).1 hp).2.1
    have e := hone _ hpJ o ho
    have ek : ky p.1 = ky j := by rw [← hk, e]; rfl
    have ej := hky _ _ hpJ hJ ek
    rw [ej] at hxe hle e
    rw [hxe, e]
    exact ⟨rfl, hle⟩
  refine ⟨fun hf => ?_, fun ht hall => ?_⟩
  · have : seenL (stOf n (D.map (partP C k))) (ky j) at_ = [] := by
      rw [List.eq_nil_iff_forall_not_mem]
      intro x hx'
      have := (hx x hx').2
      rw [hf] at this
      exact absurd this (by decide)
    rw [this] at hd
    rw [isOps_nil hd]
    rfl
  · have ho : ({ cOp (ky j) with at_ := 0 } : OpV) ∈ (C j).ops := by
      rw [hops j hJ]
      show _ ∈ [({ cOp (ky j) with at_ := 0 } : OpV)]
      simp
    have hsk : shardN (ky j) k < k := Nat.mod_lt _ (by omega)
    have hq : qS (C j) k (shardN (ky j) k) = 1 := qS_one fun e0 => by
      have : ({ cOp (ky j) with at_ := 0 } : OpV) ∈ partOps (C j).ops k (shardN (ky j) k) := List.mem_filter.2 ⟨ho, decide_eq_true rfl⟩
      rw [e0] at this
      simp at this
    have hin : (j, shardN (ky j) k) ∈ D := (hmem _).2 ⟨⟨by rw [hI.vn]; exact hj, by rw [hI.vid]; exact hne, by rw [hI.vk]; exact hsk⟩, hJ, hq, hall _ hsk⟩
    have hs : partC (C j) { cOp (ky j) with at_ := 0 } ∈ seenL (stOf n (D.map (partP C k))) (ky j) at_ := seen_some (o := { cOp (ky j) with at_ := 0 }) ht ho hin
    have hsub : ∀ c ∈ seenL (stOf n (D.map (partP C k))) (ky j) at_, c ∈ (D.map (partP C k)).flatMap partsC := fun c hc => seenL_mem hc
    have h1 : OneDot (seenL (stOf n (D.map (partP C k))) (ky j) at_) := fun a ha b hb e => oneDot_parts hK a (flat_sub hsub ha) b (flat_sub hsub hb) e
    have hfl : ∀ d ∈ flatA (seenL (stOf n (D.map (partP C k))) (ky j) at_), d = dnOf (partC (C j) { cOp (ky j) with at_ := 0 }) { cOp (ky j) with at_ := 0 } := fun d hd' => by
      obtain ⟨x, hx', hdx⟩ := flat_mem.1 hd'
      rw [(hx x hx').1] at hdx
      simpa [partC] using hdx
    have hfne : flatA (seenL (stOf n (D.map (partP C k))) (ky j) at_) ≠ [] := fun e0 => by
      have : dnOf (partC (C j) { cOp (ky j) with at_ := 0 }) { cOp (ky j) with at_ := 0 } ∈ flatA (seenL (stOf n (D.map (partP C k))) (ky j) at_) := flat_mem.2 ⟨_, hs, by simp [partC]⟩
      rw [e0] at this
      simp at this
    obtain ⟨q1, q2, q3⟩ := isOps_two hd h1 hfne fun d hd' => by rw [hfl d hd']; exact ⟨rfl, rfl⟩
    have e1 := all_one (onceA_nodup (seenL (stOf n (D.map (partP C k))) (ky j) at_)) (fun d hd' => hfl d ((mem_onceA h1 d).1 hd')) fun e0 => by
      rw [e0] at q3
      exact q1 q3.eq_nil
    rw [e1] at q3
    have e2 : ds = [dnOf (partC (C j) { cOp (ky j) with at_ := 0 }) { cOp (ky j) with at_ := 0 }] := List.perm_singleton.1 q3
    rw [(valA_two q1 q2).2, e2]
    rfl
end Go.Proofs.YtefpnojanldkeaaGreatDoor
namespace Go.Proofs.YtefpnojanldkeaaGreatDoor
open Go.RowKit Go.Maps
set_option maxRecDepth 10000
set_option linter.unusedSectionVars false
variable [Inhabited ComV] [DecidableEq D3] [Inhabited D3] [Inhabited Dd] [Inhabited Dn] [Inhabited OpV]

structure TrI (w : World) (hp : PlH) (vp : PlV) (hq : PlH) (vq : PlV) (hz : PlH) (vz : PlV) (lv : Value) (rs : List Raw) (ms : List MsgV) (W : World) : Prop where
  bel : Below w.heap.size w W
  p : PlAt W hp vp
  q : PlAt W hq vq
  z : PlAt W hz vz
  lp : ∀ b, hp.foot vp b → w.heap.size ≤ b
  lq : ∀ b, hq.foot vq b → w.heap.size ≤ b
  lz : ∀ b, hz.foot vz b → w.heap.size ≤ b
  pq : ∀ b, hp.foot vp b → ¬ hq.foot vq b
  pz : ∀ b, hp.foot vp b → ¬ hz.foot vz b
  qz : ∀ b, hq.foot vq b → ¬ hz.foot vz b
  row : W.ownsRow w.heap.size 44 9 lv rs.length (raws rs)
  op : ∀ b, lv.ownBlock = some b → ¬ hp.foot vp b
  oq : ∀ b, lv.ownBlock = some b → ¬ hq.foot vq b
  oz : ∀ b, lv.ownBlock = some b → ¬ hz.foot vz b
  own : F2 (RawOwn 0 W) rs ms
variable {w W W' : World} {hp hq hz : PlH} {vp vq vz : PlV} {lv : Value} {rs : List Raw} {ms : List MsgV}
theorem TrI.below (I : TrI w hp vp hq vq hz vz lv rs ms W) (hb : Below W.heap.size W W') : TrI w hp vp hq vq hz vz lv rs ms W' :=
  ⟨I.bel.trans (hb.mono I.bel.size), I.p.below hb, I.q.below hb, I.z.below hb, I.lp, I.lq, I.lz, I.pq, I.pz, I.qz, own_keep I.row fun q hq => hb.block q (I.row.lt q hq).2, I.op, I.oq, I.oz, f2_mono (fun _ _ q => q.kept (Keeps.bel hb)) I.own⟩
theorem TrI.moveP {hp' : PlH} {vp' : PlV} (I : TrI w hp vp hq vq hz vz lv rs ms W) (hP : PlAt W' hp' vp') (hM : PlMoves W W' hp vp hp' vp') : TrI w hp' vp' hq vq hz vz lv rs ms W' := by
  have r := off_moves I.row I.op hM
  have q := I.q.other hM I.pq
  have z := I.z.other hM I.pz
  exact ⟨below_moves I.bel I.lp hM, hP, q.1, z.1, low_moves I.lp hM I.bel.size, I.lq, I.lz, q.2, z.2, I.qz, r.1, r.2, I.oq, I.oz, f2_mono (fun _ _ q => q.kept hM.keeps) I.own⟩
theorem TrI.moveQ {hq' : PlH} {vq' : PlV} (I : TrI w hp vp hq vq hz vz lv rs ms W) (hP : PlAt W' hq' vq') (hM : PlMoves W W' hq vq hq' vq') : TrI w hp vp hq' vq' hz vz lv rs ms W' := by
  have r := off_moves I.row I.oq hM
  have p := I.p.other hM fun b h1 h2 => I.pq b h2 h1
  have z := I.z.other hM I.qz
  exact ⟨below_moves I.bel I.lq hM, p.1, hP, z.1, I.lp, low_moves I.lq hM I.bel.size, I.lz, fun b h1 h2 => p.2 b h2 h1, I.pz, z.2, r.1, I.op, r.2, I.oz, f2_mono (fun _ _ q => q.kept hM.keeps) I.own⟩
theorem TrI.moveZ {hz' : PlH} {vz' : PlV} (I : TrI w hp vp hq vq hz vz lv rs ms W) (hP : PlAt W' hz' vz') (hM : PlMoves W W' hz vz hz' vz') : TrI w hp vp hq vq hz' vz' lv rs ms W' := by
  have r := off_moves I.row I.oz hM
  have p := I.p.other hM fun b h1 h2 => I.pz b h2 h1
  have q := I.q.other hM fun b h1 h2 => I.qz b h2 h1
  exact ⟨below_moves I.bel I.lz hM, p.1, q.1, hP, I.lp, I.lq, low_moves I.lz hM I.bel.size, I.pq, fun b h1 h2 => p.2 b h2 h1, fun b h1 h2 => q.2 b h2 h1, r.1, I.op, I.oq, r.2, f2_mono (fun _ _ q => q.kept hM.keeps) I.own⟩
/-- Another row in the old one's place. -/
theorem TrI.swap (I : TrI w hp vp hq vq hz vz lv rs ms W) {B : Nat} (hB : w.heap.size ≤ B) {rv : Value} {r2 : List Raw} {m2 : List MsgV} (hrow : W.ownsRow B 44 9 rv r2.length (raws r2)) (op : ∀ b, rv.ownBlock = some b → ¬ hp.foot vp b) (oq : ∀ b, rv.ownBlock = some b → ¬ hq.foot vq b) (oz : ∀ b, rv.ownBlock = some b → ¬ hz.foot vz b) (hF : F2 (RawOwn 0 W) r2 m2) : TrI w hp vp hq vq hz vz rv r2 m2 W :=
  ⟨I.bel, I.p, I.q, I.z, I.lp, I.lq, I.lz, I.pq, I.pz, I.qz, owns_base hrow hB, op, oq, oz, hF⟩
/-- A row is set behind it. -/
theorem TrI.app (I : TrI w hp vp hq vq hz vz lv rs ms W) {v3 : Value} {r2 : List Raw} {m2 : List MsgV} (h2 : F2 (RawOwn 0 W) r2 m2) (hg : W.grownBy W' lv.ownBlock) (hown : W'.ownsRow w.heap.size 44 9 v3 (rs ++ r2).length (raws (rs ++ r2))) (hv : v3.ownBlock = lv.ownBlock ∨ v3.ownBlock = some W.heap.size) : TrI w hp vp hq vq hz vz v3 (rs ++ r2) (ms ++ m2) W' := by
  have hk := keeps_grown hg fun q hq => own_type I.row hq
  have hsz := I.bel.size
  have off : ∀ {h : PlH} {v : PlV}, PlAt W h v → (∀ b, lv.ownBlock = some b → ¬ h.foot v b) → ∀ b, v3.ownBlock = some b → ¬ h.foot v b := fun {h v} a o b hb e => by
    rcases hv with h' | h'
    · exact o b (h' ▸ hb) e
    · have := a.lt e
      rw [h'] at hb
      have := Option.some.inj hb
      omega
  have kp : ∀ {h : PlH} {v : PlV}, PlAt W h v → (∀ b, lv.ownBlock = some b → ¬ h.foot v b) → PlAt W' h v := fun {h v} a o => a.keep (fun b hb => hg.block b (a.lt hb) fun e => o b e.symm hb) hk
  exact ⟨⟨hg.os.trans I.bel.os, hg.tape.trans I.bel.tape, hg.output.trans I.bel.output, Nat.le_trans I.bel.size hg.size, fun q hq => (hg.block q (by omega) fun e => by have := (I.row.lt q e.symm).1; omega).trans (I.bel.block q hq)⟩, kp I.p I.op, kp I.q I.oq, kp I.z I.oz, I.lp, I.lq, I.lz, I.pq, I.pz, I.qz, hown, off I.p I.op, off I.q I.oq, off I.z I.oz, f2_append' (f2_mono (fun _ _ q => q.kept hk) I.own) (f2_mono (fun _ _ q => q.kept hk) h2)⟩
/-- The two commits. -/
def CC (a b : ByteArray) (j : Nat) : ComV := if j = 0 then comN [0, 0, 0] 0 1 (cOps [a]) else comN [1, 0, 0] 1 1 (cOps [b])
def kyC (a b : ByteArray) (j : Nat) : ByteArray := if j = 0 then a else b
theorem SrcOk.of {n j : Nat} {C C' : Nat → ComV} (h : SrcOk n C j) (e : C' j = C j) : SrcOk n C' j := by
  obtain ⟨h1, h2, h3, h4, h5, h6, h7⟩ := h
  exact ⟨e ▸ h1, e ▸ h2, e ▸ h3, e ▸ h4, e ▸ h5, e ▸ h6, e ▸ h7⟩
theorem cc_src {a b : ByteArray} (ha : nameB a = true) (hb : nameB b = true) (j : Nat) (hj : j < 2) : SrcOk 3 (CC a b) j := by
  have d3 : ∀ (x : Int) (j : Nat), (x = 0 ∨ x = 1) → j < 3 → ([x, 0, 0] : List Int).getD j 0 = 0 ∨ ([x, 0, 0] : List Int).getD j 0 = 1 := fun x j hx hj => by
    rcases (by omega : j = 0 ∨ j = 1 ∨ j = 2) with rfl | rfl | rfl
    · exact hx
    · exact .inl rfl
    · exact .inl rfl
  rcases (by omega : j = 0 ∨ j = 1) with rfl | rfl
  · exact (cCom_ok (at_ := [0, 0, 0]) (id := 0) (n := 3) (ks := [a]) rfl (by decide) (by decide) (fun j hj => d3 0 j (.inl rfl) hj) (by simp) (by simp) (by simpa using ha)).of rfl
  · exact (cCom_ok (at_ := [1, 0, 0]) (id := 1) (n := 3) (ks := [b]) rfl (by decide) (by decide) (fun j hj => d3 1 j (.inr rfl) hj) (by simp) (by simp) (by simpa using hb)).of rfl
theorem cc_ops (a b : ByteArray) (j : Nat) (hj : j < 2) : (CC a b j).ops = opsIdx (cOps [kyC a b j]) := by
  rcases (by omega : j = 0 ∨ j = 1) with rfl | rfl <;> rfl
theorem cc_ky {a b : ByteArray} (hne : a ≠ b) (j j' : Nat) (hj : j < 2) (hj' : j' < 2) (e : kyC a b j = kyC a b j') : j = j' := by
  rcases (by omega : j = 0 ∨ j = 1) with rfl | rfl <;> rcases (by omega : j' = 0 ∨ j' = 1) with rfl | rfl
  · rfl
  · exact absurd e hne
  · exact absurd e.symm hne
  · rfl
/-- A message of one of the two. -/
def CMsg (a b : ByteArray) (k : Nat) (m : MsgV) : Prop := ∃ f t s, f < 2 ∧ t < 3 ∧ t ≠ f ∧ s < k ∧ ((qS (CC a b f) k s = 1 ∧ m = cmM f t (CC a b f) k s) ∨ m = bmM f t (CC a b f) k s)
theorem CMsg.to_ {a b : ByteArray} {k : Nat} {m : MsgV} (h : CMsg a b k m) : 0 ≤ m.to_ ∧ m.to_ ≤ 2 := by
  obtain ⟨f, t, s, hf, ht, _, _, h⟩ := h
  rcases h with ⟨_, rfl⟩ | rfl
  · show (0 : Int) ≤ (t : Nat) ∧ ((t : Nat) : Int) ≤ 2; omega
  · show (0 : Int) ≤ (t : Nat) ∧ ((t : Nat) : Int) ≤ 2; omega
end Go.Proofs.YtefpnojanldkeaaGreatDoor
