/- OwnCommit by its contract. -/
import Derived.Test.YtkonjpcgfdcfbaaDoorJXUnI
import Derived.Test.YtkonjpcgfdcfbaaDoorJXHv
import Derived.Test.YtkonjpcgfdcfbaaDoorJXDec
import Derived.Deep.Cut
namespace Go.Proofs.YtkonjpcgfdcfbaaDoor
open Go.RowKit
set_option maxRecDepth 100000

/-- The slice v is m elements, of size cells each, that hold news. -/
def SrcAt (w : World) (v : Value) (m size : Nat) (news : List Value) : Prop :=
  (v = .slice none 0 0 ∧ m = 0 ∧ news = []) ∨ ∃ ad c, v = .slice (some ad) m c ∧ news.length = m * size ∧ ∀ j u, news[j]? = some u → w.cell? (ad.add j) = some u
theorem src_ints {w : World} {v : Value} {zs : List Int} (h : IntsAt w v zs) : SrcAt w v zs.length 1 (zs.map (Value.int .i64)) := by
  obtain ⟨ad, c, rfl, h0, h⟩ := h
  cases ad with
  | none =>
    obtain rfl := h0 rfl
    rcases h with rfl | ⟨b, o, he, _⟩
    · exact .inl ⟨rfl, rfl, rfl⟩
    · cases he
  | some a =>
    refine .inr ⟨a, c, rfl, by simp, fun j u hj => ?_⟩
    rcases h with rfl | ⟨b, o, he, h⟩
    · simp at hj
    · obtain rfl := Option.some.inj he
      rw [List.getElem?_map] at hj
      cases hjj : zs[j]? with
      | none => rw [hjj] at hj; cases hj
      | some z =>
        rw [hjj] at hj
        obtain rfl := Option.some.inj hj
        have hlt : j < zs.length := (List.getElem?_eq_some_iff.1 hjj).1
        have := h j hlt
        rw [List.getD_eq_getElem?_getD, hjj] at this
        rw [Addr.add_lit]
        exact this
theorem flat3_at : ∀ (ds : List D3) (q r : Nat) (d : D3), ds[q]? = some d → r < 3 → (ds.flatMap D3.cells)[q * 3 + r]? = d.cells[r]?
  | [], _, _, _, h, _ => by simp at h
  | x :: ds, 0, r, d, h, hr => by
    simp at h
    subst h
    rw [List.flatMap_cons, List.getElem?_append_left (by show 0 * 3 + r < 3; omega), Nat.zero_mul, Nat.zero_add]
  | x :: ds, q + 1, r, d, h, hr => by
    rw [List.flatMap_cons, List.getElem?_append_right (by show 3 ≤ _; omega), show (q + 1) * 3 + r - x.cells.length = q * 3 + r by show (q + 1) * 3 + r - 3 = _; omega]
    exact flat3_at ds q r d (by simpa using h) hr
theorem flat3_len : ∀ ds : List D3, (ds.flatMap D3.cells).length = ds.length * 3
  | [] => rfl
  | x :: r => by rw [List.flatMap_cons, List.length_append, flat3_len r, List.length_cons]; show 3 + _ = _; omega
theorem src_dots {w : World} {v : Value} {ds : List D3} (h : DotsAt w v ds) : SrcAt w v ds.length 3 (ds.flatMap D3.cells) := by
  obtain ⟨ad, c, rfl, h0, _, h⟩ := h
  rw [List.length_map]
  cases ad with
  | none =>
    obtain rfl := h0 rfl
    rcases h with h | ⟨b, o, he, _⟩
    · obtain rfl : ds = [] := by simpa using h
      exact .inl ⟨rfl, rfl, rfl⟩
    · cases he
  | some a =>
    refine .inr ⟨a, c, rfl, flat3_len ds, fun j u hj => ?_⟩
    rcases h with h | ⟨b, o, he, h⟩
    · obtain rfl : ds = [] := by simpa using h
      simp at hj
    · obtain rfl := Option.some.inj he
      have hjl : j < ds.length * 3 := by have := (List.getElem?_eq_some_iff.1 hj).1; rw [flat3_len] at this; exact this
      have hq : j / 3 < ds.length := by omega
      have hr : j % 3 < 3 := by omega
      have hd : ds[j / 3]? = some ds[j / 3] := List.getElem?_eq_getElem hq
      have e := flat3_at ds (j / 3) (j % 3) _ hd hr
      rw [show j / 3 * 3 + j % 3 = j by omega, hj] at e
      have := (h (j / 3) _ (by rw [List.getElem?_map, hd]; rfl)).2 (j % 3) u e.symm
      rw [Addr.add_lit, ← this]
      congr 2
      omega
theorem SrcAt.moved {w w' : World} {v : Value} {m size : Nat} {news : List Value} (h : SrcAt w v m size news) (hk : ∀ a u, w.cell? a = some u → w'.cell? a = some u) : SrcAt w' v m size news := by
  rcases h with h | ⟨ad, c, h1, h2, h3⟩
  · exact .inl h
  · exact .inr ⟨ad, c, h1, h2, fun j u hj => hk _ _ (h3 j u hj)⟩
/-- append(nil, x...): a row of the call's own. -/
theorem wpList_append_src {w : World} {ops : Array Oper} {rest : List Oper} {o : Oper} {a : Act} {Q : Exit → Act → World → Prop} (hgd : o.guard = none) (s x : Operand) (t : TypeId)
    (ho : o.op = .call { callee := .builtin .append, args := #[s, x], argTypes := #[t, t] })
    (base : Nat) (e : TypeId) (i : TypeInfo) (z : Value) (size bytes : Nat) (ht : Tryd.prog.underlying t = some (.slice e)) (hi : Tryd.prog.info? e = some i) (hz : i.zero = some z)
    (hsize : i.size = size) (hby : i.bytes = bytes) (hzs : z.cells.size = size) (hsz : 0 < size)
    (hs : a.eval s = .slice none 0 0) (v : Value) (m : Nat) (news : List Value) (hx : a.eval x = v) (hv : SrcAt w v m size news) (h1 : ∀ u ∈ news, u.oneCell' = true)
    (h63 : m ≤ maxLen) (hbytes : m * bytes ≤ 140737488355328) (hbase : base ≤ w.heap.size)
    (h : ∀ v' w', w'.ownsRow base e size v' m news → w.grownBy w' none → wpList Tryd.prog ops Q rest (a.put o.dst v') w') : wpList Tryd.prog ops Q (o :: rest) a w := by
  rcases hv with ⟨rfl, rfl, rfl⟩ | ⟨ad, c, rfl, hl, hn⟩
  · exact wpList_append_own_none hgd s x t ho base e i size ht hi _ 0 [] hs (World.ownsRow_nil _ _ _ _) hx (h _ _ (World.ownsRow_nil _ _ _ _) ⟨rfl, rfl, rfl, Nat.le_refl _, fun _ _ _ => rfl⟩)
  · refine wpList_append_own w hgd s x t ho base e i z size bytes ht hi hz hsize hby hzs hsz _ 0 [] hs (World.ownsRow_nil _ _ _ _) ad m c news hx hl hn h1 (by omega) (by rw [Nat.zero_add]; exact hbytes) hbase fun v' w' h2 h3 _ => ?_
    rw [Nat.zero_add, List.nil_append] at h2
    exact h v' w' h2 h3
theorem ints_one (zs : List Int) : ∀ u ∈ zs.map (Value.int .i64), u.oneCell' = true := fun u hu => by
  obtain ⟨z, _, rfl⟩ := List.mem_map.1 hu
  rfl
theorem all_dots_one (ds : List D3) : ∀ u ∈ ds.flatMap D3.cells, u.oneCell' = true := fun u hu => by
  obtain ⟨d, _, h⟩ := List.mem_flatMap.1 hu
  exact dots_one d u h

/-- k ops are copied. -/
structure OwI (w : World) (c : ComV) (wv ov : Value) (k : Nat) (wv' ov' : Value) (wr : World) : Prop where
  below : Below w.heap.size w wr
  box : wr.heap[w.heap.size]? = some (.cells #[wv, .int .i64 c.place, ov] 25 (0, 0))
  res : wr.heap[w.heap.size + 1]? = some (.cells #[.slice none 0 0, .int .i64 0, .slice none 0 0] 25 (0, 0))
  out : wr.heap[w.heap.size + 2]? = some (.cells #[wv', .int .i64 c.place, ov'] 25 (0, 0))
  own : ComOwn (w.heap.size + 3) wr wv' ov' ⟨c.when_, c.place, c.ops.take k⟩
theorem OwI.size {w wr : World} {c : ComV} {wv ov wv' ov' : Value} {k : Nat} (h : OwI w c wv ov k wv' ov' wr) : w.heap.size + 3 ≤ wr.heap.size := lt_of_heap h.out
theorem OwI.moved {w wr w' : World} {c : ComV} {wv ov wv' ov' : Value} {k : Nat} (h : OwI w c wv ov k wv' ov' wr) (hb : Below wr.heap.size wr w') : OwI w c wv ov k wv' ov' w' := by
  have hs := h.size
  exact ⟨h.below.trans (hb.mono (by omega)), by rw [hb.block _ (by omega)]; exact h.box, by rw [hb.block _ (by omega)]; exact h.res, by rw [hb.block _ (by omega)]; exact h.out, h.own.at fun g _ h2 => hb.block g h2⟩
theorem OwI.start {w w3 : World} {c : ComV} {wv ov v3 : Value} (hg : (((w.alloc (.cells #[wv, .int .i64 c.place, ov] 25)).alloc (.cells #[.slice none 0 0, .int .i64 0, .slice none 0 0] 25)).alloc (.cells #[.slice none 0 0, .int .i64 c.place, .slice none 0 0] 25)).grownBy w3 none) (hown : w3.ownsRow (w.heap.size + 3) 3 1 v3 c.when_.length (c.when_.map (Value.int .i64))) :
    (w3.cell? ⟨w.heap.size + 1 + 1, 0, none⟩ = some (.slice none 0 0) ∧ w3.frozen? ⟨w.heap.size + 1 + 1, 0, none⟩ = false) ∧ OwI w c wv ov 0 v3 (.slice none 0 0) (w3.setCell ⟨w.heap.size + 2, 0, none⟩ v3) := by
  have e2 : w3.heap[w.heap.size + 2]? = some (.cells #[.slice none 0 0, .int .i64 c.place, .slice none 0 0] 25 (0, 0)) := by
    rw [hg.block _ (by simp) (by simp)]
    have := heap_new ((w.alloc (.cells #[wv, .int .i64 c.place, ov] 25)).alloc (.cells #[.slice none 0 0, .int .i64 0, .slice none 0 0] 25)) (.cells #[.slice none 0 0, .int .i64 c.place, .slice none 0 0] 25)
    simpa using this
  have e1 : w3.heap[w.heap.size + 1]? = some (.cells #[.slice none 0 0, .int .i64 0, .slice none 0 0] 25 (0, 0)) := by
    rw [hg.block _ (by simp) (by simp)]
    refine heap_old ?_ _
    have := heap_new (w.alloc (.cells #[wv, .int .i64 c.place, ov] 25)) (.cells #[.slice none 0 0, .int .i64 0, .slice none 0 0] 25)
    simpa using this
  have e0 : w3.heap[w.heap.size]? = some (.cells #[wv, .int .i64 c.place, ov] 25 (0, 0)) := by
    rw [hg.block _ (by simp; omega) (by simp)]
    exact heap_old (heap_old (heap_new _ _) _) _
  have hb : Below w.heap.size w w3 := ⟨hg.os, hg.tape, hg.output, by have := hg.size; simp at this; omega, fun k hk => by
    rw [hg.block k (by simp; omega) (by simp), Below.heap_alloc _ _ _ (by simp; omega), Below.heap_alloc _ _ _ (by simp; omega), Below.heap_alloc _ _ _ (by omega)]⟩
  refine ⟨⟨(cell_of e2).trans rfl, free_of e2⟩, hb.setCell (by show w.heap.size ≤ w.heap.size + 2; omega) _, by rw [Below.heap_setCell _ _ _ _ (by show w.heap.size ≠ w.heap.size + 2; omega)]; exact e0, by rw [Below.heap_setCell _ _ _ _ (by show w.heap.size + 1 ≠ w.heap.size + 2; omega)]; exact e1, by rw [heap_set e2]; rfl, ?_, [], World.ownsRow_nil _ _ _ _, by rw [List.take_zero]; trivial⟩
  exact owns_at hown fun g h1 _ => Below.heap_setCell _ _ _ _ (by show g ≠ w.heap.size + 2; omega)
theorem OwI.opMore {w w6 w7 : World} {c : ComV} {wv ov wv' ov' v' : Value} {k : Nat} {o : OpV} {r : List Value} (h : OwI w c wv ov k wv' ov' w6) (ho : OpOwn (w.heap.size + 3) w6 r o) (hk : c.ops[k]? = some o) {rows : List (List Value)} (hrow : w6.ownsRow (w.heap.size + 3) 52 7 ov' (c.ops.take k).length rows.flatten) (hrows : F2 (OpOwn (w.heap.size + 3) w6) rows (c.ops.take k)) {o' : Obj} (hn : w7.ownsRow (w.heap.size + 3) 52 7 v' ((c.ops.take k).length + 1) (rows.flatten ++ r)) (hg : (w6.alloc o').grownBy w7 ov'.ownBlock) :
    (w7.cell? ⟨w.heap.size + 1 + 1, 2, none⟩ = some ov' ∧ w7.frozen? ⟨w.heap.size + 1 + 1, 2, none⟩ = false) ∧ OwI w c wv ov (k + 1) wv' v' (w7.setCell ⟨w.heap.size + 2, 2, none⟩ v') := by
  have hs := h.size
  have hne := grown_ne hrow hg
  have hlow : ∀ i, i < w.heap.size + 3 → w7.heap[i]? = w6.heap[i]? := fun i hi => by
    rw [hg.block i (by simp; omega) fun e => by
      have := (hrow.lt i e.symm).1
      omega, Below.heap_alloc _ _ _ (by omega)]
  have e2 := (hlow (w.heap.size + 2) (by omega)).trans h.out
  have ks : ∀ g, w.heap.size + 3 ≤ g → g < w7.heap.size → (w7.setCell ⟨w.heap.size + 2, 2, none⟩ v').heap[g]? = w7.heap[g]? := fun g h1 _ => Below.heap_setCell _ _ _ _ (by show g ≠ w.heap.size + 2; omega)
  have ht : c.ops.take (k + 1) = c.ops.take k ++ [o] := by
    obtain ⟨hk1, hk2⟩ := List.getElem?_eq_some_iff.1 hk
    rw [List.take_succ_eq_append_getElem hk1, hk2]
  have hb : Below w.heap.size w w7 := ⟨hg.os.trans h.below.os, hg.tape.trans h.below.tape, hg.output.trans h.below.output, by have := hg.size; have := h.below.size; simp at *; omega, fun i hi => by rw [hlow i (by omega)]; exact h.below.block i hi⟩
  refine ⟨⟨(cell_of e2).trans rfl, free_of e2⟩, hb.setCell (by show w.heap.size ≤ w.heap.size + 2; omega) _, by rw [Below.heap_setCell _ _ _ _ (by show w.heap.size ≠ w.heap.size + 2; omega), hlow _ (by omega)]; exact h.box, by rw [Below.heap_setCell _ _ _ _ (by show w.heap.size + 1 ≠ w.heap.size + 2; omega), hlow _ (by omega)]; exact h.res, by rw [heap_set e2]; rfl, ?_, rows ++ [r], ?_, ?_⟩
  · exact owns_at (owns_below h.own.1 fun b cs hc => hne b cs 3 (by decide) hc) ks
  · show World.ownsRow _ _ 52 7 v' (c.ops.take (k + 1)).length _
    rw [ht, List.flatten_append, List.length_append]
    exact owns_at (by simpa using hn) ks
  · show F2 _ _ (c.ops.take (k + 1))
    rw [ht]
    exact f2_append (f2_mono (fun _ _ h => (h.kept fun b cs hc => hne b cs 62 (by decide) hc).at ks) hrows) ((ho.kept fun b cs hc => hne b cs 62 (by decide) hc).at ks)
/-- The box of an op whose dots are copied. -/
theorem own_box {wr w5 : World} {o : OpV} {dvo v5 : Value} {B : Nat} (hg : (wr.alloc (.cells #[.int .i64 o.at_, .string o.key, .int .i64 o.kind, .string o.text, .int .i64 o.n, .bool o.rem, dvo] 52)).grownBy w5 none) (hr : w5.ownsRow B 62 3 v5 o.dots.length (o.dots.flatMap D3.cells)) :
    (w5.cell? ⟨wr.heap.size, 6, none⟩ = some dvo ∧ w5.frozen? ⟨wr.heap.size, 6, none⟩ = false) ∧ Below wr.heap.size wr (w5.setCell ⟨wr.heap.size, 6, none⟩ v5) ∧ (w5.setCell ⟨wr.heap.size, 6, none⟩ v5).heap[wr.heap.size]? = some (.cells (opCells o v5).toArray 52 (0, 0)) ∧ OpOwn B (w5.setCell ⟨wr.heap.size, 6, none⟩ v5) (opCells o v5) o := by
  have hbx : w5.heap[wr.heap.size]? = some (.cells #[.int .i64 o.at_, .string o.key, .int .i64 o.kind, .string o.text, .int .i64 o.n, .bool o.rem, dvo] 52 (0, 0)) := by
    rw [hg.block _ (by simp) (by simp)]
    exact heap_new _ _
  have hb : Below wr.heap.size wr w5 := ⟨hg.os, hg.tape, hg.output, by have := hg.size; simp at this; omega, fun i hi => by rw [hg.block i (by simp; omega) (by simp), Below.heap_alloc _ _ _ hi]⟩
  refine ⟨⟨(cell_of hbx).trans rfl, free_of hbx⟩, hb.setCell (Nat.le_refl _) _, by rw [heap_set hbx]; rfl, v5, rfl, ?_⟩
  refine owns_below hr fun b cs hc => Below.heap_setCell _ _ _ _ fun e => ?_
  have e' : b = wr.heap.size := e
  rw [e', hbx] at hc
  injection hc with hc
  injection hc with _ hc
  exact absurd hc (by decide)
def OwRet (c : ComV) (w : World) (e : Ending) (w' : World) : Prop := ∃ a1 c1 a2 c2, e = .returned (.agg #[.slice a1 c.when_.length c1, .int .i64 c.place, .slice a2 c.ops.length c2]) ∧ ComOwn w.heap.size w' (.slice a1 c.when_.length c1) (.slice a2 c.ops.length c2) c ∧ Below w.heap.size w w'
set_option maxHeartbeats 4000000 in
theorem own_any (w : World) (c : ComV) (wv ov : Value) (hw : IntsAt w wv c.when_) (ho : OpsAt w ov c.ops) (hL : Light c) :
    Calls Tryd.prog 21 #[.agg #[wv, .int .i64 c.place, ov]] w (OwRet c w) := by
  obtain ⟨i3, hi3, hx0, hx1, hx2⟩ := info_parts Tryd.info3
  obtain ⟨i52, hi52, hy0, hy1, hy2⟩ := info_parts Tryd.info52
  obtain ⟨i62, hi62, hz0, hz1, hz2⟩ := info_parts Tryd.info62
  have HS := hid (src_ints hw)
  have HO := hid ho
  have hl := hL.when_
  have hm := hL.ops
  have HD := hid hL.each
  obtain ⟨a1, c1, rfl⟩ := hw.len
  obtain ⟨a2, c2, rfl⟩ := ho.len
  obtain ⟨n, hn⟩ : ∃ n, n = c.when_.length := ⟨_, rfl⟩
  obtain ⟨m, hmm⟩ : ∃ m, m = c.ops.length := ⟨_, rfl⟩
  rw [← hn] at hl HS
  rw [← hmm] at hm HO
  have HN := hid hn
  have HM := hid hmm
  obtain ⟨p, hp⟩ : ∃ p, p = c.place := ⟨_, rfl⟩
  rw [← hp, ← hn, ← hmm]
  have HP := hid hp
  clear hn hmm ho hp hw hL
  go_enter Tryd.func21, Tryd.ntmps21
  go_upto_region 3 with (at_builtin; refine wpList_append_src rfl _ _ 22 rfl (w.heap.size + 3) 3 i3 _ 1 8 Tryd.underlying22 hi3 hx0 hx1 hx2 rfl (by decide) rfl _ n (c.when_.map (Value.int .i64)) rfl (HS.out.moved ?hm1) (ints_one _) ?hm2 ?hm3 ?hm4 ?_; (case hm1 => exact fun a u h => cell_alloc (cell_alloc (cell_alloc h _) _) _); (case hm2 => unfold maxLen; omega); (case hm3 => omega); (case hm4 => simp); intro v3 w3 hown3 hgrow3; obtain ⟨a3, c3, rfl⟩ := row_shape hown3; rw [HP.out] at hgrow3; rw [HN.out] at hown3; obtain ⟨⟨g0, f0⟩, h0⟩ := OwI.start hgrow3 hown3; have I0 := hid h0; clear hown3 hgrow3 h0)
  go_upto_region 4 with (fail)
  rw [← HN.out] at I0
  go_loopw [4] (fun i wr => ∃ (k : Nat) (ov' : Value), k ≤ m ∧ i = .int .i64 k ∧ Hid (OwI w c (.slice a1 n c1) (.slice a2 m c2) k (.slice a3 n c3) ov' wr)) (fun i _ => m - (intOf i).toNat)
  case atStart => exact ⟨0, _, Nat.zero_le _, rfl, I0.out⟩
  case round =>
    obtain ⟨k, ov', hk, rfl, HI⟩ := hrel
    have k2 : wr.cell? ⟨w.heap.size, 2, none⟩ = some (.slice a2 m c2) := (cell_of HI.out.box).trans rfl
    by_cases hlt : k < m
    · obtain ⟨o, hok⟩ : ∃ o, c.ops[k]? = some o := ⟨_, List.getElem?_eq_getElem (by have := HM.out; omega)⟩
      obtain ⟨b, off, dp, dc, rfl, hdd, q0, q1, q2, q3, q4, q5, q6⟩ := opAt_cells (HO.out.mono HI.out.below (Nat.le_refl _)) hok
      have hdl := (HD.out o (List.mem_of_getElem? hok)).2.2
      have HOK := hid hok
      have HDD := hid (src_dots hdd)
      have k2' := fun ob => cell_alloc k2 ob
      have q6' := fun ob => cell_alloc q6 ob
      clear hok hdd
      go_upto_region 8 with (fail)
      go_upto_region 9 with (at_builtin; refine wpList_append_src rfl _ _ 50 rfl (w.heap.size + 3) 62 i62 _ 3 24 Tryd.underlying50 hi62 hz0 hz1 hz2 rfl (by decide) rfl _ o.dots.length (o.dots.flatMap D3.cells) rfl (HDD.out.moved ?hm1) (all_dots_one _) ?hm2 ?hm3 ?hm4 ?_; (case hm1 => exact fun a u h => cell_alloc h _); (case hm2 => unfold maxLen; omega); (case hm3 => omega); (case hm4 => have := HI.out.size; simp; omega); intro v5 w5 hown5 hgrow5; obtain ⟨a5, c5, rfl⟩ := row_shape hown5; obtain ⟨⟨x6, xf6⟩, hb6, hbox6, hop6⟩ := own_box hgrow5 hown5; have HB6 := hid hb6; have HX6 := hid hbox6; have HP6 := hid hop6; clear hown5 hgrow5 hb6 hbox6 hop6)
      obtain ⟨w6, hw6⟩ : ∃ w6, w6 = w5.setCell ⟨wr.heap.size, 6, none⟩ (.slice a5 o.dots.length c5) := ⟨_, rfl⟩
      rw [← hw6] at HB6 HX6 HP6 ⊢
      have I6 := hid (HI.out.moved HB6.out)
      have hs6 := I6.out.size
      obtain ⟨rows, hrow, hrows⟩ := I6.out.own.2
      have HROW := hid hrow
      have HROWS := hid hrows
      have t2 : w6.cell? ⟨w.heap.size + 1 + 1, 2, none⟩ = some ov' := (cell_of I6.out.out).trans rfl
      have s0 : w6.cell? ⟨wr.heap.size, 0, none⟩ = some (.int .i64 o.at_) := (cell_of HX6.out).trans rfl
      have s1 : w6.cell? ⟨wr.heap.size, 1, none⟩ = some (.string o.key) := (cell_of HX6.out).trans rfl
      have s2 : w6.cell? ⟨wr.heap.size, 2, none⟩ = some (.int .i64 o.kind) := (cell_of HX6.out).trans rfl
      have s3 : w6.cell? ⟨wr.heap.size, 3, none⟩ = some (.string o.text) := (cell_of HX6.out).trans rfl
      have s4 : w6.cell? ⟨wr.heap.size, 4, none⟩ = some (.int .i64 o.n) := (cell_of HX6.out).trans rfl
      have s5 : w6.cell? ⟨wr.heap.size, 5, none⟩ = some (.bool o.rem) := (cell_of HX6.out).trans rfl
      have s6 : w6.cell? ⟨wr.heap.size, 6, none⟩ = some (.slice a5 o.dots.length c5) := (cell_of HX6.out).trans rfl
      have hkt : (c.ops.take k).length = k := by rw [List.length_take, ← HM.out]; omega
      clear hw6 hrow hrows x6 xf6 k2' q6' q0 q1 q2 q3 q4 q5 q6 HDD k2
      have HKT := hid hkt
      clear hkt
      go_wp2_with (at_builtin; refine wpList_append_own _ rfl _ _ 23 rfl (w.heap.size + 3) 52 i52 _ 7 88 Tryd.underlying23 hi52 hy0 hy1 hy2 rfl (by decide) _ _ _ rfl (HROW.out.alloc _) ⟨w6.heap.size, 0, none⟩ 1 1 (opCells o (.slice a5 o.dots.length c5)) rfl rfl (cells3_new _ _ _) (one7 _ _ _ _) ?hm2 ?hm3 ?hm4 ?_; (case hm2 => show (c.ops.take k).length + 1 ≤ _; rw [HKT.out]; unfold maxLen; omega); (case hm3 => show ((c.ops.take k).length + 1) * 88 ≤ _; rw [HKT.out]; omega); (case hm4 => simp; omega); intro v7 w7 hown7 hgrow7 _; obtain ⟨a7, c7, hv7⟩ := row_shape hown7; have hv8 : v7 = .slice a7 (k + 1) c7 := hv7.trans (congrArg (fun x => Value.slice a7 (x + 1) c7) HKT.out); clear hv7; subst hv8; obtain ⟨⟨y2, yf2⟩, h7⟩ := I6.out.opMore HP6.out HOK.out HROW.out HROWS.out hown7 hgrow7; have I7 := hid h7; clear hown7 hgrow7 h7)
      go_roundw
      case rel => exact ⟨k + 1, _, by omega, by go_num, I7.out⟩
      case measure => simp [intOf]; omega
    · obtain rfl : k = m := by omega
      have HT : Hid (c.ops.take k = c.ops) := List.take_of_length_le (by rw [← HM.out]; omega)
      have hown := HI.out.own
      rw [HT.out] at hown
      have HOWN := hid hown
      obtain ⟨rows, hrow, hrows⟩ := hown.2
      obtain ⟨ao, co, rfl⟩ := row_shape hrow
      have hol : ({ when_ := c.when_, place := c.place, ops := c.ops } : ComV).ops.length = k := HM.out.symm
      rw [hol] at HOWN HI
      obtain ⟨wz, STORE, HZ⟩ := store_row HI.out.res [.slice a3 n c3, .int .i64 p, .slice ao k co] rfl rfl 25 3 rfl Tryd.sizeOf25
      have q0 : wr.cell? ⟨w.heap.size + 1 + 1, 0, none⟩ = some (.slice a3 n c3) := (cell_of HI.out.out).trans rfl
      have q1 : wr.cell? ⟨w.heap.size + 1 + 1, 1, none⟩ = some (.int .i64 p) := by rw [HP.out]; exact (cell_of HI.out.out).trans rfl
      have q2 : wr.cell? ⟨w.heap.size + 1 + 1, 2, none⟩ = some (.slice ao k co) := (cell_of HI.out.out).trans rfl
      clear hown hrow hrows hol
      go_wp2_with (refine STORE _ _ _ _ _ (.tmp 2) (.tmp 43) rfl rfl rfl rfl ?_)
      refine bodyPost_ret (ret_cell (k := 3) Tryd.results21 Tryd.isAgg25 Tryd.sizeOf25 _ _ (w.heap.size + 1) [.slice a3 n c3, .int .i64 p, .slice ao k co] rfl rfl HZ.out.1) rfl ⟨a3, c3, ao, co, by rw [← HP.out, ← HN.out, ← HM.out], ?_, by rw [HZ.out.2]; exact below_setCells (by omega) _ _ HI.out.below⟩
      rw [HZ.out.2, ← HN.out, ← HM.out]
      exact (HOWN.out.at fun g h1 _ => setCells_other _ _ _ _ _ (by omega)).base (by omega)
end Go.Proofs.YtkonjpcgfdcfbaaDoor
