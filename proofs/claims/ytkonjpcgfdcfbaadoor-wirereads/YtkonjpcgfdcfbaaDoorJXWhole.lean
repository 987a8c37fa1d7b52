/- The reader's ops; The reader of ops; The reader of commits: what it keeps; The reader of commits; The reader of messages; A message with nothing behind it. -/
import Derived.Test.YtkonjpcgfdcfbaaDoorJXDot
import Derived.Deep.RegionLaw
namespace Go.Proofs.YtkonjpcgfdcfbaaDoor
open Go.RowKit
set_option maxRecDepth 100000

/-- What was read ahead, and what comes. -/
def appP {α : Type} (xs : List α) (q : Option (List α × List UInt8)) : Option (List α × List UInt8) := q.bind fun y => some (xs ++ y.1, y.2)
theorem appP_nil {α : Type} (q : Option (List α × List UInt8)) : appP [] q = q := by cases q <;> rfl
theorem many_none {α : Type} {p : Pa α} {l : List UInt8} (h : p l = none) (n : Nat) (xs : List α) : appP xs (manyP p (n + 1) l) = none := by
  show appP xs ((p l).bind _) = none
  rw [h]; rfl
theorem many_some {α : Type} {p : Pa α} {l r : List UInt8} {x : α} (h : p l = some (x, r)) (n : Nat) (xs : List α) : appP xs (manyP p (n + 1) l) = appP (xs ++ [x]) (manyP p n r) := by
  show appP xs ((p l).bind _) = _
  rw [step h]
  cases h2 : manyP p n r with
  | none => simp [appP]
  | some y => simp [appP]
theorem many_zero {α : Type} (p : Pa α) (l : List UInt8) (xs : List α) : appP xs (manyP p 0 l) = some (xs, l) := by simp [appP, manyP]

/-- append to a row of one's own, as one step of a region that draws. -/
theorem step_append_own {ops : Array Oper} {o : Oper} {a : Act} {w : World} {K : Act → World → Prop} {Q : Exit → Act → World → Prop} {E : Prop} (hgd : o.guard = none) (s x : Operand) (t : TypeId)
    (ho : o.op = .call { callee := .builtin .append, args := #[s, x], argTypes := #[t, t] })
    (base : Nat) (e : TypeId) (i : TypeInfo) (z : Value) (size bytes : Nat) (ht : Tryd.prog.underlying t = some (.slice e)) (hi : Tryd.prog.info? e = some i) (hz : i.zero = some z)
    (hsize : i.size = size) (hby : i.bytes = bytes) (hzs : z.cells.size = size) (hsz : 0 < size)
    (v : Value) (n : Nat) (xs : List Value) (hs : a.eval s = v) (hown : w.ownsRow base e size v n xs)
    (ad : Addr) (m c : Nat) (news : List Value) (hx : a.eval x = .slice (some ad) m c) (hl : news.length = m * size) (hnews : ∀ j u, news[j]? = some u → w.cell? (ad.add j) = some u) (h1 : ∀ u ∈ news, u.oneCell' = true)
    (h63 : n + m ≤ maxLen) (hbytes : (n + m) * bytes ≤ 140737488355328) (hbase : base ≤ w.heap.size)
    (h : ∀ v' w', w'.ownsRow base e size v' (n + m) (xs ++ news) → w.grownBy w' v.ownBlock → K (a.put o.dst v') w') :
    if Region.wanted o (yielded ops a.tmps) = true then Oper.wp Tryd.prog o a w K Q else E := by
  have hw : Region.wanted o (yielded ops a.tmps) = true := by simp [Region.wanted, hgd]
  rw [if_pos hw]
  exact wp_append_own w s x t ho base e i z size bytes ht hi hz hsize hby hzs hsz v n xs hs hown ad m c news hx hl hnews h1 h63 hbytes hbase fun v' w' h2 h3 _ => h v' w' h2 h3
end Go.Proofs.YtkonjpcgfdcfbaaDoor
namespace Go.Proofs.YtkonjpcgfdcfbaaDoor
open Go.RowKit
set_option maxRecDepth 100000

theorem Tryd.info62 : (Tryd.prog.info? 62).map (fun i => (i.zero, i.size, i.bytes)) = some (some (.agg #[.int .i64 0, .int .i64 0, .int .i64 0]), 3, 24) := by kernel_rfl
/-- An op whose dots lie in a row of the call's own. -/
def OpOwn (base : Nat) (w : World) (r : List Value) (o : OpV) : Prop := ∃ dv, r = opCells o dv ∧ w.ownsRow base 62 3 dv o.dots.length (o.dots.flatMap D3.cells)
def OpRet (base : Nat) (o : OpV) (e : Ending) (w' : World) : Prop := ∃ r, e = .returned (.agg r.toArray) ∧ OpOwn base w' r o
/-- So many dots are read. -/
structure OpI (a0 : Addr) (b : Nat) (w : World) (o : OpV) (dv : Value) (l : List UInt8) (wr : World) : Prop where
  fr : Fr a0 b w 52 [.int .i64 0, .string ByteArray.empty, .int .i64 0, .string ByteArray.empty, .int .i64 0, .bool false, .slice none 0 0] (opCells o dv) l wr
  row : wr.ownsRow (w.heap.size + 2) 62 3 dv o.dots.length (o.dots.flatMap D3.cells)
theorem dots_one (d : D3) : ∀ u ∈ ([.int .i64 d.p, .int .i64 d.t, .int .i64 d.a] : List Value), u.oneCell' = true := fun u hu => by
  simp at hu
  rcases hu with rfl | rfl | rfl <;> rfl
theorem cells3_new (w : World) (t : TypeId) (cs : List Value) : ∀ j u, cs[j]? = some u → (w.alloc (.cells cs.toArray t)).cell? ((⟨w.heap.size, 0, none⟩ : Addr).add j) = some u := fun j u hj => by
  rw [Addr.add_lit, Nat.zero_add, cell_of (heap_new w _)]
  simpa using hj
theorem Aside.undrew {b B : Nat} {w w' : World} (h : Aside b B w.drew w') : Aside b B w w' := ⟨h.os, h.tape, h.output, h.size, h.block⟩
theorem Rs.drew {a0 : Addr} {b : Nat} {w : World} {l : List UInt8} (h : Rs a0 b w l) : Rs a0 b w.drew l := ⟨h.me, h.err, h.ne, h.len⟩
theorem RdPost.ok {α : Type} {a0 : Addr} {b : Nat} {w : World} {q : Option (α × List UInt8)} {ret : α → Ending → World → Prop} {e : Ending} {w' : World} {x : α} {l' : List UInt8} (h : RdPost a0 b w q ret e w') (hq : q = some (x, l')) : ret x e w' ∧ Rs a0 b w' l' ∧ Aside b w.heap.size w w' := by
  rcases h with ⟨x', l1, hq', he, hs, ha⟩ | ⟨hq', _⟩
  · rw [hq] at hq'
    have e2 := Prod.mk.inj (Option.some.inj hq')
    rw [e2.1, e2.2]
    exact ⟨he, hs, ha⟩
  · rw [hq] at hq'; cases hq'
theorem RdPost.bad {α : Type} {a0 : Addr} {b : Nat} {w : World} {q : Option (α × List UInt8)} {ret : α → Ending → World → Prop} {e : Ending} {w' : World} (h : RdPost a0 b w q ret e w') (hq : q = none) : e = thrown (.iface 131 (.pointer (some a0))) ∧ Aside b w.heap.size w w' := by
  rcases h with ⟨x', l1, hq', _⟩ | ⟨_, h2⟩
  · rw [hq] at hq'; cases hq'
  · exact h2
theorem owns_aside {base e size b n : Nat} {w w' : World} {v : Value} {xs : List Value} {a0 : Addr} {l : List UInt8} (h : w.ownsRow base e size v n xs) (hr : Rs a0 b w l) (he : e ≠ 66) (ha : Aside b w.heap.size w w') : w'.ownsRow base e size v n xs :=
  owns_below h fun i cs hc => ha.block i (lt_of_heap hc) fun hi => by
    rw [hi, hr.me] at hc
    injection hc with hc
    injection hc with _ hc
    exact he hc.symm
theorem row_shape {w : World} {base e size : Nat} {v : Value} {n : Nat} {xs : List Value} (h : w.ownsRow base e size v n xs) : ∃ a c, v = .slice a n c := by
  rcases h.2 with ⟨rfl, rfl⟩ | ⟨g, cap, cur, rfl, _⟩
  · exact ⟨_, _, rfl⟩
  · exact ⟨_, _, rfl⟩
theorem owns_base {w : World} {base base' e size n : Nat} {v : Value} {xs : List Value} (h : w.ownsRow base e size v n xs) (hb : base' ≤ base) : w.ownsRow base' e size v n xs := by
  obtain ⟨h1, h2⟩ := h
  refine ⟨h1, ?_⟩
  rcases h2 with h2 | ⟨g, cap, cur, hv, hg, r⟩
  · exact .inl h2
  · exact .inr ⟨g, cap, cur, hv, by omega, r⟩
/-- What is read is put into the result's box. -/
theorem store_res {wr : World} {g : Nat} {cs : Array Value} {t : TypeId} (h : wr.heap[g]? = some (.cells cs t (0, 0))) (vs : List Value) (hl : vs.length = cs.size) (hone : vs.all (fun v => v.oneCell') = true) (ty n : Nat) (hn : vs.length = n) (hs : ∀ w, (sizeOf ty).run Tryd.prog w = .ok n w) :
    ∃ wz, (∀ (Q : Exit → Act → World → Prop) (ops : Array Oper) (o : Oper) (a : Act) (x y : Operand), o.guard = none → o.op = .store ty x y → a.eval x = .pointer (some ⟨g, 0, none⟩) → a.eval y = .agg vs.toArray → wpList Tryd.prog ops Q [] (a.put o.dst undef) wz → wpList Tryd.prog ops Q [o] a wr) ∧
      Hid ((∀ j (hj : j < vs.length), wz.cell? ⟨g, j, none⟩ = some vs[j]) ∧ wz = wr.setCells g 0 vs) := by
  refine ⟨_, fun Q ops o a x y h1 h2 h3 h4 h5 => ?_, setk h vs hl, rfl⟩
  exact wpList_store_k _ h1 x y ty h2 g 0 vs h3 h4 n hn hs hone _ rfl (rowk h (by omega)).1 (rowk h (by omega)).2 h5
/-- Another dot is read, and put behind the others. -/
theorem OpI.more {a0 : Addr} {b : Nat} {w wr w1 w2 : World} {o : OpV} {dv v' : Value} {l l1 : List UInt8} {d : D3} (h : OpI a0 b w o dv l wr) (hr : Rs a0 b w1 l1) (ha : Aside b wr.heap.size wr w1)
    (o' : Obj) (hn : w2.ownsRow (w.heap.size + 2) 62 3 v' (o.dots.length + 1) (o.dots.flatMap D3.cells ++ [.int .i64 d.p, .int .i64 d.t, .int .i64 d.a])) (hg : (w1.alloc o').grownBy w2 dv.ownBlock) :
    OpI a0 b w { o with dots := o.dots ++ [d] } v' l1 (w2.setCell ⟨w.heap.size + 1, 6, none⟩ v') := by
  have hf := h.fr.call hr ha
  have hsz := hf.size
  have hlt := hf.lt
  have hne : ∀ i, i < w.heap.size + 2 → w2.heap[i]? = w1.heap[i]? := fun i hi => by
    rw [hg.block i (by simp; omega) fun e => by
      have := (h.row.lt i e.symm).1
      omega, Below.heap_alloc _ _ _ (by omega)]
  have hf2 : Fr a0 b w 52 _ (opCells o dv) l1 w2 := ⟨⟨by rw [hne _ (by omega)]; exact hf.rs.me, by rw [World.cell?_of_block (w := w1) (hne 0 (by omega))]; exact hf.rs.err, hf.rs.ne, hf.rs.len⟩, hlt,
    ⟨hg.os.trans hf.aside.os, hg.tape.trans hf.aside.tape, hg.output.trans hf.aside.output, by have := hg.size; have := hf.aside.size; simp at *; omega, fun k hk hb => by rw [hne k (by omega)]; exact hf.aside.block k hk hb⟩,
    by rw [hne _ (by omega)]; exact hf.res, by rw [hne _ (by omega)]; exact hf.loc⟩
  refine ⟨hf2.set 6 v', ?_⟩
  have e1 : (o.dots ++ [d]).flatMap D3.cells = o.dots.flatMap D3.cells ++ [.int .i64 d.p, .int .i64 d.t, .int .i64 d.a] := by rw [List.flatMap_append]; rfl
  show (w2.setCell _ _).ownsRow _ 62 3 v' (o.dots ++ [d]).length ((o.dots ++ [d]).flatMap D3.cells)
  rw [e1, List.length_append]
  exact ownsRow_setCell_below hn (by show w.heap.size + 1 < _; omega) _
theorem OpI.at9 {a0 : Addr} {b : Nat} {w wr w1 w2 : World} {o : OpV} {dv : Value} {l l1 : List UInt8} (h : OpI a0 b w o dv l wr) (hr : Rs a0 b w1 l1) (ha : Aside b wr.heap.size wr w1)
    {o' : Obj} (hg : (w1.alloc o').grownBy w2 dv.ownBlock) : w2.cell? ⟨w.heap.size + 1, 6, none⟩ = some dv ∧ w2.frozen? ⟨w.heap.size + 1, 6, none⟩ = false := by
  have hf := h.fr.call hr ha
  have hsz := hf.size
  have e : w2.heap[w.heap.size + 1]? = w1.heap[w.heap.size + 1]? := by
    rw [hg.block _ (by simp; omega) fun e => by
      have := (h.row.lt _ e.symm).1
      omega, Below.heap_alloc _ _ _ (by omega)]
  rw [World.cell?_of_block (w := w1) e, World.frozen?_of_block (w := w1) e]
  exact ⟨hf.cell 6 dv rfl, hf.free 6⟩
set_option maxHeartbeats 8000000 in
theorem op_any (w : World) (a0 : Addr) (b : Nat) (l : List UInt8) (h : Rs a0 b w l) :
    Calls Tryd.prog 60 #[.pointer (some ⟨b, 0, none⟩)] w fun e w' => RdPost a0 b w (opP l) (OpRet w.heap.size) e w' := by
  have G0 := hid (Fr.start (t := 52) h [.int .i64 0, .string ByteArray.empty, .int .i64 0, .string ByteArray.empty, .int .i64 0, .bool false, .slice none 0 0] [.int .i64 0, .string ByteArray.empty, .int .i64 0, .string ByteArray.empty, .int .i64 0, .bool false, .slice none 0 0])
  have K1 := hid (number_any _ a0 b l G0.out.rs)
  go_enter Tryd.func60, Tryd.ntmps60
  go_wp2_with fail
  refine K1.out.mono ?_
  rintro e w1 (⟨x1, l1, hq1, rfl, hs1, ha1⟩ | ⟨hq1, rfl, ha1⟩)
  · have F1 := hid (G0.out.call hs1 ha1)
    have c1 := F1.out.cell 0 _ rfl
    have z1 := F1.out.free 0
    have G1 := hid (F1.out.set 0 (.int .i64 x1))
    clear hs1 ha1
    have K2 := hid (text_any _ a0 b l1 G1.out.rs)
    go_wp2_with fail
    refine K2.out.mono ?_
    rintro e w2 (⟨x2, l2, hq2, rfl, hs2, ha2⟩ | ⟨hq2, rfl, ha2⟩)
    · have F2 := hid (G1.out.call hs2 ha2)
      have c2 := F2.out.cell 1 _ rfl
      have z2 := F2.out.free 1
      have G2 := hid (F2.out.set 1 (.string x2))
      clear hs2 ha2 c1 z1
      have K3 := hid (number_any _ a0 b l2 G2.out.rs)
      go_wp2_with fail
      refine K3.out.mono ?_
      rintro e w3 (⟨x3, l3, hq3, rfl, hs3, ha3⟩ | ⟨hq3, rfl, ha3⟩)
      · have F3 := hid (G2.out.call hs3 ha3)
        have c3 := F3.out.cell 2 _ rfl
        have z3 := F3.out.free 2
        have G3 := hid (F3.out.set 2 (.int .i64 x3))
        clear hs3 ha3 c2 z2
        have K4 := hid (text_any _ a0 b l3 G3.out.rs)
        go_wp2_with fail
        refine K4.out.mono ?_
        rintro e w4 (⟨x4, l4, hq4, rfl, hs4, ha4⟩ | ⟨hq4, rfl, ha4⟩)
        · have F4 := hid (G3.out.call hs4 ha4)
          have c4 := F4.out.cell 3 _ rfl
          have z4 := F4.out.free 3
          have G4 := hid (F4.out.set 3 (.string x4))
          clear hs4 ha4 c3 z3
          have K5 := hid (number_any _ a0 b l4 G4.out.rs)
          go_wp2_with fail
          refine K5.out.mono ?_
          rintro e w5 (⟨x5, l5, hq5, rfl, hs5, ha5⟩ | ⟨hq5, rfl, ha5⟩)
          · have F5 := hid (G4.out.call hs5 ha5)
            have c5 := F5.out.cell 4 _ rfl
            have z5 := F5.out.free 4
            have G5 := hid (F5.out.set 4 (.int .i64 x5))
            clear hs5 ha5 c4 z4
            have K6 := hid (truth_any _ a0 b l5 G5.out.rs)
            go_wp2_with fail
            refine K6.out.mono ?_
            rintro e w6 (⟨x6, l6, hq6, rfl, hs6, ha6⟩ | ⟨hq6, rfl, ha6⟩)
            · have F6 := hid (G5.out.call hs6 ha6)
              have c6 := F6.out.cell 5 _ rfl
              have z6 := F6.out.free 5
              have G6 := hid (F6.out.set 5 (.bool x6))
              clear hs6 ha6 c5 z5
              have K7 := hid (count_any _ a0 b l6 G6.out.rs)
              go_wp2_with fail
              refine K7.out.mono ?_
              rintro e w7 (⟨x7, l7, hq7, ⟨rfl, hx7⟩, hs7, ha7⟩ | ⟨hq7, rfl, ha7⟩)
              · have F7 := hid (G6.out.call hs7 ha7)
                have G7 := F7
                clear hs7 ha7 c6 z6
                have I0 : Hid (OpI a0 b w ⟨x1, x2, x3, x4, x5, x6, []⟩ (.slice none 0 0) l7 w7) := ⟨G7.out, World.ownsRow_nil _ _ _ _⟩
                obtain ⟨i0, hi, hz0, hz1, hz2⟩ := info_parts Tryd.info62
                go_wp2
                go_loopw [24] (fun i wr => ∃ (k : Nat) (ds : List D3) (dv : Value) (lk : List UInt8), k ≤ x7 ∧ i = .int .i64 k ∧ ds.length = k ∧ manyP dotP x7 l7 = appP ds (manyP dotP (x7 - k) lk) ∧ OpI a0 b w ⟨x1, x2, x3, x4, x5, x6, ds⟩ dv lk wr) (fun i _ => x7 - (intOf i).toNat)
                case atStart => exact ⟨0, [], _, l7, Nat.zero_le _, rfl, rfl, (appP_nil _).symm, I0.out⟩
                case round =>
                  obtain ⟨k, ds, dv, lk, hk, rfl, hdl, hm, hI⟩ := hrel
                  have HI := hid hI
                  have HM := hid hm
                  have HDL := hid hdl
                  clear hI hm hdl
                  by_cases hlt : k < x7
                  · have q6 := HI.out.fr.cell 6 dv rfl
                    have f6 := HI.out.fr.free 6
                    have hk2 : k + 1 ≤ maxLen := by unfold maxLen; omega
                    have hk3 : (k + 1) * 24 ≤ 140737488355328 := by omega
                    have hbs := HI.out.fr.size
                    cases hd : dotP lk with
                    | none =>
                      have KD := hid ((dot_any wr.drew a0 b lk HI.out.fr.rs.drew).mono fun e w' h => h.bad hd)
                      have HD := hid hd
                      clear hd
                      go_wp2_with fail
                      have FIN : Hid (opP l = none) := by
                        show opP l = none
                        unfold opP
                        rw [step hq1, step hq2, step hq3, step hq4, step hq5, step hq6, step hq7]
                        show (manyP dotP x7 l7).bind _ = none
                        rw [HM.out, show x7 - k = (x7 - k - 1) + 1 by omega, many_none HD.out]
                        rfl
                      refine wp_region_any (by kernel_rfl) ?_
                      change wpAny _ _ _ _ _ _ _ (World.drew _)
                      refine wpAny_take (i := 0) (v := .pointer (some ⟨w.heap.size + 1, 6, none⟩)) rfl (by kernel_rfl) (by kernel_rfl) (by kernel_rfl) (fun _ _ _ h => h) (Or.inl ⟨by rfl, ?_⟩) ?_
                      · intro w
                        go_simp
                      refine wpAny_take (i := 2) (v := .pointer (some ⟨b, 0, none⟩)) rfl (by kernel_rfl) (by kernel_rfl) (by kernel_rfl) (fun _ _ _ h => h) (Or.inl ⟨by rfl, ?_⟩) ?_
                      · intro w
                        go_simp
                      refine wpAny_ready (rs := [1, 3]) (by kernel_rfl) (by simp) ?_
                      refine AllReady.cons rfl (fun K hK => ?_) ?_
                      · go_simp
                        refine hK _ _ ?_
                        refine wpAny_ready (rs := [3]) (by kernel_rfl) (by simp) ?_
                        refine AllReady.cons rfl (fun K hK => ?_) AllReady.nil
                        go_simp
                        refine KD.out.mono ?_
                        rintro e w8 ⟨rfl, ha8⟩
                        exact ⟨rfl, .inr ⟨FIN.out, rfl, HI.out.fr.aside.trans ha8.undrew (by show w.heap.size ≤ wr.heap.size; omega)⟩⟩
                      · refine AllReady.cons rfl (fun K hK => ?_) AllReady.nil
                        go_simp
                        refine KD.out.mono ?_
                        rintro e w8 ⟨rfl, ha8⟩
                        exact ⟨rfl, .inr ⟨FIN.out, rfl, HI.out.fr.aside.trans ha8.undrew (by show w.heap.size ≤ wr.heap.size; omega)⟩⟩
                    | some dl =>
                      obtain ⟨d, l1⟩ := dl
                      have HD := hid hd
                      have KD := hid ((dot_any wr.drew a0 b lk HI.out.fr.rs.drew).mono fun e w' h => h.ok hd)
                      clear hd
                      go_wp2_with fail
                      go_region_law (first
                        | (refine step_append_own rfl _ _ 50 rfl (w.heap.size + 2) 62 i0 _ 3 24 Tryd.underlying50 hi hz0 hz1 hz2 rfl (by decide) dv ds.length (ds.flatMap D3.cells) rfl (HR8.out.alloc _) _ 1 1 _ rfl rfl (cells3_new _ _ _) (dots_one _) (by rw [HDL.out]; exact hk2) (by rw [HDL.out]; exact hk3) (hb8 _) ?_; intro v' w9 hrow hgr; obtain ⟨av, cv, hv9⟩ := row_shape hrow; subst hv9; obtain ⟨c9, z9⟩ := HI.out.at9 HS8.out HA8.out hgr; have HI9 := hid (HI.out.more HS8.out HA8.out _ hrow hgr); clear hrow hgr)
                        | (go_simp; refine KD.out.mono ?_; rintro e w8 ⟨rfl, hs8, ha8⟩; have HR8 := hid (owns_aside HI.out.row HI.out.fr.rs (by decide) ha8.undrew); have q8 := (HI.out.fr.call hs8 ha8.undrew).cell 6 dv rfl; have q8a := (fun o => cell_alloc q8 o); have HS8 := hid hs8; have HA8 := hid ha8.undrew; have hb8 : ∀ o, w.heap.size + 2 ≤ (w8.alloc o).heap.size := (fun o => by have := ha8.undrew.size; simp; omega); clear hs8 ha8))
                      all_goals
                        go_wp2
                        refine ⟨⟨k + 1, ds ++ [d], _, l1, by omega, by go_num, by rw [List.length_append, HDL.out]; rfl, ?_, HI9.out⟩, by simp [intOf]; omega⟩
                        rw [HM.out, show x7 - k = (x7 - (k + 1)) + 1 by omega, many_some HD.out]
                  · obtain rfl : k = x7 := by omega
                    have q0 := HI.out.fr.cell 0 _ rfl
                    have q1 := HI.out.fr.cell 1 _ rfl
                    have q2 := HI.out.fr.cell 2 _ rfl
                    have q3 := HI.out.fr.cell 3 _ rfl
                    have q4 := HI.out.fr.cell 4 _ rfl
                    have q5 := HI.out.fr.cell 5 _ rfl
                    have q6 := HI.out.fr.cell 6 _ rfl
                    obtain ⟨ao, co, hdv⟩ := row_shape HI.out.row
                    subst hdv
                    obtain ⟨wz, STORE, HZ⟩ := store_res HI.out.fr.res [.int .i64 x1, .string x2, .int .i64 x3, .string x4, .int .i64 x5, .bool x6, .slice ao ds.length co] rfl rfl 52 7 rfl Tryd.sizeOf52
                    go_wp2_with (refine STORE _ _ _ _ (.tmp 2) (.tmp 34) rfl rfl rfl rfl ?_)
                    refine bodyPost_ret (ret_cell (k := 7) Tryd.results60 Tryd.isAgg52 Tryd.sizeOf52 _ _ w.heap.size [.int .i64 x1, .string x2, .int .i64 x3, .string x4, .int .i64 x5, .bool x6, .slice ao ds.length co] rfl rfl HZ.out.1) rfl ?_
                    refine .inl ⟨⟨x1, x2, x3, x4, x5, x6, ds⟩, lk, ?_, ⟨_, rfl, _, rfl, ?_⟩, by rw [HZ.out.2]; exact HI.out.fr.rs.sets h.lt _ _, by rw [HZ.out.2]; exact HI.out.fr.aside.sets (Nat.le_refl _) _ _⟩
                    · unfold opP
                      rw [step hq1, step hq2, step hq3, step hq4, step hq5, step hq6, step hq7]
                      show (manyP dotP k l7).bind _ = _
                      rw [HM.out, Nat.sub_self, many_zero]
                      rfl
                    · rw [HZ.out.2]
                      exact owns_base (owns_below HI.out.row fun i cs hc => setCells_other _ _ _ _ _ fun e => by
                        rw [e, HI.out.fr.res] at hc
                        injection hc with hc
                        injection hc with _ hc
                        cases hc) (by omega)
              · go_wp2
                exact ⟨rfl, .inr ⟨by unfold opP; rw [step hq1, step hq2, step hq3, step hq4, step hq5, step hq6, hq7]; rfl, rfl, G6.out.aside.trans ha7 (by have := G6.out.size; omega)⟩⟩
            · go_wp2
              exact ⟨rfl, .inr ⟨by unfold opP; rw [step hq1, step hq2, step hq3, step hq4, step hq5, hq6]; rfl, rfl, G5.out.aside.trans ha6 (by have := G5.out.size; omega)⟩⟩
          · go_wp2
            exact ⟨rfl, .inr ⟨by unfold opP; rw [step hq1, step hq2, step hq3, step hq4, hq5]; rfl, rfl, G4.out.aside.trans ha5 (by have := G4.out.size; omega)⟩⟩
        · go_wp2
          exact ⟨rfl, .inr ⟨by unfold opP; rw [step hq1, step hq2, step hq3, hq4]; rfl, rfl, G3.out.aside.trans ha4 (by have := G3.out.size; omega)⟩⟩
      · go_wp2
        exact ⟨rfl, .inr ⟨by unfold opP; rw [step hq1, step hq2, hq3]; rfl, rfl, G2.out.aside.trans ha3 (by have := G2.out.size; omega)⟩⟩
    · go_wp2
      exact ⟨rfl, .inr ⟨by unfold opP; rw [step hq1, hq2]; rfl, rfl, G1.out.aside.trans ha2 (by have := G1.out.size; omega)⟩⟩
  · go_wp2
    exact ⟨rfl, .inr ⟨by unfold opP; rw [hq1]; rfl, rfl, G0.out.aside.trans ha1 (by have := G0.out.size; omega)⟩⟩
end Go.Proofs.YtkonjpcgfdcfbaaDoor
namespace Go.Proofs.YtkonjpcgfdcfbaaDoor
open Go.RowKit
set_option maxRecDepth 100000

theorem Tryd.info3 : (Tryd.prog.info? 3).map (fun i => (i.zero, i.size, i.bytes)) = some (some (.int .i64 0), 1, 8) := by kernel_rfl
theorem Tryd.info52 : (Tryd.prog.info? 52).map (fun i => (i.zero, i.size, i.bytes)) = some (some (.agg #[.int .i64 0, .string ByteArray.empty, .int .i64 0, .string ByteArray.empty, .int .i64 0, .bool false, .slice none 0 0]), 7, 88) := by kernel_rfl
/-- A commit in rows of the call's own. -/
def ComOwn (base : Nat) (w : World) (wv ov : Value) (c : ComV) : Prop := w.ownsRow base 3 1 wv c.when_.length (c.when_.map (Value.int .i64)) ∧ ∃ rows, w.ownsRow base 52 7 ov c.ops.length rows.flatten ∧ F2 (OpOwn base w) rows c.ops
def ComRet (base : Nat) (c : ComV) (e : Ending) (w' : World) : Prop := ∃ wv ov, e = .returned (.agg #[wv, .int .i64 c.place, ov]) ∧ ComOwn base w' wv ov c
theorem OpOwn.kept {base : Nat} {w w' : World} {r : List Value} {o : OpV} (h : OpOwn base w r o) (hb : ∀ (b : Nat) (cs : Array Value), w.heap[b]? = some (.cells cs 62 (0, 0)) → w'.heap[b]? = w.heap[b]?) : OpOwn base w' r o :=
  let ⟨dv, h1, h2⟩ := h; ⟨dv, h1, owns_below h2 hb⟩
/-- Rows of the types of a commit's own are as they were. -/
def Keeps (w w' : World) : Prop := ∀ t, t = 3 ∨ t = 52 ∨ t = 62 → ∀ (b : Nat) (cs : Array Value), w.heap[b]? = some (.cells cs t (0, 0)) → w'.heap[b]? = w.heap[b]?
theorem ComOwn.kept {base : Nat} {w w' : World} {wv ov : Value} {c : ComV} (h : ComOwn base w wv ov c) (k : Keeps w w') : ComOwn base w' wv ov c :=
  let ⟨h1, rows, h2, h3⟩ := h
  ⟨owns_below h1 (k 3 (.inl rfl)), rows, owns_below h2 (k 52 (.inr (.inl rfl))), f2_mono (fun _ _ h => h.kept (k 62 (.inr (.inr rfl)))) h3⟩
theorem Keeps.aside {a0 : Addr} {b : Nat} {w w' : World} {l : List UInt8} (hr : Rs a0 b w l) (ha : Aside b w.heap.size w w') : Keeps w w' := fun t ht i cs hc => ha.block i (lt_of_heap hc) fun hi => by
  rw [hi, hr.me] at hc
  injection hc with hc
  injection hc with _ hc
  rcases ht with rfl | rfl | rfl <;> cases hc
theorem Keeps.set {w : World} {g j : Nat} {cs : Array Value} {t : TypeId} (h : w.heap[g]? = some (.cells cs t (0, 0))) (ht : t ≠ 3 ∧ t ≠ 52 ∧ t ≠ 62) (v : Value) : Keeps w (w.setCell ⟨g, j, none⟩ v) := fun t' ht' i cs' hc => Below.heap_setCell _ _ _ _ fun e => by
  have e' : i = g := e
  rw [e', h] at hc
  injection hc with hc
  injection hc with _ hc
  exact ht'.elim (fun h1 => ht.1 (hc.trans h1)) fun h1 => h1.elim (fun h2 => ht.2.1 (hc.trans h2)) fun h2 => ht.2.2 (hc.trans h2)
theorem Keeps.sets {w : World} {g : Nat} {cs : Array Value} {t : TypeId} (h : w.heap[g]? = some (.cells cs t (0, 0))) (ht : t ≠ 3 ∧ t ≠ 52 ∧ t ≠ 62) (o : Nat) (vs : List Value) : Keeps w (w.setCells g o vs) := fun t' ht' i cs' hc => setCells_other _ _ _ _ _ fun e => by
  rw [e, h] at hc
  injection hc with hc
  injection hc with _ hc
  exact ht'.elim (fun h1 => ht.1 (hc.trans h1)) fun h1 => h1.elim (fun h2 => ht.2.1 (hc.trans h2)) fun h2 => ht.2.2 (hc.trans h2)
theorem Keeps.below {w w' : World} (h : Below w.heap.size w w') : Keeps w w' := fun _ _ i _ hc => h.block i (lt_of_heap hc)
theorem f2_own_base {base base' : Nat} {w : World} {r : List Value} {o : OpV} (h : OpOwn base w r o) (hb : base' ≤ base) : OpOwn base' w r o :=
  let ⟨dv, h1, h2⟩ := h; ⟨dv, h1, owns_base h2 hb⟩
/-- A commit is being read. -/
structure ComI (a0 : Addr) (b : Nat) (w : World) (c : ComV) (wv ov : Value) (l : List UInt8) (wr : World) : Prop where
  fr : Fr a0 b w 25 [.slice none 0 0, .int .i64 0, .slice none 0 0] [wv, .int .i64 c.place, ov] l wr
  own : ComOwn (w.heap.size + 2) wr wv ov c
theorem ComI.start {a0 : Addr} {b : Nat} {w wr : World} {l : List UInt8} (h : Fr a0 b w 25 [.slice none 0 0, .int .i64 0, .slice none 0 0] [.slice none 0 0, .int .i64 0, .slice none 0 0] l wr) : ComI a0 b w ⟨[], 0, []⟩ (.slice none 0 0) (.slice none 0 0) l wr :=
  ⟨h, World.ownsRow_nil _ _ _ _, [], World.ownsRow_nil _ _ _ _, trivial⟩
theorem ComI.call {a0 : Addr} {b : Nat} {w wr w1 : World} {c : ComV} {wv ov : Value} {l l1 : List UInt8} (h : ComI a0 b w c wv ov l wr) (hr : Rs a0 b w1 l1) (ha : Aside b wr.heap.size wr w1) : ComI a0 b w c wv ov l1 w1 :=
  ⟨h.fr.call hr ha, h.own.kept (.aside h.fr.rs ha)⟩
theorem ComI.place {a0 : Addr} {b : Nat} {w wr : World} {c : ComV} {wv ov : Value} {l : List UInt8} (h : ComI a0 b w c wv ov l wr) (p : Int) : ComI a0 b w { c with place := p } wv ov l (wr.setCell ⟨w.heap.size + 1, 1, none⟩ (.int .i64 p)) :=
  ⟨h.fr.set 1 _, h.own.kept (.set h.fr.loc (by decide) _)⟩
/-- A row of type t of one's own grows: nothing else turns. -/
theorem grown_ne {w1 w2 : World} {o' : Obj} {base e size n : Nat} {v : Value} {xs : List Value} (hown : w1.ownsRow base e size v n xs) (hg : (w1.alloc o').grownBy w2 v.ownBlock) : ∀ (b : Nat) (cs : Array Value) (t : TypeId), t ≠ e → w1.heap[b]? = some (.cells cs t (0, 0)) → w2.heap[b]? = w1.heap[b]? := fun b cs t ht hb => by
  rw [hg.block b (by have := lt_of_heap hb; simp; omega) fun he => by
    obtain ⟨cs', h'⟩ := own_type hown he.symm
    rw [hb] at h'
    injection h' with h'
    injection h' with _ h'
    exact ht h', Below.heap_alloc _ _ _ (lt_of_heap hb)]
theorem Fr.grown {a0 : Addr} {b : Nat} {w w1 w2 : World} {c : List Value} {l : List UInt8} {cz : List Value} {o' : Obj} {base e size n : Nat} {v : Value} {xs : List Value} (h : Fr a0 b w 25 cz c l w1) (he : e ≠ 25 ∧ e ≠ 66) (hbase : w.heap.size + 2 ≤ base) (hown : w1.ownsRow base e size v n xs) (hg : (w1.alloc o').grownBy w2 v.ownBlock) : Fr a0 b w 25 cz c l w2 := by
  have hne := grown_ne hown hg
  have hlow : ∀ i, i < w.heap.size + 2 → w2.heap[i]? = w1.heap[i]? := fun i hi => by
    have := h.size
    rw [hg.block i (by simp; omega) fun e => by
      have := (hown.lt i e.symm).1
      omega, Below.heap_alloc _ _ _ (by omega)]
  exact ⟨⟨by rw [hne _ _ 66 (Ne.symm he.2) h.rs.me]; exact h.rs.me, by rw [World.cell?_of_block (w := w1) (hlow 0 (by omega))]; exact h.rs.err, h.rs.ne, h.rs.len⟩, h.lt,
    ⟨hg.os.trans h.aside.os, hg.tape.trans h.aside.tape, hg.output.trans h.aside.output, by have := hg.size; have := h.aside.size; simp at *; omega, fun k hk hb => by rw [hlow k (by omega)]; exact h.aside.block k hk hb⟩,
    by rw [hne _ _ 25 (Ne.symm he.1) h.res]; exact h.res, by rw [hne _ _ 25 (Ne.symm he.1) h.loc]; exact h.loc⟩
theorem ComI.whenMore {a0 : Addr} {b : Nat} {w w1 w2 : World} {c : ComV} {wv ov v' : Value} {l : List UInt8} {x : Int} (h : ComI a0 b w c wv ov l w1) {o' : Obj} (hn : w2.ownsRow (w.heap.size + 2) 3 1 v' (c.when_.length + 1) (c.when_.map (Value.int .i64) ++ [.int .i64 x])) (hg : (w1.alloc o').grownBy w2 wv.ownBlock) :
    (w2.cell? ⟨w.heap.size + 1, 0, none⟩ = some wv ∧ w2.frozen? ⟨w.heap.size + 1, 0, none⟩ = false) ∧ ComI a0 b w { c with when_ := c.when_ ++ [x] } v' ov l (w2.setCell ⟨w.heap.size + 1, 0, none⟩ v') := by
  have hne := grown_ne h.own.1 hg
  have hf := h.fr.grown (e := 3) (by decide) (Nat.le_refl _) h.own.1 hg
  obtain ⟨_, rows, h2, h3⟩ := h.own
  have k := Keeps.set (j := 0) hf.loc (by decide) v'
  refine ⟨⟨hf.cell 0 wv rfl, hf.free 0⟩, hf.set 0 v', ?_, rows, owns_below (owns_below h2 fun b cs hc => hne b cs 52 (by decide) hc) (k 52 (by decide)), f2_mono (fun _ _ h => (h.kept fun b cs hc => hne b cs 62 (by decide) hc).kept (k 62 (by decide))) h3⟩
  show World.ownsRow _ _ 3 1 v' (c.when_ ++ [x]).length ((c.when_ ++ [x]).map (Value.int .i64))
  rw [List.map_append, List.length_append]
  exact owns_below hn (k 3 (by decide))
theorem ComI.opMore {a0 : Addr} {b : Nat} {w w1 w2 : World} {c : ComV} {wv ov v' : Value} {l : List UInt8} {o : OpV} {r : List Value} (h : ComI a0 b w c wv ov l w1) (ho : OpOwn (w.heap.size + 2) w1 r o) {rows : List (List Value)} (hrow : w1.ownsRow (w.heap.size + 2) 52 7 ov c.ops.length rows.flatten) (hrows : F2 (OpOwn (w.heap.size + 2) w1) rows c.ops) {o' : Obj} (hn : w2.ownsRow (w.heap.size + 2) 52 7 v' (c.ops.length + 1) (rows.flatten ++ r)) (hg : (w1.alloc o').grownBy w2 ov.ownBlock) :
    (w2.cell? ⟨w.heap.size + 1, 2, none⟩ = some ov ∧ w2.frozen? ⟨w.heap.size + 1, 2, none⟩ = false) ∧ ComI a0 b w { c with ops := c.ops ++ [o] } wv v' l (w2.setCell ⟨w.heap.size + 1, 2, none⟩ v') := by
  have hne := grown_ne hrow hg
  have hf := h.fr.grown (e := 52) (by decide) (Nat.le_refl _) hrow hg
  have k := Keeps.set (j := 2) hf.loc (by decide) v'
  refine ⟨⟨hf.cell 2 ov rfl, hf.free 2⟩, hf.set 2 v', owns_below (owns_below h.own.1 fun b cs hc => hne b cs 3 (by decide) hc) (k 3 (by decide)), rows ++ [r], ?_, ?_⟩
  · show World.ownsRow _ _ 52 7 v' (c.ops ++ [o]).length _
    rw [List.flatten_append, List.length_append]
    exact owns_below (by simpa using hn) (k 52 (by decide))
  · exact f2_append (f2_mono (fun _ _ h => (h.kept fun b cs hc => hne b cs 62 (by decide) hc).kept (k 62 (by decide))) hrows) ((ho.kept fun b cs hc => hne b cs 62 (by decide) hc).kept (k 62 (by decide)))
theorem OpRet.shape {base : Nat} {o : OpV} {e : Ending} {w' : World} (h : OpRet base o e w') : ∃ da dc, e = .returned (.agg #[.int .i64 o.at_, .string o.key, .int .i64 o.kind, .string o.text, .int .i64 o.n, .bool o.rem, .slice da o.dots.length dc]) ∧ OpOwn base w' [.int .i64 o.at_, .string o.key, .int .i64 o.kind, .string o.text, .int .i64 o.n, .bool o.rem, .slice da o.dots.length dc] o := by
  obtain ⟨r, rfl, dv, rfl, hd⟩ := h
  obtain ⟨da, dc, rfl⟩ := row_shape hd
  exact ⟨da, dc, rfl, _, rfl, hd⟩
theorem ComOwn.base {base base' : Nat} {w : World} {wv ov : Value} {c : ComV} (h : ComOwn base w wv ov c) (hb : base' ≤ base) : ComOwn base' w wv ov c :=
  let ⟨h1, rows, h2, h3⟩ := h; ⟨owns_base h1 hb, rows, owns_base h2 hb, f2_mono (fun _ _ h => f2_own_base h hb) h3⟩
theorem one_int (x : Int) : ∀ u ∈ ([.int .i64 x] : List Value), u.oneCell' = true := fun u hu => by simp at hu; subst hu; rfl
theorem one7 (o : OpV) (a : Option Addr) (l c : Nat) : ∀ v ∈ ([.int .i64 o.at_, .string o.key, .int .i64 o.kind, .string o.text, .int .i64 o.n, .bool o.rem, .slice a l c] : List Value), v.oneCell' = true := fun v hv => by
  simp at hv
  rcases hv with rfl | rfl | rfl | rfl | rfl | rfl | rfl <;> rfl
end Go.Proofs.YtkonjpcgfdcfbaaDoor
namespace Go.Proofs.YtkonjpcgfdcfbaaDoor
open Go.RowKit
set_option maxRecDepth 100000

set_option maxHeartbeats 8000000 in
theorem commit_any (w : World) (a0 : Addr) (b : Nat) (l : List UInt8) (h : Rs a0 b w l) :
    Calls Tryd.prog 53 #[.pointer (some ⟨b, 0, none⟩)] w fun e w' => RdPost a0 b w (comP l) (ComRet w.heap.size) e w' := by
  obtain ⟨i3, hi3, hx0, hx1, hx2⟩ := info_parts Tryd.info3
  obtain ⟨i52, hi52, hy0, hy1, hy2⟩ := info_parts Tryd.info52
  have G0 := hid (Fr.start (t := 25) h [.slice none 0 0, .int .i64 0, .slice none 0 0] [.slice none 0 0, .int .i64 0, .slice none 0 0])
  have K1 := hid (count_any _ a0 b l G0.out.rs)
  go_enter Tryd.func53, Tryd.ntmps53
  go_wp2_with fail
  refine K1.out.mono ?_
  rintro e w1 (⟨x1, l1, hq1, ⟨rfl, hx6⟩, hs1, ha1⟩ | ⟨hq1, rfl, ha1⟩)
  · have I0 := hid (ComI.start (G0.out.call hs1 ha1))
    clear hs1 ha1
    go_wp2
    go_loopw [6] (fun i wr => ∃ (k : Nat) (ws : List Int) (wv : Value) (lk : List UInt8), k ≤ x1 ∧ i = .int .i64 k ∧ ws.length = k ∧ manyP numP x1 l1 = appP ws (manyP numP (x1 - k) lk) ∧ ComI a0 b w ⟨ws, 0, []⟩ wv (.slice none 0 0) lk wr) (fun i _ => x1 - (intOf i).toNat)
    case atStart => exact ⟨0, [], _, l1, Nat.zero_le _, rfl, rfl, (appP_nil _).symm, I0.out⟩
    case round =>
      obtain ⟨k, ws, wv, lk, hk, rfl, hdl, hm, hI⟩ := hrel
      have HI := hid hI
      have HM := hid hm
      have HDL := hid hdl
      clear hI hm hdl
      by_cases hlt : k < x1
      · have q0 := HI.out.fr.cell 0 wv rfl
        have f0 := HI.out.fr.free 0
        have hk2 : k + 1 ≤ maxLen := by unfold maxLen; omega
        have hk3 : (k + 1) * 8 ≤ 140737488355328 := by omega
        have hbs := HI.out.fr.size
        cases hd : numP lk with
        | none =>
          have KD := hid ((number_any wr.drew a0 b lk HI.out.fr.rs.drew).mono fun e w' h => h.bad hd)
          have HD := hid hd
          clear hd
          go_wp2_with fail
          have FIN : Hid (comP l = none) := by
            show comP l = none
            unfold comP
            rw [step hq1]
            show (manyP numP x1 l1).bind _ = none
            rw [HM.out, show x1 - k = (x1 - k - 1) + 1 by omega, many_none HD.out]
            rfl
          refine wp_region_any (by kernel_rfl) ?_
          change wpAny _ _ _ _ _ _ _ (World.drew _)
          refine wpAny_take (i := 0) (v := .pointer (some ⟨w.heap.size + 1, 0, none⟩)) rfl (by kernel_rfl) (by kernel_rfl) (by kernel_rfl) (fun _ _ _ h => h) (Or.inl ⟨by rfl, ?_⟩) ?_
          · intro w
            go_simp
          refine wpAny_take (i := 2) (v := .pointer (some ⟨b, 0, none⟩)) rfl (by kernel_rfl) (by kernel_rfl) (by kernel_rfl) (fun _ _ _ h => h) (Or.inl ⟨by rfl, ?_⟩) ?_
          · intro w
            go_simp
          refine wpAny_ready (rs := [1, 3]) (by kernel_rfl) (by simp) ?_
          refine AllReady.cons rfl (fun K hK => ?_) ?_
          · go_simp
            refine hK _ _ ?_
            refine wpAny_ready (rs := [3]) (by kernel_rfl) (by simp) ?_
            refine AllReady.cons rfl (fun K hK => ?_) AllReady.nil
            go_simp
            refine KD.out.mono ?_
            rintro e w8 ⟨rfl, ha8⟩
            exact ⟨rfl, .inr ⟨FIN.out, rfl, HI.out.fr.aside.trans ha8.undrew (by show w.heap.size ≤ wr.heap.size; omega)⟩⟩
          · refine AllReady.cons rfl (fun K hK => ?_) AllReady.nil
            go_simp
            refine KD.out.mono ?_
            rintro e w8 ⟨rfl, ha8⟩
            exact ⟨rfl, .inr ⟨FIN.out, rfl, HI.out.fr.aside.trans ha8.undrew (by show w.heap.size ≤ wr.heap.size; omega)⟩⟩
        | some dl =>
          obtain ⟨d, l9⟩ := dl
          have HD := hid hd
          have KD := hid ((number_any wr.drew a0 b lk HI.out.fr.rs.drew).mono fun e w' h => h.ok hd)
          clear hd
          go_wp2_with fail
          go_region_law (first
            | (refine step_append_own rfl _ _ 22 rfl (w.heap.size + 2) 3 i3 _ 1 8 Tryd.underlying22 hi3 hx0 hx1 hx2 rfl (by decide) wv ws.length (ws.map (Value.int .i64)) rfl (HI8.out.own.1.alloc _) _ 1 1 _ rfl rfl (cells3_new _ _ _) (one_int _) (by rw [HDL.out]; exact hk2) (by rw [HDL.out]; exact hk3) (hb8 _) ?_; intro v' w9 hrow hgr; obtain ⟨av, cv, hv9⟩ := row_shape hrow; subst hv9; obtain ⟨⟨c9, z9⟩, h9⟩ := HI8.out.whenMore hrow hgr; have HI9 := hid h9; clear hrow hgr h9)
            | (go_simp; refine KD.out.mono ?_; rintro e w8 ⟨rfl, hs8, ha8⟩; have HI8 := hid (HI.out.call hs8 ha8.undrew); have q8 := HI8.out.fr.cell 0 _ rfl; have q8a := (fun o => cell_alloc q8 o); have hb8 : ∀ o, w.heap.size + 2 ≤ (w8.alloc o).heap.size := (fun o => by have := ha8.undrew.size; simp; omega); clear hs8 ha8))
          all_goals
            go_wp2
            refine ⟨⟨k + 1, ws ++ [d], _, l9, by omega, by go_num, by rw [List.length_append, HDL.out]; rfl, ?_, HI9.out⟩, by simp [intOf]; omega⟩
            rw [HM.out, show x1 - k = (x1 - (k + 1)) + 1 by omega, many_some HD.out]
      · obtain rfl : k = x1 := by omega
        have HQ2 : Hid (manyP numP k l1 = some (ws, lk)) := by show manyP numP k l1 = _; rw [HM.out, Nat.sub_self, many_zero]
        have K3 := hid (number_any _ a0 b lk HI.out.fr.rs)
        go_wp2_with fail
        refine K3.out.mono ?_
        rintro e w3 (⟨x3, l3, hq3, rfl, hs3, ha3⟩ | ⟨hq3, rfl, ha3⟩)
        · have I3 := hid (HI.out.call hs3 ha3)
          have c3 := I3.out.fr.cell 1 _ rfl
          have z3 := I3.out.fr.free 1
          have G3 := hid (I3.out.place x3)
          have K4 := hid (count_any _ a0 b l3 G3.out.fr.rs)
          clear hs3 ha3
          go_wp2_with fail
          refine K4.out.mono ?_
          rintro e w4 (⟨x4, l4, hq4, ⟨rfl, hx46⟩, hs4, ha4⟩ | ⟨hq4, rfl, ha4⟩)
          · have I4 := hid (G3.out.call hs4 ha4)
            clear hs4 ha4 c3 z3
            have HWS := hid HI.out.fr.size
            clear HM HDL HI hlt hk K3 K4
            go_wp2
            go_loopw [21] (fun i wr => ∃ (k : Nat) (os : List OpV) (ov : Value) (lk : List UInt8), k ≤ x4 ∧ i = .int .i64 k ∧ os.length = k ∧ manyP opP x4 l4 = appP os (manyP opP (x4 - k) lk) ∧ ComI a0 b w ⟨ws, x3, os⟩ wv ov lk wr) (fun i _ => x4 - (intOf i).toNat)
            case atStart => exact ⟨0, [], _, l4, Nat.zero_le _, rfl, rfl, (appP_nil _).symm, I4.out⟩
            case round =>
              obtain ⟨k, os, ov, lk, hk, rfl, hdl, hm, hI⟩ := hrel
              have HI := hid hI
              have HM := hid hm
              have HDL := hid hdl
              clear hI hm hdl
              by_cases hlt : k < x4
              · have q0 := HI.out.fr.cell 2 ov rfl
                have f0 := HI.out.fr.free 2
                have hk2 : k + 1 ≤ maxLen := by unfold maxLen; omega
                have hk3 : (k + 1) * 88 ≤ 140737488355328 := by omega
                have hbs := HI.out.fr.size
                cases hd : opP lk with
                | none =>
                  have KD := hid ((op_any wr.drew a0 b lk HI.out.fr.rs.drew).mono fun e w' h => h.bad hd)
                  have HD := hid hd
                  clear hd
                  go_wp2_with fail
                  have FIN : Hid (comP l = none) := by
                    show comP l = none
                    unfold comP
                    rw [step hq1, step HQ2.out, step hq3, step hq4]
                    show (manyP opP x4 l4).bind _ = none
                    rw [HM.out, show x4 - k = (x4 - k - 1) + 1 by omega, many_none HD.out]
                    rfl
                  refine wp_region_any (by kernel_rfl) ?_
                  change wpAny _ _ _ _ _ _ _ (World.drew _)
                  refine wpAny_take (i := 0) (v := .pointer (some ⟨w.heap.size + 1, 2, none⟩)) rfl (by kernel_rfl) (by kernel_rfl) (by kernel_rfl) (fun _ _ _ h => h) (Or.inl ⟨by rfl, ?_⟩) ?_
                  · intro w
                    go_simp
                  refine wpAny_take (i := 2) (v := .pointer (some ⟨b, 0, none⟩)) rfl (by kernel_rfl) (by kernel_rfl) (by kernel_rfl) (fun _ _ _ h => h) (Or.inl ⟨by rfl, ?_⟩) ?_
                  · intro w
                    go_simp
                  refine wpAny_ready (rs := [1, 3]) (by kernel_rfl) (by simp) ?_
                  refine AllReady.cons rfl (fun K hK => ?_) ?_
                  · go_simp
                    refine hK _ _ ?_
                    refine wpAny_ready (rs := [3]) (by kernel_rfl) (by simp) ?_
                    refine AllReady.cons rfl (fun K hK => ?_) AllReady.nil
                    go_simp
                    refine KD.out.mono ?_
                    rintro e w8 ⟨rfl, ha8⟩
                    exact ⟨rfl, .inr ⟨FIN.out, rfl, HI.out.fr.aside.trans ha8.undrew (by show w.heap.size ≤ wr.heap.size; omega)⟩⟩
                  · refine AllReady.cons rfl (fun K hK => ?_) AllReady.nil
                    go_simp
                    refine KD.out.mono ?_
                    rintro e w8 ⟨rfl, ha8⟩
                    exact ⟨rfl, .inr ⟨FIN.out, rfl, HI.out.fr.aside.trans ha8.undrew (by show w.heap.size ≤ wr.heap.size; omega)⟩⟩
                | some dl =>
                  obtain ⟨d, l9⟩ := dl
                  have HD := hid hd
                  have KD := hid ((op_any wr.drew a0 b lk HI.out.fr.rs.drew).mono fun e w' h => h.ok hd)
                  clear hd
                  go_wp2_with fail
                  go_region_law (first
                    | (refine step_append_own rfl _ _ 23 rfl (w.heap.size + 2) 52 i52 _ 7 88 Tryd.underlying23 hi52 hy0 hy1 hy2 rfl (by decide) ov os.length rows.flatten rfl (HR8.out.1.alloc _) _ 1 1 _ rfl rfl (cells3_new _ _ _) (one7 _ _ _ _) (by rw [HDL.out]; exact hk2) (by rw [HDL.out]; exact hk3) (hb8 _) ?_; intro v' w9 hrow hgr; obtain ⟨av, cv, hv9⟩ := row_shape hrow; subst hv9; obtain ⟨⟨c9, z9⟩, h9⟩ := HI8.out.opMore HO8.out HR8.out.1 HR8.out.2 hrow hgr; have HI9 := hid h9; clear hrow hgr h9)
                    | (go_simp; refine KD.out.mono ?_; rintro e w8 ⟨he8, hs8, ha8⟩; obtain ⟨da, dc, rfl, ho8⟩ := he8.shape; have HI8 := hid (HI.out.call hs8 ha8.undrew); have q8 := HI8.out.fr.cell 2 _ rfl; have q8a := (fun o => cell_alloc q8 o); have HO8 := hid (f2_own_base ho8 hbs); have hb8 : ∀ o, w.heap.size + 2 ≤ (w8.alloc o).heap.size := (fun o => by have := ha8.undrew.size; simp; omega); obtain ⟨_, rows, hr1, hr2⟩ := HI8.out.own; have HR8 := hid (And.intro hr1 hr2); clear hs8 ha8 hr1 hr2 he8 ho8))
                  all_goals
                    go_wp2
                    refine ⟨⟨k + 1, os ++ [d], _, l9, by omega, by go_num, by rw [List.length_append, HDL.out]; rfl, ?_, HI9.out⟩, by simp [intOf]; omega⟩
                    rw [HM.out, show x4 - k = (x4 - (k + 1)) + 1 by omega, many_some HD.out]
              · obtain rfl : k = x4 := by omega
                have hown := HI.out.own
                obtain ⟨hw1, rows, hw2, hw3⟩ := hown
                obtain ⟨a1, c1, hwv⟩ := row_shape hw1
                obtain ⟨a2, c2, hov⟩ := row_shape hw2
                subst hwv hov
                clear hw1 hw2 hw3
                have q0 := HI.out.fr.cell 0 _ rfl
                have q1 := HI.out.fr.cell 1 _ rfl
                have q2 := HI.out.fr.cell 2 _ rfl
                obtain ⟨wz, STORE, HZ⟩ := store_res HI.out.fr.res [.slice a1 ws.length c1, .int .i64 x3, .slice a2 os.length c2] rfl rfl 25 3 rfl Tryd.sizeOf25
                go_wp2_with (refine STORE _ _ _ _ (.tmp 2) (.tmp 31) rfl rfl rfl rfl ?_)
                refine bodyPost_ret (ret_cell (k := 3) Tryd.results53 Tryd.isAgg25 Tryd.sizeOf25 _ _ w.heap.size [.slice a1 ws.length c1, .int .i64 x3, .slice a2 os.length c2] rfl rfl HZ.out.1) rfl ?_
                refine .inl ⟨⟨ws, x3, os⟩, lk, ?_, ⟨_, _, rfl, ?_⟩, by rw [HZ.out.2]; exact HI.out.fr.rs.sets h.lt _ _, by rw [HZ.out.2]; exact HI.out.fr.aside.sets (Nat.le_refl _) _ _⟩
                · unfold comP
                  rw [step hq1, step HQ2.out, step hq3, step hq4]
                  show (manyP opP k l4).bind _ = _
                  rw [HM.out, Nat.sub_self, many_zero]
                  rfl
                · rw [HZ.out.2]
                  exact (HI.out.own.kept (.sets HI.out.fr.res (by decide) _ _)).base (by omega)
          · go_wp2
            exact ⟨rfl, .inr ⟨by unfold comP; rw [step hq1, step HQ2.out, step hq3, hq4]; rfl, rfl, G3.out.fr.aside.trans ha4 (by have := G3.out.fr.size; omega)⟩⟩
        · go_wp2
          exact ⟨rfl, .inr ⟨by unfold comP; rw [step hq1, step HQ2.out, hq3]; rfl, rfl, HI.out.fr.aside.trans ha3 (by have := HI.out.fr.size; omega)⟩⟩
  · go_wp2
    exact ⟨rfl, .inr ⟨by unfold comP; rw [hq1]; rfl, rfl, G0.out.aside.trans ha1 (by have := G0.out.size; omega)⟩⟩
end Go.Proofs.YtkonjpcgfdcfbaaDoor
namespace Go.Proofs.YtkonjpcgfdcfbaaDoor
open Go.RowKit
set_option maxRecDepth 100000

/-- A message whose commit lies in rows of the call's own. -/
def MsgRet (base : Nat) (m : MsgV) (e : Ending) (w' : World) : Prop := ∃ a1 c1 a2 c2, e = .returned (.agg #[.int .i64 m.frm, .int .i64 m.to_, .int .i64 m.shard, .int .i64 m.seq, .int .i64 m.time, .bool m.beat, .slice a1 m.c.when_.length c1, .int .i64 m.c.place, .slice a2 m.c.ops.length c2]) ∧
  ComOwn base w' (.slice a1 m.c.when_.length c1) (.slice a2 m.c.ops.length c2) m.c
theorem cells_at {w : World} {g : Nat} {cs : Array Value} {t : TypeId} (h : w.heap[g]? = some (.cells cs t (0, 0))) (off n : Nat) (hn : off + n ≤ cs.size) : (∀ j, j < n → (w.cell? ⟨g, off + j, none⟩).isSome = true) ∧ ∀ j, j < n → w.frozen? ⟨g, off + j, none⟩ = false :=
  ⟨fun j hj => by rw [cell_of h, Array.getElem?_eq_getElem (by omega)]; rfl, fun j _ => free_of h⟩
theorem store_at {wr : World} {g : Nat} {cs : Array Value} {t : TypeId} (h : wr.heap[g]? = some (.cells cs t (0, 0))) (off : Nat) (vs : List Value) (hl : off + vs.length ≤ cs.size) (hone : vs.all (fun v => v.oneCell') = true) (ty n : Nat) (hn : vs.length = n) (hs : ∀ w, (sizeOf ty).run Tryd.prog w = .ok n w) :
    ∃ wz, (∀ (Q : Exit → Act → World → Prop) (ops : Array Oper) (o : Oper) (a : Act) (x y : Operand), o.guard = none → o.op = .store ty x y → a.eval x = .pointer (some ⟨g, off, none⟩) → a.eval y = .agg vs.toArray → wpList Tryd.prog ops Q [] (a.put o.dst undef) wz → wpList Tryd.prog ops Q [o] a wr) ∧ Hid (wz = wr.setCells g off vs) := by
  refine ⟨_, fun Q ops o a x y h1 h2 h3 h4 h5 => ?_, rfl⟩
  have := cells_at h off n (by omega)
  exact wpList_store_k _ h1 x y ty h2 g off vs h3 h4 n hn hs hone _ rfl this.1 this.2 h5

set_option maxHeartbeats 8000000 in
theorem message_any (w : World) (a0 : Addr) (b : Nat) (l : List UInt8) (h : Rs a0 b w l) :
    Calls Tryd.prog 39 #[.pointer (some ⟨b, 0, none⟩)] w fun e w' => RdPost a0 b w (msgP l) (MsgRet w.heap.size) e w' := by
  have G0 := hid (Fr.start (t := 34) h [.int .i64 0, .int .i64 0, .int .i64 0, .int .i64 0, .int .i64 0, .bool false, .slice none 0 0, .int .i64 0, .slice none 0 0] [.int .i64 0, .int .i64 0, .int .i64 0, .int .i64 0, .int .i64 0, .bool false, .slice none 0 0, .int .i64 0, .slice none 0 0])
  have K1 := hid (number_any _ a0 b l G0.out.rs)
  go_enter Tryd.func39, Tryd.ntmps39
  go_wp2_with fail
  refine K1.out.mono ?_
  rintro e w1 (⟨x1, l1, hq1, rfl, hs1, ha1⟩ | ⟨hq1, rfl, ha1⟩)
  · have F1 := hid (G0.out.call hs1 ha1)
    have c1 := F1.out.cell 0 _ rfl
    have z1 := F1.out.free 0
    have G1 := hid (F1.out.set 0 (.int .i64 x1))
    clear hs1 ha1
    have K2 := hid (number_any _ a0 b l1 G1.out.rs)
    go_wp2_with fail
    refine K2.out.mono ?_
    rintro e w2 (⟨x2, l2, hq2, rfl, hs2, ha2⟩ | ⟨hq2, rfl, ha2⟩)
    · have F2 := hid (G1.out.call hs2 ha2)
      have c2 := F2.out.cell 1 _ rfl
      have z2 := F2.out.free 1
      have G2 := hid (F2.out.set 1 (.int .i64 x2))
      clear hs2 ha2 c1 z1
      have K3 := hid (number_any _ a0 b l2 G2.out.rs)
      go_wp2_with fail
      refine K3.out.mono ?_
      rintro e w3 (⟨x3, l3, hq3, rfl, hs3, ha3⟩ | ⟨hq3, rfl, ha3⟩)
      · have F3 := hid (G2.out.call hs3 ha3)
        have c3 := F3.out.cell 2 _ rfl
        have z3 := F3.out.free 2
        have G3 := hid (F3.out.set 2 (.int .i64 x3))
        clear hs3 ha3 c2 z2
        have K4 := hid (number_any _ a0 b l3 G3.out.rs)
        go_wp2_with fail
        refine K4.out.mono ?_
        rintro e w4 (⟨x4, l4, hq4, rfl, hs4, ha4⟩ | ⟨hq4, rfl, ha4⟩)
        · have F4 := hid (G3.out.call hs4 ha4)
          have c4 := F4.out.cell 3 _ rfl
          have z4 := F4.out.free 3
          have G4 := hid (F4.out.set 3 (.int .i64 x4))
          clear hs4 ha4 c3 z3
          have K5 := hid (number_any _ a0 b l4 G4.out.rs)
          go_wp2_with fail
          refine K5.out.mono ?_
          rintro e w5 (⟨x5, l5, hq5, rfl, hs5, ha5⟩ | ⟨hq5, rfl, ha5⟩)
          · have F5 := hid (G4.out.call hs5 ha5)
            have c5 := F5.out.cell 4 _ rfl
            have z5 := F5.out.free 4
            have G5 := hid (F5.out.set 4 (.int .i64 x5))
            clear hs5 ha5 c4 z4
            have K6 := hid (truth_any _ a0 b l5 G5.out.rs)
            go_wp2_with fail
            refine K6.out.mono ?_
            rintro e w6 (⟨x6, l6, hq6, rfl, hs6, ha6⟩ | ⟨hq6, rfl, ha6⟩)
            · have F6 := hid (G5.out.call hs6 ha6)
              have c6 := F6.out.cell 5 _ rfl
              have z6 := F6.out.free 5
              have G6 := hid (F6.out.set 5 (.bool x6))
              clear hs6 ha6 c5 z5
              have K7 := hid (commit_any _ a0 b l6 G6.out.rs)
              go_wp2_with fail
              refine K7.out.mono ?_
              rintro e w7 (⟨x7, l7, hq7, hr7, hs7, ha7⟩ | ⟨hq7, rfl, ha7⟩)
              · obtain ⟨wv, ov, rfl, hown⟩ := hr7
                obtain ⟨hw1, rows, hw2, hw3⟩ := id hown
                obtain ⟨a1, c1, hwv⟩ := row_shape hw1
                obtain ⟨a2, c2, hov⟩ := row_shape hw2
                subst hwv hov
                clear hw1 hw2 hw3
                have F7 := hid (G6.out.call hs7 ha7)
                obtain ⟨wy, STOREC, HY⟩ := store_at F7.out.loc 6 [.slice a1 x7.when_.length c1, .int .i64 x7.place, .slice a2 x7.ops.length c2] (Nat.le_refl 9) rfl 25 3 rfl Tryd.sizeOf25
                have G7 : Hid (Fr a0 b w 34 [.int .i64 0, .int .i64 0, .int .i64 0, .int .i64 0, .int .i64 0, .bool false, .slice none 0 0, .int .i64 0, .slice none 0 0] [.int .i64 x1, .int .i64 x2, .int .i64 x3, .int .i64 x4, .int .i64 x5, .bool x6, .slice a1 x7.when_.length c1, .int .i64 x7.place, .slice a2 x7.ops.length c2] l7 wy) := by
                  show Fr _ _ _ _ _ _ _ _
                  rw [HY.out]
                  exact ((F7.out.set 6 (.slice a1 x7.when_.length c1)).set 7 (.int .i64 x7.place)).set 8 (.slice a2 x7.ops.length c2)
                have HO : Hid (ComOwn (w.heap.size + 2) wy (.slice a1 x7.when_.length c1) (.slice a2 x7.ops.length c2) x7) := by
                  show ComOwn _ _ _ _ _
                  rw [HY.out]
                  exact (hown.kept (.sets F7.out.loc (by decide) _ _)).base (by have := G6.out.size; omega)
                clear hs7 ha7 hown c6 z6
                have q0 := G7.out.cell 0 _ rfl
                have q1 := G7.out.cell 1 _ rfl
                have q2 := G7.out.cell 2 _ rfl
                have q3 := G7.out.cell 3 _ rfl
                have q4 := G7.out.cell 4 _ rfl
                have q5 := G7.out.cell 5 _ rfl
                have q6 := G7.out.cell 6 _ rfl
                have q7 := G7.out.cell 7 _ rfl
                have q8 := G7.out.cell 8 _ rfl
                obtain ⟨wz, STORE, HZ⟩ := store_res G7.out.res [.int .i64 x1, .int .i64 x2, .int .i64 x3, .int .i64 x4, .int .i64 x5, .bool x6, .slice a1 x7.when_.length c1, .int .i64 x7.place, .slice a2 x7.ops.length c2] rfl rfl 34 9 rfl Tryd.sizeOf34
                go_wp2_with (first | (refine STOREC _ _ _ _ (.tmp 24) (.tmp 23) rfl rfl rfl rfl ?_) | (refine STORE _ _ _ _ (.tmp 2) (.tmp 25) rfl rfl rfl rfl ?_))
                refine bodyPost_ret (ret_cell (k := 9) Tryd.results39 Tryd.isAgg34 Tryd.sizeOf34 _ _ w.heap.size [.int .i64 x1, .int .i64 x2, .int .i64 x3, .int .i64 x4, .int .i64 x5, .bool x6, .slice a1 x7.when_.length c1, .int .i64 x7.place, .slice a2 x7.ops.length c2] rfl rfl HZ.out.1) rfl ?_
                refine .inl ⟨⟨x1, x2, x3, x4, x5, x6, x7⟩, l7, ?_, ⟨a1, c1, a2, c2, rfl, ?_⟩, by rw [HZ.out.2]; exact G7.out.rs.sets h.lt _ _, by rw [HZ.out.2]; exact G7.out.aside.sets (Nat.le_refl _) _ _⟩
                · unfold msgP
                  rw [step hq1, step hq2, step hq3, step hq4, step hq5, step hq6, step hq7]
                · rw [HZ.out.2]
                  exact (HO.out.kept (.sets G7.out.res (by decide) _ _)).base (by omega)
              · go_wp2
                exact ⟨rfl, .inr ⟨by unfold msgP; rw [step hq1, step hq2, step hq3, step hq4, step hq5, step hq6, hq7]; rfl, rfl, G6.out.aside.trans ha7 (by have := G6.out.size; omega)⟩⟩
            · go_wp2
              exact ⟨rfl, .inr ⟨by unfold msgP; rw [step hq1, step hq2, step hq3, step hq4, step hq5, hq6]; rfl, rfl, G5.out.aside.trans ha6 (by have := G5.out.size; omega)⟩⟩
          · go_wp2
            exact ⟨rfl, .inr ⟨by unfold msgP; rw [step hq1, step hq2, step hq3, step hq4, hq5]; rfl, rfl, G4.out.aside.trans ha5 (by have := G4.out.size; omega)⟩⟩
        · go_wp2
          exact ⟨rfl, .inr ⟨by unfold msgP; rw [step hq1, step hq2, step hq3, hq4]; rfl, rfl, G3.out.aside.trans ha4 (by have := G3.out.size; omega)⟩⟩
      · go_wp2
        exact ⟨rfl, .inr ⟨by unfold msgP; rw [step hq1, step hq2, hq3]; rfl, rfl, G2.out.aside.trans ha3 (by have := G2.out.size; omega)⟩⟩
    · go_wp2
      exact ⟨rfl, .inr ⟨by unfold msgP; rw [step hq1, hq2]; rfl, rfl, G1.out.aside.trans ha2 (by have := G1.out.size; omega)⟩⟩
  · go_wp2
    exact ⟨rfl, .inr ⟨by unfold msgP; rw [hq1]; rfl, rfl, G0.out.aside.trans ha1 (by have := G0.out.size; omega)⟩⟩
end Go.Proofs.YtkonjpcgfdcfbaaDoor
namespace Go.Proofs.YtkonjpcgfdcfbaaDoor
open Go.RowKit
set_option maxRecDepth 100000

def wholeQ (l : List UInt8) : Option (MsgV × List UInt8) := (msgP l).bind fun m => if m.2 = [] then some m else none
theorem wholeQ_some {l : List UInt8} {m : MsgV} {r : List UInt8} (h : wholeQ l = some (m, r)) : wholeP l = some m := by
  unfold wholeQ at h
  unfold wholeP
  obtain ⟨x, h1, h2⟩ := bind_some h
  rw [h1, Option.bind_some]
  split at h2
  · next hn =>
    obtain rfl := Option.some.inj h2
    rw [if_pos hn]
  · cases h2
theorem wholeQ_none {l : List UInt8} (h : wholeQ l = none) : wholeP l = none := by
  unfold wholeQ at h
  unfold wholeP
  cases hm : msgP l with
  | none => rfl
  | some x =>
    rw [hm, Option.bind_some] at h
    rw [Option.bind_some]
    split at h
    · cases h
    · next hn => rw [if_neg hn]

set_option maxHeartbeats 4000000 in
theorem whole_any (w : World) (a0 : Addr) (b : Nat) (l : List UInt8) (h : Rs a0 b w l) :
    Calls Tryd.prog 26 #[.pointer (some ⟨b, 0, none⟩)] w fun e w' => RdPost a0 b w (wholeQ l) (MsgRet w.heap.size) e w' := by
  have hlt := h.lt
  have HR := hid (h.alloc (.cells #[.int .i64 0, .int .i64 0, .int .i64 0, .int .i64 0, .int .i64 0, .bool false, .slice none 0 0, .int .i64 0, .slice none 0 0] 34))
  have K := hid (message_any _ a0 b l HR.out)
  go_enter Tryd.func26, Tryd.ntmps26
  go_wp2_with fail
  refine K.out.mono ?_
  rintro e w1 (⟨m, l1, hq, hr, hs, ha⟩ | ⟨hq, rfl, ha⟩)
  · obtain ⟨a1, c1, a2, c2, rfl, hown⟩ := hr
    have hc := fun o => cell_alloc hs.cell o
    have he := fun o => cell_alloc hs.err o
    have hsz : w.heap.size + 1 ≤ w1.heap.size := by have := ha.size; simp at this; omega
    have hres : w1.heap[w.heap.size]? = some (.cells #[.int .i64 0, .int .i64 0, .int .i64 0, .int .i64 0, .int .i64 0, .bool false, .slice none 0 0, .int .i64 0, .slice none 0 0] 34 (0, 0)) := by
      rw [ha.block _ (by simp) (by omega)]
      exact heap_new _ _
    have HW := hid (show wholeQ l = if l1 = [] then some (m, l1) else none by unfold wholeQ; rw [hq]; rfl)
    have HS := hid hs
    have HO := hid hown
    have HA : Hid (Aside b w.heap.size w w1) := ((Aside.refl b _ w).alloc (Nat.le_refl _) _).trans ha (by simp)
    by_cases hn : l1 = []
    · subst hn
      obtain ⟨wz, STORE, HZ⟩ := store_res (heap_old hres (.cells #[.int .i64 m.frm, .int .i64 m.to_, .int .i64 m.shard, .int .i64 m.seq, .int .i64 m.time, .bool m.beat, .slice a1 m.c.when_.length c1, .int .i64 m.c.place, .slice a2 m.c.ops.length c2] 34)) [.int .i64 m.frm, .int .i64 m.to_, .int .i64 m.shard, .int .i64 m.seq, .int .i64 m.time, .bool m.beat, .slice a1 m.c.when_.length c1, .int .i64 m.c.place, .slice a2 m.c.ops.length c2] rfl rfl 34 9 rfl Tryd.sizeOf34
      have HR2 := hid (heap_old hres (.cells #[.int .i64 m.frm, .int .i64 m.to_, .int .i64 m.shard, .int .i64 m.seq, .int .i64 m.time, .bool m.beat, .slice a1 m.c.when_.length c1, .int .i64 m.c.place, .slice a2 m.c.ops.length c2] 34))
      clear hs hown ha hq hres
      go_wp2_with (refine STORE _ _ _ _ (.tmp 2) (.tmp 13) rfl rfl rfl rfl ?_)
      refine bodyPost_ret (ret_cell (k := 9) Tryd.results26 Tryd.isAgg34 Tryd.sizeOf34 _ _ w.heap.size [.int .i64 m.frm, .int .i64 m.to_, .int .i64 m.shard, .int .i64 m.seq, .int .i64 m.time, .bool m.beat, .slice a1 m.c.when_.length c1, .int .i64 m.c.place, .slice a2 m.c.ops.length c2] rfl rfl HZ.out.1) rfl ?_
      refine .inl ⟨m, [], by rw [HW.out]; simp, ⟨a1, c1, a2, c2, rfl, ?_⟩, by rw [HZ.out.2]; exact (HS.out.alloc _).sets hlt _ _, by rw [HZ.out.2]; exact (HA.out.alloc (by omega) _).sets (Nat.le_refl _) _ _⟩
      rw [HZ.out.2]
      exact ((HO.out.kept (.below (below_alloc _ _))).kept (.sets HR2.out (by decide) _ _)).base (by simp)
    · have hne : l1.isEmpty = false := by cases l1 with | nil => exact absurd rfl hn | cons _ _ => rfl
      have HN := hid hn
      clear hs hown ha hq hres hn
      go_wp2_with (go_at_call 40; refine (throw_any _ _ _).mono ?_; rintro e w' ⟨rfl, rfl⟩)
      exact ⟨rfl, .inr ⟨HW.out.trans (if_neg HN.out), rfl, HA.out.alloc (by omega) _⟩⟩
  · go_wp2
    exact ⟨rfl, .inr ⟨by unfold wholeQ; rw [hq]; rfl, rfl, ((Aside.refl b _ w).alloc (Nat.le_refl _) _).trans ha (by simp)⟩⟩
end Go.Proofs.YtkonjpcgfdcfbaaDoor
