/- Boxes of a call's own; rows of its own; The reader's texts and dots. -/
import Derived.Test.YtkonjpcgfdcfbaaDoorJXEi
import Derived.Test.YtkonjpcgfdcfbaaDoorJXLayC
import Derived.Laws.IdiomCopy
import Derived.Laws.ResultCell
import Derived.Shelf.SlicesQ.Load
namespace Go.Proofs.YtkonjpcgfdcfbaaDoor
open Go.RowKit
set_option maxRecDepth 100000

theorem below_setCells {B b : Nat} {a : World} (hb : B ≤ b) : ∀ (vs : List Value) (o : Nat) {w : World}, Below B a w → Below B a (w.setCells b o vs)
  | [], _, _, h => h
  | v :: r, o, _, h => below_setCells hb r (o + 1) (h.setCell (p := ⟨b, o, none⟩) hb v)
theorem setCells_size (b : Nat) : ∀ (vs : List Value) (o : Nat) (w : World), (w.setCells b o vs).heap.size = w.heap.size
  | [], _, _ => rfl
  | v :: r, o, w => by
    have h1 := setCells_size b r (o + 1) (w.setCell ⟨b, o, none⟩ v)
    have h2 : (w.setCell ⟨b, o, none⟩ v).heap.size = w.heap.size := by simp
    exact h1.trans h2
theorem wpList_store_k (w : World) {ops : Array Oper} {rest : List Oper} {o : Oper} {a : Act} {Q : Exit → Act → World → Prop} (hg : o.guard = none) (x y : Operand) (ty : TypeId) (hop : o.op = .store ty x y)
    (b off : Nat) (cs : List Value) (hx : a.eval x = .pointer (some ⟨b, off, none⟩)) (hy : a.eval y = .agg cs.toArray) (n : Nat) (hn : cs.length = n) (hs : ∀ w, (sizeOf ty).run Tryd.prog w = .ok n w) (hone : cs.all (fun v => v.oneCell') = true)
    (W : World) (hW : w = W) (hc : ∀ j, j < n → (W.cell? ⟨b, off + j, none⟩).isSome = true) (hf : ∀ j, j < n → W.frozen? ⟨b, off + j, none⟩ = false)
    (hK : wpList Tryd.prog ops Q rest (a.put o.dst undef) (w.setCells b off cs)) : wpList Tryd.prog ops Q (o :: rest) a w := by
  subst hn hW
  have h1 : ∀ v ∈ cs, v.oneCell' = true := List.all_eq_true.1 hone
  have hst := run_storeCells_cells (P := Tryd.prog) b off cs 0 w (by simpa using hc) (by simpa using hf) h1
  simp only [Nat.add_zero] at hst
  refine wpList_plain hg fun K' hK' => ?_
  unfold Oper.wp execOp
  simp only [hop, hx, hy, Instr.storeAt, Instr.sureAddr, Sem.run_bind, Sem.run_pure, Result.andThen_ok, storeVar, hs, Value.cells]
  simp [hst]
  exact hK' _ _ hK

theorem ret_cell {f : Func} {s t k : Nat} (hf : f.results = #[ResultVar.cell s t]) (hag : ∀ w, (isAgg t).run Tryd.prog w = .ok true w) (hsz : ∀ w, (sizeOf t).run Tryd.prog w = .ok k w) (w : World) (tmps : Array Value) (g : Nat) (vs : List Value) (hk : vs.length = k) (h4 : tmps[s]?.getD undef = .pointer (some ⟨g, 0, none⟩)) (hc : ∀ j (hj : j < vs.length), w.cell? ⟨g, j, none⟩ = some vs[j]) :
    (results f tmps).run Tryd.prog w = .ok (.agg vs.toArray) w := by
  have hl := run_loadCellsFrom_list Tryd.prog w ⟨g, 0, none⟩ vs k hk (fun j v hj => by
    obtain ⟨h1, h2⟩ := List.getElem?_eq_some_iff.1 hj
    rw [Addr.add_lit, Nat.zero_add, hc j h1, h2])
  simp [results, hf, h4, asAddr, loadVar, loadCells, hag, hsz, hl, Result.andThen]
theorem f2_append {α β : Type} {R : α → β → Prop} : ∀ {l : List α} {m : List β} {a : α} {b : β}, F2 R l m → R a b → F2 R (l ++ [a]) (m ++ [b])
  | [], [], _, _, _, h => ⟨h, trivial⟩
  | _ :: _, _ :: _, _, _, ⟨h1, h2⟩, h => ⟨h1, f2_append h2 h⟩
theorem own_type {w : World} {base e size : Nat} {v : Value} {n : Nat} {xs : List Value} (h : w.ownsRow base e size v n xs) {b : Nat} (hb : v.ownBlock = some b) : ∃ cs, w.heap[b]? = some (.cells cs e (0, 0)) := by
  rcases h.2 with ⟨rfl, _⟩ | ⟨g, cap, cur, rfl, _, hh, _⟩
  · cases hb
  · obtain rfl := Option.some.inj hb
    exact ⟨_, hh⟩
theorem rowAt_of_owns {w : World} {base e k : Nat} {v : Value} {n : Nat} {rows : List (List Value)} (h : w.ownsRow base e k v n rows.flatten) (hn : n = rows.length) (hk : ∀ r ∈ rows, r.length = k) : RowAt k w v rows := by
  subst hn
  obtain ⟨_, h2⟩ := h
  rcases h2 with ⟨rfl, h0⟩ | ⟨g, cap, cur, rfl, _, hh, hc, _, hs, ht⟩
  · obtain rfl := List.eq_nil_of_length_eq_zero h0
    exact ⟨_, _, rfl, fun _ => rfl, Nat.le_refl _, .inl rfl⟩
  · refine ⟨_, cap, rfl, (fun h => by cases h), hc, .inr ⟨g, 0, rfl, fun j r hr => ?_⟩⟩
    have hj : j < rows.length := (List.getElem?_eq_some_iff.1 hr).1
    have hrm : r ∈ rows := List.mem_of_getElem? hr
    refine ⟨hk r hrm, fun i u hu => ?_⟩
    have hi : i < k := by have := (List.getElem?_eq_some_iff.1 hu).1; rw [hk r hrm] at this; exact this
    have hfl : ∀ (rows : List (List Value)) (j : Nat) (r : List Value), (∀ r ∈ rows, r.length = k) → rows[j]? = some r → ∀ i u, i < k → r[i]? = some u → rows.flatten[j * k + i]? = some u := by
      intro rows
      induction rows with
      | nil => intro j r _ h; simp at h
      | cons x rest ih =>
        intro j r hk h i u hi hu
        have hx := hk x (List.mem_cons_self ..)
        rw [List.flatten_cons]
        cases j with
        | zero =>
          simp at h
          subst h
          rw [List.getElem?_append_left (by omega), Nat.zero_mul, Nat.zero_add]
          exact hu
        | succ j =>
          rw [List.getElem?_append_right (by rw [hx, Nat.add_mul]; omega), hx, show (j + 1) * k + i - k = j * k + i by rw [Nat.add_mul]; omega]
          exact ih j r (fun r hr => hk r (List.mem_cons_of_mem _ hr)) (by simpa using h) i u hi hu
    have e := hfl rows j r hk hr i u hi hu
    have hb : j * k + i < rows.length * k := by
      have : (j + 1) * k ≤ rows.length * k := Nat.mul_le_mul_right k hj
      rw [Nat.add_mul] at this
      omega
    rw [← ht, List.getElem?_take, if_pos hb, Array.getElem?_toList] at e
    simp only [World.cell?, hh, Nat.zero_add]
    rw [e]
    simp
theorem owns_below {w w' : World} {base e size : Nat} {v : Value} {n : Nat} {xs : List Value} (h : w.ownsRow base e size v n xs) (hb : ∀ (b : Nat) (cs : Array Value), w.heap[b]? = some (.cells cs e (0, 0)) → w'.heap[b]? = w.heap[b]?) : w'.ownsRow base e size v n xs := by
  obtain ⟨h1, h2⟩ := h
  refine ⟨h1, ?_⟩
  rcases h2 with h2 | ⟨g, cap, cur, hv, hg, hh, r⟩
  · exact .inl h2
  · exact .inr ⟨g, cap, cur, hv, hg, by rw [hb g _ hh]; exact hh, r⟩
theorem flat_cells : ∀ ds : List D3, (ds.map D3.cells).flatten = ds.flatMap D3.cells
  | [] => rfl
  | d :: ds => by rw [List.map_cons, List.flatten_cons, List.flatMap_cons, flat_cells ds]
theorem dots_of_owns {w : World} {base : Nat} {v : Value} {ds : List D3} (h : w.ownsRow base 62 3 v ds.length (ds.flatMap D3.cells)) : DotsAt w v ds := by
  refine rowAt_of_owns (base := base) (e := 62) (n := ds.length) (by rw [flat_cells]; exact h) (by simp) fun r hr => ?_
  obtain ⟨d, _, rfl⟩ := List.mem_map.1 hr
  rfl

theorem rowk {w : World} {g : Nat} {cs : Array Value} {t : TypeId} (h : w.heap[g]? = some (.cells cs t (0, 0))) {n : Nat} (hn : cs.size = n) : (∀ j, j < n → (w.cell? ⟨g, 0 + j, none⟩).isSome = true) ∧ ∀ j, j < n → w.frozen? ⟨g, 0 + j, none⟩ = false := by
  subst hn
  refine ⟨fun j hj => ?_, fun j _ => free_of h⟩
  rw [cell_of h, Nat.zero_add, Array.getElem?_eq_getElem hj]
  rfl
theorem setk {w : World} {g : Nat} {cs : Array Value} {t : TypeId} (h : w.heap[g]? = some (.cells cs t (0, 0))) (vs : List Value) (hl : vs.length = cs.size) : ∀ j (hj : j < vs.length), (w.setCells g 0 vs).cell? ⟨g, j, none⟩ = some vs[j] := fun j hj => by
  have := World.cell?_setCells_in g vs 0 w (fun q hq => (rowk h rfl).1 q (by omega)) j hj
  rwa [Nat.zero_add] at this
theorem setCells_other (b : Nat) : ∀ (vs : List Value) (o : Nat) (w : World) (k : Nat), k ≠ b → (w.setCells b o vs).heap[k]? = w.heap[k]?
  | [], _, _, _, _ => rfl
  | v :: r, o, w, k, h => (setCells_other b r (o + 1) (w.setCell ⟨b, o, none⟩ v) k h).trans (Below.heap_setCell _ _ _ _ h)
theorem Aside.sets {b B g : Nat} {u w : World} (h : Aside b B u w) (hg : B ≤ g) (o : Nat) (vs : List Value) : Aside b B u (w.setCells g o vs) := by
  have hb := below_setCells (B := g) (b := g) (a := w) (Nat.le_refl _) vs o (Below.refl _ _)
  exact ⟨hb.os.trans h.os, hb.tape.trans h.tape, hb.output.trans h.output, by rw [setCells_size]; exact h.size, fun k hk hkb => by rw [setCells_other _ _ _ _ _ (by omega)]; exact h.block k hk hkb⟩
theorem Rs.sets {a0 : Addr} {b g : Nat} {w : World} {l : List UInt8} (h : Rs a0 b w l) (hg : b < g) (o : Nat) (vs : List Value) : Rs a0 b (w.setCells g o vs) l :=
  h.moved (B := g) (below_setCells (Nat.le_refl _) vs o (Below.refl _ _)) hg

/-- Inside a reading: the box of the result (block n) and of what is read (block n + 1). -/
structure Fr (a0 : Addr) (b : Nat) (w0 : World) (t : TypeId) (cz cs : List Value) (l : List UInt8) (w : World) : Prop where
  rs : Rs a0 b w l
  lt : b < w0.heap.size
  aside : Aside b w0.heap.size w0 w
  res : w.heap[w0.heap.size]? = some (.cells cz.toArray t (0, 0))
  loc : w.heap[w0.heap.size + 1]? = some (.cells cs.toArray t (0, 0))
theorem Fr.start {a0 : Addr} {b : Nat} {w0 : World} {t : TypeId} {l : List UInt8} (h : Rs a0 b w0 l) (cz cs : List Value) : Fr a0 b w0 t cz cs l ((w0.alloc (.cells cz.toArray t)).alloc (.cells cs.toArray t)) where
  rs := (h.alloc _).alloc _
  lt := h.lt
  aside := ((Aside.refl b _ w0).alloc (Nat.le_refl _) _).alloc (by simp) _
  res := heap_old (heap_new _ _) _
  loc := by
    have := heap_new (w0.alloc (.cells cz.toArray t)) (.cells cs.toArray t)
    rwa [show (w0.alloc (.cells cz.toArray t)).heap.size = w0.heap.size + 1 by simp] at this
theorem Fr.size {a0 : Addr} {b : Nat} {w0 w : World} {t : TypeId} {cz cs : List Value} {l : List UInt8} (h : Fr a0 b w0 t cz cs l w) : w0.heap.size + 2 ≤ w.heap.size := by have := lt_of_heap h.loc; omega
theorem Fr.call {a0 : Addr} {b : Nat} {w0 w w1 : World} {t : TypeId} {cz cs : List Value} {l l1 : List UInt8} (h : Fr a0 b w0 t cz cs l w) (hr : Rs a0 b w1 l1) (ha : Aside b w.heap.size w w1) : Fr a0 b w0 t cz cs l1 w1 where
  rs := hr
  lt := h.lt
  aside := h.aside.trans ha (by have := h.size; omega)
  res := by rw [ha.block _ (by have := h.size; omega) (by have := h.lt; omega)]; exact h.res
  loc := by rw [ha.block _ (by have := h.size; omega) (by have := h.lt; omega)]; exact h.loc
theorem Fr.set {a0 : Addr} {b : Nat} {w0 w : World} {t : TypeId} {cz cs : List Value} {l : List UInt8} (h : Fr a0 b w0 t cz cs l w) (j : Nat) (v : Value) : Fr a0 b w0 t cz (cs.set j v) l (w.setCell ⟨w0.heap.size + 1, j, none⟩ v) where
  rs := h.rs.set (by have := h.lt; show b < w0.heap.size + 1; omega) v
  lt := h.lt
  aside := h.aside.set (.inr (by show _ ≤ w0.heap.size + 1; omega)) v
  res := by rw [Below.heap_setCell _ _ _ _ (by show w0.heap.size ≠ w0.heap.size + 1; omega)]; exact h.res
  loc := by rw [heap_set h.loc]; simp
theorem Fr.cell {a0 : Addr} {b : Nat} {w0 w : World} {t : TypeId} {cz cs : List Value} {l : List UInt8} (h : Fr a0 b w0 t cz cs l w) (j : Nat) (v : Value) (hj : cs[j]? = some v) : w.cell? ⟨w0.heap.size + 1, j, none⟩ = some v := by
  rw [cell_of h.loc]; simpa using hj
theorem Fr.free {a0 : Addr} {b : Nat} {w0 w : World} {t : TypeId} {cz cs : List Value} {l : List UInt8} (h : Fr a0 b w0 t cz cs l w) (j : Nat) : w.frozen? ⟨w0.heap.size + 1, j, none⟩ = false := free_of h.loc
theorem number_ok {w : World} {a0 : Addr} {b : Nat} {l l' : List UInt8} {x : Int} (h : Rs a0 b w l) (hq : numP l = some (x, l')) :
    Calls Tryd.prog 51 #[.pointer (some ⟨b, 0, none⟩)] w fun e w' => e = .returned (.int .i64 x) ∧ Rs a0 b w' l' ∧ Aside b w.heap.size w w' := by
  refine (number_any w a0 b l h).mono ?_
  rintro e w' (⟨x', l1, hq', he, hs, ha⟩ | ⟨hq', _⟩)
  · rw [hq] at hq'
    have e2 := Prod.mk.inj (Option.some.inj hq')
    rw [e2.1, e2.2]
    exact ⟨he, hs, ha⟩
  · rw [hq] at hq'; cases hq'
end Go.Proofs.YtkonjpcgfdcfbaaDoor
namespace Go.Proofs.YtkonjpcgfdcfbaaDoor
open Go.RowKit
set_option maxRecDepth 100000

set_option maxHeartbeats 1000000 in
theorem text_any (w : World) (a0 : Addr) (b : Nat) (l : List UInt8) (h : Rs a0 b w l) :
    Calls Tryd.prog 61 #[.pointer (some ⟨b, 0, none⟩)] w fun e w' => RdPost a0 b w (txtP l) (fun x e _ => e = .returned (.string x)) e w' := by
  have K := hid (count_any w a0 b l h)
  go_enter Tryd.func61, Tryd.ntmps61
  go_wp2_with fail
  refine K.out.mono ?_
  rintro e w1 (⟨x, l1, hq, ⟨rfl, hx6⟩, hs, ha⟩ | ⟨hq, rfl, ha⟩)
  · have K2 := hid (take_any w1 a0 b l1 x hs hx6)
    have HQ : Hid (txtP l = some (⟨(l1.take x).toArray⟩, l1.drop x)) := by show txtP l = _; unfold txtP; rw [hq]; rfl
    have hxl := (cnt_some hq).2
    have HA := hid ha
    have HL := hid hs.len
    clear hs ha hq
    go_wp2_with fail
    refine K2.out.mono ?_
    rintro e w2 (⟨y, l2, hq2, rfl, hs2, ha2⟩ | ⟨hq2, rfl, ha2⟩)
    · have hy : y = l1.take x ∧ l2 = l1.drop x := by
        unfold takeP at hq2
        rw [if_pos hxl] at hq2
        have e2 := Prod.mk.inj (Option.some.inj hq2)
        exact ⟨e2.1.symm, e2.2.symm⟩
      have HY := hid hy
      have HS2 := hid hs2
      have HA2 := hid ha2
      have hlen : (⟨y.toArray⟩ : ByteArray).size ≤ 281474976710656 := by
        show y.toArray.size ≤ _
        rw [List.size_toArray, hy.1, List.length_take]
        omega
      have K3 := hid (fun W => Tryd.stringslite_Clone ⟨y.toArray⟩ W hlen)
      clear hy hs2 ha2 hq2 hlen
      go_wp2_with (first | (go_at_call 64; refine (K3.out _).mono ?_; rintro e w3 ⟨rfl, hb3⟩) | (go_at_call 63; go_in))
      go_ret
      have hlt := HS2.out.lt
      refine .inl ⟨_, _, HQ.out, by rw [← HY.out.1]; rfl, by rw [← HY.out.2]; exact HS2.out.moved hb3 hlt, (HA.out.trans HA2.out HA.out.size).then hb3 (Nat.le_trans HA.out.size HA2.out.size)⟩
    · exfalso
      unfold takeP at hq2
      rw [if_pos hxl] at hq2
      cases hq2
  · go_wp2
    exact ⟨rfl, .inr ⟨by unfold txtP; rw [hq]; rfl, rfl, ha⟩⟩

set_option maxHeartbeats 2000000 in
theorem dot_any (w : World) (a0 : Addr) (b : Nat) (l : List UInt8) (h : Rs a0 b w l) :
    Calls Tryd.prog 62 #[.pointer (some ⟨b, 0, none⟩)] w fun e w' => RdPost a0 b w (dotP l) (fun x e _ => e = .returned (.agg #[.int .i64 x.p, .int .i64 x.t, .int .i64 x.a])) e w' := by
  have F0 := hid (Fr.start (t := 62) h [.int .i64 0, .int .i64 0, .int .i64 0] [.int .i64 0, .int .i64 0, .int .i64 0])
  have K0 := hid (number_any _ a0 b l F0.out.rs)
  go_enter Tryd.func62, Tryd.ntmps62
  go_wp2_with fail
  refine K0.out.mono ?_
  rintro e w1 (⟨x1, l1, hq1, rfl, hs1, ha1⟩ | ⟨hq1, rfl, ha1⟩)
  · have F1 := hid (F0.out.call hs1 ha1)
    have c1 := F1.out.cell 0 _ rfl
    have z1 := F1.out.free 0
    have G1 := hid (F1.out.set 0 (.int .i64 x1))
    have K1 := hid (number_any _ a0 b l1 G1.out.rs)
    clear hs1 ha1
    go_wp2_with fail
    refine K1.out.mono ?_
    rintro e w2 (⟨x2, l2, hq2, rfl, hs2, ha2⟩ | ⟨hq2, rfl, ha2⟩)
    · have F2 := hid (G1.out.call hs2 ha2)
      have c2 := F2.out.cell 1 _ rfl
      have z2 := F2.out.free 1
      have G2 := hid (F2.out.set 1 (.int .i64 x2))
      have K2 := hid (number_any _ a0 b l2 G2.out.rs)
      clear hs2 ha2 c1 z1
      go_wp2_with fail
      refine K2.out.mono ?_
      rintro e w3 (⟨x3, l3, hq3, rfl, hs3, ha3⟩ | ⟨hq3, rfl, ha3⟩)
      · have F3 := hid (G2.out.call hs3 ha3)
        have c3 := F3.out.cell 2 _ rfl
        have z3 := F3.out.free 2
        have G3 := hid (F3.out.set 2 (.int .i64 x3))
        clear hs3 ha3 c2 z2
        have d0 := G3.out.cell 0 (.int .i64 x1) rfl
        have d1 := G3.out.cell 1 (.int .i64 x2) rfl
        have d2 := G3.out.cell 2 (.int .i64 x3) rfl
        have R := hid (rowk G3.out.res (n := 3) rfl)
        have S := hid (setk G3.out.res [.int .i64 x1, .int .i64 x2, .int .i64 x3] rfl)
        go_wp2_with (refine wpList_store_k _ rfl (.tmp 2) (.tmp 13) 62 rfl w.heap.size 0 [.int .i64 x1, .int .i64 x2, .int .i64 x3] rfl rfl 3 rfl Tryd.sizeOf62 rfl _ ?hW R.out.1 R.out.2 ?_; case hW => rfl)
        refine bodyPost_ret (ret_cell (k := 3) Tryd.results62 Tryd.isAgg62 Tryd.sizeOf62 _ _ w.heap.size [.int .i64 x1, .int .i64 x2, .int .i64 x3] rfl rfl S.out) rfl ?_
        refine .inl ⟨⟨x1, x2, x3⟩, l3, ?_, rfl, G3.out.rs.sets h.lt _ _, G3.out.aside.sets (Nat.le_refl _) _ _⟩
        unfold dotP
        rw [step hq1, step hq2, step hq3]
      · go_wp2
        exact ⟨rfl, .inr ⟨by unfold dotP; rw [step hq1, step hq2, hq3]; rfl, rfl, G2.out.aside.trans ha3 (by have := G2.out.size; omega)⟩⟩
    · go_wp2
      exact ⟨rfl, .inr ⟨by unfold dotP; rw [step hq1, hq2]; rfl, rfl, G1.out.aside.trans ha2 (by have := G1.out.size; omega)⟩⟩
  · go_wp2
    exact ⟨rfl, .inr ⟨by unfold dotP; rw [hq1]; rfl, rfl, F0.out.aside.trans ha1 (by have := F0.out.size; omega)⟩⟩
end Go.Proofs.YtkonjpcgfdcfbaaDoor
