/- BackWires; SameMessages of the same; fitMessages; WayError; fitMessages, WayError. -/
import Derived.Test.YtcojglkjbbgoaaaDoorJHB
import Derived.Test.YtcojglkjbbgoaaaDoorJHC
import Derived.Test.YtcojglkjbbgoaaaDoorJHW
import Derived.Deep.RegionHeld
namespace Go.Proofs.YtcojglkjbbgoaaaDoor
open Go.RowKit
set_option maxRecDepth 100000

theorem Tryd.info58' : (Tryd.prog.info? 58).map (fun i => (i.zero, i.size, i.bytes)) = some (some (.agg #[.int .i64 0, .int .i64 0, .int .i64 0, .int .i64 0, .int .i64 0, .bool false, .slice none 0 0, .int .i64 0, .slice none 0 0]), 9, 104) := by kernel_rfl
set_option maxHeartbeats 2000000 in
/-- BackWires: the same cells in a row of its own. -/
theorem backWires_raw (w : World) (base : Nat) (v : Value) (l : List Raw) (h : w.ownsRow base 37 9 v l.length (raws l)) (hl : l.length ≤ 1000) :
    Calls Tryd.prog 27 #[v] w fun e w' => ∃ v', e = .returned v' ∧ w'.ownsRow w.heap.size 58 9 v' l.length (raws l) ∧ Below w.heap.size w w' := by
  obtain ⟨i58, hi, hz0, hz1, hz2⟩ := info_parts Tryd.info58'
  have H := hid h
  obtain ⟨av, cv, rfl⟩ := row_shape h
  obtain ⟨n, hn⟩ : ∃ n, n = l.length := ⟨_, rfl⟩
  rw [← hn] at hl H ⊢
  have HN := hid hn
  clear h hn
  go_enter Tryd.func27, Tryd.ntmps27
  go_wp2
  go_loopw [3, 4] (fun x i wr => ∃ (k : Nat) (xv : Value), k ≤ n ∧ i = .int .i64 k ∧ x = xv ∧ Hid (wr.ownsRow w.heap.size 58 9 xv (l.take k).length (raws (l.take k))) ∧ Hid (Below w.heap.size w wr)) (fun _ i _ => n - (intOf i).toNat)
  case atStart => exact ⟨0, _, Nat.zero_le _, rfl, rfl, World.ownsRow_nil _ _ _ _, Below.refl _ _⟩
  case round =>
    obtain ⟨k, xv, hk, rfl, rfl, HX, HR⟩ := hrel
    by_cases hlt : k < n
    · obtain ⟨r, hr⟩ : ∃ r, l[k]? = some r := ⟨_, List.getElem?_eq_getElem (by rw [← HN.out]; exact hlt)⟩
      obtain ⟨b, rfl, _, hcell⟩ := row_raw H.out HN.out.symm hr
      have HT : Hid (l.take (k + 1) = l.take k ++ [r]) := by
        show _ = _
        obtain ⟨hk1, hk2⟩ := List.getElem?_eq_some_iff.1 hr
        rw [List.take_succ_eq_append_getElem hk1, hk2]
      obtain ⟨x1, x2, x3, x4, x5, x6, a1, n1, c1, p, a2, n2, c2⟩ := r
      have up : ∀ j u, (Raw.cells ⟨x1, x2, x3, x4, x5, x6, a1, n1, c1, p, a2, n2, c2⟩)[j]? = some u → wr.cell? ⟨b, k * 9 + j, none⟩ = some u := fun j u hu => by
        have e := hcell j u hu
        rw [HR.out.cell (p := ⟨b, k * 9 + j, none⟩) (lt_of_cell e)]; exact e
      have e0 : wr.cell? ⟨b, k * 9, none⟩ = some (.int .i64 x1) := up 0 _ rfl
      have e1 := up 1 (.int .i64 x2) rfl
      have e2 := up 2 (.int .i64 x3) rfl
      have e3 := up 3 (.int .i64 x4) rfl
      have e4 := up 4 (.int .i64 x5) rfl
      have e5 := up 5 (.bool x6) rfl
      have e6 := up 6 (.slice a1 n1 c1) rfl
      have e7 := up 7 (.int .i64 p) rfl
      have e8 := up 8 (.slice a2 n2 c2) rfl
      have hkt : Hid ((l.take k).length = k) := by show _ = _; rw [List.length_take, ← HN.out]; omega
      obtain ⟨xa, xc, hxv⟩ := row_shape HX.out
      rw [hkt.out] at hxv HX
      subst hxv
      have hi1 : (k : Int) < (n : Int) := by omega
      clear up hcell hr
      go_wp2_with fail
      refine (backWire_any wr x1 x2 x3 x4 x5 p x6 a1 a2 n1 c1 n2 c2).mono ?_
      rintro e w8 ⟨rfl, hb8⟩
      obtain ⟨w5, hw5⟩ : ∃ w5, w5 = w8.alloc (.cells #[.int .i64 x1, .int .i64 x2, .int .i64 x3, .int .i64 x4, .int .i64 x5, .bool x6, .slice a1 n1 c1, .int .i64 p, .slice a2 n2 c2] 58) := ⟨_, rfl⟩
      have hbr : Below wr.heap.size wr w5 := by rw [hw5]; exact hb8.alloc hb8.size _
      have hX5 : w5.heap[w8.heap.size]? = some (.cells #[.int .i64 x1, .int .i64 x2, .int .i64 x3, .int .i64 x4, .int .i64 x5, .bool x6, .slice a1 n1 c1, .int .i64 p, .slice a2 n2 c2] 58 (0, 0)) := by rw [hw5]; exact heap_new _ _
      have X8 := hid (owns_at HX.out fun q _ h2 => hbr.block q h2)
      have B8 := hid (HR.out.trans (hbr.mono HR.out.size))
      clear hb8 hbr e0 e1 e2 e3 e4 e5 e6 e7 e8
      go_upto_region 6 with (fail)
      rw [← hw5]
      clear hw5
      have t0 : w5.cell? ⟨w8.heap.size, 0, none⟩ = some (.int .i64 x1) := (cell_of hX5).trans rfl
      have t1 : w5.cell? ⟨w8.heap.size, 1, none⟩ = some (.int .i64 x2) := (cell_of hX5).trans rfl
      have t2 : w5.cell? ⟨w8.heap.size, 2, none⟩ = some (.int .i64 x3) := (cell_of hX5).trans rfl
      have t3 : w5.cell? ⟨w8.heap.size, 3, none⟩ = some (.int .i64 x4) := (cell_of hX5).trans rfl
      have t4 : w5.cell? ⟨w8.heap.size, 4, none⟩ = some (.int .i64 x5) := (cell_of hX5).trans rfl
      have t5 : w5.cell? ⟨w8.heap.size, 5, none⟩ = some (.bool x6) := (cell_of hX5).trans rfl
      have t6 : w5.cell? ⟨w8.heap.size, 6, none⟩ = some (.slice a1 n1 c1) := (cell_of hX5).trans rfl
      have t7 : w5.cell? ⟨w8.heap.size, 7, none⟩ = some (.int .i64 p) := (cell_of hX5).trans rfl
      have t8 : w5.cell? ⟨w8.heap.size, 8, none⟩ = some (.slice a2 n2 c2) := (cell_of hX5).trans rfl
      clear hX5
      go_wp2_with (at_builtin; refine wpList_append_own _ rfl _ _ 50 rfl w.heap.size 58 i58 _ 9 104 Tryd.underlying50 hi hz0 hz1 hz2 rfl (by decide) _ _ _ rfl (X8.out.alloc _) ⟨w5.heap.size, 0, none⟩ 1 1 [.int .i64 x1, .int .i64 x2, .int .i64 x3, .int .i64 x4, .int .i64 x5, .bool x6, .slice a1 n1 c1, .int .i64 p, .slice a2 n2 c2] rfl rfl (cells3_new _ _ _) (oneR ⟨x1, x2, x3, x4, x5, x6, a1, n1, c1, p, a2, n2, c2⟩) ?hm2 ?hm3 ?hm4 ?_; (case hm2 => unfold maxLen; omega); (case hm3 => omega); (case hm4 => have := B8.out.size; simp; omega); intro v9 w9 hown9 hgr9 _; have B9 : Hid (Below w.heap.size w w9) := (show Below _ _ _ from ⟨hgr9.os.trans B8.out.os, hgr9.tape.trans B8.out.tape, hgr9.output.trans B8.out.output, by have := hgr9.size; have := B8.out.size; simp at *; omega, fun q hq => by rw [hgr9.block q (by have := B8.out.size; simp; omega) (fun e => by have := (X8.out.lt q e.symm).1; omega), Below.heap_alloc _ _ _ (by have := B8.out.size; omega)]; exact B8.out.block q hq⟩); have X9 := hid hown9; clear hown9 hgr9)
      refine ⟨⟨k + 1, _, by omega, by go_num, rfl, ?_, B9.out⟩, by simp [intOf]; omega⟩
      show World.ownsRow _ _ _ _ _ _ _
      rw [HT.out, raws_snoc, List.length_append, hkt.out]
      exact X9.out
    · obtain rfl : k = n := by omega
      have HT : Hid (l.take k = l) := List.take_of_length_le (by rw [← HN.out]; omega)
      rw [HT.out, ← HN.out] at HX
      go_wp2
      go_ret
      exact ⟨_, rfl, HX.out, HR.out⟩
/-- Rows of nine cells that read as messages. -/
def MsgsAt (w : World) (v : Value) (ms : List MsgV) : Prop := ∃ (rs : List Raw) (a : Option Addr) (c : Nat), v = .slice a ms.length c ∧ rs.length = ms.length ∧ (∀ (i : Nat) (r : Raw) (m : MsgV), rs[i]? = some r → ms[i]? = some m → RawAt w r m) ∧ (ms = [] ∨ ∃ b o, a = some ⟨b, o, none⟩ ∧ ∀ (i : Nat) (r : Raw), rs[i]? = some r → ∀ (j : Nat) (u : Value), r.cells[j]? = some u → w.cell? ⟨b, o + i * 9 + j, none⟩ = some u)
theorem MsgsAt.mono {w w' : World} {v : Value} {ms : List MsgV} {B : Nat} (h : MsgsAt w v ms) (hb : Below B w w') (hB : w.heap.size ≤ B) : MsgsAt w' v ms := by
  obtain ⟨rs, a, c, h1, h2, h3, h4⟩ := h
  refine ⟨rs, a, c, h1, h2, fun i r m e1 e2 => (h3 i r m e1 e2).mono hb hB, ?_⟩
  rcases h4 with h4 | ⟨b, o, e, h4⟩
  · exact .inl h4
  · exact .inr ⟨b, o, e, fun i r hr j u hu => by
      have := h4 i r hr j u hu
      rw [hb.cell (p := ⟨b, o + i * 9 + j, none⟩) (Nat.lt_of_lt_of_le (lt_of_cell this) hB)]; exact this⟩
/-- Message k of them: where it lies. -/
theorem MsgsAt.at_ {w : World} {a : Option Addr} {n c : Nat} {ms : List MsgV} (h : MsgsAt w (.slice a n c) ms) {k : Nat} {m : MsgV} (hk : ms[k]? = some m) : ∃ (r : Raw) (b o : Nat), a = some ⟨b, o, none⟩ ∧ RawAt w r m ∧ ∀ (j : Nat) (u : Value), r.cells[j]? = some u → w.cell? ⟨b, o + k * 9 + j, none⟩ = some u := by
  obtain ⟨rs, a', c', h1, h2, h3, h4⟩ := h
  injection h1 with h1 _ _
  subst h1
  have hkl := (List.getElem?_eq_some_iff.1 hk).1
  have hr : rs[k]? = some (rs[k]'(by omega)) := List.getElem?_eq_getElem (by omega)
  rcases h4 with h4 | ⟨b, o, e, h4⟩
  · subst h4
    simp at hk
  · exact ⟨_, b, o, e, h3 k _ m hr hk, h4 k _ hr⟩
/-- A row of one's own whose cells read as messages. -/
theorem msgs_of_row {w : World} {base e n : Nat} {v : Value} {l : List Raw} {ms : List MsgV} (h : w.ownsRow base e 9 v n (raws l)) (hl : l.length = n) (hm : F2 (RawAt w) l ms) : MsgsAt w v ms := by
  obtain ⟨a, c, rfl⟩ := row_shape h
  have hlen := f2_len hm
  refine ⟨l, a, c, by rw [← hl, hlen], hlen, fun i r m e1 e2 => ?_, ?_⟩
  · obtain ⟨r', hr', h'⟩ := f2_get hm i m e2
    rw [e1] at hr'
    obtain rfl := Option.some.inj hr'
    exact h'
  · by_cases h0 : ms = []
    · exact .inl h0
    · right
      have h1 : 0 < l.length := by
        rw [hlen]
        exact List.length_pos_iff.2 h0
      obtain ⟨b, hb, _, _⟩ := row_raw h hl (List.getElem?_eq_getElem h1)
      refine ⟨b, 0, hb, fun i r hr j u hu => ?_⟩
      obtain ⟨b', hb', _, hc⟩ := row_raw h hl hr
      rw [hb] at hb'
      injection hb' with hb'
      injection hb' with hb' _ _
      subst hb'
      rw [Nat.zero_add]
      exact hc j u hu
/-- Few dots and ops. -/
def Small (m : MsgV) : Prop := m.c.when_.length ≤ 1000000 ∧ m.c.ops.length ≤ 1000000 ∧ ∀ o ∈ m.c.ops, o.dots.length ≤ 1000000
theorem Light.small {m : MsgV} (h : Light m.c) : Small m := ⟨by have := h.when_; omega, by have := h.ops; omega, fun o ho => by have := (h.each o ho).2.2; omega⟩
theorem sameRaw (w : World) (r q : Raw) (m : MsgV) (h : RawAt w r m) (h' : RawAt w q m) (hs : Small m) : Calls Tryd.prog 22 #[.agg r.cells.toArray, .agg q.cells.toArray] w fun e w' => e = .returned (.bool true) ∧ Below w.heap.size w w' := by
  obtain ⟨y1, y2, y3, y4, y5, y6, a1, n1, c1, p, a2, n2, c2⟩ := r
  obtain ⟨z1, z2, z3, z4, z5, z6, b1, m1, d1, p', b2, m2, d2⟩ := q
  obtain ⟨⟨e1, e2, e3, e4, e5, e6, ep⟩, hw, ho⟩ := h
  obtain ⟨⟨f1, f2, f3, f4, f5, f6, fp⟩, hw', ho'⟩ := h'
  simp only at e1 e2 e3 e4 e5 e6 ep hw ho f1 f2 f3 f4 f5 f6 fp hw' ho'
  subst e1 e2 e3 e4 e5 e6 ep f1 f2 f3 f4 f5 f6 fp
  exact sameMessage_same w m _ _ _ _ hw ho hw' ho' hs.1 hs.2.1 hs.2.2
set_option maxHeartbeats 4000000 in
theorem sameMessages_same (w : World) (v v' : Value) (ms : List MsgV) (h : MsgsAt w v ms) (h' : MsgsAt w v' ms) (hs : ∀ m ∈ ms, Small m) (hl : ms.length ≤ 1000) :
    Calls Tryd.prog 26 #[v, v'] w fun e w' => e = .returned (.bool true) ∧ Below w.heap.size w w' := by
  have H := hid h
  have H' := hid h'
  have HS := hid hs
  obtain ⟨_, a, c, rfl, _⟩ := h
  obtain ⟨_, a', c', rfl, _⟩ := h'
  obtain ⟨n, hn⟩ : ∃ n, n = ms.length := ⟨_, rfl⟩
  rw [← hn] at hl H H' ⊢
  have HN := hid hn
  have bn : ((n : Int) != (n : Int)) = false := by simp
  clear hn hs
  go_enter Tryd.func26, Tryd.ntmps26
  go_wp2
  go_loopw [5] (fun i wr => ∃ k : Nat, k ≤ n ∧ i = .int .i64 k ∧ Hid (Below w.heap.size w wr)) (fun i _ => n - (intOf i).toNat)
  case atStart => exact ⟨0, Nat.zero_le _, rfl, Below.refl _ _⟩
  case round =>
    obtain ⟨k, hk, rfl, HR⟩ := hrel
    by_cases hlt : k < n
    · obtain ⟨m, hm⟩ : ∃ m, ms[k]? = some m := ⟨_, List.getElem?_eq_getElem (by rw [← HN.out]; exact hlt)⟩
      obtain ⟨r, b, o, rfl, hra, hrc⟩ := H.out.at_ hm
      obtain ⟨q, b', o', rfl, hqa, hqc⟩ := H'.out.at_ hm
      have hsm := HS.out m (List.mem_of_getElem? hm)
      have KO : Hid (∀ u, Below wr.heap.size wr u → Calls Tryd.prog 22 #[.agg r.cells.toArray, .agg q.cells.toArray] u fun e w' => e = .returned (.bool true) ∧ Below wr.heap.size wr w') := fun u hu => by
        have hub : Below w.heap.size w u := HR.out.trans (hu.mono HR.out.size)
        refine (sameRaw u r q m (hra.mono hub (Nat.le_refl _)) (hqa.mono hub (Nat.le_refl _)) hsm).mono ?_
        rintro e w' ⟨rfl, hb⟩
        exact ⟨rfl, hu.trans (hb.mono hu.size)⟩
      have up : ∀ u, Below wr.heap.size wr u → (∀ j x, r.cells[j]? = some x → u.cell? ⟨b, o + k * 9 + j, none⟩ = some x) ∧ ∀ j x, q.cells[j]? = some x → u.cell? ⟨b', o' + k * 9 + j, none⟩ = some x := fun u hu => by
        have hub : Below w.heap.size w u := HR.out.trans (hu.mono HR.out.size)
        exact ⟨fun j x hx => by have e := hrc j x hx; rw [hub.cell (p := ⟨b, o + k * 9 + j, none⟩) (lt_of_cell e)]; exact e, fun j x hx => by have e := hqc j x hx; rw [hub.cell (p := ⟨b', o' + k * 9 + j, none⟩) (lt_of_cell e)]; exact e⟩
      have hnq : r.x1 = q.x1 ∧ r.x2 = q.x2 ∧ r.x3 = q.x3 ∧ r.x4 = q.x4 ∧ r.x5 = q.x5 ∧ r.x6 = q.x6 ∧ r.p = q.p := ⟨hra.nums.x1.trans hqa.nums.x1.symm, hra.nums.x2.trans hqa.nums.x2.symm, hra.nums.x3.trans hqa.nums.x3.symm, hra.nums.x4.trans hqa.nums.x4.symm, hra.nums.x5.trans hqa.nums.x5.symm, hra.nums.x6.trans hqa.nums.x6.symm, hra.nums.p.trans hqa.nums.p.symm⟩
      obtain ⟨x1, x2, x3, x4, x5, x6, a1, n1, c1, p, a2, n2, c2⟩ := r
      obtain ⟨z1, z2, z3, z4, z5, z6, b1, m1, d1, p', b2, m2, d2⟩ := q
      simp only at hnq
      obtain ⟨rfl, rfl, rfl, rfl, rfl, rfl, rfl⟩ := hnq
      have HELD : Hid (∀ u, Below wr.heap.size wr u → u.cell? ⟨b, o + k * 9, none⟩ = some (.int .i64 x1) ∧ u.cell? ⟨b, o + k * 9 + 1, none⟩ = some (.int .i64 x2) ∧ u.cell? ⟨b, o + k * 9 + 2, none⟩ = some (.int .i64 x3) ∧ u.cell? ⟨b, o + k * 9 + 3, none⟩ = some (.int .i64 x4) ∧ u.cell? ⟨b, o + k * 9 + 4, none⟩ = some (.int .i64 x5) ∧ u.cell? ⟨b, o + k * 9 + 5, none⟩ = some (.bool x6) ∧ u.cell? ⟨b, o + k * 9 + 6, none⟩ = some (.slice a1 n1 c1) ∧ u.cell? ⟨b, o + k * 9 + 7, none⟩ = some (.int .i64 p) ∧ u.cell? ⟨b, o + k * 9 + 8, none⟩ = some (.slice a2 n2 c2) ∧ u.cell? ⟨b', o' + k * 9, none⟩ = some (.int .i64 x1) ∧ u.cell? ⟨b', o' + k * 9 + 1, none⟩ = some (.int .i64 x2) ∧ u.cell? ⟨b', o' + k * 9 + 2, none⟩ = some (.int .i64 x3) ∧ u.cell? ⟨b', o' + k * 9 + 3, none⟩ = some (.int .i64 x4) ∧ u.cell? ⟨b', o' + k * 9 + 4, none⟩ = some (.int .i64 x5) ∧ u.cell? ⟨b', o' + k * 9 + 5, none⟩ = some (.bool x6) ∧ u.cell? ⟨b', o' + k * 9 + 6, none⟩ = some (.slice b1 m1 d1) ∧ u.cell? ⟨b', o' + k * 9 + 7, none⟩ = some (.int .i64 p) ∧ u.cell? ⟨b', o' + k * 9 + 8, none⟩ = some (.slice b2 m2 d2)) := fun u hu => by
        obtain ⟨h1, h2⟩ := up u hu
        exact ⟨h1 0 _ rfl, h1 1 _ rfl, h1 2 _ rfl, h1 3 _ rfl, h1 4 _ rfl, h1 5 _ rfl, h1 6 _ rfl, h1 7 _ rfl, h1 8 _ rfl, h2 0 _ rfl, h2 1 _ rfl, h2 2 _ rfl, h2 3 _ rfl, h2 4 _ rfl, h2 5 _ rfl, h2 6 _ rfl, h2 7 _ rfl, h2 8 _ rfl⟩
      unfold Raw.cells at KO
      simp only at KO
      have hb0 : Below wr.heap.size wr wr.drew := (Below.refl _ _).drew
      have i1 : (k : Int) < (n : Int) := by omega
      clear up hra hqa hrc hqc hm hsm
      go_upto_region 6 with (fail)
      go_region_held (fun u => u.cell? ⟨b, o + k * 9, none⟩ = some (.int .i64 x1) ∧ u.cell? ⟨b, o + k * 9 + 1, none⟩ = some (.int .i64 x2) ∧ u.cell? ⟨b, o + k * 9 + 2, none⟩ = some (.int .i64 x3) ∧ u.cell? ⟨b, o + k * 9 + 3, none⟩ = some (.int .i64 x4) ∧ u.cell? ⟨b, o + k * 9 + 4, none⟩ = some (.int .i64 x5) ∧ u.cell? ⟨b, o + k * 9 + 5, none⟩ = some (.bool x6) ∧ u.cell? ⟨b, o + k * 9 + 6, none⟩ = some (.slice a1 n1 c1) ∧ u.cell? ⟨b, o + k * 9 + 7, none⟩ = some (.int .i64 p) ∧ u.cell? ⟨b, o + k * 9 + 8, none⟩ = some (.slice a2 n2 c2) ∧ u.cell? ⟨b', o' + k * 9, none⟩ = some (.int .i64 x1) ∧ u.cell? ⟨b', o' + k * 9 + 1, none⟩ = some (.int .i64 x2) ∧ u.cell? ⟨b', o' + k * 9 + 2, none⟩ = some (.int .i64 x3) ∧ u.cell? ⟨b', o' + k * 9 + 3, none⟩ = some (.int .i64 x4) ∧ u.cell? ⟨b', o' + k * 9 + 4, none⟩ = some (.int .i64 x5) ∧ u.cell? ⟨b', o' + k * 9 + 5, none⟩ = some (.bool x6) ∧ u.cell? ⟨b', o' + k * 9 + 6, none⟩ = some (.slice b1 m1 d1) ∧ u.cell? ⟨b', o' + k * 9 + 7, none⟩ = some (.int .i64 p) ∧ u.cell? ⟨b', o' + k * 9 + 8, none⟩ = some (.slice b2 m2 d2)) ((refine HELD.out _ ?_; with_reducible assumption)) ((go_at_call 22; refine (KO.out _ (by with_reducible assumption)).mono ?_; rintro e u1 ⟨rfl, hb1⟩))
      have HB1 := hid hb1
      clear hb1
      go_wp2
      go_roundw
      case rel => exact ⟨k + 1, by omega, by go_num, HR.out.trans (HB1.out.mono HR.out.size)⟩
      case measure => simp [intOf]; omega
    · obtain rfl : k = n := by omega
      go_wp2
      go_ret
      exact ⟨rfl, HR.out⟩
end Go.Proofs.YtcojglkjbbgoaaaDoor
namespace Go.Proofs.YtcojglkjbbgoaaaDoor
open Go.RowKit
set_option maxRecDepth 100000

def wayE (f t s : Int) : Int := if f < 0 ∨ 6 ≤ f ∨ t < 0 ∨ 6 ≤ t ∨ s < 0 ∨ 6 ≤ s then 2 else if f = t then 3 else 0
theorem wayE_ok {f t s : Int} (h : wayE f t s = 0) : WayOk f t s := by
  unfold wayE at h
  split at h
  · omega
  · split at h
    · omega
    · exact ⟨by omega, by omega, by omega, by omega, by omega, by omega, by omega⟩
theorem wayE_pos {f t s : Int} : wayE f t s = 0 ∨ 0 < wayE f t s := by
  unfold wayE
  split
  · exact .inr (by omega)
  · split
    · exact .inr (by omega)
    · exact .inl rfl
set_option maxHeartbeats 2000000 in
theorem wayError_any (f t s : Int) (w : World) : Calls Tryd.prog 15 #[.int .i64 f, .int .i64 t, .int .i64 s] w fun e w' => e = .returned (.int .i64 (wayE f t s)) ∧ w' = w := by
  unfold wayE
  by_cases h1 : f < 0
  · rw [if_pos (by omega)]
    go_enter Tryd.func15, Tryd.ntmps15
    go_wp2
    go_ret
    exact ⟨rfl, rfl⟩
  by_cases h2 : 6 ≤ f
  · rw [if_pos (by omega)]
    go_enter Tryd.func15, Tryd.ntmps15
    go_wp2
    go_ret
    exact ⟨rfl, rfl⟩
  by_cases h3 : t < 0
  · rw [if_pos (by omega)]
    go_enter Tryd.func15, Tryd.ntmps15
    go_wp2
    go_ret
    exact ⟨rfl, rfl⟩
  by_cases h4 : 6 ≤ t
  · rw [if_pos (by omega)]
    go_enter Tryd.func15, Tryd.ntmps15
    go_wp2
    go_ret
    exact ⟨rfl, rfl⟩
  by_cases h5 : s < 0
  · rw [if_pos (by omega)]
    go_enter Tryd.func15, Tryd.ntmps15
    go_wp2
    go_ret
    exact ⟨rfl, rfl⟩
  by_cases h6 : 6 ≤ s
  · rw [if_pos (by omega)]
    go_enter Tryd.func15, Tryd.ntmps15
    go_wp2
    go_ret
    exact ⟨rfl, rfl⟩
  rw [if_neg (by omega)]
  by_cases h7 : f = t
  · rw [if_pos h7]
    subst h7
    have bb : (f == f) = true := by simp
    go_enter Tryd.func15, Tryd.ntmps15
    go_wp2
    go_ret
    exact ⟨rfl, rfl⟩
  · rw [if_neg h7]
    have bb : (f == t) = false := beq_eq_false_iff_ne.2 h7
    clear h7
    go_enter Tryd.func15, Tryd.ntmps15
    go_wp2
    go_ret
    exact ⟨rfl, rfl⟩
/-- What fitMessages answers: no, or that all are light. -/
def FitPost (most : Int) (ms : List MsgV) (w : World) (e : Ending) (w' : World) : Prop := (e = .returned (.bool false) ∨ (e = .returned (.bool true) ∧ (ms.length : Int) ≤ most ∧ ∀ m ∈ ms, Light m.c)) ∧ Below w.heap.size w w'
set_option maxHeartbeats 4000000 in
theorem fit_any (w : World) (v : Value) (ms : List MsgV) (most : Int) (h : MsgsAt w v ms) (hmost : most ≤ 1000) : Calls Tryd.prog 28 #[v, .int .i64 most] w (FitPost most ms w) := by
  have H := hid h
  obtain ⟨_, a, c, rfl, _⟩ := h
  obtain ⟨n, hn⟩ : ∃ n, n = ms.length := ⟨_, rfl⟩
  rw [← hn] at H ⊢
  have HN := hid hn
  clear hn
  by_cases hm : most < (n : Int)
  · go_enter Tryd.func28, Tryd.ntmps28
    go_wp2
    go_ret
    exact ⟨.inl rfl, Below.refl _ _⟩
  go_enter Tryd.func28, Tryd.ntmps28
  go_wp2
  go_loopw [5] (fun i wr => ∃ k : Nat, k ≤ n ∧ i = .int .i64 k ∧ Hid (∀ j m, j < k → ms[j]? = some m → Light m.c) ∧ Hid (Below w.heap.size w wr)) (fun i _ => n - (intOf i).toNat)
  case atStart => exact ⟨0, Nat.zero_le _, rfl, fun j m h => absurd h (Nat.not_lt_zero _), Below.refl _ _⟩
  case round =>
    obtain ⟨k, hk, rfl, HI, HR⟩ := hrel
    by_cases hlt : k < n
    · obtain ⟨m, hmk⟩ : ∃ m, ms[k]? = some m := ⟨_, List.getElem?_eq_getElem (by rw [← HN.out]; exact hlt)⟩
      obtain ⟨r, b, o, rfl, hra, hrc⟩ := H.out.at_ hmk
      have HMK := hid hmk
      have hra' := hra.mono HR.out (Nat.le_refl _)
      have up : ∀ j x, r.cells[j]? = some x → wr.cell? ⟨b, o + k * 9 + j, none⟩ = some x := fun j x hx => by have e := hrc j x hx; rw [HR.out.cell (p := ⟨b, o + k * 9 + j, none⟩) (lt_of_cell e)]; exact e
      have hpl := hra.nums.p
      have KH := hid (heavy_any wr m.c _ _ hra'.ints hra'.ops)
      rw [← hpl] at KH
      obtain ⟨x1, x2, x3, x4, x5, x6, a1, n1, c1, p, a2, n2, c2⟩ := r
      simp only at KH
      have e6 : wr.cell? ⟨b, o + k * 9 + 6, none⟩ = some (.slice a1 n1 c1) := up 6 _ rfl
      have e7 : wr.cell? ⟨b, o + k * 9 + 6 + 1, none⟩ = some (.int .i64 p) := up 7 _ rfl
      have e8 : wr.cell? ⟨b, o + k * 9 + 6 + 2, none⟩ = some (.slice a2 n2 c2) := up 8 _ rfl
      have e7' : wr.cell? ⟨b, o + k * 9 + 7, none⟩ = some (.int .i64 p) := up 7 _ rfl
      have e8' : wr.cell? ⟨b, o + k * 9 + 8, none⟩ = some (.slice a2 n2 c2) := up 8 _ rfl
      have hi1 : (k : Int) < (n : Int) := by omega
      clear hmk hra hra' hrc up hpl
      go_wp2_with fail
      refine KH.out.mono ?_
      rintro e w2 ⟨he, hb2⟩
      have B2 := hid (HR.out.trans (hb2.mono HR.out.size))
      clear hb2
      rcases he with rfl | ⟨rfl, hL⟩
      · go_wp2_with fail
        go_ret
        exact ⟨.inl rfl, B2.out⟩
      · have HL := hid hL
        clear hL
        go_wp2_with fail
        exact ⟨⟨k + 1, by omega, by go_num, fun j m' hj hm' => by
          rcases Nat.lt_succ_iff_lt_or_eq.1 hj with h | rfl
          · exact HI.out j m' h hm'
          · have := HMK.out.symm.trans hm'
            obtain rfl := Option.some.inj this
            exact HL.out, B2.out⟩, by simp [intOf]; omega⟩
    · obtain rfl : k = n := by omega
      go_wp2_with fail
      go_ret
      refine ⟨.inr ⟨rfl, by rw [← HN.out]; omega, fun m hm => ?_⟩, HR.out⟩
      obtain ⟨j, hj⟩ := List.getElem?_of_mem hm
      exact HI.out j m (by rw [HN.out]; exact (List.getElem?_eq_some_iff.1 hj).1) hj
end Go.Proofs.YtcojglkjbbgoaaaDoor
