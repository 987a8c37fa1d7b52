/- The sender's Again: beats; slices.Delete, from the front, of a row of beats of one's own; The sender's Acked. -/
import Derived.Test.YtcojglkjbbgoaaaDoorJSBeat
import Derived.Deep.RegionHeld
namespace Go.Proofs.YtcojglkjbbgoaaaDoor
open Go.RowKit
set_option maxRecDepth 100000

theorem beats_at : ∀ (f t s : Int) (l : List (Int × Int)) (k : Nat) (p : Int × Int), l[k]? = some p → ∀ j, j < 9 → (beats f t s l)[k * 9 + j]? = (beat9 f t s p.1 p.2)[j]?
  | _, _, _, [], _, _, h, _, _ => by simp at h
  | f, t, s, x :: l, 0, p, h, j, hj => by
    simp at h
    subst h
    unfold beats
    rw [List.flatMap_cons, List.getElem?_append_left (by show 0 * 9 + j < 9; omega), Nat.zero_mul, Nat.zero_add]
  | f, t, s, x :: l, k + 1, p, h, j, hj => by
    have := beats_at f t s l k p (by simpa using h) j hj
    unfold beats at this ⊢
    rw [List.flatMap_cons, List.getElem?_append_right (by show 9 ≤ _; omega), show (k + 1) * 9 + j - (beat9 f t s x.1 x.2).length = k * 9 + j by show (k + 1) * 9 + j - 9 = _; omega]
    exact this
/-- The cells of the beat k of a row of beats. -/
theorem row_beat {w : World} {base : Nat} {a : Option Addr} {n c : Nat} {f t s : Int} {l : List (Int × Int)} (h : w.ownsRow base 37 9 (.slice a n c) l.length (beats f t s l)) {k : Nat} {p : Int × Int} (hk : l[k]? = some p) :
    ∃ b, a = some ⟨b, 0, none⟩ ∧ (Value.slice a n c).ownBlock = some b ∧ ∀ j u, (beat9 f t s p.1 p.2)[j]? = some u → w.cell? ⟨b, k * 9 + j, none⟩ = some u := by
  have hkl : k < l.length := (List.getElem?_eq_some_iff.1 hk).1
  rcases h.2 with ⟨h1, h0⟩ | ⟨b, cap, cur, hv, _, hh, hc, _, hs, ht⟩
  · omega
  · injection hv with hv _ _
    subst hv
    refine ⟨b, rfl, rfl, fun j u hu => ?_⟩
    have hj : j < 9 := (List.getElem?_eq_some_iff.1 hu).1
    have e := (beats_at f t s l k p hk j hj).trans hu
    have hb : k * 9 + j < l.length * 9 := by omega
    rw [← ht, List.getElem?_take, if_pos hb, Array.getElem?_toList] at e
    rw [cell_of hh]
    exact e
/-- A row's room. -/
theorem row_room {w : World} {base e size : Nat} {v : Value} {n : Nat} {xs : List Value} (h : w.ownsRow base e size v n xs) : ∃ a c, v = .slice a n c ∧ n ≤ c := by
  rcases h.2 with ⟨rfl, rfl⟩ | ⟨g, cap, cur, rfl, _, _, hc, _⟩
  · exact ⟨_, _, rfl, Nat.le_refl _⟩
  · exact ⟨_, _, rfl, hc⟩
set_option maxHeartbeats 4000000 in
theorem againFirst_ok (w : World) (g : Nat) (f t s seq time : Int) (v : Value) (l : List (Int × Int)) (N : Int) (hN : (l.length : Int) ≤ N) (h : Snd w g f t s seq time v l) (hl : l.length ≤ 1000) :
    Calls Tryd.prog 41 #[.pointer (some ⟨g, 0, none⟩), .int .i64 N] w fun e w' => ∃ v', e = .returned v' ∧ w'.ownsRow w.heap.size 37 9 v' l.length (beats f t s l) ∧ Below w.heap.size w w' := by
  obtain ⟨i37, hi, hz0, hz1, hz2⟩ := info_parts Tryd.info37
  have H := hid h
  obtain ⟨av, cv, rfl, hcv⟩ := row_room h.row
  have c5 : w.cell? ⟨g, 5, none⟩ = some (.slice av l.length cv) := (cell_of h.box).trans rfl
  obtain ⟨n, hn⟩ : ∃ n, n = l.length := ⟨_, rfl⟩
  rw [← hn] at c5 hl hN hcv
  have HN := hid hn
  clear h hn
  have hn0 : (0 : Int) ≤ (n : Int) := by omega
  have hx1 : max N 0 = N := by omega
  have hx2 : min N (n : Int) = (n : Int) := by omega
  go_enter Tryd.func41, Tryd.ntmps41
  go_upto_region 4 with (fail)
  go_region_held (fun u => u.cell? ⟨g, 5, none⟩ = some (.slice av n cv)) (go_keep) (fail)
  go_wp2
  go_loopw [5, 24] (fun x i wr => ∃ (k : Nat) (xv : Value), k ≤ n ∧ i = .int .i64 k ∧ x = xv ∧ Hid (wr.ownsRow w.heap.size 37 9 xv (l.take k).length (beats f t s (l.take k))) ∧ Hid (Below w.heap.size w wr)) (fun _ i _ => n - (intOf i).toNat)
  case atStart => exact ⟨0, _, Nat.zero_le _, rfl, rfl, World.ownsRow_nil _ _ _ _, (Below.refl _ _).drew⟩
  case round =>
    obtain ⟨k, xv, hk, rfl, rfl, HX, HR⟩ := hrel
    by_cases hlt : k < n
    · obtain ⟨⟨ps, pt⟩, hp⟩ : ∃ p, l[k]? = some p := ⟨_, List.getElem?_eq_getElem (by rw [← HN.out]; exact hlt)⟩
      obtain ⟨b, rfl, _, hcell⟩ := row_beat H.out.row hp
      have up : ∀ j u, (beat9 f t s ps pt)[j]? = some u → wr.cell? ⟨b, k * 9 + j, none⟩ = some u := fun j u hu => by
        have e := hcell j u hu
        rw [HR.out.cell (p := ⟨b, k * 9 + j, none⟩) (lt_of_cell e)]; exact e
      have e0 : wr.cell? ⟨b, k * 9, none⟩ = some (.int .i64 f) := up 0 (.int .i64 f) rfl
      have e1 := up 1 (.int .i64 t) rfl
      have e2 := up 2 (.int .i64 s) rfl
      have e3 := up 3 (.int .i64 ps) rfl
      have e4 := up 4 (.int .i64 pt) rfl
      have e5 := up 5 (.bool true) rfl
      have e6 := up 6 (.slice none 0 0) rfl
      have e7 := up 7 (.int .i64 0) rfl
      have e8 := up 8 (.slice none 0 0) rfl
      have HT : Hid (l.take (k + 1) = l.take k ++ [(ps, pt)]) := by
        show _ = _
        obtain ⟨hk1, hk2⟩ := List.getElem?_eq_some_iff.1 hp
        rw [List.take_succ_eq_append_getElem hk1, hk2]
      have hkt : Hid ((l.take k).length = k) := by show _ = _; rw [List.length_take, ← HN.out]; omega
      obtain ⟨xa, xc, hxv⟩ := row_shape HX.out
      rw [hkt.out] at hxv HX
      subst hxv
      have hi1 : (k : Int) < (n : Int) := by omega
      clear up hcell hp
      obtain ⟨w5, hw5⟩ : ∃ w5, w5 = wr.alloc (.cells #[.int .i64 f, .int .i64 t, .int .i64 s, .int .i64 ps, .int .i64 pt, .bool true, .slice none 0 0, .int .i64 0, .slice none 0 0] 37) := ⟨_, rfl⟩
      have KC := hid (copy_beat f t s ps pt w5)
      unfold beat9 at KC
      have hb5 : Below wr.heap.size wr w5 := by rw [hw5]; exact below_alloc _ _
      go_wp2_with fail
      rw [← hw5]
      refine KC.out.mono ?_
      rintro e w8 ⟨rfl, hb8⟩
      have hbr : Below wr.heap.size wr w8 := hb5.trans (hb8.mono hb5.size)
      have X8 := hid (owns_at HX.out fun q _ h2 => hbr.block q h2)
      have B8 := hid (HR.out.trans (hbr.mono HR.out.size))
      clear hw5 KC hb5 hb8 hbr e0 e1 e2 e3 e4 e5 e6 e7 e8
      go_wp2_with (at_builtin; refine wpList_append_own _ rfl _ _ 32 rfl w.heap.size 37 i37 _ 9 104 Tryd.underlying32 hi hz0 hz1 hz2 rfl (by decide) _ _ _ rfl (X8.out.alloc _) ⟨w8.heap.size, 0, none⟩ 1 1 [.int .i64 f, .int .i64 t, .int .i64 s, .int .i64 ps, .int .i64 pt, .bool true, .slice none 0 0, .int .i64 0, .slice none 0 0] rfl rfl (cells3_new _ _ _) (one9 _ _ _ _ _) ?hm2 ?hm3 ?hm4 ?_; (case hm2 => unfold maxLen; omega); (case hm3 => omega); (case hm4 => have := B8.out.size; simp; omega); intro v9 w9 hown9 hgr9 _; have B9 : Hid (Below w.heap.size w w9) := (show Below _ _ _ from ⟨hgr9.os.trans B8.out.os, hgr9.tape.trans B8.out.tape, hgr9.output.trans B8.out.output, by have := hgr9.size; have := B8.out.size; simp at *; omega, fun q hq => by rw [hgr9.block q (by have := B8.out.size; simp; omega) (fun e => by have := (X8.out.lt q e.symm).1; omega), Below.heap_alloc _ _ _ (by have := B8.out.size; omega)]; exact B8.out.block q hq⟩); have X9 := hid hown9; clear hown9 hgr9)
      refine ⟨⟨k + 1, _, by omega, by go_num, rfl, ?_, B9.out⟩, by simp [intOf]; omega⟩
      show World.ownsRow _ _ _ _ _ _ _
      rw [HT.out, beats_snoc, List.length_append, hkt.out]
      exact X9.out
    · obtain rfl : k = n := by omega
      have HT : Hid (l.take k = l) := List.take_of_length_le (by rw [← HN.out]; omega)
      rw [HT.out] at HX
      go_wp2
      go_ret
      exact ⟨_, rfl, HX.out, HR.out⟩
theorem again_ok (w : World) (g : Nat) (f t s seq time : Int) (v : Value) (l : List (Int × Int)) (h : Snd w g f t s seq time v l) (hl : l.length ≤ 1000) :
    Calls Tryd.prog 14 #[.pointer (some ⟨g, 0, none⟩)] w fun e w' => ∃ v', e = .returned v' ∧ w'.ownsRow w.heap.size 37 9 v' l.length (beats f t s l) ∧ Below w.heap.size w w' := by
  have K := hid (againFirst_ok w g f t s seq time v l 9223372036854775807 (by omega) h hl)
  clear h
  go_enter Tryd.func14, Tryd.ntmps14
  go_wp2_with fail
  refine K.out.mono ?_
  rintro e w' ⟨v', rfl, hr, hb⟩
  obtain ⟨xa, xc, rfl⟩ := row_shape hr
  have R := hid hr
  have B := hid hb
  clear hr hb
  go_wp2
  go_ret
  exact ⟨_, rfl, R.out, B.out⟩
end Go.Proofs.YtcojglkjbbgoaaaDoor
namespace Go.Proofs.YtcojglkjbbgoaaaDoor
open Go.RowKit
set_option maxRecDepth 100000

theorem run_clear_k (w : World) (t e ty : TypeId) (z : Value) (ht : Tryd.prog.underlying t = some (.slice e)) (hv : ∀ w, (zeroValue e).run Tryd.prog w = .ok z w) (b o n c : Nat) (hn : 0 < n) (vs : List Value) (hvs : (Builtin.zeroCells z.cells n).toList = vs) (h1 : ∀ v ∈ vs, v.oneCell' = true)
    (hc : ∀ j, j < vs.length → (w.cell? ⟨b, o + j, none⟩).isSome = true) (hf : ∀ j, j < vs.length → w.frozen? ⟨b, o + j, none⟩ = false) :
    (Builtin.clear_ #[t] ty #[.slice (some ⟨b, o, none⟩) n c]).run Tryd.prog w = .ok (.tuple #[]) (w.setCells b o vs) := by
  have hst := run_storeCells_cells (P := Tryd.prog) b o vs 0 w (by simpa using hc) (by simpa using hf) h1
  simp only [Nat.add_zero] at hst
  obtain ⟨m, rfl⟩ : ∃ m, n = m + 1 := ⟨n - 1, by omega⟩
  simp [Builtin.clear_, run_underlying ht, hv, hvs, hst]
/-- What a row holds once cells are laid over it. -/
theorem row_sets {e : TypeId} {b : Nat} : ∀ (vs : List Value) (o : Nat) (w : World) (cur : Array Value), w.heap[b]? = some (.cells cur e (0, 0)) → ∃ cur' : Array Value, (w.setCells b o vs).heap[b]? = some (.cells cur' e (0, 0)) ∧ cur'.size = cur.size ∧ (∀ i, i < o ∨ o + vs.length ≤ i → cur'[i]? = cur[i]?) ∧ ∀ i, i < vs.length → o + i < cur.size → cur'[o + i]? = vs[i]?
  | [], o, w, cur, h => ⟨cur, h, rfl, fun _ _ => rfl, fun i hi => by simp at hi⟩
  | v :: r, o, w, cur, h => by
    obtain ⟨c', h1, h2, h3, h4⟩ := row_sets r (o + 1) (w.setCell ⟨b, o, none⟩ v) _ (heap_set h v)
    refine ⟨c', h1, by simpa using h2, fun i hi => ?_, fun i hi hs => ?_⟩
    · rw [h3 i (by rw [List.length_cons] at hi; omega), Array.getElem?_setIfInBounds, if_neg (by rw [List.length_cons] at hi; omega)]
    · cases i with
      | zero =>
        rw [Nat.add_zero, h3 o (by omega), Array.getElem?_setIfInBounds, if_pos rfl, if_pos (by omega)]
        rfl
      | succ i =>
        have := h4 i (by rw [List.length_cons] at hi; omega) (by simp; omega)
        rw [show o + (i + 1) = o + 1 + i by omega, this]
        rfl
theorem beats_len (f t s : Int) : ∀ l : List (Int × Int), (beats f t s l).length = l.length * 9
  | [] => rfl
  | x :: r => by
    have := beats_len f t s r
    unfold beats at this ⊢
    rw [List.flatMap_cons, List.length_append, this, List.length_cons]
    show 9 + _ = _
    omega
theorem beats_drop (f t s : Int) : ∀ (l : List (Int × Int)) (j : Nat), beats f t s (l.drop j) = (beats f t s l).drop (j * 9)
  | l, 0 => by simp
  | [], j + 1 => by simp [beats]
  | x :: l, j + 1 => by
    have := beats_drop f t s l j
    rw [List.drop_succ_cons, this]
    unfold beats
    rw [List.flatMap_cons, show (j + 1) * 9 = (beat9 f t s x.1 x.2).length + j * 9 by show _ = 9 + _; omega, ← List.drop_drop, List.drop_left]
theorem zeros9_one (n : Nat) : ∀ v ∈ (Builtin.zeroCells (Value.cells (.agg #[.int .i64 0, .int .i64 0, .int .i64 0, .int .i64 0, .int .i64 0, .bool false, .slice none 0 0, .int .i64 0, .slice none 0 0])) n).toList, v.oneCell' = true := by
  intro v hv
  simp only [Builtin.zeroCells, Value.cells] at hv
  rw [Array.mem_toList_iff, Array.mem_map] at hv
  obtain ⟨i, _, rfl⟩ := hv
  obtain ⟨j, hj⟩ : ∃ j, j = i % 9 := ⟨_, rfl⟩
  have hl : j < 9 := by omega
  show (#[Value.int .i64 0, .int .i64 0, .int .i64 0, .int .i64 0, .int .i64 0, .bool false, .slice none 0 0, .int .i64 0, .slice none 0 0][i % 9]!).oneCell' = true
  rw [← hj]
  rcases (by omega : j = 0 ∨ j = 1 ∨ j = 2 ∨ j = 3 ∨ j = 4 ∨ j = 5 ∨ j = 6 ∨ j = 7 ∨ j = 8) with h | h | h | h | h | h | h | h | h <;> rw [h] <;> rfl
theorem beats_one (f t s : Int) (l : List (Int × Int)) : ∀ u ∈ beats f t s l, u.oneCell' = true := fun u hu => by
  obtain ⟨p, _, h⟩ := List.mem_flatMap.1 hu
  exact one9 _ _ _ _ _ u h
theorem zero37 : ∀ w, (zeroValue 37).run Tryd.prog w = .ok (.agg #[.int .i64 0, .int .i64 0, .int .i64 0, .int .i64 0, .int .i64 0, .bool false, .slice none 0 0, .int .i64 0, .slice none 0 0]) w := Tryd.zeroValue37
/-- Only block b may have turned. -/
structure OnlyB (b : Nat) (w w' : World) : Prop where
  os : w'.os = w.os
  tape : w'.tape = w.tape
  output : w'.output = w.output
  size : w.heap.size = w'.heap.size
  block : ∀ k, k ≠ b → w'.heap[k]? = w.heap[k]?
theorem OnlyB.sets {b : Nat} {w w' : World} (h : OnlyB b w w') (o : Nat) (vs : List Value) : OnlyB b w (w'.setCells b o vs) := by
  have hb := below_setCells (B := 0) (b := b) (a := w') (Nat.zero_le _) vs o (Below.refl _ _)
  exact ⟨hb.os.trans h.os, hb.tape.trans h.tape, hb.output.trans h.output, by rw [setCells_size]; exact h.size, fun k hk => by rw [setCells_other _ _ _ _ _ hk]; exact h.block k hk⟩
theorem OnlyB.drew {b : Nat} {w : World} : OnlyB b w w.drew := ⟨rfl, rfl, rfl, rfl, fun _ _ => rfl⟩
set_option maxHeartbeats 4000000 in
theorem delete_front (w : World) (base b cap j n : Nat) (f t s : Int) (l : List (Int × Int)) (h : w.ownsRow base 37 9 (.slice (some ⟨b, 0, none⟩) n cap) l.length (beats f t s l)) (hn : n = l.length) (hj0 : 0 < j) (hj : j ≤ n) (hn1 : n ≤ 1000) :
    Calls Tryd.prog 40 #[.slice (some ⟨b, 0, none⟩) n cap, .int .i64 0, .int .i64 j] w fun e w' => e = .returned (.slice (some ⟨b, 0, none⟩) (n - j) cap) ∧ w'.ownsRow base 37 9 (.slice (some ⟨b, 0, none⟩) (n - j) cap) (l.drop j).length (beats f t s (l.drop j)) ∧ OnlyB b w w' := by
  obtain ⟨i37, hi, hz0, hz1, hz2⟩ := info_parts Tryd.info37
  obtain ⟨hlen, h2⟩ := h
  rcases h2 with ⟨h2, _⟩ | ⟨g, cap', cur, hv, hbase, hh, hnc, hcm, hsz, htk⟩
  · cases h2
  injection hv with hv hva hcap
  injection hv with hv
  injection hv with hv hvb hvc
  subst hv hcap
  clear hva hvb hvc
  rw [← hn] at hnc htk
  have hbl := beats_len f t s l
  -- what is laid over the front
  obtain ⟨news, hnews⟩ : ∃ news, news = beats f t s (l.drop j) := ⟨_, rfl⟩
  have hnl : news.length = (n - j) * 9 := by rw [hnews, beats_len, List.length_drop, ← hn]
  have hcur : ∀ i, i < n * 9 → cur[i]? = (beats f t s l)[i]? := fun i hi => by
    rw [← htk, List.getElem?_take, if_pos hi, Array.getElem?_toList]
  have hnc1 : ∀ q u, news[q]? = some u → w.drew.cell? ((⟨b, j * 9, none⟩ : Addr).add q) = some u := fun q u hq => by
    have hql : q < (n - j) * 9 := by have := (List.getElem?_eq_some_iff.1 hq).1; omega
    rw [Addr.add_lit]
    show w.cell? ⟨b, j * 9 + q, none⟩ = _
    rw [cell_of hh, hcur _ (by omega), ← hq, hnews, beats_drop, List.getElem?_drop]
  have hsp : ∀ q, q < news.length → (w.drew.cell? ⟨b, 0 + 0 * 9 + q, none⟩).isSome = true ∧ w.drew.frozen? ⟨b, 0 + 0 * 9 + q, none⟩ = false := fun q hq => by
    refine ⟨?_, free_of hh⟩
    show (w.cell? ⟨b, 0 + 0 * 9 + q, none⟩).isSome = true
    have : 0 + 0 * 9 + q < cur.size := by rw [hsz]; have : n * 9 ≤ cap * 9 := Nat.mul_le_mul_right 9 hnc; omega
    rw [cell_of hh, Array.getElem?_eq_getElem this]
    rfl
  obtain ⟨c1, r1, r2, r3, r4⟩ := row_sets news (0 + 0 * 9) w.drew cur hh
  obtain ⟨w1, hw1⟩ : ∃ w1, w1 = w.drew.setCells b (0 + 0 * 9) news := ⟨_, rfl⟩
  have O1 : Hid (OnlyB b w w1) := by show OnlyB _ _ _; rw [hw1]; exact OnlyB.drew.sets _ _
  rw [← hw1] at r1
  obtain ⟨vs, hvs⟩ : ∃ vs, vs = (Builtin.zeroCells (Value.cells (.agg #[.int .i64 0, .int .i64 0, .int .i64 0, .int .i64 0, .int .i64 0, .bool false, .slice none 0 0, .int .i64 0, .slice none 0 0])) j).toList := ⟨_, rfl⟩
  have hvl : vs.length = j * 9 := by rw [hvs]; simp [Builtin.zeroCells, Value.cells]; try omega
  have hcc : n * 9 ≤ cap * 9 := Nat.mul_le_mul_right 9 hnc
  have hcl : ∀ ty, (Builtin.clear_ #[32] ty #[.slice (some ⟨b, (n - j) * 9, none⟩) j (cap - (n - j))]).run Tryd.prog w1 = .ok (.tuple #[]) (w1.setCells b ((n - j) * 9) vs) := fun ty =>
    run_clear_k w1 32 37 ty _ Tryd.underlying32 zero37 b ((n - j) * 9) j (cap - (n - j)) hj0 vs hvs.symm (by rw [hvs]; exact zeros9_one _) (fun q hq => by
      rw [cell_of r1, Array.getElem?_eq_getElem (by rw [r2, hsz]; omega)]; rfl) (fun q _ => free_of r1)
  obtain ⟨c2, t1, t2, t3, t4⟩ := row_sets vs ((n - j) * 9) w1 c1 r1
  have FIN : Hid ((w1.setCells b ((n - j) * 9) vs).ownsRow base 37 9 (.slice (some ⟨b, 0, none⟩) (n - j) cap) (l.drop j).length (beats f t s (l.drop j))) := by
    have hdl : (l.drop j).length = n - j := by rw [List.length_drop, ← hn]
    refine ⟨beats_len _ _ _ _, .inr ⟨b, cap, c2, by rw [hdl], hbase, t1, by omega, hcm, by rw [t2, r2, hsz], ?_⟩⟩
    rw [hdl]
    apply List.ext_getElem?
    intro i
    rw [List.getElem?_take]
    split
    · next hi =>
      rw [Array.getElem?_toList, t3 i (.inl hi), ← hnews]
      have := r4 i (by rw [hnl]; exact hi) (by rw [hsz]; omega)
      rw [← this]
      congr 1
      omega
    · next hi =>
      rw [← hnews, List.getElem?_eq_none (by rw [hnl]; omega)]
  have OF : Hid (OnlyB b w (w1.setCells b ((n - j) * 9) vs)) := O1.out.sets _ _
  have HW1 := hid hw1
  have hone : ∀ u ∈ news, u.oneCell' = true := by rw [hnews]; exact beats_one f t s _
  have i1 : (j : Int) ≤ (n : Int) := by omega
  have i2 : (n : Int) ≤ (cap : Int) := by omega
  have i3 : ((0 : Int) == (j : Int)) = false := beq_eq_false_iff_ne.2 (by omega)
  have i4 : ((j : Int)).toNat = j := by omega
  have HN := hid hn
  clear hn hw1 hvs hvl r1 r2 r3 r4 t1 t2 t3 t4 hnews hcur hbl htk hh hlen
  go_enter Tryd.func40, Tryd.ntmps40
  go_upto_region 5 with (fail)
  have HW0 : Hid (w1 = w.drew.setCells b 0 news) := HW1.out
  by_cases hcj : cap = j
  · subst hcj
    have hne : n = cap := by omega
    subst hne
    have hnil : news = [] := List.eq_nil_of_length_eq_zero (by rw [hnl]; omega)
    have hnv : ∀ (ad : Addr) (q : Nat) (u : Value), news[q]? = some u → w.drew.cell? (ad.add q) = some u := fun ad q u hq => by rw [hnil] at hq; simp at hq
    obtain ⟨wZ, hwZ⟩ : ∃ wZ, wZ = w1.setCells b ((n - n) * 9) vs := ⟨_, rfl⟩
    rw [← hwZ] at FIN OF
    have hcl0 : ∀ ty, (Builtin.clear_ #[32] ty #[.slice (some ⟨b, 0, none⟩) n n]).run Tryd.prog w1 = .ok (.tuple #[]) wZ := fun ty => by
      have := hcl ty
      rw [← hwZ] at this
      simpa using this
    have hl0 : news.length = 0 * 9 := by rw [hnil]; rfl
    clear hcl hnc1 hnl hnil hwZ
    go_region_law (refine step_append_room rfl _ _ 32 rfl 37 i37 9 Tryd.underlying32 hi hz1 b 0 0 n rfl _ 0 _ news rfl hl0 (hnv _) hone (by omega) hsp ?_)
    first | rw [← HW1.out] | rw [← HW0.out]
    simp only [Act.put, List.setIfInBounds_toArray]
    clear hsp hone
    go_wp2
    go_ret
    exact ⟨by rw [Nat.sub_self]; rfl, FIN.out, OF.out⟩
  · go_region_law (refine step_append_room rfl _ _ 32 rfl 37 i37 9 Tryd.underlying32 hi hz1 b 0 0 cap rfl _ (n - j) _ news rfl hnl hnc1 hone (by omega) hsp ?_)
    first | rw [← HW1.out] | rw [← HW0.out]
    simp only [Act.put, List.setIfInBounds_toArray]
    clear hnc1 hsp hnl hone
    have k1 : ((n - j : Nat) : Int) ≤ (n : Int) := by omega
    have k2 : n - (n - j) = j := by omega
    go_wp2
    go_ret
    exact ⟨rfl, FIN.out, OF.out⟩
end Go.Proofs.YtcojglkjbbgoaaaDoor
namespace Go.Proofs.YtcojglkjbbgoaaaDoor
open Go.RowKit
set_option maxRecDepth 100000

theorem acked_ok (w : World) (g : Nat) (f t s seq time : Int) (v : Value) (l : List (Int × Int)) (h : Snd w g f t s seq time v l) (hl : l.length ≤ 1000) (h0 : 0 ≤ seq) (h1 : seq ≤ 1000) :
    Calls Tryd.prog 39 #[.pointer (some ⟨g, 0, none⟩)] w fun e w' => e = .returned (.int .i64 (seq - l.length)) ∧ w' = w.drew := by
  obtain ⟨a, c, rfl⟩ := row_shape h.row
  have c3 : w.cell? ⟨g, 3, none⟩ = some (.int .i64 seq) := (cell_of h.box).trans rfl
  have c5 : w.cell? ⟨g, 5, none⟩ = some (.slice a l.length c) := (cell_of h.box).trans rfl
  obtain ⟨n, hn⟩ : ∃ n, n = l.length := ⟨_, rfl⟩
  rw [← hn] at c5 hl ⊢
  clear h hn
  have r1 : (-9223372036854775808 : Int) ≤ seq - n := by omega
  have r2 : seq - n ≤ (9223372036854775807 : Int) := by omega
  go_enter Tryd.func39, Tryd.ntmps39
  go_wp2
  go_region
  go_wp2
  go_ret
  exact ⟨rfl, rfl⟩
theorem Snd.drew {w : World} {g : Nat} {f t s seq time : Int} {v : Value} {l : List (Int × Int)} (h : Snd w g f t s seq time v l) : Snd w.drew g f t s seq time v l := ⟨h.box, owns_own h.row fun _ _ => rfl⟩
set_option maxHeartbeats 2000000 in
theorem Acked_old (w : World) (g : Nat) (f t s seq time k : Int) (v : Value) (l : List (Int × Int)) (h : Snd w g f t s seq time v l) (hl : l.length ≤ 1000) (h0 : 0 ≤ seq) (h1 : seq ≤ 1000) (hk0 : 0 ≤ k) (hk : k ≤ seq - l.length) :
    Calls Tryd.prog 12 #[.pointer (some ⟨g, 0, none⟩), .int .i64 k] w fun e w' => e = .returned .nilIface ∧ Snd w' g f t s seq time v l ∧ OnlyS g v w w' := by
  have c3 : w.cell? ⟨g, 3, none⟩ = some (.int .i64 seq) := (cell_of h.box).trans rfl
  have K := hid (acked_ok w g f t s seq time v l h hl h0 h1)
  have H := hid h
  obtain ⟨n, hn⟩ : ∃ n, n = l.length := ⟨_, rfl⟩
  rw [← hn] at hl hk K
  clear h hn
  have r1 : ¬ seq < k := by omega
  have r2 : (-9223372036854775808 : Int) ≤ k - (seq - n) := by omega
  have r3 : k - (seq - n) ≤ (9223372036854775807 : Int) := by omega
  have r4 : ¬ 0 < k - (seq - n) := by omega
  go_enter Tryd.func12, Tryd.ntmps12
  go_wp2_with fail
  refine K.out.mono ?_
  rintro e w' ⟨rfl, rfl⟩
  go_wp2_with fail
  go_ret
  exact ⟨rfl, H.out.drew, ⟨rfl, rfl, rfl, Nat.le_refl _, fun _ _ _ _ => rfl⟩⟩
set_option maxHeartbeats 2000000 in
theorem Acked_new (w : World) (g j : Nat) (f t s seq time : Int) (v : Value) (l : List (Int × Int)) (h : Snd w g f t s seq time v l) (hl : l.length ≤ 1000) (h0 : 0 ≤ seq) (h1 : seq ≤ 1000) (hq : (l.length : Int) ≤ seq) (hj0 : 0 < j) (hj : j ≤ l.length) :
    Calls Tryd.prog 12 #[.pointer (some ⟨g, 0, none⟩), .int .i64 (seq - l.length + j)] w fun e w' => ∃ v', e = .returned .nilIface ∧ Snd w' g f t s seq time v' (l.drop j) ∧ OnlyS g v w w' ∧ v'.ownBlock = v.ownBlock := by
  have c3 : w.cell? ⟨g, 3, none⟩ = some (.int .i64 seq) := (cell_of h.box).trans rfl
  have K := hid (acked_ok w g f t s seq time v l h hl h0 h1)
  have H := hid h.drew
  have hrow := h.drew.row
  obtain ⟨b, cap, hv, hgb⟩ : ∃ b cap, v = .slice (some ⟨b, 0, none⟩) l.length cap ∧ g + 1 ≤ b := by
    rcases hrow.2 with ⟨_, hz⟩ | ⟨b, cap, cur, hv, hb, _⟩
    · omega
    · exact ⟨b, cap, hv, hb⟩
  subst hv
  have c5 : w.drew.cell? ⟨g, 5, none⟩ = some (.slice (some ⟨b, 0, none⟩) l.length cap) := (cell_of H.out.box).trans rfl
  have D := hid (delete_front w.drew (g + 1) b cap j l.length f t s l hrow rfl hj0 hj hl)
  obtain ⟨n, hn⟩ : ∃ n, n = l.length := ⟨_, rfl⟩
  have HN := hid hn
  rw [← hn] at hl hq hj K c5 D H ⊢
  clear h hn hrow
  have r0 : ¬ seq - n + j < 0 := by omega
  have r1 : ¬ seq < seq - n + j := by omega
  have r5 : seq - n + j - (seq - n) = (j : Int) := by omega
  have r2 : (j : Int) ≤ (9223372036854775807 : Int) := by omega
  have r4 : 0 < (j : Int) := by omega
  go_enter Tryd.func12, Tryd.ntmps12
  go_wp2_with fail
  refine K.out.mono ?_
  rintro e w' ⟨rfl, rfl⟩
  go_wp2_with fail
  refine D.out.mono ?_
  rintro e w2 ⟨rfl, hs2, ho2⟩
  have hb2 : w2.heap[g]? = some (.cells #[.int .i64 f, .int .i64 t, .int .i64 s, .int .i64 seq, .int .i64 time, .slice (some ⟨b, 0, none⟩) n cap] 86 (0, 0)) := by
    rw [ho2.block g (by omega)]; exact H.out.box
  have q5 : (w2.cell? ⟨g, 5, none⟩) = some (.slice (some ⟨b, 0, none⟩) n cap) := (cell_of hb2).trans rfl
  have z5 : w2.frozen? ⟨g, 5, none⟩ = false := free_of hb2
  have B2 := hid hb2
  have S2 := hid hs2
  have O2 := hid ho2
  clear hb2 hs2 ho2
  go_wp2_with fail
  go_ret
  refine ⟨.slice (some ⟨b, 0, none⟩) (n - j) cap, rfl, ⟨heap_set B2.out _, ?_⟩, ⟨O2.out.os, O2.out.tape, O2.out.output, ?_, ?_⟩, rfl⟩
  · refine owns_own S2.out fun b' hb' => Below.heap_setCell _ _ _ _ fun e => ?_
    have h3 : b = b' := Option.some.inj hb'
    subst h3
    have e' : b = g := e
    omega
  · rw [size_set]; exact Nat.le_of_eq O2.out.size
  · intro k hk hkg hkv
    rw [Below.heap_setCell _ _ _ _ hkg, O2.out.block k fun e => hkv (by rw [e]; rfl)]
    rfl
end Go.Proofs.YtcojglkjbbgoaaaDoor
