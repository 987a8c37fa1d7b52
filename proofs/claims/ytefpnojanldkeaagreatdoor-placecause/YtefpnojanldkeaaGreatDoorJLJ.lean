/- commitOf: a transaction's commit, all of it new memory. -/
import Derived.Test.YtefpnojanldkeaaGreatDoorJLI
namespace Go.Proofs.YtefpnojanldkeaaGreatDoor
open Go.RowKit Go.Maps
set_option maxRecDepth 100000
set_option linter.unusedSectionVars false
variable [Inhabited ComV] [DecidableEq D3] [Inhabited D3] [Inhabited Dd] [Inhabited Dn] [Inhabited OpV]

/-- Ops, numbered as they stand. -/
def opsIdx (os : List OpV) : List OpV := os.zipIdx.map fun p => { p.1 with at_ := (p.2 : Nat) }
theorem opsIdx_len (os : List OpV) : (opsIdx os).length = os.length := by simp [opsIdx]
theorem opsIdx_get (os : List OpV) (k : Nat) : (opsIdx os)[k]? = os[k]?.map fun o => { o with at_ := (k : Nat) } := by
  simp [opsIdx, List.getElem?_zipIdx]
  rfl
theorem flat_setj (A B : List (List Value)) (x : List Value) (u : Value) (j : Nat) (hj : j < 7) (hA : ∀ y ∈ A, y.length = 7) (hx : x.length = 7) : ((A ++ x :: B).flatten).set (A.length * 7 + j) u = (A ++ x.set j u :: B).flatten := by
  have h1 := flat7_len A hA
  rw [List.flatten_append, List.flatten_append, List.flatten_cons, List.flatten_cons, List.set_append_right _ _ (by omega), List.set_append_left _ _ (by omega), show A.length * 7 + j - A.flatten.length = j by omega]
structure CoI (w : World) (cb : Nat) (p : Int) (ws : List Int) (os : List OpV) (n1 n2 : Nat) (a1 : Option Addr) (c1 : Nat) (a2 : Option Addr) (c2 : Nat) (k : Nat) (wr : World) : Prop where
  below : Below w.heap.size w wr
  lt : w.heap.size < cb
  box : wr.heap[cb]? = some (.cells #[.slice a1 n1 c1, .int .i64 p, .slice a2 n2 c2] 36 (0, 0))
  res : wr.heap[w.heap.size]? = some (.cells #[.slice none 0 0, .int .i64 0, .slice none 0 0] 36 (0, 0))
  when_ : wr.ownsRow (w.heap.size + 1) 3 1 (.slice a1 n1 c1) n1 (ws.map (Value.int .i64))
  ops : ∃ A B, wr.ownsRow (w.heap.size + 1) 34 7 (.slice a2 n2 c2) n2 (A ++ B).flatten ∧ F2 (OpOwn (w.heap.size + 1) wr) A ((opsIdx os).take k) ∧ F2 (OpRow w) B (os.drop k)
theorem CoI.next {w wr : World} {cb : Nat} {p : Int} {ws : List Int} {os : List OpV} {n1 n2 : Nat} {a1 a2 : Option Addr} {c1 c2 k : Nat} (h : CoI w cb p ws os n1 n2 a1 c1 a2 c2 k wr) {o : OpV} (ho : os[k]? = some o) :
    ∃ b dp dc, a2 = some ⟨b, 0, none⟩ ∧ DotsAt w (.slice dp o.dots.length dc) o.dots ∧ (∃ u, wr.cell? ⟨b, k * 7, none⟩ = some u) ∧ wr.frozen? ⟨b, k * 7, none⟩ = false ∧ ∀ wa, wa = wr.setCell ⟨b, k * 7, none⟩ (.int .i64 (k : Nat)) → wa.cell? ⟨b, k * 7 + 6, none⟩ = some (.slice dp o.dots.length dc) ∧ Below w.heap.size w wa ∧
      ∀ (w1 : World) (a5 : Option Addr) (c5 : Nat), Below wa.heap.size wa w1 → w1.ownsRow wa.heap.size 90 3 (.slice a5 o.dots.length c5) o.dots.length (o.dots.flatMap D3.cells) → (∃ u, w1.cell? ⟨b, k * 7 + 6, none⟩ = some u) ∧ w1.frozen? ⟨b, k * 7 + 6, none⟩ = false ∧ CoI w cb p ws os n1 n2 a1 c1 a2 c2 (k + 1) (w1.setCell ⟨b, k * 7 + 6, none⟩ (.slice a5 o.dots.length c5)) := by
  obtain ⟨A, B, hr, hA, hB⟩ := h.ops
  have hkl : k < os.length := (List.getElem?_eq_some_iff.1 ho).1
  rw [drop_cons ho] at hB
  match B, hB with
  | r :: B, ⟨⟨dv, hrc, hd⟩, hB⟩ =>
    obtain ⟨dp, dc, rfl⟩ := hd.len
    have hAl : A.length = k := by rw [f2_len hA, List.length_take, opsIdx_len]; omega
    have hBl : B.length = os.length - (k + 1) := by rw [f2_len hB, List.length_drop]
    have hA7 : ∀ y ∈ A, y.length = 7 := rows7 (f2_opRow hA)
    have hB7 : ∀ y ∈ B, y.length = 7 := rows7 hB
    have hr7 : r.length = 7 := by rw [hrc]; rfl
    have hall : ∀ r : List Value, r.length = 7 → ∀ y ∈ A ++ r :: B, y.length = 7 := fun r hr7 y hy => by
      rcases List.mem_append.1 hy with hy | hy
      · exact hA7 y hy
      · rcases List.mem_cons.1 hy with rfl | hy
        · exact hr7
        · exact hB7 y hy
    have hlen := hr.1
    rw [flat7_len _ (hall r hr7), List.length_append, List.length_cons, hAl, hBl] at hlen
    have hn2 : n2 = os.length := by omega
    rcases hr.2 with ⟨h1, h0⟩ | ⟨b, cap, cur, hv, hgb, hh, _⟩
    · omega
    · injection hv with hv _ _
      subst hv
      have hblt : b < wr.heap.size := lt_of_heap hh
      have hbc : b ≠ cb := cell_ne hh h.box (by decide)
      have cell0 : wr.cell? ⟨b, k * 7, none⟩ = some (.int .i64 o.at_) := by
        rw [hr.cellAt (k * 7) (by omega), show k * 7 = k * 7 + 0 from rfl, flat7_at _ k 0 r (hall r hr7) (by rw [List.getElem?_append_right (by omega), hAl, Nat.sub_self]; rfl) (by omega), hrc]
        rfl
      refine ⟨b, dp, dc, rfl, hd, ⟨_, cell0⟩, free_of hh, fun wa hwa => ?_⟩
      have ha : wa.heap[b]? = some (.cells (cur.setIfInBounds (k * 7) (.int .i64 (k : Nat))) 34 (0, 0)) := by rw [hwa]; exact heap_set hh _
      have oa : ∀ q, q ≠ b → wa.heap[q]? = wr.heap[q]? := fun q hq => by rw [hwa]; exact Below.heap_setCell _ _ _ _ hq
      have sa : wa.heap.size = wr.heap.size := by rw [hwa]; simp
      have ra := (hr.stored (k * 7) (.int .i64 (k : Nat))).1
      rw [show k * 7 = A.length * 7 + 0 by rw [hAl]; rfl, flat_setj A B r _ 0 (by decide) hA7 hr7, hAl, show k * 7 + 0 = k * 7 from rfl, ← hwa] at ra
      have ea : r.set 0 (.int .i64 (k : Nat)) = opCells { o with at_ := (k : Nat) } (.slice dp o.dots.length dc) := by rw [hrc]; rfl
      rw [ea] at ra
      have e7 : (opCells { o with at_ := (k : Nat) } (.slice dp o.dots.length dc)).length = 7 := rfl
      have ca : wa.cell? ⟨b, k * 7 + 6, none⟩ = some (.slice dp o.dots.length dc) := by
        rw [ra.cellAt (k * 7 + 6) (by omega), flat7_at _ k 6 _ (hall _ e7) (by rw [List.getElem?_append_right (by omega), hAl, Nat.sub_self]; rfl) (by omega)]
        rfl
      have ba : Below w.heap.size w wa := by rw [hwa]; exact h.below.setCell (by show w.heap.size ≤ b; omega) _
      refine ⟨ca, ba, fun w1 a5 c5 hb1 hd5 => ?_⟩
      have hbk := hb1.block
      have r1 := owns_at ra fun g _ h2 => hbk g h2
      have hh1 : w1.heap[b]? = _ := (hbk b (by omega)).trans ha
      refine ⟨⟨_, (World.cell?_of_block (w := wa) (hbk b (by omega))).trans ca⟩, free_of hh1, ?_⟩
      have hst := (r1.stored (k * 7 + 6) (.slice a5 o.dots.length c5)).1
      rw [show k * 7 + 6 = A.length * 7 + 6 by rw [hAl], flat_setj A B _ _ 6 (by decide) hA7 e7, hAl] at hst
      have ne : ∀ q, q ≠ b → q < wr.heap.size → (w1.setCell ⟨b, k * 7 + 6, none⟩ (.slice a5 o.dots.length c5)).heap[q]? = wr.heap[q]? := fun q hq hl => by
        rw [Below.heap_setCell _ _ _ _ hq, hbk q (by omega), oa q hq]
      have ne2 : ∀ q, q ≠ b → (w1.setCell ⟨b, k * 7 + 6, none⟩ (.slice a5 o.dots.length c5)).heap[q]? = w1.heap[q]? := fun q hq => Below.heap_setCell _ _ _ _ hq
      have kp : ∀ t, t ≠ 34 → ∀ (q : Nat) (cs : Array Value), wr.heap[q]? = some (.cells cs t (0, 0)) → (w1.setCell ⟨b, k * 7 + 6, none⟩ (.slice a5 o.dots.length c5)).heap[q]? = wr.heap[q]? := fun t ht q cs hq => ne q (cell_ne hq hh ht) (lt_of_heap hq)
      have b1 := hb1.size
      have b2 := h.below.size
      refine ⟨(ba.trans (hb1.mono ba.size)).setCell (by show w.heap.size ≤ b; omega) _, h.lt, (ne _ (Ne.symm hbc) (lt_of_heap h.box)).trans h.box, (ne _ (by omega) (lt_of_heap h.res)).trans h.res, owns_below h.when_ (kp 3 (by decide)), A ++ [opCells { o with at_ := (k : Nat) } (.slice a5 o.dots.length c5)], B, ?_, ?_, hB⟩
      · rw [List.append_assoc]
        exact hst
      · rw [List.take_add_one, opsIdx_get, ho]
        refine f2_append (f2_mono (fun _ _ q => q.kept (kp 90 (by decide))) hA) ⟨_, rfl, ?_⟩
        exact owns_below (owns_base hd5 (by omega)) fun q cs hq => ne2 q (cell_ne hq hh1 (by decide))
def comN (at_ : List Int) (p : Nat) (t : Int) (os : List OpV) : ComV := ⟨at_.set p t, p, opsIdx os⟩
set_option maxHeartbeats 4000000 in
theorem commitOf_any (w : World) (a1 a2 : Option Addr) (n1 c1 n2 c2 p : Nat) (t : Int) (ws : List Int) (os : List OpV) (hw : IntsAt w (.slice a1 n1 c1) ws) (ho : OpsAt w (.slice a2 n2 c2) os) (hL : Light ⟨ws, p, os⟩) (hp : p < n1) :
    Calls Tryz.prog 26 #[.slice a1 n1 c1, .int .i64 p, .int .i64 t, .slice a2 n2 c2] w fun e w' => ∃ a3 c3 a4 c4, e = .returned (.agg #[.slice a3 n1 c3, .int .i64 p, .slice a4 n2 c4]) ∧ ComOwn w.heap.size w' (.slice a3 n1 c3) (.slice a4 n2 c4) (comN ws p t os) ∧ Below w.heap.size w w' := by
  have hln : n1 = ws.length := by obtain ⟨_, _, hv, _⟩ := hw; injection hv
  have hlm : n2 = os.length := by obtain ⟨_, _, hv⟩ := ho.len; injection hv
  have hl1 := hL.when_
  have hl2 := hL.ops
  have HLE := hid hL.each
  simp only at hl1 hl2
  obtain ⟨rows, hro, hrf⟩ := ho
  have h7 := rows7 hrf
  have hrl := f2_len hrf
  have SW := hid (src_ints hw)
  have SO := hid (src_ops hro h7)
  rw [← hln] at SW hl1
  rw [hrl, ← hlm] at SO
  rw [← hlm] at hl2
  have O1 := hid (ints_one ws)
  have O2 := hid (rows7_one hrf)
  have HRF := hid hrf
  have HLN := hid hln
  have HLM := hid hlm
  clear hw hro hrf h7 hrl hln hlm hL
  obtain ⟨w1, hw1⟩ : ∃ w1, w1 = w.alloc (.cells #[.slice none 0 0, .int .i64 0, .slice none 0 0] 36) := ⟨_, rfl⟩
  have bw1 : Below w.heap.size w w1 := by rw [hw1]; exact below_alloc _ _
  have s1 : w1.heap.size = w.heap.size + 1 := by rw [hw1]; simp
  have G1 : w1.heap[w.heap.size]? = some (.cells #[.slice none 0 0, .int .i64 0, .slice none 0 0] 36 (0, 0)) := by rw [hw1]; exact heap_new _ _
  have up : ∀ W, Below w.heap.size w W → ∀ (a : Addr) (u : Value), w.cell? a = some u → W.cell? a = some u := fun W hb a u hc => by rw [hb.cell (p := a) (lt_of_cell hc)]; exact hc
  have KA := hid (clone48 w1 a1 n1 c1 _ (SW.out.moved (up w1 bw1)) O1.out (by omega))
  have KB := hid (fun W (hb : Below w.heap.size w W) => clone49 W a2 n2 c2 _ (SO.out.moved (up W hb)) O2.out (by omega))
  have BW1 := hid bw1
  have S1 := hid s1
  have HG1 := hid G1
  clear bw1 s1 G1 up
  go_enter Tryz.func26, Tryz.ntmps26
  go_wp2_with fail
  rw [← hw1]
  clear hw1
  refine KA.out.mono ?_
  rintro e w2 ⟨a3, c3, rfl, ho2, hb2⟩
  have bw2 : Below w.heap.size w w2 := BW1.out.trans (hb2.mono BW1.out.size)
  have KB' := hid (KB.out w2 bw2)
  have O2' := hid ho2
  have B2 := hid hb2
  have BW2 := hid bw2
  clear ho2 hb2 bw2 KB KA
  go_wp2_with fail
  refine KB'.out.mono ?_
  rintro e w3 ⟨a4, c4, rfl, ho4, hb3⟩
  obtain ⟨b3, cs3, rfl, hle3, hh3, ht3, hz3⟩ := owns_cells O2'.out (by omega)
  obtain ⟨w4, hw4⟩ : ∃ w4, w4 = w3.alloc (.cells #[.slice (some ⟨b3, 0, none⟩) n1 c3, .int .i64 p, .slice a4 n2 c4] 36) := ⟨_, rfl⟩
  obtain ⟨w5, hw5⟩ : ∃ w5, w5 = w4.setCell ⟨b3, p, none⟩ (.int .i64 t) := ⟨_, rfl⟩
  have b34 : Below w3.heap.size w3 w4 := by rw [hw4]; exact below_alloc _ _
  have b24 : Below w2.heap.size w2 w4 := hb3.trans (b34.mono hb3.size)
  have k4 : w4.heap[b3]? = some (.cells cs3 3 (0, 0)) := (b24.block _ (lt_of_heap hh3)).trans hh3
  have r4 := owns_at O2'.out fun g _ h2 => b24.block g h2
  have C0 : w4.heap[w3.heap.size]? = some (.cells #[.slice (some ⟨b3, 0, none⟩) n1 c3, .int .i64 p, .slice a4 n2 c4] 36 (0, 0)) := by rw [hw4]; exact heap_new _ _
  have x0 : w4.cell? ⟨w3.heap.size, 0, none⟩ = some (.slice (some ⟨b3, 0, none⟩) n1 c3) := (cell_of C0).trans rfl
  have hsz : p < cs3.size := by omega
  have x1 : w4.cell? ⟨b3, p, none⟩ = some cs3[p] := (cell_of k4).trans (Array.getElem?_eq_getElem _)
  have z1 : w4.frozen? ⟨b3, p, none⟩ = false := free_of k4
  have I5 : Hid (CoI w w3.heap.size p (ws.set p t) os n1 n2 (some ⟨b3, 0, none⟩) c3 a4 c4 0 w5) := (show CoI _ _ _ _ _ _ _ _ _ _ _ _ _ from by
    have e1 := S1.out
    have e2 := B2.out.size
    have e3 := hb3.size
    have ho : ∀ q, q ≠ b3 → w5.heap[q]? = w4.heap[q]? := fun q hq => by rw [hw5]; exact Below.heap_setCell _ _ _ _ hq
    have g4 : w4.heap[w.heap.size]? = _ := (b24.block _ (by omega)).trans ((B2.out.block _ (by omega)).trans HG1.out)
    have st := (r4.stored p (.int .i64 t)).1
    rw [← hw5, ← List.map_set] at st
    refine ⟨by rw [hw5]; exact (BW2.out.trans (b24.mono BW2.out.size)).setCell (by show w.heap.size ≤ b3; omega) _, by omega, (ho _ (cell_ne C0 k4 (by decide))).trans C0, (ho _ (cell_ne g4 k4 (by decide))).trans g4, owns_base st (by omega), [], rows, ?_, trivial, HRF.out⟩
    exact owns_base (own_keep (owns_at ho4 fun g _ h2 => b34.block g h2) fun q hq => ho q fun e => by
      obtain ⟨cs, hc⟩ := own_type ho4 hq
      exact cell_ne ((b34.block _ (lt_of_heap hc)).trans hc) k4 (by decide) e) (by omega))
  have y2 : w5.cell? ⟨w3.heap.size, 2, none⟩ = some (.slice a4 n2 c4) := (cell_of I5.out.box).trans rfl
  clear hh3 ht3 hz3 ho4 hb3 b34 b24 k4 r4 C0 hle3
  go_upto_region 2 with (fail)
  rw [← hw4]
  clear hw4
  go_upto_region 3 with (fail)
  rw [← hw5]
  clear hw5 x0 x1 z1
  go_wp2
  clear y2
  go_loopw [26] (fun i wr => ∃ k : Nat, k ≤ n2 ∧ i = .int .i64 k ∧ Hid (CoI w w3.heap.size p (ws.set p t) os n1 n2 (some ⟨b3, 0, none⟩) c3 a4 c4 k wr)) (fun i _ => n2 - (intOf i).toNat)
  case atStart => exact ⟨0, Nat.zero_le _, rfl, I5⟩
  case round =>
    obtain ⟨k, hk, rfl, HI⟩ := hrel
    by_cases hlt : k < n2
    · obtain ⟨o, hok⟩ : ∃ o, os[k]? = some o := ⟨_, List.getElem?_eq_getElem (by have := HLM.out; omega)⟩
      obtain ⟨b, dp, dc, rfl, hdd, ⟨u0, hu0⟩, hf0, hnext⟩ := HI.out.next hok
      have hdl := (HLE.out o (List.mem_of_getElem? hok)).2.2
      have r8 : wr.cell? ⟨w3.heap.size, 2, none⟩ = some (.slice (some ⟨b, 0, none⟩) n2 c4) := (cell_of HI.out.box).trans rfl
      obtain ⟨wa, hwa⟩ : ∃ wa, wa = wr.setCell ⟨b, k * 7, none⟩ (.int .i64 (k : Nat)) := ⟨_, rfl⟩
      obtain ⟨ca, ba, hnx⟩ := hnext wa hwa
      have KD := hid (clone50 wa dp o.dots.length dc _ (src_dots (hdd.mono ba (Nat.le_refl _))) (all_dots_one _) (by omega))
      have NX := hid hnx
      obtain ⟨nd, hnd⟩ : ∃ nd, nd = o.dots.length := ⟨_, rfl⟩
      rw [← hnd] at KD NX ca
      have hi1 : (k : Int) < (n2 : Int) := by omega
      clear hok hdd hnext hnx hnd ba
      go_upto_region 8 with (fail)
      rw [← hwa]
      clear hwa hu0 hf0 r8
      go_wp2_with fail
      refine KD.out.mono ?_
      rintro e w6 ⟨b5, d5, rfl, ho6, hb6⟩
      obtain ⟨⟨u6, t6⟩, tz6, I7⟩ := NX.out w6 b5 d5 hb6 ho6
      have HI7 := hid I7
      clear ho6 hb6 I7
      go_wp2_with fail
      exact ⟨⟨k + 1, by omega, by go_num, HI7⟩, by simp [intOf]; omega⟩
    · obtain rfl : k = n2 := by omega
      have BX := hid HI.out.box
      have r0 : wr.cell? ⟨w3.heap.size, 0, none⟩ = some (.slice (some ⟨b3, 0, none⟩) n1 c3) := (cell_of BX.out).trans rfl
      have r1 : wr.cell? ⟨w3.heap.size, 1, none⟩ = some (.int .i64 p) := (cell_of BX.out).trans rfl
      have r2 : wr.cell? ⟨w3.heap.size, 2, none⟩ = some (.slice a4 k c4) := (cell_of BX.out).trans rfl
      obtain ⟨wz, STORE, HZ⟩ := store_row HI.out.res [.slice (some ⟨b3, 0, none⟩) n1 c3, .int .i64 p, .slice a4 k c4] rfl rfl 36 3 rfl Tryz.sizeOf36
      go_wp2_with (refine STORE _ _ _ _ _ (.tmp 8) (.tmp 46) rfl rfl rfl rfl ?_)
      refine bodyPost_ret (ret_cell (k := 3) Tryz.results26 Tryz.isAgg36 Tryz.sizeOf36 _ _ w.heap.size [.slice (some ⟨b3, 0, none⟩) n1 c3, .int .i64 p, .slice a4 k c4] rfl rfl HZ.out.1) rfl ⟨_, c3, a4, c4, rfl, ?_, by rw [HZ.out.2]; exact below_setCells (Nat.le_refl _) _ _ HI.out.below⟩
      obtain ⟨A, B, q1, q2, q3⟩ := HI.out.ops
      rw [HLM.out, List.drop_length] at q3
      rw [HLM.out, ← opsIdx_len, List.take_length] at q2
      obtain rfl : B = [] := List.eq_nil_of_length_eq_zero (f2_len q3)
      rw [List.append_nil] at q1
      have hsf : ∀ g, w.heap.size + 1 ≤ g → g < wr.heap.size → wz.heap[g]? = wr.heap[g]? := fun g g1 _ => by rw [HZ.out.2]; exact setCells_other _ _ _ _ _ (by omega)
      refine ComOwn.base (base := w.heap.size + 1) ⟨?_, A, ?_, ?_⟩ (by omega)
      · show World.ownsRow _ _ _ _ _ (ws.set p t).length ((ws.set p t).map _)
        rw [List.length_set, ← HLN.out]
        exact owns_at HI.out.when_ hsf
      · show World.ownsRow _ _ _ _ _ (opsIdx os).length _
        rw [opsIdx_len, ← HLM.out]
        exact owns_at q1 hsf
      · exact f2_mono (fun _ _ q => q.at hsf) q2
end Go.Proofs.YtefpnojanldkeaaGreatDoor
