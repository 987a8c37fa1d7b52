/- The reference's Least and Most, by their contracts. -/
import Derived.Test.YtfechdagacmliaaDoorComb
import Derived.WalkSpells
namespace Go.Proofs.YtfechdagacmliaaDoor
open Go.RowKit

/-- The first k, done by appending. -/
def gone (F : Int → Int → Int) (zs ys : List Int) (k : Nat) : List Int := (List.range k).map fun i => F (zs.getD i 0) (ys.getD i 0)
theorem gone_length (F : Int → Int → Int) (zs ys : List Int) (k : Nat) : (gone F zs ys k).length = k := by simp [gone]
theorem gone_succ (F : Int → Int → Int) (zs ys : List Int) (k : Nat) : gone F zs ys (k + 1) = gone F zs ys k ++ [F (zs.getD k 0) (ys.getD k 0)] := by
  simp [gone, List.range_succ]
theorem gone_comb (F : Int → Int → Int) (zs ys : List Int) : gone F zs ys zs.length = comb F zs ys := by
  unfold gone comb mid
  refine List.map_congr_left fun i hi => ?_
  rw [if_pos (List.mem_range.1 hi)]

theorem oneI (x : Int) : ∀ u ∈ [Value.int .i64 x], u.oneCell' = true := fun u hu => by simp at hu; subst hu; rfl
theorem mnI_lt {x y : Int} (h : y < x) : mnI x y = y := if_pos h
theorem mnI_ge {x y : Int} (h : ¬ y < x) : mnI x y = x := if_neg h
theorem mxI_lt {x y : Int} (h : x < y) : mxI x y = y := if_pos h
theorem mxI_ge {x y : Int} (h : ¬ x < y) : mxI x y = x := if_neg h

set_option maxHeartbeats 4000000 in
theorem refLeast_n (w : World) (b1 o1 c1 b2 o2 c2 n : Nat) (zs ys : List Int) (hz : zs.length = n) (hl : n ≤ 6)
    (h1 : ∀ t, t < n → w.cell? ⟨b1, o1 + t, none⟩ = some (.int .i64 (zs.getD t 0)))
    (h2 : ∀ t, t < n → w.cell? ⟨b2, o2 + t, none⟩ = some (.int .i64 (ys.getD t 0))) :
    Calls Tryd.prog 23 #[.slice (some ⟨b1, o1, none⟩) n c1, .slice (some ⟨b2, o2, none⟩) n c2] w fun e w' => ∃ v, e = .returned v ∧ IntsAt w' v (comb mnI zs ys) ∧ Below w.heap.size w w' := by
  have HZ : Hid (zs.length = n) := hz
  have H1 := hid h1
  have H2 := hid h2
  obtain ⟨i0, hi, hz0, hz1, hz2⟩ := info_parts Tryd.info3
  clear hz h1 h2
  go_enter Tryd.func23, Tryd.ntmps23
  go_wp2
  go_loopw [5, 6] (fun v i wr => ∃ k : Nat, k ≤ n ∧ i = .int .i64 k ∧ wr.ownsRow w.heap.size 3 1 v k ((gone mnI zs ys k).map (Value.int .i64)) ∧ Below w.heap.size w wr) (fun _ i _ => n - (intOf i).toNat)
  case atStart => exact ⟨0, Nat.zero_le _, rfl, World.ownsRow_nil _ _ _ _, Below.refl _ _⟩
  case round =>
    obtain ⟨k, hk, rfl, hown, hbl⟩ := hrel
    have HOW := hid hown
    have HBL := hid hbl
    have hsz : w.heap.size ≤ wr.heap.size := hbl.size
    by_cases hlt : k < n
    · have e1 : wr.cell? ⟨b1, o1 + k, none⟩ = some (.int .i64 (zs.getD k 0)) := by rw [hbl.cell (p := ⟨b1, o1 + k, none⟩) (lt_of_cell (H1.out k hlt))]; exact H1.out k hlt
      have e2 : wr.cell? ⟨b2, o2 + k, none⟩ = some (.int .i64 (ys.getD k 0)) := by rw [hbl.cell (p := ⟨b2, o2 + k, none⟩) (lt_of_cell (H2.out k hlt))]; exact H2.out k hlt
      obtain ⟨x, hx⟩ : ∃ x, x = zs.getD k 0 := ⟨_, rfl⟩
      obtain ⟨y, hy⟩ : ∃ y, y = ys.getD k 0 := ⟨_, rfl⟩
      rw [← hx] at e1
      rw [← hy] at e2
      have HX := hid hx
      have HYY := hid hy
      have hm1 : k + 1 ≤ maxLen := by unfold maxLen; omega
      have hm2 : (k + 1) * 8 ≤ 140737488355328 := by omega
      have hs5 : ∀ o, w.heap.size ≤ (wr.alloc o).heap.size := fun o => by simp; omega
      clear hx hy hown hbl
      by_cases hd : y < x
      · have HM := hid (mnI_lt hd)
        go_wp2_with (at_builtin; refine wpList_append_own _ rfl _ _ 22 rfl w.heap.size 3 i0 (.int .i64 0) 1 8 Tryd.underlying22 hi hz0 hz1 hz2 rfl (by decide) _ _ _ rfl (HOW.out.alloc _) ⟨wr.heap.size, 0, none⟩ 1 1 [.int .i64 y] rfl rfl (cell_one_new _ _ _) (oneI _) hm1 hm2 (hs5 _) ?_)
        intro v' w1 hown' hgrow' _
        have HO1 : Hid (w1.ownsRow w.heap.size 3 1 v' (k + 1) ((gone mnI zs ys (k + 1)).map (Value.int .i64))) := by
          have e : (gone mnI zs ys (k + 1)).map (Value.int .i64) = (gone mnI zs ys k).map (Value.int .i64) ++ [.int .i64 y] := by
            rw [gone_succ, List.map_append, ← HX.out, ← HYY.out, HM.out]; rfl
          rw [e]; exact hown'
        have HB1 : Hid (Below w.heap.size w w1) := (HBL.out.alloc hsz _).grown hgrow' (by simp; omega) (fun j hj => (HOW.out.lt j hj).1)
        clear hown' hgrow'
        go_wp2
        go_roundw
        case rel => exact ⟨k + 1, by omega, by go_num, HO1.out, HB1.out⟩
        case measure => simp [intOf]; omega
      · have HM := hid (mnI_ge hd)
        go_wp2_with (at_builtin; refine wpList_append_own _ rfl _ _ 22 rfl w.heap.size 3 i0 (.int .i64 0) 1 8 Tryd.underlying22 hi hz0 hz1 hz2 rfl (by decide) _ _ _ rfl (HOW.out.alloc _) ⟨wr.heap.size, 0, none⟩ 1 1 [.int .i64 x] rfl rfl (cell_one_new _ _ _) (oneI _) hm1 hm2 (hs5 _) ?_)
        intro v' w1 hown' hgrow' _
        have HO1 : Hid (w1.ownsRow w.heap.size 3 1 v' (k + 1) ((gone mnI zs ys (k + 1)).map (Value.int .i64))) := by
          have e : (gone mnI zs ys (k + 1)).map (Value.int .i64) = (gone mnI zs ys k).map (Value.int .i64) ++ [.int .i64 x] := by
            rw [gone_succ, List.map_append, ← HX.out, ← HYY.out, HM.out]; rfl
          rw [e]; exact hown'
        have HB1 : Hid (Below w.heap.size w w1) := (HBL.out.alloc hsz _).grown hgrow' (by simp; omega) (fun j hj => (HOW.out.lt j hj).1)
        clear hown' hgrow'
        go_wp2
        go_roundw
        case rel => exact ⟨k + 1, by omega, by go_num, HO1.out, HB1.out⟩
        case measure => simp [intOf]; omega
    · obtain rfl : k = n := by omega
      clear hown hbl
      go_wp2
      go_ret
      refine ⟨_, rfl, ?_, HBL.out⟩
      rw [← gone_comb]
      refine ints_of_row (base := w.heap.size) ?_
      rw [gone_length, HZ.out]
      exact HOW.out

theorem refLeast_any (w : World) (v u : Value) (zs ys : List Int) (h1 : IntsAt w v zs) (h2 : IntsAt w u ys) (h0 : two zs ys = 0) :
    Calls Tryd.prog 23 #[v, u] w fun e w' => ∃ r, e = .returned r ∧ IntsAt w' r (comb mnI zs ys) ∧ Below w.heap.size w w' := by
  obtain ⟨hz, hy, hn⟩ := two_zero.1 h0
  have hz' := chk_zero.1 hz
  obtain ⟨b1, o1, c1, rfl, g1⟩ := h1.some hz'.1
  obtain ⟨b2, o2, c2, rfl, g2⟩ := h2.some (by omega)
  rw [← hn] at g2 ⊢
  exact refLeast_n w b1 o1 c1 b2 o2 c2 zs.length zs ys rfl hz'.2.1 g1 g2
set_option maxHeartbeats 4000000 in
theorem refMost_n (w : World) (b1 o1 c1 b2 o2 c2 n : Nat) (zs ys : List Int) (hz : zs.length = n) (hl : n ≤ 6)
    (h1 : ∀ t, t < n → w.cell? ⟨b1, o1 + t, none⟩ = some (.int .i64 (zs.getD t 0)))
    (h2 : ∀ t, t < n → w.cell? ⟨b2, o2 + t, none⟩ = some (.int .i64 (ys.getD t 0))) :
    Calls Tryd.prog 24 #[.slice (some ⟨b1, o1, none⟩) n c1, .slice (some ⟨b2, o2, none⟩) n c2] w fun e w' => ∃ v, e = .returned v ∧ IntsAt w' v (comb mxI zs ys) ∧ Below w.heap.size w w' := by
  have HZ : Hid (zs.length = n) := hz
  have H1 := hid h1
  have H2 := hid h2
  obtain ⟨i0, hi, hz0, hz1, hz2⟩ := info_parts Tryd.info3
  clear hz h1 h2
  go_enter Tryd.func24, Tryd.ntmps24
  go_wp2
  go_loopw [5, 6] (fun v i wr => ∃ k : Nat, k ≤ n ∧ i = .int .i64 k ∧ wr.ownsRow w.heap.size 3 1 v k ((gone mxI zs ys k).map (Value.int .i64)) ∧ Below w.heap.size w wr) (fun _ i _ => n - (intOf i).toNat)
  case atStart => exact ⟨0, Nat.zero_le _, rfl, World.ownsRow_nil _ _ _ _, Below.refl _ _⟩
  case round =>
    obtain ⟨k, hk, rfl, hown, hbl⟩ := hrel
    have HOW := hid hown
    have HBL := hid hbl
    have hsz : w.heap.size ≤ wr.heap.size := hbl.size
    by_cases hlt : k < n
    · have e1 : wr.cell? ⟨b1, o1 + k, none⟩ = some (.int .i64 (zs.getD k 0)) := by rw [hbl.cell (p := ⟨b1, o1 + k, none⟩) (lt_of_cell (H1.out k hlt))]; exact H1.out k hlt
      have e2 : wr.cell? ⟨b2, o2 + k, none⟩ = some (.int .i64 (ys.getD k 0)) := by rw [hbl.cell (p := ⟨b2, o2 + k, none⟩) (lt_of_cell (H2.out k hlt))]; exact H2.out k hlt
      obtain ⟨x, hx⟩ : ∃ x, x = zs.getD k 0 := ⟨_, rfl⟩
      obtain ⟨y, hy⟩ : ∃ y, y = ys.getD k 0 := ⟨_, rfl⟩
      rw [← hx] at e1
      rw [← hy] at e2
      have HX := hid hx
      have HYY := hid hy
      have hm1 : k + 1 ≤ maxLen := by unfold maxLen; omega
      have hm2 : (k + 1) * 8 ≤ 140737488355328 := by omega
      have hs5 : ∀ o, w.heap.size ≤ (wr.alloc o).heap.size := fun o => by simp; omega
      clear hx hy hown hbl
      by_cases hd : x < y
      · have HM := hid (mxI_lt hd)
        go_wp2_with (at_builtin; refine wpList_append_own _ rfl _ _ 22 rfl w.heap.size 3 i0 (.int .i64 0) 1 8 Tryd.underlying22 hi hz0 hz1 hz2 rfl (by decide) _ _ _ rfl (HOW.out.alloc _) ⟨wr.heap.size, 0, none⟩ 1 1 [.int .i64 y] rfl rfl (cell_one_new _ _ _) (oneI _) hm1 hm2 (hs5 _) ?_)
        intro v' w1 hown' hgrow' _
        have HO1 : Hid (w1.ownsRow w.heap.size 3 1 v' (k + 1) ((gone mxI zs ys (k + 1)).map (Value.int .i64))) := by
          have e : (gone mxI zs ys (k + 1)).map (Value.int .i64) = (gone mxI zs ys k).map (Value.int .i64) ++ [.int .i64 y] := by
            rw [gone_succ, List.map_append, ← HX.out, ← HYY.out, HM.out]; rfl
          rw [e]; exact hown'
        have HB1 : Hid (Below w.heap.size w w1) := (HBL.out.alloc hsz _).grown hgrow' (by simp; omega) (fun j hj => (HOW.out.lt j hj).1)
        clear hown' hgrow'
        go_wp2
        go_roundw
        case rel => exact ⟨k + 1, by omega, by go_num, HO1.out, HB1.out⟩
        case measure => simp [intOf]; omega
      · have HM := hid (mxI_ge hd)
        go_wp2_with (at_builtin; refine wpList_append_own _ rfl _ _ 22 rfl w.heap.size 3 i0 (.int .i64 0) 1 8 Tryd.underlying22 hi hz0 hz1 hz2 rfl (by decide) _ _ _ rfl (HOW.out.alloc _) ⟨wr.heap.size, 0, none⟩ 1 1 [.int .i64 x] rfl rfl (cell_one_new _ _ _) (oneI _) hm1 hm2 (hs5 _) ?_)
        intro v' w1 hown' hgrow' _
        have HO1 : Hid (w1.ownsRow w.heap.size 3 1 v' (k + 1) ((gone mxI zs ys (k + 1)).map (Value.int .i64))) := by
          have e : (gone mxI zs ys (k + 1)).map (Value.int .i64) = (gone mxI zs ys k).map (Value.int .i64) ++ [.int .i64 x] := by
            rw [gone_succ, List.map_append, ← HX.out, ← HYY.out, HM.out]; rfl
          rw [e]; exact hown'
        have HB1 : Hid (Below w.heap.size w w1) := (HBL.out.alloc hsz _).grown hgrow' (by simp; omega) (fun j hj => (HOW.out.lt j hj).1)
        clear hown' hgrow'
        go_wp2
        go_roundw
        case rel => exact ⟨k + 1, by omega, by go_num, HO1.out, HB1.out⟩
        case measure => simp [intOf]; omega
    · obtain rfl : k = n := by omega
      clear hown hbl
      go_wp2
      go_ret
      refine ⟨_, rfl, ?_, HBL.out⟩
      rw [← gone_comb]
      refine ints_of_row (base := w.heap.size) ?_
      rw [gone_length, HZ.out]
      exact HOW.out

theorem refMost_any (w : World) (v u : Value) (zs ys : List Int) (h1 : IntsAt w v zs) (h2 : IntsAt w u ys) (h0 : two zs ys = 0) :
    Calls Tryd.prog 24 #[v, u] w fun e w' => ∃ r, e = .returned r ∧ IntsAt w' r (comb mxI zs ys) ∧ Below w.heap.size w w' := by
  obtain ⟨hz, hy, hn⟩ := two_zero.1 h0
  have hz' := chk_zero.1 hz
  obtain ⟨b1, o1, c1, rfl, g1⟩ := h1.some hz'.1
  obtain ⟨b2, o2, c2, rfl, g2⟩ := h2.some (by omega)
  rw [← hn] at g2 ⊢
  exact refMost_n w b1 o1 c1 b2 o2 c2 zs.length zs ys rfl hz'.2.1 g1 g2
end Go.Proofs.YtfechdagacmliaaDoor
