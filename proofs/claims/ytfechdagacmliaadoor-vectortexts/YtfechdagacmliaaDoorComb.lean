/- vector.combine, Least, Most, by their contracts. -/
import Derived.Test.YtfechdagacmliaaDoorPair
import Derived.Test.YtfechdagacmliaaDoorOwn
import Derived.WalkLawsBesides
import Derived.Deep.RegionWith
namespace Go.Proofs.YtfechdagacmliaaDoor
open Go.RowKit

def mnI (x y : Int) : Int := if y < x then y else x
def mxI (x y : Int) : Int := if x < y then y else x

theorem min_any (x y : Int) (w : World) : Calls Tryd.prog 35 #[.int .i64 x, .int .i64 y] w fun e w' => e = .returned (.int .i64 (mnI x y)) ∧ w' = w := by
  go_enter Tryd.func35, Tryd.ntmps35
  go_wp2
  all_goals go_ret
  · exact ⟨ret_int (if_pos (by omega)).symm, rfl⟩
  · exact ⟨ret_int (if_neg (by omega)).symm, rfl⟩
theorem max_any (x y : Int) (w : World) : Calls Tryd.prog 36 #[.int .i64 x, .int .i64 y] w fun e w' => e = .returned (.int .i64 (mxI x y)) ∧ w' = w := by
  go_enter Tryd.func36, Tryd.ntmps36
  go_wp2
  all_goals go_ret
  · exact ⟨ret_int (if_pos (by omega)).symm, rfl⟩
  · exact ⟨ret_int (if_neg (by omega)).symm, rfl⟩

/-- Two lists, number by number; the first k done. -/
def mid (F : Int → Int → Int) (zs ys : List Int) (n k : Nat) : List Int := (List.range n).map fun i => if i < k then F (zs.getD i 0) (ys.getD i 0) else 0
def comb (F : Int → Int → Int) (zs ys : List Int) : List Int := mid F zs ys zs.length zs.length
theorem mid_length (F : Int → Int → Int) (zs ys : List Int) (n k : Nat) : (mid F zs ys n k).length = n := by simp [mid]
theorem mid_zero (F : Int → Int → Int) (zs ys : List Int) (n : Nat) : mid F zs ys n 0 = List.replicate n 0 := by
  simp [mid, List.map_const']
theorem mid_succ (F : Int → Int → Int) (zs ys : List Int) (n k : Nat) : (mid F zs ys n k).set k (F (zs.getD k 0) (ys.getD k 0)) = mid F zs ys n (k + 1) := by
  refine List.ext_getElem (by simp [mid]) fun i a b => ?_
  simp only [mid, List.getElem_set, List.getElem_map, List.getElem_range]
  by_cases e : k = i
  · subst e; simp
  · rw [if_neg e]
    by_cases e2 : i < k
    · rw [if_pos e2, if_pos (by omega)]
    · rw [if_neg e2, if_neg (by omega)]

theorem set_map (l : List Int) (k : Nat) (x : Int) : (l.map (Value.int .i64)).set k (.int .i64 x) = (l.set k x).map (Value.int .i64) := by
  rw [List.map_set]

set_option maxHeartbeats 4000000 in
theorem least_n (A : Nat → Addr) (w : World) (hE : E2 A w) (b1 o1 c1 b2 o2 c2 n : Nat) (zs ys : List Int) (hz : zs.length = n) (hy : ys.length = n) (h0 : two zs ys = 0) (hl : n ≤ 6)
    (h1 : ∀ t, t < n → w.cell? ⟨b1, o1 + t, none⟩ = some (.int .i64 (zs.getD t 0)))
    (h2 : ∀ t, t < n → w.cell? ⟨b2, o2 + t, none⟩ = some (.int .i64 (ys.getD t 0))) :
    Calls Tryd.prog 34 #[.slice (some ⟨b1, o1, none⟩) n c1, .slice (some ⟨b2, o2, none⟩) n c2, .func (.func 35) #[] #[]] w fun e w' => ∃ v, e = .returned (.tuple #[v, .nilIface]) ∧ IntsAt w' v (comb mnI zs ys) ∧ Below w.heap.size w w' := by
  have K1 := hid (checkPair_ok A w hE (.slice (some ⟨b1, o1, none⟩) n c1) (.slice (some ⟨b2, o2, none⟩) n c2) zs ys ⟨_, c1, by rw [hz], (fun h => by cases h), .inr ⟨b1, o1, rfl, by rw [hz]; exact h1⟩⟩ ⟨_, c2, by rw [hy], (fun h => by cases h), .inr ⟨b2, o2, rfl, by rw [hy]; exact h2⟩⟩ h0)
  have HZ : Hid (zs.length = n) := hz
  have HY : Hid (ys.length = n) := hy
  have H1 := hid h1
  have H2 := hid h2
  obtain ⟨i0, hi, hz0, hz1, hz2⟩ := info_parts Tryd.info3
  clear hz hy h1 h2 h0
  go_enter Tryd.func34, Tryd.ntmps34
  go_wp2_with fail
  refine K1.out.mono ?_
  rintro e w' ⟨rfl, rfl⟩
  go_wp2_with (first | (refine wpList_make_full _ rfl _ _ 22 rfl w'.heap.size 3 i0 (.int .i64 0) 1 Tryd.underlying22 hi hz0 hz1 .i64 .i64 _ _ n rfl rfl rfl rfl ?b2 ?b3 ?b4 ?_))
  case b2 => rw [hz2]; omega
  case b3 => unfold maxLen; omega
  case b4 => exact Nat.le_refl _
  intro w1 hown hgrow
  have HO : Hid (w1.ownsRow w'.heap.size 3 1 (.slice (some ⟨w'.heap.size, 0, none⟩) n n) n ((mid mnI zs ys n 0).map (Value.int .i64))) := by
    have e : (madeCells #[Value.int IntKind.i64 0] n).toList = (mid mnI zs ys n 0).map (Value.int .i64) := by
      rw [mid_zero, List.map_replicate]
      exact toList_madeCells_one _ _
    rw [e] at hown
    exact hown
  have HB : Hid (Below w'.heap.size w' w1) := (Below.refl _ _).grown hgrow (Nat.le_refl _) (fun k hk => by cases hk)
  clear hown hgrow
  have hE1 : w'.heap.size < w1.heap.size := by
    obtain ⟨_, h⟩ := HO.out
    rcases h with ⟨h, _⟩ | ⟨g, _, _, h, _, hg, _⟩
    · cases h
    · simp only [Value.slice.injEq, Option.some.injEq, Addr.mk.injEq] at h
      obtain ⟨⟨rfl, _⟩, _⟩ := h
      exact (Array.getElem?_eq_some_iff.1 hg).1
  go_wp2
  go_loopw [22] (fun i wr => ∃ k : Nat, k ≤ n ∧ i = .int .i64 k ∧ wr.ownsRow w'.heap.size 3 1 (.slice (some ⟨w'.heap.size, 0, none⟩) n n) n ((mid mnI zs ys n k).map (Value.int .i64)) ∧ Below w'.heap.size w' wr) (fun i _ => n - (intOf i).toNat)
  case atStart => exact ⟨0, Nat.zero_le _, rfl, HO.out, HB.out⟩
  case round =>
    obtain ⟨k, hk, rfl, hown, hbl⟩ := hrel
    have HOW := hid hown
    have HBL := hid hbl
    have hsz : w'.heap.size ≤ wr.heap.size := hbl.size
    by_cases hlt : k < n
    · have e1 : wr.cell? ⟨b1, o1 + k, none⟩ = some (.int .i64 (zs.getD k 0)) := by rw [hbl.cell (p := ⟨b1, o1 + k, none⟩) (lt_of_cell (H1.out k hlt))]; exact H1.out k hlt
      have e2 : wr.cell? ⟨b2, o2 + k, none⟩ = some (.int .i64 (ys.getD k 0)) := by rw [hbl.cell (p := ⟨b2, o2 + k, none⟩) (lt_of_cell (H2.out k hlt))]; exact H2.out k hlt
      obtain ⟨x, hx⟩ : ∃ x, x = zs.getD k 0 := ⟨_, rfl⟩
      obtain ⟨y, hy⟩ : ∃ y, y = ys.getD k 0 := ⟨_, rfl⟩
      rw [← hx] at e1
      rw [← hy] at e2
      obtain ⟨z, e3⟩ : ∃ z, wr.cell? ⟨w'.heap.size, k, none⟩ = some z := by
        rw [hown.cellAt k (by omega), List.getElem?_eq_getElem (by rw [List.length_map, mid_length]; omega)]
        exact ⟨_, rfl⟩
      have e4 := hown.frozenAt k
      have hi' : (k : Int) < (n : Int) := by omega
      have HX := hid hx
      have HYY := hid hy
      clear hx hy hown hbl hE1
      go_wp2
      go_region_with (go_at_call 35; refine (min_any _ _ _).mono ?_; rintro e w2 ⟨rfl, rfl⟩)
      all_goals
        go_wp2
        go_roundw
        case rel =>
          refine ⟨k + 1, by omega, by go_num, ?_, ?_⟩
          · have hs := (HOW.out.stored k (.int .i64 (mnI x y))).1
            rw [set_map, HX.out, HYY.out, mid_succ] at hs
            rw [HX.out, HYY.out]
            exact hs
          · exact (HBL.out.setCell (p := ⟨w'.heap.size, k, none⟩) (Nat.le_refl _) _).drew
        case measure => simp [intOf]; omega
    · obtain rfl : k = n := by omega
      clear hown hbl
      go_wp2
      go_ret2
      refine ⟨_, rfl, ?_, HBL.out⟩
      have e : comb mnI zs ys = mid mnI zs ys k k := by unfold comb; rw [HZ.out]
      rw [e]
      refine ints_of_row (base := w'.heap.size) ?_
      rw [mid_length]
      exact HOW.out

set_option maxHeartbeats 4000000 in
theorem most_n (A : Nat → Addr) (w : World) (hE : E2 A w) (b1 o1 c1 b2 o2 c2 n : Nat) (zs ys : List Int) (hz : zs.length = n) (hy : ys.length = n) (h0 : two zs ys = 0) (hl : n ≤ 6)
    (h1 : ∀ t, t < n → w.cell? ⟨b1, o1 + t, none⟩ = some (.int .i64 (zs.getD t 0)))
    (h2 : ∀ t, t < n → w.cell? ⟨b2, o2 + t, none⟩ = some (.int .i64 (ys.getD t 0))) :
    Calls Tryd.prog 34 #[.slice (some ⟨b1, o1, none⟩) n c1, .slice (some ⟨b2, o2, none⟩) n c2, .func (.func 36) #[] #[]] w fun e w' => ∃ v, e = .returned (.tuple #[v, .nilIface]) ∧ IntsAt w' v (comb mxI zs ys) ∧ Below w.heap.size w w' := by
  have K1 := hid (checkPair_ok A w hE (.slice (some ⟨b1, o1, none⟩) n c1) (.slice (some ⟨b2, o2, none⟩) n c2) zs ys ⟨_, c1, by rw [hz], (fun h => by cases h), .inr ⟨b1, o1, rfl, by rw [hz]; exact h1⟩⟩ ⟨_, c2, by rw [hy], (fun h => by cases h), .inr ⟨b2, o2, rfl, by rw [hy]; exact h2⟩⟩ h0)
  have HZ : Hid (zs.length = n) := hz
  have HY : Hid (ys.length = n) := hy
  have H1 := hid h1
  have H2 := hid h2
  obtain ⟨i0, hi, hz0, hz1, hz2⟩ := info_parts Tryd.info3
  clear hz hy h1 h2 h0
  go_enter Tryd.func34, Tryd.ntmps34
  go_wp2_with fail
  refine K1.out.mono ?_
  rintro e w' ⟨rfl, rfl⟩
  go_wp2_with (first | (refine wpList_make_full _ rfl _ _ 22 rfl w'.heap.size 3 i0 (.int .i64 0) 1 Tryd.underlying22 hi hz0 hz1 .i64 .i64 _ _ n rfl rfl rfl rfl ?b2 ?b3 ?b4 ?_))
  case b2 => rw [hz2]; omega
  case b3 => unfold maxLen; omega
  case b4 => exact Nat.le_refl _
  intro w1 hown hgrow
  have HO : Hid (w1.ownsRow w'.heap.size 3 1 (.slice (some ⟨w'.heap.size, 0, none⟩) n n) n ((mid mxI zs ys n 0).map (Value.int .i64))) := by
    have e : (madeCells #[Value.int IntKind.i64 0] n).toList = (mid mxI zs ys n 0).map (Value.int .i64) := by
      rw [mid_zero, List.map_replicate]
      exact toList_madeCells_one _ _
    rw [e] at hown
    exact hown
  have HB : Hid (Below w'.heap.size w' w1) := (Below.refl _ _).grown hgrow (Nat.le_refl _) (fun k hk => by cases hk)
  clear hown hgrow
  have hE1 : w'.heap.size < w1.heap.size := by
    obtain ⟨_, h⟩ := HO.out
    rcases h with ⟨h, _⟩ | ⟨g, _, _, h, _, hg, _⟩
    · cases h
    · simp only [Value.slice.injEq, Option.some.injEq, Addr.mk.injEq] at h
      obtain ⟨⟨rfl, _⟩, _⟩ := h
      exact (Array.getElem?_eq_some_iff.1 hg).1
  go_wp2
  go_loopw [22] (fun i wr => ∃ k : Nat, k ≤ n ∧ i = .int .i64 k ∧ wr.ownsRow w'.heap.size 3 1 (.slice (some ⟨w'.heap.size, 0, none⟩) n n) n ((mid mxI zs ys n k).map (Value.int .i64)) ∧ Below w'.heap.size w' wr) (fun i _ => n - (intOf i).toNat)
  case atStart => exact ⟨0, Nat.zero_le _, rfl, HO.out, HB.out⟩
  case round =>
    obtain ⟨k, hk, rfl, hown, hbl⟩ := hrel
    have HOW := hid hown
    have HBL := hid hbl
    have hsz : w'.heap.size ≤ wr.heap.size := hbl.size
    by_cases hlt : k < n
    · have e1 : wr.cell? ⟨b1, o1 + k, none⟩ = some (.int .i64 (zs.getD k 0)) := by rw [hbl.cell (p := ⟨b1, o1 + k, none⟩) (lt_of_cell (H1.out k hlt))]; exact H1.out k hlt
      have e2 : wr.cell? ⟨b2, o2 + k, none⟩ = some (.int .i64 (ys.getD k 0)) := by rw [hbl.cell (p := ⟨b2, o2 + k, none⟩) (lt_of_cell (H2.out k hlt))]; exact H2.out k hlt
      obtain ⟨x, hx⟩ : ∃ x, x = zs.getD k 0 := ⟨_, rfl⟩
      obtain ⟨y, hy⟩ : ∃ y, y = ys.getD k 0 := ⟨_, rfl⟩
      rw [← hx] at e1
      rw [← hy] at e2
      obtain ⟨z, e3⟩ : ∃ z, wr.cell? ⟨w'.heap.size, k, none⟩ = some z := by
        rw [hown.cellAt k (by omega), List.getElem?_eq_getElem (by rw [List.length_map, mid_length]; omega)]
        exact ⟨_, rfl⟩
      have e4 := hown.frozenAt k
      have hi' : (k : Int) < (n : Int) := by omega
      have HX := hid hx
      have HYY := hid hy
      clear hx hy hown hbl hE1
      go_wp2
      go_region_with (go_at_call 36; refine (max_any _ _ _).mono ?_; rintro e w2 ⟨rfl, rfl⟩)
      all_goals
        go_wp2
        go_roundw
        case rel =>
          refine ⟨k + 1, by omega, by go_num, ?_, ?_⟩
          · have hs := (HOW.out.stored k (.int .i64 (mxI x y))).1
            rw [set_map, HX.out, HYY.out, mid_succ] at hs
            rw [HX.out, HYY.out]
            exact hs
          · exact (HBL.out.setCell (p := ⟨w'.heap.size, k, none⟩) (Nat.le_refl _) _).drew
        case measure => simp [intOf]; omega
    · obtain rfl : k = n := by omega
      clear hown hbl
      go_wp2
      go_ret2
      refine ⟨_, rfl, ?_, HBL.out⟩
      have e : comb mxI zs ys = mid mxI zs ys k k := by unfold comb; rw [HZ.out]
      rw [e]
      refine ints_of_row (base := w'.heap.size) ?_
      rw [mid_length]
      exact HOW.out

theorem IntsAt.some {w : World} {v : Value} {zs : List Int} (h : IntsAt w v zs) (h0 : 1 ≤ zs.length) : ∃ b o c, v = .slice (some ⟨b, o, none⟩) zs.length c ∧ ∀ t, t < zs.length → w.cell? ⟨b, o + t, none⟩ = some (.int .i64 (zs.getD t 0)) := by
  obtain ⟨ad, c, rfl, _, h⟩ := h
  rcases h with rfl | ⟨b, o, rfl, h⟩
  · simp at h0
  · exact ⟨b, o, c, rfl, h⟩

set_option maxHeartbeats 1000000 in
theorem Least_ok (A : Nat → Addr) (w : World) (hE : E2 A w) (v u : Value) (zs ys : List Int) (h1 : IntsAt w v zs) (h2 : IntsAt w u ys) (h0 : two zs ys = 0) :
    Calls Tryd.prog 14 #[v, u] w fun e w' => ∃ r, e = .returned (.tuple #[r, .nilIface]) ∧ IntsAt w' r (comb mnI zs ys) ∧ Below w.heap.size w w' := by
  obtain ⟨hz, hy, hn⟩ := two_zero.1 h0
  have hz' := chk_zero.1 hz
  obtain ⟨b1, o1, c1, rfl, g1⟩ := h1.some hz'.1
  obtain ⟨b2, o2, c2, rfl, g2⟩ := h2.some (by omega)
  rw [← hn] at g2 ⊢
  have K1 := hid (least_n A w hE b1 o1 c1 b2 o2 c2 zs.length zs ys rfl hn.symm h0 hz'.2.1 g1 g2)
  clear g1 g2 h0 hz hy hn hz' h1 h2
  go_enter Tryd.func14, Tryd.ntmps14
  go_wp2_with fail
  refine K1.out.mono ?_
  rintro e w' ⟨r, rfl, hr, hb⟩
  go_wp2
  go_ret2
  exact ⟨r, rfl, hr, hb⟩
set_option maxHeartbeats 1000000 in
theorem least_bad (A : Nat → Addr) (w : World) (hE : E2 A w) (v u : Value) (zs ys : List Int) (h1 : IntsAt w v zs) (h2 : IntsAt w u ys) (hl1 : zs.length ≤ 1000000) (hl2 : ys.length ≤ 1000000) (h0 : two zs ys ≠ 0) :
    Calls Tryd.prog 34 #[v, u, .func (.func 35) #[] #[]] w fun e w' => e = .returned (.tuple #[.slice none 0 0, .iface 60 (.pointer (some (A ((two zs ys).toNat - 1))))]) ∧ w' = w := by
  have K1 := hid (checkPair_bad A w hE v u zs ys h1 h2 hl1 hl2 h0)
  clear h0
  go_enter Tryd.func34, Tryd.ntmps34
  go_wp2_with fail
  refine K1.out.mono ?_
  rintro e w' ⟨rfl, rfl⟩
  go_wp2
  go_ret2
  exact ⟨rfl, rfl⟩
theorem Least_bad (A : Nat → Addr) (w : World) (hE : E2 A w) (v u : Value) (zs ys : List Int) (h1 : IntsAt w v zs) (h2 : IntsAt w u ys) (hl1 : zs.length ≤ 1000000) (hl2 : ys.length ≤ 1000000) (h0 : two zs ys ≠ 0) :
    Calls Tryd.prog 14 #[v, u] w fun e w' => e = .returned (.tuple #[.slice none 0 0, .iface 60 (.pointer (some (A ((two zs ys).toNat - 1))))]) ∧ w' = w := by
  have K1 := hid (least_bad A w hE v u zs ys h1 h2 hl1 hl2 h0)
  clear h0
  go_enter Tryd.func14, Tryd.ntmps14
  go_wp2_with fail
  refine K1.out.mono ?_
  rintro e w' ⟨rfl, rfl⟩
  go_wp2
  go_ret2
  exact ⟨rfl, rfl⟩

set_option maxHeartbeats 1000000 in
theorem Most_ok (A : Nat → Addr) (w : World) (hE : E2 A w) (v u : Value) (zs ys : List Int) (h1 : IntsAt w v zs) (h2 : IntsAt w u ys) (h0 : two zs ys = 0) :
    Calls Tryd.prog 16 #[v, u] w fun e w' => ∃ r, e = .returned (.tuple #[r, .nilIface]) ∧ IntsAt w' r (comb mxI zs ys) ∧ Below w.heap.size w w' := by
  obtain ⟨hz, hy, hn⟩ := two_zero.1 h0
  have hz' := chk_zero.1 hz
  obtain ⟨b1, o1, c1, rfl, g1⟩ := h1.some hz'.1
  obtain ⟨b2, o2, c2, rfl, g2⟩ := h2.some (by omega)
  rw [← hn] at g2 ⊢
  have K1 := hid (most_n A w hE b1 o1 c1 b2 o2 c2 zs.length zs ys rfl hn.symm h0 hz'.2.1 g1 g2)
  clear g1 g2 h0 hz hy hn hz' h1 h2
  go_enter Tryd.func16, Tryd.ntmps16
  go_wp2_with fail
  refine K1.out.mono ?_
  rintro e w' ⟨r, rfl, hr, hb⟩
  go_wp2
  go_ret2
  exact ⟨r, rfl, hr, hb⟩
set_option maxHeartbeats 1000000 in
theorem most_bad (A : Nat → Addr) (w : World) (hE : E2 A w) (v u : Value) (zs ys : List Int) (h1 : IntsAt w v zs) (h2 : IntsAt w u ys) (hl1 : zs.length ≤ 1000000) (hl2 : ys.length ≤ 1000000) (h0 : two zs ys ≠ 0) :
    Calls Tryd.prog 34 #[v, u, .func (.func 36) #[] #[]] w fun e w' => e = .returned (.tuple #[.slice none 0 0, .iface 60 (.pointer (some (A ((two zs ys).toNat - 1))))]) ∧ w' = w := by
  have K1 := hid (checkPair_bad A w hE v u zs ys h1 h2 hl1 hl2 h0)
  clear h0
  go_enter Tryd.func34, Tryd.ntmps34
  go_wp2_with fail
  refine K1.out.mono ?_
  rintro e w' ⟨rfl, rfl⟩
  go_wp2
  go_ret2
  exact ⟨rfl, rfl⟩
theorem Most_bad (A : Nat → Addr) (w : World) (hE : E2 A w) (v u : Value) (zs ys : List Int) (h1 : IntsAt w v zs) (h2 : IntsAt w u ys) (hl1 : zs.length ≤ 1000000) (hl2 : ys.length ≤ 1000000) (h0 : two zs ys ≠ 0) :
    Calls Tryd.prog 16 #[v, u] w fun e w' => e = .returned (.tuple #[.slice none 0 0, .iface 60 (.pointer (some (A ((two zs ys).toNat - 1))))]) ∧ w' = w := by
  have K1 := hid (most_bad A w hE v u zs ys h1 h2 hl1 hl2 h0)
  clear h0
  go_enter Tryd.func16, Tryd.ntmps16
  go_wp2_with fail
  refine K1.out.mono ?_
  rintro e w' ⟨rfl, rfl⟩
  go_wp2
  go_ret2
  exact ⟨rfl, rfl⟩
end Go.Proofs.YtfechdagacmliaaDoor
