/- isDot, Check$1, hasForeignField, Check by their contracts. -/
import Derived.Test.YtcohaghmfoifaabGreatDoorVOp
import Derived.Test.YtcohaghmfoifaabGreatDoorVLayI
namespace Go.Proofs.YtcohaghmfoifaabGreatDoor
open Go.RowKit Go.Shelf
set_option maxRecDepth 100000

set_option maxHeartbeats 1000000 in
theorem isDot_any (w : World) (d : D3) (n : Int) : Calls Tryz.prog 37 #[.agg #[.int .i64 d.p, .int .i64 d.t, .int .i64 d.a], .int .i64 n] w fun e w' => e = .returned (.bool (dotB n d)) ∧ w' = w.alloc (.cells #[.int .i64 d.p, .int .i64 d.t, .int .i64 d.a] 65) := by
  obtain ⟨x1, x2, x3⟩ := d
  show Calls Tryz.prog 37 #[.agg #[.int .i64 x1, .int .i64 x2, .int .i64 x3], .int .i64 n] w fun e w' => e = .returned (.bool (dotB n ⟨x1, x2, x3⟩)) ∧ w' = w.alloc (.cells #[.int .i64 x1, .int .i64 x2, .int .i64 x3] 65)
  by_cases h0 : 0 ≤ x1
  · by_cases h1 : x1 < n
    · by_cases h2 : 1 ≤ x2
      · by_cases h3 : x2 ≤ 1099511627776
        · go_enter Tryz.func37, Tryz.ntmps37
          go_wp2_with (go_at_call 31; refine (isAt_any _ _).mono ?_; rintro e w' ⟨rfl, rfl⟩)
          go_ret
          exact ⟨ret_bool (by simp [dotB, h0, h1, h2, h3]), rfl⟩
        · go_enter Tryz.func37, Tryz.ntmps37
          go_wp2_with (go_at_call 31; refine (isAt_any _ _).mono ?_; rintro e w' ⟨rfl, rfl⟩)
          go_ret
          exact ⟨ret_bool (by simp only [dotB]; rw [decide_eq_false (p := x2 ≤ 1099511627776) (by omega)]; simp), rfl⟩
      · go_enter Tryz.func37, Tryz.ntmps37
        go_wp2_with (go_at_call 31; refine (isAt_any _ _).mono ?_; rintro e w' ⟨rfl, rfl⟩)
        go_ret
        exact ⟨ret_bool (by simp only [dotB]; rw [decide_eq_false (p := 1 ≤ x2) (by omega)]; simp), rfl⟩
    · go_enter Tryz.func37, Tryz.ntmps37
      go_wp2_with (go_at_call 31; refine (isAt_any _ _).mono ?_; rintro e w' ⟨rfl, rfl⟩)
      go_ret
      exact ⟨ret_bool (by simp only [dotB]; rw [decide_eq_false (p := x1 < n) (by omega)]; simp), rfl⟩
  · go_enter Tryz.func37, Tryz.ntmps37
    go_wp2_with (go_at_call 31; refine (isAt_any _ _).mono ?_; rintro e w' ⟨rfl, rfl⟩)
    go_ret
    exact ⟨ret_bool (by simp only [dotB]; rw [decide_eq_false (p := 0 ≤ x1) (by omega)]; simp), rfl⟩

theorem badDot_any (w : World) (B : Nat) (n : Int) (hc : w.cell? ⟨B, 0, none⟩ = some (.int .i64 n)) (d : D3) : Calls Tryz.prog 36 #[.agg #[.int .i64 d.p, .int .i64 d.t, .int .i64 d.a], .pointer (some ⟨B, 0, none⟩)] w fun e w' => e = .returned (.bool (!dotB n d)) ∧ Below w.heap.size w w' := by
  have hB : B < w.heap.size := lt_of_cell hc
  have hne : B ≠ w.heap.size := by omega
  have K := fun W => isDot_any W d n
  obtain ⟨b, hb⟩ : ∃ b, b = dotB n d := ⟨_, rfl⟩
  rw [← hb] at K ⊢
  clear hb
  obtain ⟨x1, x2, x3⟩ := d
  go_enter Tryz.func36, Tryz.ntmps36
  go_wp2_with (go_at_call 37; refine (K _).mono ?_; rintro e w' ⟨rfl, rfl⟩)
  go_ret
  exact ⟨rfl, (below_alloc _ _).trans ((below_alloc _ _).mono (by simp))⟩

/-- The slice v reads, in the world w, as rows of k cells. -/
def RowAt (k : Nat) (w : World) (v : Value) (rows : List (List Value)) : Prop :=
  ∃ ad cap, v = .slice ad rows.length cap ∧ (ad = none → cap = 0) ∧ rows.length ≤ cap ∧ (rows = [] ∨ ∃ b off, ad = some ⟨b, off, none⟩ ∧ ∀ j r, rows[j]? = some r → r.length = k ∧ ∀ i u, r[i]? = some u → w.cell? ⟨b, off + j * k + i, none⟩ = some u)
theorem RowAt.mono {k : Nat} {w w' : World} {v : Value} {rows : List (List Value)} {B : Nat} (h : RowAt k w v rows) (hb : Below B w w') (hB : w.heap.size ≤ B) : RowAt k w' v rows := by
  obtain ⟨ad, cap, rfl, hn, hc, h⟩ := h
  refine ⟨ad, cap, rfl, hn, hc, ?_⟩
  rcases h with h | ⟨b, off, rfl, h⟩
  · exact .inl h
  · exact .inr ⟨b, off, rfl, fun j r hr => ⟨(h j r hr).1, fun i u hu => by
      have := (h j r hr).2 i u hu
      rw [hb.cell (p := ⟨b, off + j * k + i, none⟩) (by have := lt_of_cell this; simp only at this ⊢; omega)]; exact this⟩⟩
def DotsAt (w : World) (v : Value) (ds : List D3) : Prop := RowAt 3 w v (ds.map D3.cells)
theorem DotsAt.mono {w w' : World} {v : Value} {ds : List D3} {B : Nat} (h : DotsAt w v ds) (hb : Below B w w') (hB : w.heap.size ≤ B) : DotsAt w' v ds := RowAt.mono h hb hB
theorem DotsAt.len {w : World} {v : Value} {ds : List D3} (h : DotsAt w v ds) : ∃ ad cap, v = .slice ad ds.length cap := by
  obtain ⟨ad, cap, rfl, _⟩ := h
  exact ⟨ad, cap, by simp⟩

/-- slices.ContainsFunc over no dot. -/
theorem indexDots_none (w : World) (p : Option Addr) (cap : Nat) (fv : Value) : Calls Tryz.prog 52 #[.slice p 0 cap, fv] w fun e w' => e = .returned (.int .i64 (-1)) ∧ w' = w := by
  go_enter Tryz.func52, Tryz.ntmps52
  go_wp2
  refine wp_loop_rounds 1 ?_
  rw [rounds_succ]
  go_wp2
  go_ret
  exact ⟨rfl, rfl⟩
theorem containsDots_none (w : World) (p : Option Addr) (cap : Nat) (fv : Value) : Calls Tryz.prog 35 #[.slice p 0 cap, fv] w fun e w' => e = .returned (.bool false) ∧ w' = w := by
  go_enter Tryz.func35, Tryz.ntmps35
  go_wp2_with (go_at_call 52; refine (indexDots_none _ _ _ _).mono ?_; rintro e w' ⟨rfl, rfl⟩)
  go_ret
  exact ⟨rfl, rfl⟩
/-- Is any dot none? -/
theorem badDots_any (w : World) (B : Nat) (n : Int) (hc : w.cell? ⟨B, 0, none⟩ = some (.int .i64 n)) (v : Value) (ds : List D3) (hd : DotsAt w v ds) (hl : ds.length ≤ 1000000) :
    Calls Tryz.prog 35 #[v, .func (.func 36) #[] #[.pointer (some ⟨B, 0, none⟩)]] w fun e w' => e = .returned (.bool (!ds.all (dotB n))) ∧ Below w.heap.size w w' := by
  obtain ⟨ad, cap, rfl, hn, hcap, h⟩ := hd
  rcases h with h | ⟨b, off, rfl, h⟩
  · have h0 : ds = [] := by simpa using h
    subst h0
    refine (containsDots_none w ad cap _).mono ?_
    rintro e w' ⟨rfl, rfl⟩
    exact ⟨rfl, Below.refl _ _⟩
  · by_cases h0 : ds = []
    · subst h0
      refine (containsDots_none w _ cap _).mono ?_
      rintro e w' ⟨rfl, rfl⟩
      exact ⟨rfl, Below.refl _ _⟩
    · have hcell : ∀ j, j < ds.length → ∀ i u, (D3.cells ds[j]!)[i]? = some u → w.cell? ⟨b, off + j * 3 + i, none⟩ = some u := fun j hj i u hu => by
        refine (h j (D3.cells ds[j]!) ?_).2 i u hu
        rw [List.getElem?_map, List.getElem?_eq_getElem hj, getElem!_pos ds j hj]
        rfl
      have hb : b < w.heap.size := lt_of_cell (hcell 0 (by have := List.length_pos_iff.2 h0; omega) 0 _ rfl)
      have hB : B < w.heap.size := lt_of_cell hc
      have hcon := AnyQ.slices_ContainsFunc Tryz.hasDot 3 Tryz.isAgg65 Tryz.sizeOf65 D3.cells (fun _ => rfl) (fun d => !dotB n d) 36 #[.pointer (some ⟨B, 0, none⟩)] (enters_of Tryz.func36 (by kernel_rfl) rfl) b off ds.length cap ds w
        (fun W x hW => (badDot_any W B n (by rw [hW.cell (p := ⟨B, 0, none⟩) hB]; exact hc) x).mono fun _ _ ⟨he, hw⟩ => ⟨he, hW.trans (hw.mono hW.size)⟩) (Nat.le_refl _) (by omega) hb hcell
      change Calls Tryz.prog 35 _ _ _ at hcon
      rw [List.take_of_length_le (Nat.le_refl _)] at hcon
      simp only [List.length_map]
      refine hcon.mono ?_
      rintro e w' ⟨rfl, hw⟩
      exact ⟨ret_bool (by simp [List.not_all_eq_any_not]), hw⟩
end Go.Proofs.YtcohaghmfoifaabGreatDoor
