/- isAt, isKind, isName, isDot, hasForeignField by their contracts; Contracts of Go's library at this program's numbers, by the kit's own layings; isDot, Check$1, hasForeignField, Check by their contracts; hasForeignField and Check by their contracts. -/
import Derived.Test.YtilonnkohcocoaaGreatDoorJVOpM
import Derived.Test.YtilonnkohcocoaaGreatDoorJVDel
import Derived.Shelf.SlicesQ.IndexFunc
import Derived.Test.YtilonnkohcocoaaGreatDoorProg
namespace Go.Proofs.YtilonnkohcocoaaGreatDoor
open Go.RowKit
set_option maxRecDepth 100000
set_option linter.unusedSectionVars false
variable [Inhabited ComV] [DecidableEq D3] [Inhabited D3] [Inhabited Dd] [Inhabited OpV]

theorem isAt_any (w : World) (x : Int) : Calls Tryz.prog 40 #[.int .i64 x] w fun e w' => e = .returned (.bool (decide (0 ≤ x) && decide (x < 12))) ∧ w' = w := by
  by_cases h1 : 0 ≤ x
  · by_cases h2 : x < 12
    · go_enter Tryz.func40, Tryz.ntmps40
      go_wp2
      go_ret
      exact ⟨ret_bool (by simp [h1, h2]), rfl⟩
    · go_enter Tryz.func40, Tryz.ntmps40
      go_wp2
      go_ret
      exact ⟨ret_bool (by simp; omega), rfl⟩
  · go_enter Tryz.func40, Tryz.ntmps40
    go_wp2
    go_ret
    exact ⟨ret_bool (by simp; omega), rfl⟩
theorem isKind_any (w : World) (x : Int) : Calls Tryz.prog 42 #[.int .i64 x] w fun e w' => e = .returned (.bool (kindB x)) ∧ w' = w := by
  by_cases h1 : x = 1
  · subst h1
    go_enter Tryz.func42, Tryz.ntmps42
    go_wp2
    go_ret
    exact ⟨rfl, rfl⟩
  · have b1 : (x == 1) = false := by simpa using h1
    by_cases h2 : x = 2
    · subst h2
      go_enter Tryz.func42, Tryz.ntmps42
      go_wp2
      go_ret
      exact ⟨rfl, rfl⟩
    · have b2 : (x == 2) = false := by simpa using h2
      by_cases h3 : x = 3
      · subst h3
        go_enter Tryz.func42, Tryz.ntmps42
        go_wp2
        go_ret
        exact ⟨rfl, rfl⟩
      · have b3 : (x == 3) = false := by simpa using h3
        go_enter Tryz.func42, Tryz.ntmps42
        go_wp2
        go_ret
        exact ⟨ret_bool (by simp [kindB, h1, h2, h3]), rfl⟩

set_option maxHeartbeats 1000000 in
theorem isName_any (w : World) (s : ByteArray) : Calls Tryz.prog 41 #[.string s] w fun e w' => e = .returned (.bool (nameB s)) ∧ w' = w := by
  by_cases h1 : s.size < 1
  · have e1 : (s.size : Int) < 1 := by omega
    go_enter Tryz.func41, Tryz.ntmps41
    go_wp2
    go_ret
    exact ⟨ret_bool (nameB_false (.inl h1)).symm, rfl⟩
  · have e1 : ¬ (s.size : Int) < 1 := by omega
    by_cases h2 : 16 < s.size
    · have e2 : 16 < (s.size : Int) := by omega
      go_enter Tryz.func41, Tryz.ntmps41
      go_wp2
      go_ret
      exact ⟨ret_bool (nameB_false (.inr h2)).symm, rfl⟩
    · have e2 : ¬ 16 < (s.size : Int) := by omega
      go_enter Tryz.func41, Tryz.ntmps41
      go_wp2
      go_loop [15] (fun i => ∃ k : Nat, k ≤ s.size ∧ i = .int .i64 k ∧ ∀ t (ht : t < s.size), t < k → letterB s[t] = true) (fun i => s.size - (intOf i).toNat)
      case atStart => exact ⟨0, Nat.zero_le _, rfl, fun t _ ht => absurd ht (Nat.not_lt_zero _)⟩
      case round =>
        obtain ⟨k, hk, rfl, hin⟩ := hrel
        have HI := hid hin
        clear hin
        by_cases hlt : k < s.size
        · by_cases hb : letterB s[k] = true
          · have hb' := hb
            simp only [letterB, decide_eq_true_eq] at hb'
            by_cases a1 : (s[k].toNat : Int) < 97
            · by_cases a3 : (s[k].toNat : Int) < 48
              · have a5 : (s[k].toNat : Int) = 45 := by omega
                have a6 : ((s[k].toNat : Int) != 45) = false := by rw [a5]; rfl
                go_wp2
                go_round
                case rel => exact ⟨k + 1, by omega, by go_num, fun t ht h => by rcases Nat.lt_succ_iff_lt_or_eq.1 h with h | rfl; exact HI.out t ht h; exact hb⟩
                case measure => simp [intOf]; omega
              · have a4 : ¬ 57 < (s[k].toNat : Int) := by omega
                go_wp2
                go_round
                case rel => exact ⟨k + 1, by omega, by go_num, fun t ht h => by rcases Nat.lt_succ_iff_lt_or_eq.1 h with h | rfl; exact HI.out t ht h; exact hb⟩
                case measure => simp [intOf]; omega
            · have a2 : ¬ 122 < (s[k].toNat : Int) := by omega
              go_wp2
              go_round
              case rel => exact ⟨k + 1, by omega, by go_num, fun t ht h => by rcases Nat.lt_succ_iff_lt_or_eq.1 h with h | rfl; exact HI.out t ht h; exact hb⟩
              case measure => simp [intOf]; omega
          · have hf : letterB s[k] = false := by simpa using hb
            have hb' := hf
            simp only [letterB, decide_eq_false_iff_not] at hb'
            have a6 : ((s[k].toNat : Int) != 45) = true := by simp; omega
            have HF := hid (letters_bad hlt hf)
            clear hf hb
            by_cases a1 : (s[k].toNat : Int) < 97
            · by_cases a3 : (s[k].toNat : Int) < 48
              · go_wp2
                go_ret
                exact ⟨ret_bool HF.out.symm, rfl⟩
              · have a4 : 57 < (s[k].toNat : Int) := by omega
                go_wp2
                go_ret
                exact ⟨ret_bool HF.out.symm, rfl⟩
            · have a2 : 122 < (s[k].toNat : Int) := by omega
              have a3 : ¬ (s[k].toNat : Int) < 48 := by omega
              have a4 : 57 < (s[k].toNat : Int) := by omega
              go_wp2
              go_ret
              exact ⟨ret_bool HF.out.symm, rfl⟩
        · obtain rfl : k = s.size := by omega
          go_wp2
          go_ret
          exact ⟨ret_bool (letters_ok (by omega) (by omega) fun t ht => HI.out t ht ht).symm, rfl⟩
end Go.Proofs.YtilonnkohcocoaaGreatDoor
namespace Go.Proofs
open Go.Shelf
def Tryz.idxDd_ren : Go.Shelf.Ren := ⟨fun | 6 => 113 | n => n, fun | 22 => 90 | 23 => 94 | 25 => 131 | 3 => 3 | 0 => 0 | 4 => 4 | n => n, fun | n => n⟩
theorem Tryz.idxDd : Go.Proofs.SlLaysH0.n6 Tryz.prog Tryz.idxDd_ren := {
  mixed := by kernel_rfl
  f6 := ⟨Tryz.f113.name, by decide, Tryz.func113.trans (congrArg some (by kernel_rfl))⟩
  t0 := Tryz.underlying0
  a0 := Tryz.isAgg0
  z0 := Tryz.sizeOf0
  v0 := Tryz.zeroValue0
  t3 := Tryz.underlying3
  a3 := Tryz.isAgg3
  z3 := Tryz.sizeOf3
  v3 := Tryz.zeroValue3
  t4 := Tryz.underlying4
  a4 := Tryz.isAgg4
  z4 := Tryz.sizeOf4
  v4 := Tryz.zeroValue4
  t22 := Tryz.underlying90
  a22 := Tryz.isAgg90
  z22 := Tryz.sizeOf90
  v22 := Tryz.zeroValue90
  t25 := Tryz.underlying131
  a25 := Tryz.isAgg131
  z25 := Tryz.sizeOf131
  v25 := Tryz.zeroValue131 }
def Tryz.hasDot_ren : Go.Shelf.Ren := ⟨fun | 8 => 44 | 6 => 74 | n => n, fun | 22 => 22 | 23 => 65 | 25 => 84 | 4 => 4 | 3 => 3 | 0 => 0 | n => n, fun | n => n⟩
theorem Tryz.hasDot : Go.Proofs.SlLaysH0.n8 Tryz.prog Tryz.hasDot_ren := {
  mixed := by kernel_rfl
  f6 := ⟨Tryz.f74.name, by decide, Tryz.func74.trans (congrArg some (by kernel_rfl))⟩
  f8 := ⟨Tryz.f44.name, by decide, Tryz.func44.trans (congrArg some (by kernel_rfl))⟩
  t0 := Tryz.underlying0
  a0 := Tryz.isAgg0
  z0 := Tryz.sizeOf0
  v0 := Tryz.zeroValue0
  t3 := Tryz.underlying3
  a3 := Tryz.isAgg3
  z3 := Tryz.sizeOf3
  v3 := Tryz.zeroValue3
  t4 := Tryz.underlying4
  a4 := Tryz.isAgg4
  z4 := Tryz.sizeOf4
  v4 := Tryz.zeroValue4
  t22 := Tryz.underlying22
  a22 := Tryz.isAgg22
  z22 := Tryz.sizeOf22
  v22 := Tryz.zeroValue22
  t25 := Tryz.underlying84
  a25 := Tryz.isAgg84
  z25 := Tryz.sizeOf84
  v25 := Tryz.zeroValue84 }
end Go.Proofs
namespace Go.Proofs.YtilonnkohcocoaaGreatDoor
open Go.RowKit Go.Shelf
set_option maxRecDepth 100000
set_option linter.unusedSectionVars false
variable [Inhabited ComV] [DecidableEq D3] [Inhabited D3] [Inhabited Dd] [Inhabited OpV]

set_option maxHeartbeats 1000000 in
theorem isDot_any (w : World) (d : D3) (n : Int) : Calls Tryz.prog 46 #[.agg #[.int .i64 d.p, .int .i64 d.t, .int .i64 d.a], .int .i64 n] w fun e w' => e = .returned (.bool (dotB n d)) ∧ w' = w.alloc (.cells #[.int .i64 d.p, .int .i64 d.t, .int .i64 d.a] 65) := by
  obtain ⟨x1, x2, x3⟩ := d
  show Calls Tryz.prog 46 #[.agg #[.int .i64 x1, .int .i64 x2, .int .i64 x3], .int .i64 n] w fun e w' => e = .returned (.bool (dotB n ⟨x1, x2, x3⟩)) ∧ w' = w.alloc (.cells #[.int .i64 x1, .int .i64 x2, .int .i64 x3] 65)
  by_cases h0 : 0 ≤ x1
  · by_cases h1 : x1 < n
    · by_cases h2 : 1 ≤ x2
      · by_cases h3 : x2 ≤ 1099511627776
        · go_enter Tryz.func46, Tryz.ntmps46
          go_wp2_with (go_at_call 40; refine (isAt_any _ _).mono ?_; rintro e w' ⟨rfl, rfl⟩)
          go_ret
          exact ⟨ret_bool (by simp [dotB, h0, h1, h2, h3]), rfl⟩
        · go_enter Tryz.func46, Tryz.ntmps46
          go_wp2_with (go_at_call 40; refine (isAt_any _ _).mono ?_; rintro e w' ⟨rfl, rfl⟩)
          go_ret
          exact ⟨ret_bool (by simp only [dotB]; rw [decide_eq_false (p := x2 ≤ 1099511627776) (by omega)]; simp), rfl⟩
      · go_enter Tryz.func46, Tryz.ntmps46
        go_wp2_with (go_at_call 40; refine (isAt_any _ _).mono ?_; rintro e w' ⟨rfl, rfl⟩)
        go_ret
        exact ⟨ret_bool (by simp only [dotB]; rw [decide_eq_false (p := 1 ≤ x2) (by omega)]; simp), rfl⟩
    · go_enter Tryz.func46, Tryz.ntmps46
      go_wp2_with (go_at_call 40; refine (isAt_any _ _).mono ?_; rintro e w' ⟨rfl, rfl⟩)
      go_ret
      exact ⟨ret_bool (by simp only [dotB]; rw [decide_eq_false (p := x1 < n) (by omega)]; simp), rfl⟩
  · go_enter Tryz.func46, Tryz.ntmps46
    go_wp2_with (go_at_call 40; refine (isAt_any _ _).mono ?_; rintro e w' ⟨rfl, rfl⟩)
    go_ret
    exact ⟨ret_bool (by simp only [dotB]; rw [decide_eq_false (p := 0 ≤ x1) (by omega)]; simp), rfl⟩

theorem badDot_any (w : World) (B : Nat) (n : Int) (hc : w.cell? ⟨B, 0, none⟩ = some (.int .i64 n)) (d : D3) : Calls Tryz.prog 45 #[.agg #[.int .i64 d.p, .int .i64 d.t, .int .i64 d.a], .pointer (some ⟨B, 0, none⟩)] w fun e w' => e = .returned (.bool (!dotB n d)) ∧ Below w.heap.size w w' := by
  have hB : B < w.heap.size := lt_of_cell hc
  have hne : B ≠ w.heap.size := by omega
  have K := fun W => isDot_any W d n
  obtain ⟨b, hb⟩ : ∃ b, b = dotB n d := ⟨_, rfl⟩
  rw [← hb] at K ⊢
  clear hb
  obtain ⟨x1, x2, x3⟩ := d
  go_enter Tryz.func45, Tryz.ntmps45
  go_wp2_with (go_at_call 46; refine (K _).mono ?_; rintro e w' ⟨rfl, rfl⟩)
  go_ret
  exact ⟨rfl, (below_alloc _ _).trans ((below_alloc _ _).mono (by simp))⟩

/-- The slice v reads, in the world w, as rows of k cells. -/
def RowAt (k : Nat) (w : World) (v : Value) (rows : List (List Value)) : Prop :=
  ∃ ad cap, v = .slice ad rows.length cap ∧ (ad = none → cap = 0) ∧ rows.length ≤ cap ∧ (rows = [] ∨ ∃ b off, ad = some ⟨b, off, none⟩ ∧ ∀ j r, rows[j]? = some r → r.length = k ∧ ∀ i u, r[i]? = some u → w.cell? ⟨b, off + j * k + i, none⟩ = some u)
theorem RowAt.mono {k : Nat} {w w' : World} {v : Value} {rows : List (List Value)} {B : Nat} (h : RowAt k w v rows) (hb : Below B w w') (hB : w.heap.size ≤ B) : RowAt k w' v rows := by
  obtain ⟨ad, cap, rfl, hn, hc, h⟩ := h
  refine ⟨ad, cap, rfl, hn, hc, ?_⟩
  rcases h with h | ⟨b, off, rfl, h⟩
  · exact .inl h
  · exact .inr ⟨b, off, rfl, fun j r hr => ⟨(h j r hr).1, fun i u hu => by
      have := (h j r hr).2 i u hu
      rw [hb.cell (p := ⟨b, off + j * k + i, none⟩) (by have := lt_of_cell this; simp only at this ⊢; omega)]; exact this⟩⟩
def DotsAt (w : World) (v : Value) (ds : List D3) : Prop := RowAt 3 w v (ds.map D3.cells)
theorem DotsAt.mono {w w' : World} {v : Value} {ds : List D3} {B : Nat} (h : DotsAt w v ds) (hb : Below B w w') (hB : w.heap.size ≤ B) : DotsAt w' v ds := RowAt.mono h hb hB
theorem DotsAt.len {w : World} {v : Value} {ds : List D3} (h : DotsAt w v ds) : ∃ ad cap, v = .slice ad ds.length cap := by
  obtain ⟨ad, cap, rfl, _⟩ := h
  exact ⟨ad, cap, by simp⟩

/-- slices.ContainsFunc over no dot. -/
theorem indexDots_none (w : World) (p : Option Addr) (cap : Nat) (fv : Value) : Calls Tryz.prog 74 #[.slice p 0 cap, fv] w fun e w' => e = .returned (.int .i64 (-1)) ∧ w' = w := by
  go_enter Tryz.func74, Tryz.ntmps74
  go_wp2
  refine wp_loop_rounds 1 ?_
  rw [rounds_succ]
  go_wp2
  go_ret
  exact ⟨rfl, rfl⟩
theorem containsDots_none (w : World) (p : Option Addr) (cap : Nat) (fv : Value) : Calls Tryz.prog 44 #[.slice p 0 cap, fv] w fun e w' => e = .returned (.bool false) ∧ w' = w := by
  go_enter Tryz.func44, Tryz.ntmps44
  go_wp2_with (go_at_call 74; refine (indexDots_none _ _ _ _).mono ?_; rintro e w' ⟨rfl, rfl⟩)
  go_ret
  exact ⟨rfl, rfl⟩
/-- Is any dot none? -/
theorem badDots_any (w : World) (B : Nat) (n : Int) (hc : w.cell? ⟨B, 0, none⟩ = some (.int .i64 n)) (v : Value) (ds : List D3) (hd : DotsAt w v ds) (hl : ds.length ≤ 1000000) :
    Calls Tryz.prog 44 #[v, .func (.func 45) #[] #[.pointer (some ⟨B, 0, none⟩)]] w fun e w' => e = .returned (.bool (!ds.all (dotB n))) ∧ Below w.heap.size w w' := by
  obtain ⟨ad, cap, rfl, hn, hcap, h⟩ := hd
  rcases h with h | ⟨b, off, rfl, h⟩
  · have h0 : ds = [] := by simpa using h
    subst h0
    refine (containsDots_none w ad cap _).mono ?_
    rintro e w' ⟨rfl, rfl⟩
    exact ⟨rfl, Below.refl _ _⟩
  · by_cases h0 : ds = []
    · subst h0
      refine (containsDots_none w _ cap _).mono ?_
      rintro e w' ⟨rfl, rfl⟩
      exact ⟨rfl, Below.refl _ _⟩
    · have hcell : ∀ j, j < ds.length → ∀ i u, (D3.cells ds[j]!)[i]? = some u → w.cell? ⟨b, off + j * 3 + i, none⟩ = some u := fun j hj i u hu => by
        refine (h j (D3.cells ds[j]!) ?_).2 i u hu
        rw [List.getElem?_map, List.getElem?_eq_getElem hj, getElem!_pos ds j hj]
        rfl
      have hb : b < w.heap.size := lt_of_cell (hcell 0 (by have := List.length_pos_iff.2 h0; omega) 0 _ rfl)
      have hB : B < w.heap.size := lt_of_cell hc
      have hcon := AnyQ.slices_ContainsFunc Tryz.hasDot 3 Tryz.isAgg65 Tryz.sizeOf65 D3.cells (fun _ => rfl) (fun d => !dotB n d) 45 #[.pointer (some ⟨B, 0, none⟩)] (enters_of Tryz.func45 (by kernel_rfl) rfl) b off ds.length cap ds w
        (fun W x hW => (badDot_any W B n (by rw [hW.cell (p := ⟨B, 0, none⟩) hB]; exact hc) x).mono fun _ _ ⟨he, hw⟩ => ⟨he, hW.trans (hw.mono hW.size)⟩) (Nat.le_refl _) (by omega) hb hcell
      change Calls Tryz.prog 44 _ _ _ at hcon
      rw [List.take_of_length_le (Nat.le_refl _)] at hcon
      simp only [List.length_map]
      refine hcon.mono ?_
      rintro e w' ⟨rfl, hw⟩
      exact ⟨ret_bool (by simp [List.not_all_eq_any_not]), hw⟩
end Go.Proofs.YtilonnkohcocoaaGreatDoor
namespace Go.Proofs.YtilonnkohcocoaaGreatDoor
open Go.RowKit Go.Shelf
set_option maxRecDepth 100000
set_option linter.unusedSectionVars false
variable [Inhabited ComV] [DecidableEq D3] [Inhabited D3] [Inhabited Dd] [Inhabited OpV]

theorem empty_ne {a : ByteArray} (h : a ≠ ByteArray.empty) : ¬ a.toList = [] := fun e => h (WideShapes.bytes_inj (by rw [← Lib.toList_data a, e]; rfl))
set_option maxHeartbeats 1000000 in
theorem foreign_any (w : World) (x1 : Int) (x2 : ByteArray) (x3 : Int) (x4 : ByteArray) (x5 : Int) (x6 : Bool) (xp : Option Addr) (xc : Nat) (ds : List D3) (hl : ds.length ≤ 1000000) :
    Calls Tryz.prog 43 #[.agg #[.int .i64 x1, .string x2, .int .i64 x3, .string x4, .int .i64 x5, .bool x6, .slice xp ds.length xc]] w
    fun e w' => e = .returned (.bool (foreignB ⟨x1, x2, x3, x4, x5, x6, ds⟩)) ∧ w' = w.alloc (.cells #[.int .i64 x1, .string x2, .int .i64 x3, .string x4, .int .i64 x5, .bool x6, .slice xp ds.length xc] 24) := by
  obtain ⟨n, hn⟩ : ∃ n, n = ds.length := ⟨_, rfl⟩
  rw [← hn] at hl ⊢
  have HN := hid hn
  clear hn
  by_cases k1 : x3 = 1
  · subst k1
    by_cases h5 : x5 = 0
    · subst h5
      cases x6 with
      | true =>
        go_enter Tryz.func43, Tryz.ntmps43
        go_wp2
        go_ret
        exact ⟨ret_bool (by simp [foreignB]), rfl⟩
      | false =>
        by_cases h7 : 0 < n
        · have e7 : 0 < (n : Int) := by omega
          go_enter Tryz.func43, Tryz.ntmps43
          go_wp2
          go_ret
          exact ⟨ret_bool (by simp [foreignB, ← HN.out, h7]), rfl⟩
        · have e7 : ¬ 0 < (n : Int) := by omega
          go_enter Tryz.func43, Tryz.ntmps43
          go_wp2
          go_ret
          exact ⟨ret_bool (by have := HN.out; simp [foreignB, ← HN.out]; omega), rfl⟩
    · have b5 : (x5 != 0) = true := by simpa using h5
      go_enter Tryz.func43, Tryz.ntmps43
      go_wp2
      go_ret
      exact ⟨ret_bool (by simp [foreignB, h5]), rfl⟩
  · have c1 : (x3 == 1) = false := by simpa using k1
    by_cases k2 : x3 = 2
    · subst k2
      by_cases h4 : x4 = ByteArray.empty
      · subst h4
        cases x6 with
        | true =>
          go_enter Tryz.func43, Tryz.ntmps43
          go_wp2
          go_ret
          exact ⟨ret_bool (by simp [foreignB]), rfl⟩
        | false =>
          by_cases h7 : 0 < n
          · have e7 : 0 < (n : Int) := by omega
            go_enter Tryz.func43, Tryz.ntmps43
            go_wp2
            go_ret
            exact ⟨ret_bool (by simp [foreignB, ← HN.out, h7]), rfl⟩
          · have e7 : ¬ 0 < (n : Int) := by omega
            go_enter Tryz.func43, Tryz.ntmps43
            go_wp2
            go_ret
            exact ⟨ret_bool (by have := HN.out; simp [foreignB, ← HN.out]; omega), rfl⟩
      · have b4 := empty_ne h4
        go_enter Tryz.func43, Tryz.ntmps43
        go_wp2
        go_ret
        exact ⟨ret_bool (by simp [foreignB, h4]), rfl⟩
    · have c2 : (x3 == 2) = false := by simpa using k2
      by_cases h5 : x5 = 0
      · subst h5
        cases x6 with
        | true =>
          go_enter Tryz.func43, Tryz.ntmps43
          go_wp2
          go_ret
          exact ⟨ret_bool (by simp [foreignB, k1, k2]), rfl⟩
        | false =>
          by_cases h7 : 0 < n
          · have e7 : 0 < (n : Int) := by omega
            go_enter Tryz.func43, Tryz.ntmps43
            go_wp2
            go_ret
            exact ⟨ret_bool (by simp [foreignB, k1, k2, ← HN.out, h7]), rfl⟩
          · have e7 : ¬ 0 < (n : Int) := by omega
            go_enter Tryz.func43, Tryz.ntmps43
            go_wp2
            go_ret
            exact ⟨ret_bool (by have := HN.out; simp [foreignB, k1, k2, ← HN.out]; omega), rfl⟩
      · have b5 : (x5 != 0) = true := by simpa using h5
        go_enter Tryz.func43, Tryz.ntmps43
        go_wp2
        go_ret
        exact ⟨ret_bool (by simp [foreignB, k1, k2, h5]), rfl⟩
end Go.Proofs.YtilonnkohcocoaaGreatDoor
