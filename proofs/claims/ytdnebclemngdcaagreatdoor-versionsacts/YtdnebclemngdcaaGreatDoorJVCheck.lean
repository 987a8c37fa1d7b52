/- isDot, Check$1, hasForeignField, Check by their contracts; hasForeignField and Check by their contracts; Check by its contract. -/
import Derived.Test.YtdnebclemngdcaaGreatDoorJVOp
import Derived.Test.YtdnebclemngdcaaGreatDoorJVLayI
namespace Go.Proofs.YtdnebclemngdcaaGreatDoor
open Go.RowKit Go.Shelf
set_option maxRecDepth 100000
set_option linter.unusedSectionVars false
variable [Inhabited ComV] [DecidableEq D3] [Inhabited D3] [Inhabited Dd] [Inhabited OpV]

set_option maxHeartbeats 1000000 in
theorem isDot_any (w : World) (d : D3) (n : Int) : Calls Tryz.prog 98 #[.agg #[.int .i64 d.p, .int .i64 d.t, .int .i64 d.a], .int .i64 n] w fun e w' => e = .returned (.bool (dotB n d)) ∧ w' = w.alloc (.cells #[.int .i64 d.p, .int .i64 d.t, .int .i64 d.a] 87) := by
  obtain ⟨x1, x2, x3⟩ := d; show Calls Tryz.prog 98 #[.agg #[.int .i64 x1, .int .i64 x2, .int .i64 x3], .int .i64 n] w fun e w' => e = .returned (.bool (dotB n ⟨x1, x2, x3⟩)) ∧ w' = w.alloc (.cells #[.int .i64 x1, .int .i64 x2, .int .i64 x3] 87)
  by_cases h0 : 0 ≤ x1
  · by_cases h1 : x1 < n
    · by_cases h2 : 1 ≤ x2
      · by_cases h3 : x2 ≤ 1099511627776
        · go_enter Tryz.func98, Tryz.ntmps98
          go_wp2_with (go_at_call 92; refine (isAt_any _ _).mono ?_; rintro e w' ⟨rfl, rfl⟩)
          go_ret; exact ⟨ret_bool (by simp [dotB, h0, h1, h2, h3]), rfl⟩
        · go_enter Tryz.func98, Tryz.ntmps98
          go_wp2_with (go_at_call 92; refine (isAt_any _ _).mono ?_; rintro e w' ⟨rfl, rfl⟩)
          go_ret; exact ⟨ret_bool (by simp only [dotB]; rw [decide_eq_false (p := x2 ≤ 1099511627776) (by omega)]; simp), rfl⟩
      · go_enter Tryz.func98, Tryz.ntmps98
        go_wp2_with (go_at_call 92; refine (isAt_any _ _).mono ?_; rintro e w' ⟨rfl, rfl⟩)
        go_ret; exact ⟨ret_bool (by simp only [dotB]; rw [decide_eq_false (p := 1 ≤ x2) (by omega)]; simp), rfl⟩
    · go_enter Tryz.func98, Tryz.ntmps98
      go_wp2_with (go_at_call 92; refine (isAt_any _ _).mono ?_; rintro e w' ⟨rfl, rfl⟩)
      go_ret; exact ⟨ret_bool (by simp only [dotB]; rw [decide_eq_false (p := x1 < n) (by omega)]; simp), rfl⟩
  · go_enter Tryz.func98, Tryz.ntmps98
    go_wp2_with (go_at_call 92; refine (isAt_any _ _).mono ?_; rintro e w' ⟨rfl, rfl⟩)
    go_ret; exact ⟨ret_bool (by simp only [dotB]; rw [decide_eq_false (p := 0 ≤ x1) (by omega)]; simp), rfl⟩

theorem badDot_any (w : World) (B : Nat) (n : Int) (hc : w.cell? ⟨B, 0, none⟩ = some (.int .i64 n)) (d : D3) : Calls Tryz.prog 97 #[.agg #[.int .i64 d.p, .int .i64 d.t, .int .i64 d.a], .pointer (some ⟨B, 0, none⟩)] w fun e w' => e = .returned (.bool (!dotB n d)) ∧ Below w.heap.size w w' := by
  have hB : B < w.heap.size := lt_of_cell hc; have hne : B ≠ w.heap.size := by omega
  have K := fun W => isDot_any W d n
  obtain ⟨b, hb⟩ : ∃ b, b = dotB n d := ⟨_, rfl⟩; rw [← hb] at K ⊢; clear hb; obtain ⟨x1, x2, x3⟩ := d; go_enter Tryz.func97, Tryz.ntmps97
  go_wp2_with (go_at_call 98; refine (K _).mono ?_; rintro e w' ⟨rfl, rfl⟩)
  go_ret; exact ⟨rfl, (below_alloc _ _).trans ((below_alloc _ _).mono (by simp))⟩

def RowAt (k : Nat) (w : World) (v : Value) (rows : List (List Value)) : Prop :=
  ∃ ad cap, v = .slice ad rows.length cap ∧ (ad = none → cap = 0) ∧ rows.length ≤ cap ∧ (rows = [] ∨ ∃ b off, ad = some ⟨b, off, none⟩ ∧ ∀ j r, rows[j]? = some r → r.length = k ∧ ∀ i u, r[i]? = some u → w.cell? ⟨b, off + j * k + i, none⟩ = some u)
theorem RowAt.mono {k : Nat} {w w' : World} {v : Value} {rows : List (List Value)} {B : Nat} (h : RowAt k w v rows) (hb : Below B w w') (hB : w.heap.size ≤ B) : RowAt k w' v rows := by
  obtain ⟨ad, cap, rfl, hn, hc, h⟩ := h; refine ⟨ad, cap, rfl, hn, hc, ?_⟩; rcases h with h | ⟨b, off, rfl, h⟩
  · exact .inl h
  · exact .inr ⟨b, off, rfl, fun j r hr => ⟨(h j r hr).1, fun i u hu => by
      have := (h j r hr).2 i u hu; rw [hb.cell (p := ⟨b, off + j * k + i, none⟩) (by have := lt_of_cell this; simp only at this ⊢; omega)]; exact this⟩⟩
def DotsAt (w : World) (v : Value) (ds : List D3) : Prop := RowAt 3 w v (ds.map D3.cells)
theorem DotsAt.mono {w w' : World} {v : Value} {ds : List D3} {B : Nat} (h : DotsAt w v ds) (hb : Below B w w') (hB : w.heap.size ≤ B) : DotsAt w' v ds := RowAt.mono h hb hB
theorem DotsAt.len {w : World} {v : Value} {ds : List D3} (h : DotsAt w v ds) : ∃ ad cap, v = .slice ad ds.length cap := by
  obtain ⟨ad, cap, rfl, _⟩ := h; exact ⟨ad, cap, by simp⟩

theorem indexDots_none (w : World) (p : Option Addr) (cap : Nat) (fv : Value) : Calls Tryz.prog 126 #[.slice p 0 cap, fv] w fun e w' => e = .returned (.int .i64 (-1)) ∧ w' = w := by
  go_enter Tryz.func126, Tryz.ntmps126; go_wp2; refine wp_loop_rounds 1 ?_; rw [rounds_succ]; go_wp2; go_ret; exact ⟨rfl, rfl⟩
theorem containsDots_none (w : World) (p : Option Addr) (cap : Nat) (fv : Value) : Calls Tryz.prog 96 #[.slice p 0 cap, fv] w fun e w' => e = .returned (.bool false) ∧ w' = w := by
  go_enter Tryz.func96, Tryz.ntmps96
  go_wp2_with (go_at_call 126; refine (indexDots_none _ _ _ _).mono ?_; rintro e w' ⟨rfl, rfl⟩)
  go_ret; exact ⟨rfl, rfl⟩
theorem badDots_any (w : World) (B : Nat) (n : Int) (hc : w.cell? ⟨B, 0, none⟩ = some (.int .i64 n)) (v : Value) (ds : List D3) (hd : DotsAt w v ds) (hl : ds.length ≤ 1000000) :
    Calls Tryz.prog 96 #[v, .func (.func 97) #[] #[.pointer (some ⟨B, 0, none⟩)]] w fun e w' => e = .returned (.bool (!ds.all (dotB n))) ∧ Below w.heap.size w w' := by
  obtain ⟨ad, cap, rfl, hn, hcap, h⟩ := hd; rcases h with h | ⟨b, off, rfl, h⟩
  · have h0 : ds = [] := by simpa using h
    subst h0; refine (containsDots_none w ad cap _).mono ?_; rintro e w' ⟨rfl, rfl⟩; exact ⟨rfl, Below.refl _ _⟩
  · by_cases h0 : ds = []
    · subst h0; refine (containsDots_none w _ cap _).mono ?_; rintro e w' ⟨rfl, rfl⟩; exact ⟨rfl, Below.refl _ _⟩
    · have hcell : ∀ j, j < ds.length → ∀ i u, (D3.cells ds[j]!)[i]? = some u → w.cell? ⟨b, off + j * 3 + i, none⟩ = some u := fun j hj i u hu => by
        refine (h j (D3.cells ds[j]!) ?_).2 i u hu; rw [List.getElem?_map, List.getElem?_eq_getElem hj, getElem!_pos ds j hj]; rfl
      have hb : b < w.heap.size := lt_of_cell (hcell 0 (by have := List.length_pos_iff.2 h0; omega) 0 _ rfl); have hB : B < w.heap.size := lt_of_cell hc
      have hcon := AnyQ.slices_ContainsFunc Tryz.hasDot 3 Tryz.isAgg87 Tryz.sizeOf87 D3.cells (fun _ => rfl) (fun d => !dotB n d) 97 #[.pointer (some ⟨B, 0, none⟩)] (enters_of Tryz.func97 (by kernel_rfl) rfl) b off ds.length cap ds w
        (fun W x hW => (badDot_any W B n (by rw [hW.cell (p := ⟨B, 0, none⟩) hB]; exact hc) x).mono fun _ _ ⟨he, hw⟩ => ⟨he, hW.trans (hw.mono hW.size)⟩) (Nat.le_refl _) (by omega) hb hcell
      change Calls Tryz.prog 96 _ _ _ at hcon
      rw [List.take_of_length_le (Nat.le_refl _)] at hcon; simp only [List.length_map]; refine hcon.mono ?_; rintro e w' ⟨rfl, hw⟩; exact ⟨ret_bool (by simp [List.not_all_eq_any_not]), hw⟩
end Go.Proofs.YtdnebclemngdcaaGreatDoor
namespace Go.Proofs.YtdnebclemngdcaaGreatDoor
open Go.RowKit Go.Shelf
set_option maxRecDepth 100000
set_option linter.unusedSectionVars false
variable [Inhabited ComV] [DecidableEq D3] [Inhabited D3] [Inhabited Dd] [Inhabited OpV]

theorem empty_ne {a : ByteArray} (h : a ≠ ByteArray.empty) : ¬ a.toList = [] := fun e => h (WideShapes.bytes_inj (by rw [← Lib.toList_data a, e]; rfl))
set_option maxHeartbeats 1000000 in
theorem foreign_any (w : World) (x1 : Int) (x2 : ByteArray) (x3 : Int) (x4 : ByteArray) (x5 : Int) (x6 : Bool) (xp : Option Addr) (xc : Nat) (ds : List D3) (hl : ds.length ≤ 1000000) :
    Calls Tryz.prog 95 #[.agg #[.int .i64 x1, .string x2, .int .i64 x3, .string x4, .int .i64 x5, .bool x6, .slice xp ds.length xc]] w
    fun e w' => e = .returned (.bool (foreignB ⟨x1, x2, x3, x4, x5, x6, ds⟩)) ∧ w' = w.alloc (.cells #[.int .i64 x1, .string x2, .int .i64 x3, .string x4, .int .i64 x5, .bool x6, .slice xp ds.length xc] 76) := by
  obtain ⟨n, hn⟩ : ∃ n, n = ds.length := ⟨_, rfl⟩; rw [← hn] at hl ⊢; have HN := hid hn; clear hn
  by_cases k1 : x3 = 1
  · subst k1
    by_cases h5 : x5 = 0
    · subst h5
      cases x6 with
      | true =>
        go_enter Tryz.func95, Tryz.ntmps95; go_wp2; go_ret; exact ⟨ret_bool (by simp [foreignB]), rfl⟩
      | false =>
        by_cases h7 : 0 < n
        · have e7 : 0 < (n : Int) := by omega
          go_enter Tryz.func95, Tryz.ntmps95; go_wp2; go_ret; exact ⟨ret_bool (by simp [foreignB, ← HN.out, h7]), rfl⟩
        · have e7 : ¬ 0 < (n : Int) := by omega
          go_enter Tryz.func95, Tryz.ntmps95; go_wp2; go_ret; exact ⟨ret_bool (by have := HN.out; simp [foreignB, ← HN.out]; omega), rfl⟩
    · have b5 : (x5 != 0) = true := by simpa using h5
      go_enter Tryz.func95, Tryz.ntmps95; go_wp2; go_ret; exact ⟨ret_bool (by simp [foreignB, h5]), rfl⟩
  · have c1 : (x3 == 1) = false := by simpa using k1
    by_cases k2 : x3 = 2
    · subst k2
      by_cases h4 : x4 = ByteArray.empty
      · subst h4
        cases x6 with
        | true =>
          go_enter Tryz.func95, Tryz.ntmps95; go_wp2; go_ret; exact ⟨ret_bool (by simp [foreignB]), rfl⟩
        | false =>
          by_cases h7 : 0 < n
          · have e7 : 0 < (n : Int) := by omega
            go_enter Tryz.func95, Tryz.ntmps95; go_wp2; go_ret; exact ⟨ret_bool (by simp [foreignB, ← HN.out, h7]), rfl⟩
          · have e7 : ¬ 0 < (n : Int) := by omega
            go_enter Tryz.func95, Tryz.ntmps95; go_wp2; go_ret; exact ⟨ret_bool (by have := HN.out; simp [foreignB, ← HN.out]; omega), rfl⟩
      · have b4 := empty_ne h4; go_enter Tryz.func95, Tryz.ntmps95; go_wp2; go_ret; exact ⟨ret_bool (by simp [foreignB, h4]), rfl⟩
    · have c2 : (x3 == 2) = false := by simpa using k2
      by_cases h5 : x5 = 0
      · subst h5
        cases x6 with
        | true =>
          go_enter Tryz.func95, Tryz.ntmps95; go_wp2; go_ret; exact ⟨ret_bool (by simp [foreignB, k1, k2]), rfl⟩
        | false =>
          by_cases h7 : 0 < n
          · have e7 : 0 < (n : Int) := by omega
            go_enter Tryz.func95, Tryz.ntmps95; go_wp2; go_ret; exact ⟨ret_bool (by simp [foreignB, k1, k2, ← HN.out, h7]), rfl⟩
          · have e7 : ¬ 0 < (n : Int) := by omega
            go_enter Tryz.func95, Tryz.ntmps95; go_wp2; go_ret; exact ⟨ret_bool (by have := HN.out; simp [foreignB, k1, k2, ← HN.out]; omega), rfl⟩
      · have b5 : (x5 != 0) = true := by simpa using h5
        go_enter Tryz.func95, Tryz.ntmps95; go_wp2; go_ret; exact ⟨ret_bool (by simp [foreignB, k1, k2, h5]), rfl⟩
end Go.Proofs.YtdnebclemngdcaaGreatDoor
namespace Go.Proofs.YtdnebclemngdcaaGreatDoor
open Go.RowKit Go.Shelf
set_option maxRecDepth 100000
set_option linter.unusedSectionVars false
variable [Inhabited ComV] [DecidableEq D3] [Inhabited D3] [Inhabited Dd] [Inhabited OpV]

def errV (A : Nat → Addr) : Nat → Value
  | 0 => .nilIface
  | k + 1 => .iface 255 (.pointer (some (A k)))
theorem ret_err {A : Nat → Addr} (a : Nat) {b : Nat} (h : b = a) : Ending.returned (errV A a) = .returned (errV A b) := by rw [h]
theorem below2 (w : World) (a b : Obj) : Below w.heap.size w ((w.alloc a).alloc b) := (below_alloc _ _).trans ((below_alloc _ _).mono (by simp))
theorem below3 (w : World) (a b c : Obj) : Below w.heap.size w (((w.alloc a).alloc b).alloc c) := (below2 w a b).trans ((below_alloc _ _).mono (by simp; omega))

theorem cellBox (w : World) (a c : Obj) (v : Value) (t : TypeId) : (((w.alloc a).alloc (.cells #[v] t)).alloc c).cell? ⟨w.heap.size + 1, 0, none⟩ = some v := by
  rw [World.cell?_alloc_lt _ _ _ (by simp), World.cell?_alloc_at _ _ _ _ (by simp)]; rfl
theorem cell3 {w : World} {p : Addr} {v : Value} (h : w.cell? p = some v) (a b c : Obj) : (((w.alloc a).alloc b).alloc c).cell? p = some v := cell_alloc (cell_alloc (cell_alloc h a) b) c
theorem cell2 {w : World} {p : Addr} {v : Value} (h : w.cell? p = some v) (a b : Obj) : ((w.alloc a).alloc b).cell? p = some v := cell_alloc (cell_alloc h a) b

set_option maxHeartbeats 2000000 in
theorem check_op (A : Nat → Addr) (w : World) (hE : E4 A w) (h4 : 12 ≤ w.heap.size) (x1 : Int) (x2 : ByteArray) (x3 : Int) (x4 : ByteArray) (x5 : Int) (x6 : Bool) (xp : Option Addr) (xc : Nat) (ds : List D3) (n : Int)
    (hd : DotsAt w (.slice xp ds.length xc) ds) (hl : ds.length ≤ 1000000) (ht : x4.size ≤ 1000000) :
    Calls Tryz.prog 64 #[.agg #[.int .i64 x1, .string x2, .int .i64 x3, .string x4, .int .i64 x5, .bool x6, .slice xp ds.length xc], .int .i64 n] w
    fun e w' => e = .returned (errV A (opErr ⟨x1, x2, x3, x4, x5, x6, ds⟩ n)) ∧ Below w.heap.size w w' := by
  have K31 := fun W => isAt_any W x1
  have K32 := fun W => isName_any W x2
  have K33 := fun W => isKind_any W x3
  have K34 := fun W => foreign_any W x1 x2 x3 x4 x5 x6 xp xc ds hl
  have K35 := hid (badDots_any ((((w.alloc (.cells #[.int .i64 x1, .string x2, .int .i64 x3, .string x4, .int .i64 x5, .bool x6, .slice xp ds.length xc] 76)).alloc (.cells #[.int .i64 n] 3))).alloc (.cells #[.int .i64 x1, .string x2, .int .i64 x3, .string x4, .int .i64 x5, .bool x6, .slice xp ds.length xc] 76)) (w.heap.size + 1) n (cellBox _ _ _ _ _) (.slice xp ds.length xc) ds
    (hd.mono (B := w.heap.size) (below3 _ _ _ _) (Nat.le_refl _)) hl)
  have g0 := fun o1 o2 => cell2 hE.bound o1 o2
  have g1 := fun o1 o2 => cell2 hE.name o1 o2
  have g2 := fun o1 o2 => cell2 hE.kind o1 o2
  have s0 := fun o1 o2 o3 => cell3 hE.bound o1 o2 o3
  have s3 := fun o1 o2 o3 => cell3 hE.shape o1 o2 o3
  obtain ⟨er, her⟩ : ∃ er, er = opErr ⟨x1, x2, x3, x4, x5, x6, ds⟩ n := ⟨_, rfl⟩; have her' := her; unfold opErr at her'; simp only at her'; rw [← her]; obtain ⟨bd, hbd⟩ : ∃ bd, bd = ds.all (dotB n) := ⟨_, rfl⟩; rw [← hbd] at K35 her'; obtain ⟨m, hm⟩ : ∃ m, m = ds.length := ⟨_, rfl⟩; rw [← hm] at K34 K35 her' hl ⊢; obtain ⟨fb, hfb⟩ : ∃ fb, fb = foreignB ⟨x1, x2, x3, x4, x5, x6, ds⟩ := ⟨_, rfl⟩; rw [← hfb] at K34 her'; obtain ⟨nb, hnb⟩ : ∃ nb, nb = nameB x2 := ⟨_, rfl⟩; rw [← hnb] at K32 her'; obtain ⟨kb, hkb⟩ : ∃ kb, kb = kindB x3 := ⟨_, rfl⟩; rw [← hkb] at K33 her'; obtain ⟨ab, hab⟩ : ∃ ab, ab = (decide (0 ≤ x1) && decide (x1 < 12)) := ⟨_, rfl⟩; rw [← hab] at K31; have HER := hid her'; have HAB := hid hab; have h4' := hid h4; clear her' her hbd hm hfb hnb hkb hab hE hd h4
  by_cases n1 : n < 1
  · go_enter Tryz.func64, Tryz.ntmps64
    go_wp2_with (first
      | (go_at_call 92; refine (K31 _).mono ?_; rintro e w' ⟨rfl, rfl⟩)
      | (go_at_call 93; refine (K32 _).mono ?_; rintro e w' ⟨rfl, rfl⟩)
      | (go_at_call 94; refine (K33 _).mono ?_; rintro e w' ⟨rfl, rfl⟩)
      | (go_at_call 95; refine (K34 _).mono ?_; rintro e w' ⟨rfl, rfl⟩))
    go_ret; exact ⟨ret_err (A := A) 2 (by have := HER.out; rw [if_pos (by omega)] at this; exact this), below2 _ _ _⟩
  · by_cases n6 : 6 < n
    · go_enter Tryz.func64, Tryz.ntmps64
      go_wp2_with (first
        | (go_at_call 92; refine (K31 _).mono ?_; rintro e w' ⟨rfl, rfl⟩)
        | (go_at_call 93; refine (K32 _).mono ?_; rintro e w' ⟨rfl, rfl⟩)
        | (go_at_call 94; refine (K33 _).mono ?_; rintro e w' ⟨rfl, rfl⟩)
        | (go_at_call 95; refine (K34 _).mono ?_; rintro e w' ⟨rfl, rfl⟩))
      go_ret; exact ⟨ret_err (A := A) 2 (by have := HER.out; rw [if_pos (by omega)] at this; exact this), below2 _ _ _⟩
    · cases ab with
      | false =>
        have ha : ¬ (0 ≤ x1 ∧ x1 < 12) := by have := HAB.out; simp at this; omega
        go_enter Tryz.func64, Tryz.ntmps64
        go_wp2_with (first
          | (go_at_call 92; refine (K31 _).mono ?_; rintro e w' ⟨rfl, rfl⟩)
          | (go_at_call 93; refine (K32 _).mono ?_; rintro e w' ⟨rfl, rfl⟩)
          | (go_at_call 94; refine (K33 _).mono ?_; rintro e w' ⟨rfl, rfl⟩)
          | (go_at_call 95; refine (K34 _).mono ?_; rintro e w' ⟨rfl, rfl⟩))
        go_ret; exact ⟨ret_err (A := A) 2 (by have := HER.out; rw [if_pos (by omega)] at this; exact this), below2 _ _ _⟩
      | true =>
        have ha : ¬ (n < 1 ∨ 6 < n ∨ x1 < 0 ∨ 12 ≤ x1) := by have := HAB.out; simp at this; omega
        have HER2 := HER.out; rw [if_neg ha] at HER2; have HA := hid HER2; clear HER2
        cases nb with
        | false =>
          go_enter Tryz.func64, Tryz.ntmps64
          go_wp2_with (first
            | (go_at_call 92; refine (K31 _).mono ?_; rintro e w' ⟨rfl, rfl⟩)
            | (go_at_call 93; refine (K32 _).mono ?_; rintro e w' ⟨rfl, rfl⟩)
            | (go_at_call 94; refine (K33 _).mono ?_; rintro e w' ⟨rfl, rfl⟩)
            | (go_at_call 95; refine (K34 _).mono ?_; rintro e w' ⟨rfl, rfl⟩))
          go_ret; exact ⟨ret_err (A := A) 4 (by have := HA.out; rw [if_pos trivial] at this; exact this), below2 _ _ _⟩
        | true =>
          cases kb with
          | false =>
            go_enter Tryz.func64, Tryz.ntmps64
            go_wp2_with (first
              | (go_at_call 92; refine (K31 _).mono ?_; rintro e w' ⟨rfl, rfl⟩)
              | (go_at_call 93; refine (K32 _).mono ?_; rintro e w' ⟨rfl, rfl⟩)
              | (go_at_call 94; refine (K33 _).mono ?_; rintro e w' ⟨rfl, rfl⟩)
              | (go_at_call 95; refine (K34 _).mono ?_; rintro e w' ⟨rfl, rfl⟩))
            go_ret; exact ⟨ret_err (A := A) 12 (by have := HA.out; rw [if_neg (by decide), if_pos trivial] at this; exact this), below2 _ _ _⟩
          | true =>
            cases fb with
            | true =>
              go_enter Tryz.func64, Tryz.ntmps64
              go_wp2_with (first
                | (go_at_call 92; refine (K31 _).mono ?_; rintro e w' ⟨rfl, rfl⟩)
                | (go_at_call 93; refine (K32 _).mono ?_; rintro e w' ⟨rfl, rfl⟩)
                | (go_at_call 94; refine (K33 _).mono ?_; rintro e w' ⟨rfl, rfl⟩)
                | (go_at_call 95; refine (K34 _).mono ?_; rintro e w' ⟨rfl, rfl⟩))
              go_ret; exact ⟨ret_err (A := A) 3 (by have := HA.out; rw [if_neg (by decide), if_neg (by decide), if_pos trivial] at this; exact this), below3 _ _ _ _⟩
            | false =>
              by_cases t1 : 60 < x4.size
              · have t1' : 60 < (x4.size : Int) := by omega
                go_enter Tryz.func64, Tryz.ntmps64
                go_wp2_with (first
                  | (go_at_call 92; refine (K31 _).mono ?_; rintro e w' ⟨rfl, rfl⟩)
                  | (go_at_call 93; refine (K32 _).mono ?_; rintro e w' ⟨rfl, rfl⟩)
                  | (go_at_call 94; refine (K33 _).mono ?_; rintro e w' ⟨rfl, rfl⟩)
                  | (go_at_call 95; refine (K34 _).mono ?_; rintro e w' ⟨rfl, rfl⟩))
                go_ret; exact ⟨ret_err (A := A) 2 (by have := HA.out; rw [if_neg (by decide), if_neg (by decide), if_neg (by decide), if_pos (by omega)] at this; exact this), below3 _ _ _ _⟩
              · have t1' : ¬ 60 < (x4.size : Int) := by omega
                by_cases t2 : x5 < -1099511627776
                · go_enter Tryz.func64, Tryz.ntmps64
                  go_wp2_with (first
                    | (go_at_call 92; refine (K31 _).mono ?_; rintro e w' ⟨rfl, rfl⟩)
                    | (go_at_call 93; refine (K32 _).mono ?_; rintro e w' ⟨rfl, rfl⟩)
                    | (go_at_call 94; refine (K33 _).mono ?_; rintro e w' ⟨rfl, rfl⟩)
                    | (go_at_call 95; refine (K34 _).mono ?_; rintro e w' ⟨rfl, rfl⟩))
                  go_ret; exact ⟨ret_err (A := A) 2 (by have := HA.out; rw [if_neg (by decide), if_neg (by decide), if_neg (by decide), if_pos (by omega)] at this; exact this), below3 _ _ _ _⟩
                · by_cases t3 : 1099511627776 < x5
                  · go_enter Tryz.func64, Tryz.ntmps64
                    go_wp2_with (first
                      | (go_at_call 92; refine (K31 _).mono ?_; rintro e w' ⟨rfl, rfl⟩)
                      | (go_at_call 93; refine (K32 _).mono ?_; rintro e w' ⟨rfl, rfl⟩)
                      | (go_at_call 94; refine (K33 _).mono ?_; rintro e w' ⟨rfl, rfl⟩)
                      | (go_at_call 95; refine (K34 _).mono ?_; rintro e w' ⟨rfl, rfl⟩))
                    go_ret; exact ⟨ret_err (A := A) 2 (by have := HA.out; rw [if_neg (by decide), if_neg (by decide), if_neg (by decide), if_pos (by omega)] at this; exact this), below3 _ _ _ _⟩
                  · by_cases t4 : 60 < m
                    · have t4' : 60 < (m : Int) := by omega
                      go_enter Tryz.func64, Tryz.ntmps64
                      go_wp2_with (first
                        | (go_at_call 92; refine (K31 _).mono ?_; rintro e w' ⟨rfl, rfl⟩)
                        | (go_at_call 93; refine (K32 _).mono ?_; rintro e w' ⟨rfl, rfl⟩)
                        | (go_at_call 94; refine (K33 _).mono ?_; rintro e w' ⟨rfl, rfl⟩)
                        | (go_at_call 95; refine (K34 _).mono ?_; rintro e w' ⟨rfl, rfl⟩))
                      go_ret; exact ⟨ret_err (A := A) 2 (by have := HA.out; rw [if_neg (by decide), if_neg (by decide), if_neg (by decide), if_pos (by omega)] at this; exact this), below3 _ _ _ _⟩
                    · have t4' : ¬ 60 < (m : Int) := by omega
                      have h4 := h4'.out
                      cases bd with
                      | true =>
                        go_enter Tryz.func64, Tryz.ntmps64
                        go_wp2_with (first
                          | (go_at_call 92; refine (K31 _).mono ?_; rintro e w' ⟨rfl, rfl⟩)
                          | (go_at_call 93; refine (K32 _).mono ?_; rintro e w' ⟨rfl, rfl⟩)
                          | (go_at_call 94; refine (K33 _).mono ?_; rintro e w' ⟨rfl, rfl⟩)
                          | (go_at_call 95; refine (K34 _).mono ?_; rintro e w' ⟨rfl, rfl⟩))
                        refine K35.out.mono ?_; rintro e w' ⟨rfl, hw⟩; go_wp2; go_ret; exact ⟨ret_err (A := A) 0 (by have := HA.out; rw [if_neg (by decide), if_neg (by decide), if_neg (by decide), if_neg (by omega), if_neg (by decide)] at this; exact this), (below3 _ _ _ _).trans (hw.mono (by simp; omega))⟩
                      | false =>
                        go_enter Tryz.func64, Tryz.ntmps64
                        go_wp2_with (first
                          | (go_at_call 92; refine (K31 _).mono ?_; rintro e w' ⟨rfl, rfl⟩)
                          | (go_at_call 93; refine (K32 _).mono ?_; rintro e w' ⟨rfl, rfl⟩)
                          | (go_at_call 94; refine (K33 _).mono ?_; rintro e w' ⟨rfl, rfl⟩)
                          | (go_at_call 95; refine (K34 _).mono ?_; rintro e w' ⟨rfl, rfl⟩))
                        refine K35.out.mono ?_; rintro e w' ⟨rfl, hw⟩; have c0 : w'.cell? ⟨0, 0, none⟩ = some (.iface 255 (.pointer (some (A 1)))) := by rw [hw.cell (p := ⟨0, 0, none⟩) (by simp)]; exact s0 _ _ _
                        have HW := hid hw; clear hw; go_wp2; go_ret; exact ⟨ret_err (A := A) 2 (by have := HA.out; rw [if_neg (by decide), if_neg (by decide), if_neg (by decide), if_neg (by omega), if_pos trivial] at this; exact this), (below3 _ _ _ _).trans (HW.out.mono (by simp; omega))⟩
end Go.Proofs.YtdnebclemngdcaaGreatDoor
