/- Check by its contract; Vectors as lists of numbers: plain mathematics; vector.Check by its contracts. -/
import Derived.Test.YtilonnkohcocoaaGreatDoorJVOp3
import Derived.WalkKit
import Derived.Test.YtilonnkohcocoaaGreatDoorJVOpM
namespace Go.Proofs.YtilonnkohcocoaaGreatDoor
open Go.RowKit Go.Shelf
set_option maxRecDepth 100000
set_option linter.unusedSectionVars false
variable [Inhabited ComV] [DecidableEq D3] [Inhabited D3] [Inhabited Dd] [Inhabited OpV]

/-- The error with this number, 0 none. -/
def errV (A : Nat → Addr) : Nat → Value
  | 0 => .nilIface
  | k + 1 => .iface 247 (.pointer (some (A k)))
theorem ret_err {A : Nat → Addr} (a : Nat) {b : Nat} (h : b = a) : Ending.returned (errV A a) = .returned (errV A b) := by rw [h]
theorem below2 (w : World) (a b : Obj) : Below w.heap.size w ((w.alloc a).alloc b) := (below_alloc _ _).trans ((below_alloc _ _).mono (by simp))
theorem below3 (w : World) (a b c : Obj) : Below w.heap.size w (((w.alloc a).alloc b).alloc c) := (below2 w a b).trans ((below_alloc _ _).mono (by simp; omega))

theorem cellBox (w : World) (a c : Obj) (v : Value) (t : TypeId) : (((w.alloc a).alloc (.cells #[v] t)).alloc c).cell? ⟨w.heap.size + 1, 0, none⟩ = some v := by
  rw [World.cell?_alloc_lt _ _ _ (by simp), World.cell?_alloc_at _ _ _ _ (by simp)]
  rfl
theorem cell3 {w : World} {p : Addr} {v : Value} (h : w.cell? p = some v) (a b c : Obj) : (((w.alloc a).alloc b).alloc c).cell? p = some v := cell_alloc (cell_alloc (cell_alloc h a) b) c
theorem cell2 {w : World} {p : Addr} {v : Value} (h : w.cell? p = some v) (a b : Obj) : ((w.alloc a).alloc b).cell? p = some v := cell_alloc (cell_alloc h a) b

set_option maxHeartbeats 2000000 in
theorem check_op (A : Nat → Addr) (w : World) (hE : E4 A w) (h4 : 4 ≤ w.heap.size) (x1 : Int) (x2 : ByteArray) (x3 : Int) (x4 : ByteArray) (x5 : Int) (x6 : Bool) (xp : Option Addr) (xc : Nat) (ds : List D3) (n : Int)
    (hd : DotsAt w (.slice xp ds.length xc) ds) (hl : ds.length ≤ 1000000) (ht : x4.size ≤ 1000000) :
    Calls Tryz.prog 12 #[.agg #[.int .i64 x1, .string x2, .int .i64 x3, .string x4, .int .i64 x5, .bool x6, .slice xp ds.length xc], .int .i64 n] w
    fun e w' => e = .returned (errV A (opErr ⟨x1, x2, x3, x4, x5, x6, ds⟩ n)) ∧ Below w.heap.size w w' := by
  have K31 := fun W => isAt_any W x1
  have K32 := fun W => isName_any W x2
  have K33 := fun W => isKind_any W x3
  have K34 := fun W => foreign_any W x1 x2 x3 x4 x5 x6 xp xc ds hl
  have K35 := hid (badDots_any ((((w.alloc (.cells #[.int .i64 x1, .string x2, .int .i64 x3, .string x4, .int .i64 x5, .bool x6, .slice xp ds.length xc] 24)).alloc (.cells #[.int .i64 n] 3))).alloc (.cells #[.int .i64 x1, .string x2, .int .i64 x3, .string x4, .int .i64 x5, .bool x6, .slice xp ds.length xc] 24)) (w.heap.size + 1) n (cellBox _ _ _ _ _) (.slice xp ds.length xc) ds
    (hd.mono (B := w.heap.size) (below3 _ _ _ _) (Nat.le_refl _)) hl)
  have g0 := fun o1 o2 => cell2 hE.bound o1 o2
  have g1 := fun o1 o2 => cell2 hE.name o1 o2
  have g2 := fun o1 o2 => cell2 hE.kind o1 o2
  have s0 := fun o1 o2 o3 => cell3 hE.bound o1 o2 o3
  have s3 := fun o1 o2 o3 => cell3 hE.shape o1 o2 o3
  obtain ⟨er, her⟩ : ∃ er, er = opErr ⟨x1, x2, x3, x4, x5, x6, ds⟩ n := ⟨_, rfl⟩
  have her' := her
  unfold opErr at her'
  simp only at her'
  rw [← her]
  obtain ⟨bd, hbd⟩ : ∃ bd, bd = ds.all (dotB n) := ⟨_, rfl⟩
  rw [← hbd] at K35 her'
  obtain ⟨m, hm⟩ : ∃ m, m = ds.length := ⟨_, rfl⟩
  rw [← hm] at K34 K35 her' hl ⊢
  obtain ⟨fb, hfb⟩ : ∃ fb, fb = foreignB ⟨x1, x2, x3, x4, x5, x6, ds⟩ := ⟨_, rfl⟩
  rw [← hfb] at K34 her'
  obtain ⟨nb, hnb⟩ : ∃ nb, nb = nameB x2 := ⟨_, rfl⟩
  rw [← hnb] at K32 her'
  obtain ⟨kb, hkb⟩ : ∃ kb, kb = kindB x3 := ⟨_, rfl⟩
  rw [← hkb] at K33 her'
  obtain ⟨ab, hab⟩ : ∃ ab, ab = (decide (0 ≤ x1) && decide (x1 < 12)) := ⟨_, rfl⟩
  rw [← hab] at K31
  have HER := hid her'
  have HAB := hid hab
  have h4' := hid h4
  clear her' her hbd hm hfb hnb hkb hab hE hd h4
  by_cases n1 : n < 1
  · go_enter Tryz.func12, Tryz.ntmps12
    go_wp2_with (first
      | (go_at_call 40; refine (K31 _).mono ?_; rintro e w' ⟨rfl, rfl⟩)
      | (go_at_call 41; refine (K32 _).mono ?_; rintro e w' ⟨rfl, rfl⟩)
      | (go_at_call 42; refine (K33 _).mono ?_; rintro e w' ⟨rfl, rfl⟩)
      | (go_at_call 43; refine (K34 _).mono ?_; rintro e w' ⟨rfl, rfl⟩))
    go_ret
    exact ⟨ret_err (A := A) 2 (by have := HER.out; rw [if_pos (by omega)] at this; exact this), below2 _ _ _⟩
  · by_cases n6 : 6 < n
    · go_enter Tryz.func12, Tryz.ntmps12
      go_wp2_with (first
        | (go_at_call 40; refine (K31 _).mono ?_; rintro e w' ⟨rfl, rfl⟩)
        | (go_at_call 41; refine (K32 _).mono ?_; rintro e w' ⟨rfl, rfl⟩)
        | (go_at_call 42; refine (K33 _).mono ?_; rintro e w' ⟨rfl, rfl⟩)
        | (go_at_call 43; refine (K34 _).mono ?_; rintro e w' ⟨rfl, rfl⟩))
      go_ret
      exact ⟨ret_err (A := A) 2 (by have := HER.out; rw [if_pos (by omega)] at this; exact this), below2 _ _ _⟩
    · cases ab with
      | false =>
        have ha : ¬ (0 ≤ x1 ∧ x1 < 12) := by have := HAB.out; simp at this; omega
        go_enter Tryz.func12, Tryz.ntmps12
        go_wp2_with (first
          | (go_at_call 40; refine (K31 _).mono ?_; rintro e w' ⟨rfl, rfl⟩)
          | (go_at_call 41; refine (K32 _).mono ?_; rintro e w' ⟨rfl, rfl⟩)
          | (go_at_call 42; refine (K33 _).mono ?_; rintro e w' ⟨rfl, rfl⟩)
          | (go_at_call 43; refine (K34 _).mono ?_; rintro e w' ⟨rfl, rfl⟩))
        go_ret
        exact ⟨ret_err (A := A) 2 (by have := HER.out; rw [if_pos (by omega)] at this; exact this), below2 _ _ _⟩
      | true =>
        have ha : ¬ (n < 1 ∨ 6 < n ∨ x1 < 0 ∨ 12 ≤ x1) := by have := HAB.out; simp at this; omega
        have HER2 := HER.out
        rw [if_neg ha] at HER2
        have HA := hid HER2
        clear HER2
        cases nb with
        | false =>
          go_enter Tryz.func12, Tryz.ntmps12
          go_wp2_with (first
            | (go_at_call 40; refine (K31 _).mono ?_; rintro e w' ⟨rfl, rfl⟩)
            | (go_at_call 41; refine (K32 _).mono ?_; rintro e w' ⟨rfl, rfl⟩)
            | (go_at_call 42; refine (K33 _).mono ?_; rintro e w' ⟨rfl, rfl⟩)
            | (go_at_call 43; refine (K34 _).mono ?_; rintro e w' ⟨rfl, rfl⟩))
          go_ret
          exact ⟨ret_err (A := A) 4 (by have := HA.out; rw [if_pos trivial] at this; exact this), below2 _ _ _⟩
        | true =>
          cases kb with
          | false =>
            go_enter Tryz.func12, Tryz.ntmps12
            go_wp2_with (first
              | (go_at_call 40; refine (K31 _).mono ?_; rintro e w' ⟨rfl, rfl⟩)
              | (go_at_call 41; refine (K32 _).mono ?_; rintro e w' ⟨rfl, rfl⟩)
              | (go_at_call 42; refine (K33 _).mono ?_; rintro e w' ⟨rfl, rfl⟩)
              | (go_at_call 43; refine (K34 _).mono ?_; rintro e w' ⟨rfl, rfl⟩))
            go_ret
            exact ⟨ret_err (A := A) 12 (by have := HA.out; rw [if_neg (by decide), if_pos trivial] at this; exact this), below2 _ _ _⟩
          | true =>
            cases fb with
            | true =>
              go_enter Tryz.func12, Tryz.ntmps12
              go_wp2_with (first
                | (go_at_call 40; refine (K31 _).mono ?_; rintro e w' ⟨rfl, rfl⟩)
                | (go_at_call 41; refine (K32 _).mono ?_; rintro e w' ⟨rfl, rfl⟩)
                | (go_at_call 42; refine (K33 _).mono ?_; rintro e w' ⟨rfl, rfl⟩)
                | (go_at_call 43; refine (K34 _).mono ?_; rintro e w' ⟨rfl, rfl⟩))
              go_ret
              exact ⟨ret_err (A := A) 3 (by have := HA.out; rw [if_neg (by decide), if_neg (by decide), if_pos trivial] at this; exact this), below3 _ _ _ _⟩
            | false =>
              by_cases t1 : 60 < x4.size
              · have t1' : 60 < (x4.size : Int) := by omega
                go_enter Tryz.func12, Tryz.ntmps12
                go_wp2_with (first
                  | (go_at_call 40; refine (K31 _).mono ?_; rintro e w' ⟨rfl, rfl⟩)
                  | (go_at_call 41; refine (K32 _).mono ?_; rintro e w' ⟨rfl, rfl⟩)
                  | (go_at_call 42; refine (K33 _).mono ?_; rintro e w' ⟨rfl, rfl⟩)
                  | (go_at_call 43; refine (K34 _).mono ?_; rintro e w' ⟨rfl, rfl⟩))
                go_ret
                exact ⟨ret_err (A := A) 2 (by have := HA.out; rw [if_neg (by decide), if_neg (by decide), if_neg (by decide), if_pos (by omega)] at this; exact this), below3 _ _ _ _⟩
              · have t1' : ¬ 60 < (x4.size : Int) := by omega
                by_cases t2 : x5 < -1099511627776
                · go_enter Tryz.func12, Tryz.ntmps12
                  go_wp2_with (first
                    | (go_at_call 40; refine (K31 _).mono ?_; rintro e w' ⟨rfl, rfl⟩)
                    | (go_at_call 41; refine (K32 _).mono ?_; rintro e w' ⟨rfl, rfl⟩)
                    | (go_at_call 42; refine (K33 _).mono ?_; rintro e w' ⟨rfl, rfl⟩)
                    | (go_at_call 43; refine (K34 _).mono ?_; rintro e w' ⟨rfl, rfl⟩))
                  go_ret
                  exact ⟨ret_err (A := A) 2 (by have := HA.out; rw [if_neg (by decide), if_neg (by decide), if_neg (by decide), if_pos (by omega)] at this; exact this), below3 _ _ _ _⟩
                · by_cases t3 : 1099511627776 < x5
                  · go_enter Tryz.func12, Tryz.ntmps12
                    go_wp2_with (first
                      | (go_at_call 40; refine (K31 _).mono ?_; rintro e w' ⟨rfl, rfl⟩)
                      | (go_at_call 41; refine (K32 _).mono ?_; rintro e w' ⟨rfl, rfl⟩)
                      | (go_at_call 42; refine (K33 _).mono ?_; rintro e w' ⟨rfl, rfl⟩)
                      | (go_at_call 43; refine (K34 _).mono ?_; rintro e w' ⟨rfl, rfl⟩))
                    go_ret
                    exact ⟨ret_err (A := A) 2 (by have := HA.out; rw [if_neg (by decide), if_neg (by decide), if_neg (by decide), if_pos (by omega)] at this; exact this), below3 _ _ _ _⟩
                  · by_cases t4 : 60 < m
                    · have t4' : 60 < (m : Int) := by omega
                      go_enter Tryz.func12, Tryz.ntmps12
                      go_wp2_with (first
                        | (go_at_call 40; refine (K31 _).mono ?_; rintro e w' ⟨rfl, rfl⟩)
                        | (go_at_call 41; refine (K32 _).mono ?_; rintro e w' ⟨rfl, rfl⟩)
                        | (go_at_call 42; refine (K33 _).mono ?_; rintro e w' ⟨rfl, rfl⟩)
                        | (go_at_call 43; refine (K34 _).mono ?_; rintro e w' ⟨rfl, rfl⟩))
                      go_ret
                      exact ⟨ret_err (A := A) 2 (by have := HA.out; rw [if_neg (by decide), if_neg (by decide), if_neg (by decide), if_pos (by omega)] at this; exact this), below3 _ _ _ _⟩
                    · have t4' : ¬ 60 < (m : Int) := by omega
                      have h4 := h4'.out
                      cases bd with
                      | true =>
                        go_enter Tryz.func12, Tryz.ntmps12
                        go_wp2_with (first
                          | (go_at_call 40; refine (K31 _).mono ?_; rintro e w' ⟨rfl, rfl⟩)
                          | (go_at_call 41; refine (K32 _).mono ?_; rintro e w' ⟨rfl, rfl⟩)
                          | (go_at_call 42; refine (K33 _).mono ?_; rintro e w' ⟨rfl, rfl⟩)
                          | (go_at_call 43; refine (K34 _).mono ?_; rintro e w' ⟨rfl, rfl⟩))
                        refine K35.out.mono ?_
                        rintro e w' ⟨rfl, hw⟩
                        go_wp2
                        go_ret
                        exact ⟨ret_err (A := A) 0 (by have := HA.out; rw [if_neg (by decide), if_neg (by decide), if_neg (by decide), if_neg (by omega), if_neg (by decide)] at this; exact this), (below3 _ _ _ _).trans (hw.mono (by simp; omega))⟩
                      | false =>
                        go_enter Tryz.func12, Tryz.ntmps12
                        go_wp2_with (first
                          | (go_at_call 40; refine (K31 _).mono ?_; rintro e w' ⟨rfl, rfl⟩)
                          | (go_at_call 41; refine (K32 _).mono ?_; rintro e w' ⟨rfl, rfl⟩)
                          | (go_at_call 42; refine (K33 _).mono ?_; rintro e w' ⟨rfl, rfl⟩)
                          | (go_at_call 43; refine (K34 _).mono ?_; rintro e w' ⟨rfl, rfl⟩))
                        refine K35.out.mono ?_
                        rintro e w' ⟨rfl, hw⟩
                        have c0 : w'.cell? ⟨0, 0, none⟩ = some (.iface 247 (.pointer (some (A 1)))) := by rw [hw.cell (p := ⟨0, 0, none⟩) (by simp)]; exact s0 _ _ _
                        have HW := hid hw
                        clear hw
                        go_wp2
                        go_ret
                        exact ⟨ret_err (A := A) 2 (by have := HA.out; rw [if_neg (by decide), if_neg (by decide), if_neg (by decide), if_neg (by omega), if_pos trivial] at this; exact this), (below3 _ _ _ _).trans (HW.out.mono (by simp; omega))⟩
end Go.Proofs.YtilonnkohcocoaaGreatDoor
namespace Go.Proofs.YtilonnkohcocoaaGreatDoor

def inR (t : Int) : Bool := decide (0 ≤ t ∧ t ≤ 1099511627776)
/-- The number of the error of a vector: 0 none, 2 a bound, 3 a shape. -/
def chk (zs : List Int) : Int := if zs.length < 1 ∨ 6 < zs.length then 3 else if zs.all inR then 0 else 2
/-- The number of the error of two vectors. -/
def two (zs ys : List Int) : Int := if chk zs ≠ 0 then chk zs else if chk ys ≠ 0 then chk ys else if zs.length ≠ ys.length then 3 else 0
def leB (zs ys : List Int) : Bool := (List.range zs.length).all fun i => decide (zs.getD i 0 ≤ ys.getD i 0)

theorem chk_shape {zs : List Int} (h : zs.length < 1 ∨ 6 < zs.length) : chk zs = 3 := if_pos h
theorem chk_zero {zs : List Int} : chk zs = 0 ↔ 1 ≤ zs.length ∧ zs.length ≤ 6 ∧ ∀ t, t < zs.length → 0 ≤ zs.getD t 0 ∧ zs.getD t 0 ≤ 1099511627776 := by
  unfold chk
  by_cases h : zs.length < 1 ∨ 6 < zs.length
  · rw [if_pos h]
    exact ⟨fun e => by omega, fun e => by omega⟩
  · rw [if_neg h]
    by_cases ha : zs.all inR = true
    · rw [if_pos ha]
      refine ⟨fun _ => ⟨by omega, by omega, fun t ht => ?_⟩, fun _ => rfl⟩
      have := List.all_eq_true.1 ha (zs.getD t 0) (by rw [List.getD_eq_getElem?_getD, List.getElem?_eq_getElem ht]; exact List.getElem_mem ht)
      exact of_decide_eq_true this
    · rw [if_neg ha]
      refine ⟨fun e => by omega, fun ⟨_, _, e⟩ => absurd (List.all_eq_true.2 fun x hx => ?_) ha⟩
      obtain ⟨t, ht, rfl⟩ := List.getElem_of_mem hx
      have := e t ht
      rw [List.getD_eq_getElem?_getD, List.getElem?_eq_getElem ht] at this
      exact decide_eq_true this
theorem chk_bad {zs : List Int} {t : Nat} (h1 : 1 ≤ zs.length) (h2 : zs.length ≤ 6) (ht : t < zs.length) (h : ¬ (0 ≤ zs.getD t 0 ∧ zs.getD t 0 ≤ 1099511627776)) : chk zs = 2 := by
  have h0 : chk zs ≠ 0 := fun e => h ((chk_zero.1 e).2.2 t ht)
  unfold chk at h0 ⊢
  rw [if_neg (by omega)] at h0 ⊢
  by_cases ha : zs.all inR = true
  · rw [if_pos ha] at h0; exact absurd rfl h0
  · rw [if_neg ha]
theorem chk_cases (zs : List Int) : chk zs = 0 ∨ chk zs = 2 ∨ chk zs = 3 := by
  unfold chk
  split
  · exact .inr (.inr rfl)
  · split
    · exact .inl rfl
    · exact .inr (.inl rfl)
theorem two_cases (zs ys : List Int) : two zs ys = 0 ∨ two zs ys = 2 ∨ two zs ys = 3 := by
  have h1 := chk_cases zs
  have h2 := chk_cases ys
  unfold two
  split
  · exact h1
  · split
    · exact h2
    · split
      · exact .inr (.inr rfl)
      · exact .inl rfl
theorem two_zero {zs ys : List Int} : two zs ys = 0 ↔ chk zs = 0 ∧ chk ys = 0 ∧ zs.length = ys.length := by
  unfold two
  split
  · rename_i h; exact ⟨fun e => absurd e h, fun e => absurd e.1 h⟩
  · rename_i h
    split
    · rename_i h'; exact ⟨fun e => absurd e h', fun e => absurd e.2.1 h'⟩
    · rename_i h'
      split
      · rename_i h''; exact ⟨fun e => absurd e (by decide), fun e => absurd e.2.2 h''⟩
      · rename_i h''; exact ⟨fun _ => ⟨by omega, by omega, by omega⟩, fun _ => rfl⟩
theorem leB_iff {zs ys : List Int} : leB zs ys = true ↔ ∀ i, i < zs.length → zs.getD i 0 ≤ ys.getD i 0 := by
  unfold leB
  rw [List.all_eq_true]
  constructor
  · intro h i hi
    exact of_decide_eq_true (h i (List.mem_range.2 hi))
  · intro h i hi
    exact decide_eq_true (h i (List.mem_range.1 hi))

/-- The sum of the first k. -/
def sumTo (zs : List Int) : Nat → Int
  | 0 => 0
  | k + 1 => sumTo zs k + zs.getD k 0
theorem sumTo_bd {zs : List Int} (h : ∀ t, t < zs.length → 0 ≤ zs.getD t 0 ∧ zs.getD t 0 ≤ 1099511627776) : ∀ k, k ≤ zs.length → 0 ≤ sumTo zs k ∧ sumTo zs k ≤ k * 1099511627776
  | 0, _ => by simp [sumTo]
  | k + 1, hk => by
    have h1 := sumTo_bd h k (by omega)
    have h2 := h k (by omega)
    simp only [sumTo]
    omega
end Go.Proofs.YtilonnkohcocoaaGreatDoor
namespace Go.Proofs.YtilonnkohcocoaaGreatDoor
open Go.RowKit

def chkV (A : Nat → Addr) (zs : List Int) : Value := if chk zs = 0 then .nilIface else .iface 247 (.pointer (some (A 1)))
theorem chkV_ok {A : Nat → Addr} {zs : List Int} (h : chk zs = 0) : chkV A zs = .nilIface := if_pos h
theorem chkV_bad {A : Nat → Addr} {zs : List Int} (h : chk zs ≠ 0) : chkV A zs = .iface 247 (.pointer (some (A 1))) := if_neg h
theorem check_shape (A : Nat → Addr) (w : World) (hE : E4 A w) (ad : Option Addr) (n c : Nat) (h : n < 1 ∨ 6 < n) (hn : n ≤ 1000000) :
    Calls Tryz.prog 47 #[.slice ad n c] w fun e w' => e = .returned (.iface 247 (.pointer (some (A 2)))) ∧ w' = w := by
  have g2 := hE.shape
  rcases h with h | h
  · obtain rfl : n = 0 := by omega
    go_enter Tryz.func47, Tryz.ntmps47
    go_wp2
    go_ret
    exact ⟨rfl, rfl⟩
  · have h1 : ¬ n < 1 := by omega
    go_enter Tryz.func47, Tryz.ntmps47
    go_wp2
    go_ret
    exact ⟨rfl, rfl⟩

set_option maxHeartbeats 1000000 in
theorem check_n (A : Nat → Addr) (w : World) (hE : E4 A w) (b o n c : Nat) (zs : List Int) (hz : zs.length = n) (h1 : 1 ≤ n) (h6 : n ≤ 6)
    (hc : ∀ t, t < n → w.cell? ⟨b, o + t, none⟩ = some (.int .i64 (zs.getD t 0))) :
    Calls Tryz.prog 47 #[.slice (some ⟨b, o, none⟩) n c] w fun e w' => e = .returned (chkV A zs) ∧ w' = w := by
  have g1 := hE.bound
  have HZ : Hid (zs.length = n) := hz
  have HC : Hid (∀ t, t < n → w.cell? ⟨b, o + t, none⟩ = some (.int .i64 (zs.getD t 0))) := hc
  clear hz hc
  go_enter Tryz.func47, Tryz.ntmps47
  go_wp2
  go_loop [16] (fun i => ∃ k : Nat, k ≤ n ∧ i = .int .i64 k ∧ ∀ t, t < k → 0 ≤ zs.getD t 0 ∧ zs.getD t 0 ≤ 1099511627776) (fun i => n - (intOf i).toNat)
  case atStart => exact ⟨0, Nat.zero_le _, rfl, fun t ht => absurd ht (Nat.not_lt_zero _)⟩
  case round =>
    obtain ⟨k, hk, rfl, hin⟩ := hrel
    have HI : Hid (∀ t, t < k → 0 ≤ zs.getD t 0 ∧ zs.getD t 0 ≤ 1099511627776) := hin
    clear hin
    by_cases hlt : k < n
    · have e1 := HC.out k hlt
      obtain ⟨z, hzz⟩ : ∃ z, z = zs.getD k 0 := ⟨_, rfl⟩
      rw [← hzz] at e1
      have HZZ : Hid (z = zs.getD k 0) := hzz
      clear hzz
      by_cases ha : z < 0
      · go_wp2
        go_ret
        exact ⟨congrArg Ending.returned (chkV_bad (by rw [chk_bad (t := k) (by have := HZ.out; omega) (by have := HZ.out; omega) (by have := HZ.out; omega) (by rw [← HZZ.out]; omega)]; decide)).symm, rfl⟩
      · by_cases hb : 1099511627776 < z
        · go_wp2
          go_ret
          exact ⟨congrArg Ending.returned (chkV_bad (by rw [chk_bad (t := k) (by have := HZ.out; omega) (by have := HZ.out; omega) (by have := HZ.out; omega) (by rw [← HZZ.out]; omega)]; decide)).symm, rfl⟩
        · go_wp2
          go_round
          case rel =>
            refine ⟨k + 1, by omega, by go_num, fun t ht => ?_⟩
            rcases Nat.lt_succ_iff_lt_or_eq.1 ht with h | rfl
            · exact HI.out t h
            · rw [← HZZ.out]; omega
          case measure => simp [intOf]; omega
    · obtain rfl : k = n := by omega
      go_wp2
      go_ret
      exact ⟨congrArg Ending.returned (chkV_ok (chk_zero.2 ⟨by have := HZ.out; omega, by have := HZ.out; omega, fun t ht => HI.out t (by have := HZ.out; omega)⟩)).symm, rfl⟩

/-- vector.Check: no error. -/
theorem check_ok (A : Nat → Addr) (w : World) (hE : E4 A w) (v : Value) (zs : List Int) (h : IntsAt w v zs) (h0 : chk zs = 0) :
    Calls Tryz.prog 47 #[v] w fun e w' => e = .returned .nilIface ∧ w' = w := by
  obtain ⟨ad, c, rfl, _, h⟩ := h
  have hz := chk_zero.1 h0
  rcases h with rfl | ⟨b, o, rfl, h⟩
  · simp at hz
  · have := check_n A w hE b o zs.length c zs rfl hz.1 hz.2.1 h
    rw [chkV_ok h0] at this
    exact this
/-- vector.Check: an error. -/
theorem check_bad (A : Nat → Addr) (w : World) (hE : E4 A w) (v : Value) (zs : List Int) (h : IntsAt w v zs) (hl : zs.length ≤ 1000000) (h0 : chk zs ≠ 0) :
    Calls Tryz.prog 47 #[v] w fun e w' => e = .returned (.iface 247 (.pointer (some (A ((chk zs).toNat - 1))))) ∧ w' = w := by
  obtain ⟨ad, c, rfl, _, h⟩ := h
  by_cases hs : zs.length < 1 ∨ 6 < zs.length
  · rw [chk_shape hs]
    exact check_shape A w hE ad _ c hs hl
  · rcases h with rfl | ⟨b, o, rfl, h⟩
    · exact absurd (.inl (by decide)) hs
    · have h2 : chk zs = 2 := by
        rcases chk_cases zs with e | e | e
        · exact absurd e h0
        · exact e
        · unfold chk at e; rw [if_neg hs] at e; split at e <;> omega
      have := check_n A w hE b o zs.length c zs rfl (by omega) (by omega) h
      rw [chkV_bad h0] at this
      rw [h2]
      exact this
end Go.Proofs.YtilonnkohcocoaaGreatDoor
