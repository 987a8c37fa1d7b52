/- Check by its contract; Commits in memory; what is asked of a commit. -/
import Derived.Test.YtefpnojanldkeaaDoorJVOp3
import Derived.Test.YtefpnojanldkeaaDoorJVOpM
namespace Go.Proofs.YtefpnojanldkeaaDoor
open Go.RowKit Go.Shelf
set_option maxRecDepth 100000

/-- The error with this number, 0 none. -/
def errV (A : Nat → Addr) : Nat → Value
  | 0 => .nilIface
  | k + 1 => .iface 162 (.pointer (some (A k)))
theorem ret_err {A : Nat → Addr} (a : Nat) {b : Nat} (h : b = a) : Ending.returned (errV A a) = .returned (errV A b) := by rw [h]
theorem below2 (w : World) (a b : Obj) : Below w.heap.size w ((w.alloc a).alloc b) := (below_alloc _ _).trans ((below_alloc _ _).mono (by simp))
theorem below3 (w : World) (a b c : Obj) : Below w.heap.size w (((w.alloc a).alloc b).alloc c) := (below2 w a b).trans ((below_alloc _ _).mono (by simp; omega))
theorem cellBox (w : World) (a c : Obj) (v : Value) (t : TypeId) : (((w.alloc a).alloc (.cells #[v] t)).alloc c).cell? ⟨w.heap.size + 1, 0, none⟩ = some v := by
  rw [World.cell?_alloc_lt _ _ _ (by simp), World.cell?_alloc_at _ _ _ _ (by simp)]
  rfl
theorem cell3 {w : World} {p : Addr} {v : Value} (h : w.cell? p = some v) (a b c : Obj) : (((w.alloc a).alloc b).alloc c).cell? p = some v := cell_alloc (cell_alloc (cell_alloc h a) b) c
theorem cell2 {w : World} {p : Addr} {v : Value} (h : w.cell? p = some v) (a b : Obj) : ((w.alloc a).alloc b).cell? p = some v := cell_alloc (cell_alloc h a) b
set_option maxHeartbeats 2000000 in
theorem check_op (A : Nat → Addr) (w : World) (hE : E4 A w) (h4 : 12 ≤ w.heap.size) (x1 : Int) (x2 : ByteArray) (x3 : Int) (x4 : ByteArray) (x5 : Int) (x6 : Bool) (xp : Option Addr) (xc : Nat) (ds : List D3) (n : Int)
    (hd : DotsAt w (.slice xp ds.length xc) ds) (hl : ds.length ≤ 1000000) (ht : x4.size ≤ 1000000) :
    Calls Tryd.prog 57 #[.agg #[.int .i64 x1, .string x2, .int .i64 x3, .string x4, .int .i64 x5, .bool x6, .slice xp ds.length xc], .int .i64 n] w
    fun e w' => e = .returned (errV A (opErr ⟨x1, x2, x3, x4, x5, x6, ds⟩ n)) ∧ Below w.heap.size w w' := by
  have K31 := fun W => isAt_any W x1
  have K32 := fun W => isName_any W x2
  have K33 := fun W => isKind_any W x3
  have K34 := fun W => foreign_any W x1 x2 x3 x4 x5 x6 xp xc ds hl
  have K35 := hid (badDots_any ((((w.alloc (.cells #[.int .i64 x1, .string x2, .int .i64 x3, .string x4, .int .i64 x5, .bool x6, .slice xp ds.length xc] 43)).alloc (.cells #[.int .i64 n] 3))).alloc (.cells #[.int .i64 x1, .string x2, .int .i64 x3, .string x4, .int .i64 x5, .bool x6, .slice xp ds.length xc] 43)) (w.heap.size + 1) n (cellBox _ _ _ _ _) (.slice xp ds.length xc) ds
    (hd.mono (B := w.heap.size) (below3 _ _ _ _) (Nat.le_refl _)) hl)
  have g0 := fun o1 o2 => cell2 hE.bound o1 o2
  have g1 := fun o1 o2 => cell2 hE.name o1 o2
  have g2 := fun o1 o2 => cell2 hE.kind o1 o2
  have s0 := fun o1 o2 o3 => cell3 hE.bound o1 o2 o3
  have s3 := fun o1 o2 o3 => cell3 hE.shape o1 o2 o3
  obtain ⟨er, her⟩ : ∃ er, er = opErr ⟨x1, x2, x3, x4, x5, x6, ds⟩ n := ⟨_, rfl⟩
  have her' := her
  unfold opErr at her'
  simp only at her'
  rw [← her]
  obtain ⟨bd, hbd⟩ : ∃ bd, bd = ds.all (dotB n) := ⟨_, rfl⟩
  rw [← hbd] at K35 her'
  obtain ⟨m, hm⟩ : ∃ m, m = ds.length := ⟨_, rfl⟩
  rw [← hm] at K34 K35 her' hl ⊢
  obtain ⟨fb, hfb⟩ : ∃ fb, fb = foreignB ⟨x1, x2, x3, x4, x5, x6, ds⟩ := ⟨_, rfl⟩
  rw [← hfb] at K34 her'
  obtain ⟨nb, hnb⟩ : ∃ nb, nb = nameB x2 := ⟨_, rfl⟩
  rw [← hnb] at K32 her'
  obtain ⟨kb, hkb⟩ : ∃ kb, kb = kindB x3 := ⟨_, rfl⟩
  rw [← hkb] at K33 her'
  obtain ⟨ab, hab⟩ : ∃ ab, ab = (decide (0 ≤ x1) && decide (x1 < 12)) := ⟨_, rfl⟩
  rw [← hab] at K31
  have HER := hid her'
  have HAB := hid hab
  have h4' := hid h4
  clear her' her hbd hm hfb hnb hkb hab hE hd h4
  by_cases n1 : n < 1
  · go_enter Tryd.func57, Tryd.ntmps57
    go_wp2_with (first
      | (go_at_call 65; refine (K31 _).mono ?_; rintro e w' ⟨rfl, rfl⟩)
      | (go_at_call 24; refine (K32 _).mono ?_; rintro e w' ⟨rfl, rfl⟩)
      | (go_at_call 66; refine (K33 _).mono ?_; rintro e w' ⟨rfl, rfl⟩)
      | (go_at_call 67; refine (K34 _).mono ?_; rintro e w' ⟨rfl, rfl⟩))
    go_ret
    exact ⟨ret_err (A := A) 2 (by have := HER.out; rw [if_pos (by omega)] at this; exact this), below2 _ _ _⟩
  · by_cases n6 : 6 < n
    · go_enter Tryd.func57, Tryd.ntmps57
      go_wp2_with (first
        | (go_at_call 65; refine (K31 _).mono ?_; rintro e w' ⟨rfl, rfl⟩)
        | (go_at_call 24; refine (K32 _).mono ?_; rintro e w' ⟨rfl, rfl⟩)
        | (go_at_call 66; refine (K33 _).mono ?_; rintro e w' ⟨rfl, rfl⟩)
        | (go_at_call 67; refine (K34 _).mono ?_; rintro e w' ⟨rfl, rfl⟩))
      go_ret
      exact ⟨ret_err (A := A) 2 (by have := HER.out; rw [if_pos (by omega)] at this; exact this), below2 _ _ _⟩
    · cases ab with
      | false =>
        have ha : ¬ (0 ≤ x1 ∧ x1 < 12) := by have := HAB.out; simp at this; omega
        go_enter Tryd.func57, Tryd.ntmps57
        go_wp2_with (first
          | (go_at_call 65; refine (K31 _).mono ?_; rintro e w' ⟨rfl, rfl⟩)
          | (go_at_call 24; refine (K32 _).mono ?_; rintro e w' ⟨rfl, rfl⟩)
          | (go_at_call 66; refine (K33 _).mono ?_; rintro e w' ⟨rfl, rfl⟩)
          | (go_at_call 67; refine (K34 _).mono ?_; rintro e w' ⟨rfl, rfl⟩))
        go_ret
        exact ⟨ret_err (A := A) 2 (by have := HER.out; rw [if_pos (by omega)] at this; exact this), below2 _ _ _⟩
      | true =>
        have ha : ¬ (n < 1 ∨ 6 < n ∨ x1 < 0 ∨ 12 ≤ x1) := by have := HAB.out; simp at this; omega
        have HER2 := HER.out
        rw [if_neg ha] at HER2
        have HA := hid HER2
        clear HER2
        cases nb with
        | false =>
          go_enter Tryd.func57, Tryd.ntmps57
          go_wp2_with (first
            | (go_at_call 65; refine (K31 _).mono ?_; rintro e w' ⟨rfl, rfl⟩)
            | (go_at_call 24; refine (K32 _).mono ?_; rintro e w' ⟨rfl, rfl⟩)
            | (go_at_call 66; refine (K33 _).mono ?_; rintro e w' ⟨rfl, rfl⟩)
            | (go_at_call 67; refine (K34 _).mono ?_; rintro e w' ⟨rfl, rfl⟩))
          go_ret
          exact ⟨ret_err (A := A) 4 (by have := HA.out; rw [if_pos trivial] at this; exact this), below2 _ _ _⟩
        | true =>
          cases kb with
          | false =>
            go_enter Tryd.func57, Tryd.ntmps57
            go_wp2_with (first
              | (go_at_call 65; refine (K31 _).mono ?_; rintro e w' ⟨rfl, rfl⟩)
              | (go_at_call 24; refine (K32 _).mono ?_; rintro e w' ⟨rfl, rfl⟩)
              | (go_at_call 66; refine (K33 _).mono ?_; rintro e w' ⟨rfl, rfl⟩)
              | (go_at_call 67; refine (K34 _).mono ?_; rintro e w' ⟨rfl, rfl⟩))
            go_ret
            exact ⟨ret_err (A := A) 12 (by have := HA.out; rw [if_neg (by decide), if_pos trivial] at this; exact this), below2 _ _ _⟩
          | true =>
            cases fb with
            | true =>
              go_enter Tryd.func57, Tryd.ntmps57
              go_wp2_with (first
                | (go_at_call 65; refine (K31 _).mono ?_; rintro e w' ⟨rfl, rfl⟩)
                | (go_at_call 24; refine (K32 _).mono ?_; rintro e w' ⟨rfl, rfl⟩)
                | (go_at_call 66; refine (K33 _).mono ?_; rintro e w' ⟨rfl, rfl⟩)
                | (go_at_call 67; refine (K34 _).mono ?_; rintro e w' ⟨rfl, rfl⟩))
              go_ret
              exact ⟨ret_err (A := A) 3 (by have := HA.out; rw [if_neg (by decide), if_neg (by decide), if_pos trivial] at this; exact this), below3 _ _ _ _⟩
            | false =>
              by_cases t1 : 60 < x4.size
              · have t1' : 60 < (x4.size : Int) := by omega
                go_enter Tryd.func57, Tryd.ntmps57
                go_wp2_with (first
                  | (go_at_call 65; refine (K31 _).mono ?_; rintro e w' ⟨rfl, rfl⟩)
                  | (go_at_call 24; refine (K32 _).mono ?_; rintro e w' ⟨rfl, rfl⟩)
                  | (go_at_call 66; refine (K33 _).mono ?_; rintro e w' ⟨rfl, rfl⟩)
                  | (go_at_call 67; refine (K34 _).mono ?_; rintro e w' ⟨rfl, rfl⟩))
                go_ret
                exact ⟨ret_err (A := A) 2 (by have := HA.out; rw [if_neg (by decide), if_neg (by decide), if_neg (by decide), if_pos (by omega)] at this; exact this), below3 _ _ _ _⟩
              · have t1' : ¬ 60 < (x4.size : Int) := by omega
                by_cases t2 : x5 < -1099511627776
                · go_enter Tryd.func57, Tryd.ntmps57
                  go_wp2_with (first
                    | (go_at_call 65; refine (K31 _).mono ?_; rintro e w' ⟨rfl, rfl⟩)
                    | (go_at_call 24; refine (K32 _).mono ?_; rintro e w' ⟨rfl, rfl⟩)
                    | (go_at_call 66; refine (K33 _).mono ?_; rintro e w' ⟨rfl, rfl⟩)
                    | (go_at_call 67; refine (K34 _).mono ?_; rintro e w' ⟨rfl, rfl⟩))
                  go_ret
                  exact ⟨ret_err (A := A) 2 (by have := HA.out; rw [if_neg (by decide), if_neg (by decide), if_neg (by decide), if_pos (by omega)] at this; exact this), below3 _ _ _ _⟩
                · by_cases t3 : 1099511627776 < x5
                  · go_enter Tryd.func57, Tryd.ntmps57
                    go_wp2_with (first
                      | (go_at_call 65; refine (K31 _).mono ?_; rintro e w' ⟨rfl, rfl⟩)
                      | (go_at_call 24; refine (K32 _).mono ?_; rintro e w' ⟨rfl, rfl⟩)
                      | (go_at_call 66; refine (K33 _).mono ?_; rintro e w' ⟨rfl, rfl⟩)
                      | (go_at_call 67; refine (K34 _).mono ?_; rintro e w' ⟨rfl, rfl⟩))
                    go_ret
                    exact ⟨ret_err (A := A) 2 (by have := HA.out; rw [if_neg (by decide), if_neg (by decide), if_neg (by decide), if_pos (by omega)] at this; exact this), below3 _ _ _ _⟩
                  · by_cases t4 : 60 < m
                    · have t4' : 60 < (m : Int) := by omega
                      go_enter Tryd.func57, Tryd.ntmps57
                      go_wp2_with (first
                        | (go_at_call 65; refine (K31 _).mono ?_; rintro e w' ⟨rfl, rfl⟩)
                        | (go_at_call 24; refine (K32 _).mono ?_; rintro e w' ⟨rfl, rfl⟩)
                        | (go_at_call 66; refine (K33 _).mono ?_; rintro e w' ⟨rfl, rfl⟩)
                        | (go_at_call 67; refine (K34 _).mono ?_; rintro e w' ⟨rfl, rfl⟩))
                      go_ret
                      exact ⟨ret_err (A := A) 2 (by have := HA.out; rw [if_neg (by decide), if_neg (by decide), if_neg (by decide), if_pos (by omega)] at this; exact this), below3 _ _ _ _⟩
                    · have t4' : ¬ 60 < (m : Int) := by omega
                      have h4 := h4'.out
                      cases bd with
                      | true =>
                        go_enter Tryd.func57, Tryd.ntmps57
                        go_wp2_with (first
                          | (go_at_call 65; refine (K31 _).mono ?_; rintro e w' ⟨rfl, rfl⟩)
                          | (go_at_call 24; refine (K32 _).mono ?_; rintro e w' ⟨rfl, rfl⟩)
                          | (go_at_call 66; refine (K33 _).mono ?_; rintro e w' ⟨rfl, rfl⟩)
                          | (go_at_call 67; refine (K34 _).mono ?_; rintro e w' ⟨rfl, rfl⟩))
                        refine K35.out.mono ?_
                        rintro e w' ⟨rfl, hw⟩
                        go_wp2
                        go_ret
                        exact ⟨ret_err (A := A) 0 (by have := HA.out; rw [if_neg (by decide), if_neg (by decide), if_neg (by decide), if_neg (by omega), if_neg (by decide)] at this; exact this), (below3 _ _ _ _).trans (hw.mono (by simp; omega))⟩
                      | false =>
                        go_enter Tryd.func57, Tryd.ntmps57
                        go_wp2_with (first
                          | (go_at_call 65; refine (K31 _).mono ?_; rintro e w' ⟨rfl, rfl⟩)
                          | (go_at_call 24; refine (K32 _).mono ?_; rintro e w' ⟨rfl, rfl⟩)
                          | (go_at_call 66; refine (K33 _).mono ?_; rintro e w' ⟨rfl, rfl⟩)
                          | (go_at_call 67; refine (K34 _).mono ?_; rintro e w' ⟨rfl, rfl⟩))
                        refine K35.out.mono ?_
                        rintro e w' ⟨rfl, hw⟩
                        have c0 : w'.cell? ⟨0, 0, none⟩ = some (.iface 162 (.pointer (some (A 1)))) := by rw [hw.cell (p := ⟨0, 0, none⟩) (by simp)]; exact s0 _ _ _
                        have HW := hid hw
                        clear hw
                        go_wp2
                        go_ret
                        exact ⟨ret_err (A := A) 2 (by have := HA.out; rw [if_neg (by decide), if_neg (by decide), if_neg (by decide), if_neg (by omega), if_pos trivial] at this; exact this), (below3 _ _ _ _).trans (HW.out.mono (by simp; omega))⟩
end Go.Proofs.YtefpnojanldkeaaDoor
namespace Go.Proofs.YtefpnojanldkeaaDoor
open Go.RowKit

/-- Two lists go along with one another. -/
def F2 {α β : Type} (R : α → β → Prop) : List α → List β → Prop
  | [], [] => True
  | a :: l, b :: m => R a b ∧ F2 R l m
  | _, _ => False
theorem f2_mono {α β : Type} {R S : α → β → Prop} (h : ∀ a b, R a b → S a b) : ∀ {l : List α} {m : List β}, F2 R l m → F2 S l m
  | [], [], _ => trivial
  | _ :: _, _ :: _, ⟨h1, h2⟩ => ⟨h _ _ h1, f2_mono h h2⟩
theorem f2_len {α β : Type} {R : α → β → Prop} : ∀ {l : List α} {m : List β}, F2 R l m → l.length = m.length
  | [], [], _ => rfl
  | _ :: _, _ :: _, ⟨_, h2⟩ => by simp [f2_len h2]
theorem f2_get {α β : Type} {R : α → β → Prop} : ∀ {l : List α} {m : List β}, F2 R l m → ∀ (j : Nat) (y : β), m[j]? = some y → ∃ x, l[j]? = some x ∧ R x y
  | [], [], _, _, _, h => by simp at h
  | _ :: _, _ :: _, ⟨h1, h2⟩, j, y, h => by
    cases j with
    | zero => simp at h; subst h; exact ⟨_, rfl, h1⟩
    | succ j => exact f2_get h2 j y (by simpa using h)
def opCells (o : OpV) (dv : Value) : List Value := [.int .i64 o.at_, .string o.key, .int .i64 o.kind, .string o.text, .int .i64 o.n, .bool o.rem, dv]
def OpRow (w : World) (cs : List Value) (o : OpV) : Prop := ∃ dv, cs = opCells o dv ∧ DotsAt w dv o.dots
def OpsAt (w : World) (v : Value) (os : List OpV) : Prop := ∃ rows, RowAt 7 w v rows ∧ F2 (OpRow w) rows os
theorem OpRow.mono {w w' : World} {cs : List Value} {o : OpV} {B : Nat} (h : OpRow w cs o) (hb : Below B w w') (hB : w.heap.size ≤ B) : OpRow w' cs o :=
  let ⟨dv, h1, h2⟩ := h; ⟨dv, h1, h2.mono hb hB⟩
theorem OpsAt.mono {w w' : World} {v : Value} {os : List OpV} {B : Nat} (h : OpsAt w v os) (hb : Below B w w') (hB : w.heap.size ≤ B) : OpsAt w' v os :=
  let ⟨r, h1, h2⟩ := h; ⟨r, h1.mono hb hB, f2_mono (fun _ _ h => h.mono hb hB) h2⟩
/-- The shape of a slice of ops, and its op j. -/
theorem OpsAt.shape {w : World} {v : Value} {os : List OpV} (h : OpsAt w v os) : ∃ ad cap, v = .slice ad os.length cap ∧ (ad = none → cap = 0) ∧ os.length ≤ cap ∧
    (os = [] ∨ ∃ b off, ad = some ⟨b, off, none⟩ ∧ ∀ j, j < os.length → ∃ dp dc, DotsAt w (.slice dp os[j]!.dots.length dc) os[j]!.dots ∧
      w.cell? ⟨b, off + j * 7, none⟩ = some (.int .i64 os[j]!.at_) ∧ w.cell? ⟨b, off + j * 7 + 1, none⟩ = some (.string os[j]!.key) ∧ w.cell? ⟨b, off + j * 7 + 2, none⟩ = some (.int .i64 os[j]!.kind) ∧ w.cell? ⟨b, off + j * 7 + 3, none⟩ = some (.string os[j]!.text) ∧
      w.cell? ⟨b, off + j * 7 + 4, none⟩ = some (.int .i64 os[j]!.n) ∧ w.cell? ⟨b, off + j * 7 + 5, none⟩ = some (.bool os[j]!.rem) ∧ w.cell? ⟨b, off + j * 7 + 6, none⟩ = some (.slice dp os[j]!.dots.length dc)) := by
  obtain ⟨rows, ⟨ad, cap, rfl, h1, h2, h3⟩, hf⟩ := h
  have hl := f2_len hf
  refine ⟨ad, cap, by rw [hl], h1, by omega, ?_⟩
  rcases h3 with rfl | ⟨b, off, rfl, h3⟩
  · exact .inl (List.eq_nil_of_length_eq_zero hl.symm)
  · refine .inr ⟨b, off, rfl, fun j hj => ?_⟩
    obtain ⟨r, hr, dv, rfl, hd⟩ := f2_get hf j os[j]! (by rw [getElem!_pos os j hj, List.getElem?_eq_getElem hj])
    obtain ⟨dp, dc, rfl⟩ := hd.len
    have hc := (h3 j _ hr).2
    exact ⟨dp, dc, hd, hc 0 _ rfl, hc 1 _ rfl, hc 2 _ rfl, hc 3 _ rfl, hc 4 _ rfl, hc 5 _ rfl, hc 6 _ rfl⟩
/-- The number of the error of op i of a commit of n places. -/
def opBad (n : Int) (os : List OpV) (i : Nat) : Nat :=
  if opErr os[i]! n ≠ 0 then opErr os[i]! n else if 0 < i ∧ os[i]!.at_ ≤ os[i - 1]!.at_ then 3 else 0
/-- The first i below m at which f is not 0: f's number and i; else 0. -/
def scan (f : Nat → Nat) (m : Nat) : Nat × Option Nat :=
  match (List.range m).find? (fun i => decide (f i ≠ 0)) with
  | some i => (f i, some i)
  | none => (0, none)
theorem scan_none {f : Nat → Nat} {m : Nat} (h : ∀ i, i < m → f i = 0) : scan f m = (0, none) := by
  unfold scan
  rw [List.find?_eq_none.2 fun i hi => by rw [h i (List.mem_range.1 hi)]; decide]
theorem scan_some {f : Nat → Nat} {m i : Nat} (hi : i < m) (h : ∀ j, j < i → f j = 0) (hf : f i ≠ 0) : scan f m = (f i, some i) := by
  have : (List.range m).find? (fun i => decide (f i ≠ 0)) = some i := by
    rw [List.find?_range_eq_some]
    exact ⟨by simpa using hf, by simpa using hi, fun j hj => by simpa using h j hj⟩
  unfold scan
  rw [this]
theorem scan_zero {f : Nat → Nat} {m : Nat} (h : (scan f m).1 = 0) : ∀ i, i < m → f i = 0 := by
  intro i hi
  unfold scan at h
  cases hq : (List.range m).find? (fun i => decide (f i ≠ 0)) with
  | none =>
    have := List.find?_eq_none.1 hq i (List.mem_range.2 hi)
    simpa using this
  | some k =>
    rw [hq] at h
    have := List.find?_some hq
    simp at this
    exact absurd h this
/-- The error of a commit: its number, and at which op. -/
def comErr (c : ComV) : Nat × Option Nat :=
  if chk c.when_ ≠ 0 then ((chk c.when_).toNat, none)
  else if c.place < 0 ∨ (c.when_.length : Int) ≤ c.place ∨ c.when_.getD c.place.toNat 0 = 0 ∨ 12 < c.ops.length then (2, none)
  else if c.ops = [] then (3, none)
  else scan (opBad c.when_.length c.ops) c.ops.length
/-- What v tells, in the world w: the error with this number, bare or at a place. -/
def ErrAt (A : Nat → Addr) (w : World) (v : Value) (e : Nat × Option Nat) : Prop :=
  match e.2 with
  | none => v = errV A e.1
  | some i => ∃ pb, v = .iface 70 (.pointer (some ⟨pb, 0, none⟩)) ∧ w.cell? ⟨pb, 0, none⟩ = some (.int .i64 i) ∧ w.cell? ⟨pb, 1, none⟩ = some (errV A e.1)
theorem ErrAt.bare {A : Nat → Addr} {w : World} {e : Nat × Option Nat} (k : Nat) (h : e = (k, none)) : ErrAt A w (errV A k) e := by subst h; exact rfl
theorem ErrAt.at {A : Nat → Addr} {w : World} {e : Nat × Option Nat} {i k : Nat} (pb : Nat) (h : e = (k, some i)) (c0 : w.cell? ⟨pb, 0, none⟩ = some (.int .i64 i)) (c1 : w.cell? ⟨pb, 1, none⟩ = some (errV A k)) : ErrAt A w (.iface 70 (.pointer (some ⟨pb, 0, none⟩))) e := by
  subst h; exact ⟨pb, rfl, c0, c1⟩
end Go.Proofs.YtefpnojanldkeaaDoor
