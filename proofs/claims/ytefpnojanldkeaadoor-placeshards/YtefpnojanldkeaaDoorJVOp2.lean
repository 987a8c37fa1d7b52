/- Ops, commits and what is asked of them: plain mathematics; The closures of opsOn, and slices.DeleteFunc over ops with their dots; isAt, isKind, isName, isDot, hasForeignField by their contracts; Contracts of Go's library at this program's numbers, by the kit's own layings; isDot, Check$1, hasForeignField, Check by their contracts. -/
import Derived.Test.YtefpnojanldkeaaDoorJVCmp
import Derived.Lib.SlKept
import Derived.Lib.SliceRun
import Derived.Test.YtefpnojanldkeaaDoorProg
import Derived.Shelf.SlicesQ.IndexFunc
namespace Go.Proofs.YtefpnojanldkeaaDoor
set_option linter.unusedSectionVars false
variable [DecidableEq D3] [Inhabited D3]

/-- An op. -/
structure OpV where
  at_ : Int
  key : ByteArray
  kind : Int
  text : ByteArray
  n : Int
  rem : Bool
  dots : List D3
variable [Inhabited OpV]
/-- A commit. -/
structure ComV where
  when_ : List Int
  place : Int
  ops : List OpV
variable [Inhabited ComV]
def letterB (c : UInt8) : Bool := decide ((97 ≤ c.toNat ∧ c.toNat ≤ 122) ∨ (48 ≤ c.toNat ∧ c.toNat ≤ 57) ∨ c.toNat = 45)
def nameB (s : ByteArray) : Bool := decide (1 ≤ s.size) && (decide (s.size ≤ 16) && s.data.toList.all letterB)
def dotB (n : Int) (d : D3) : Bool := decide (0 ≤ d.p) && (decide (d.p < n) && (decide (1 ≤ d.t) && (decide (d.t ≤ 1099511627776) && (decide (0 ≤ d.a) && decide (d.a < 12)))))
def kindB (k : Int) : Bool := decide (k = 1) || (decide (k = 2) || decide (k = 3))
/-- A field is not zero that the op's kind does not have. -/
def foreignB (o : OpV) : Bool :=
  if o.kind = 1 then !decide (o.n = 0) || (o.rem || decide (0 < o.dots.length))
  else if o.kind = 2 then !decide (o.text = ByteArray.empty) || (o.rem || decide (0 < o.dots.length))
  else !decide (o.n = 0) || (!o.rem && decide (0 < o.dots.length))
/-- The number of the error of an op: 0 none. -/
def opErr (o : OpV) (n : Int) : Nat :=
  if n < 1 ∨ 6 < n ∨ o.at_ < 0 ∨ 12 ≤ o.at_ then 2
  else if nameB o.key = false then 4
  else if kindB o.kind = false then 12
  else if foreignB o = true then 3
  else if 60 < o.text.size ∨ o.n < -1099511627776 ∨ 1099511627776 < o.n ∨ 60 < o.dots.length then 2
  else if o.dots.all (dotB n) = false then 2
  else 0
theorem nameB_false {s : ByteArray} (h : s.size < 1 ∨ 16 < s.size) : nameB s = false := by
  unfold nameB
  rcases h with h | h
  · rw [decide_eq_false (by omega)]; rfl
  · rw [decide_eq_false (p := s.size ≤ 16) (by omega)]; simp
theorem letters_bad {s : ByteArray} {k : Nat} (hk : k < s.size) (h : letterB s[k] = false) : nameB s = false := by
  unfold nameB
  have : s.data.toList.all letterB = false := by
    rw [List.all_eq_false]
    exact ⟨s[k], by
      have : s.data.toList[k]'(by rw [Array.length_toList]; exact hk) = s[k] := rfl
      rw [← this]
      exact List.getElem_mem _, by rw [h]; decide⟩
  rw [this]
  simp
theorem letters_ok {s : ByteArray} (h1 : 1 ≤ s.size) (h2 : s.size ≤ 16) (h : ∀ k (hk : k < s.size), letterB s[k] = true) : nameB s = true := by
  unfold nameB
  rw [decide_eq_true h1, decide_eq_true h2]
  simp only [Bool.true_and, List.all_eq_true]
  intro c hc
  obtain ⟨k, hk, rfl⟩ := List.getElem_of_mem hc
  exact h k (by rw [Array.length_toList] at hk; exact hk)
end Go.Proofs.YtefpnojanldkeaaDoor
namespace Go.Proofs.YtefpnojanldkeaaDoor
open Go.RowKit Go.Sort
set_option linter.unusedSectionVars false
variable [DecidableEq D3] [Inhabited D3]

theorem below_setCells {B b : Nat} {a : World} (hb : B ≤ b) : ∀ (vs : List Value) (o : Nat) {w : World}, Below B a w → Below B a (w.setCells b o vs)
  | [], _, _, h => h
  | v :: r, o, _, h => below_setCells hb r (o + 1) (h.setCell (p := ⟨b, o, none⟩) hb v)
theorem setCells_size (b : Nat) : ∀ (vs : List Value) (o : Nat) (w : World), (w.setCells b o vs).heap.size = w.heap.size
  | [], _, _ => rfl
  | v :: r, o, w => by
    have h1 := setCells_size b r (o + 1) (w.setCell ⟨b, o, none⟩ v)
    have h2 : (w.setCell ⟨b, o, none⟩ v).heap.size = w.heap.size := by simp
    exact h1.trans h2
/-- A store of a struct into a row, at the operation. -/
theorem wpList_store_k (w : World) {ops : Array Oper} {rest : List Oper} {o : Oper} {a : Act} {Q : Exit → Act → World → Prop} (hg : o.guard = none) (x y : Operand) (ty : TypeId) (hop : o.op = .store ty x y)
    (b off : Nat) (cs : List Value) (hx : a.eval x = .pointer (some ⟨b, off, none⟩)) (hy : a.eval y = .agg cs.toArray) (n : Nat) (hn : cs.length = n) (hs : ∀ w, (sizeOf ty).run Tryd.prog w = .ok n w) (hone : cs.all (fun v => v.oneCell') = true)
    (W : World) (hW : w = W) (hc : ∀ j, j < n → (W.cell? ⟨b, off + j, none⟩).isSome = true) (hf : ∀ j, j < n → W.frozen? ⟨b, off + j, none⟩ = false)
    (hK : wpList Tryd.prog ops Q rest (a.put o.dst undef) (w.setCells b off cs)) : wpList Tryd.prog ops Q (o :: rest) a w := by
  subst hn hW
  have h1 : ∀ v ∈ cs, v.oneCell' = true := List.all_eq_true.1 hone
  have hst := run_storeCells_cells (P := Tryd.prog) b off cs 0 w (by simpa using hc) (by simpa using hf) h1
  simp only [Nat.add_zero] at hst
  refine wpList_plain hg fun K' hK' => ?_
  unfold Oper.wp execOp
  simp only [hop, hx, hy, Instr.storeAt, Instr.sureAddr, Sem.run_bind, Sem.run_pure, Result.andThen_ok, storeVar, hs, Value.cells]
  simp [hst]
  exact hK' _ _ hK
end Go.Proofs.YtefpnojanldkeaaDoor
namespace Go.Proofs.YtefpnojanldkeaaDoor
open Go.RowKit
set_option maxRecDepth 100000
set_option linter.unusedSectionVars false
variable [Inhabited ComV] [DecidableEq D3] [Inhabited D3] [Inhabited OpV]

theorem isAt_any (w : World) (x : Int) : Calls Tryd.prog 65 #[.int .i64 x] w fun e w' => e = .returned (.bool (decide (0 ≤ x) && decide (x < 12))) ∧ w' = w := by
  by_cases h1 : 0 ≤ x
  · by_cases h2 : x < 12
    · go_enter Tryd.func65, Tryd.ntmps65
      go_wp2
      go_ret
      exact ⟨ret_bool (by simp [h1, h2]), rfl⟩
    · go_enter Tryd.func65, Tryd.ntmps65
      go_wp2
      go_ret
      exact ⟨ret_bool (by simp; omega), rfl⟩
  · go_enter Tryd.func65, Tryd.ntmps65
    go_wp2
    go_ret
    exact ⟨ret_bool (by simp; omega), rfl⟩
theorem isKind_any (w : World) (x : Int) : Calls Tryd.prog 66 #[.int .i64 x] w fun e w' => e = .returned (.bool (kindB x)) ∧ w' = w := by
  by_cases h1 : x = 1
  · subst h1
    go_enter Tryd.func66, Tryd.ntmps66
    go_wp2
    go_ret
    exact ⟨rfl, rfl⟩
  · have b1 : (x == 1) = false := by simpa using h1
    by_cases h2 : x = 2
    · subst h2
      go_enter Tryd.func66, Tryd.ntmps66
      go_wp2
      go_ret
      exact ⟨rfl, rfl⟩
    · have b2 : (x == 2) = false := by simpa using h2
      by_cases h3 : x = 3
      · subst h3
        go_enter Tryd.func66, Tryd.ntmps66
        go_wp2
        go_ret
        exact ⟨rfl, rfl⟩
      · have b3 : (x == 3) = false := by simpa using h3
        go_enter Tryd.func66, Tryd.ntmps66
        go_wp2
        go_ret
        exact ⟨ret_bool (by simp [kindB, h1, h2, h3]), rfl⟩
set_option maxHeartbeats 1000000 in
theorem isName_any (w : World) (s : ByteArray) : Calls Tryd.prog 24 #[.string s] w fun e w' => e = .returned (.bool (nameB s)) ∧ w' = w := by
  by_cases h1 : s.size < 1
  · have e1 : (s.size : Int) < 1 := by omega
    go_enter Tryd.func24, Tryd.ntmps24
    go_wp2
    go_ret
    exact ⟨ret_bool (nameB_false (.inl h1)).symm, rfl⟩
  · have e1 : ¬ (s.size : Int) < 1 := by omega
    by_cases h2 : 16 < s.size
    · have e2 : 16 < (s.size : Int) := by omega
      go_enter Tryd.func24, Tryd.ntmps24
      go_wp2
      go_ret
      exact ⟨ret_bool (nameB_false (.inr h2)).symm, rfl⟩
    · have e2 : ¬ 16 < (s.size : Int) := by omega
      go_enter Tryd.func24, Tryd.ntmps24
      go_wp2
      go_loop [15] (fun i => ∃ k : Nat, k ≤ s.size ∧ i = .int .i64 k ∧ ∀ t (ht : t < s.size), t < k → letterB s[t] = true) (fun i => s.size - (intOf i).toNat)
      case atStart => exact ⟨0, Nat.zero_le _, rfl, fun t _ ht => absurd ht (Nat.not_lt_zero _)⟩
      case round =>
        obtain ⟨k, hk, rfl, hin⟩ := hrel
        have HI := hid hin
        clear hin
        by_cases hlt : k < s.size
        · by_cases hb : letterB s[k] = true
          · have hb' := hb
            simp only [letterB, decide_eq_true_eq] at hb'
            by_cases a1 : (s[k].toNat : Int) < 97
            · by_cases a3 : (s[k].toNat : Int) < 48
              · have a5 : (s[k].toNat : Int) = 45 := by omega
                have a6 : ((s[k].toNat : Int) != 45) = false := by rw [a5]; rfl
                go_wp2
                go_round
                case rel => exact ⟨k + 1, by omega, by go_num, fun t ht h => by rcases Nat.lt_succ_iff_lt_or_eq.1 h with h | rfl; exact HI.out t ht h; exact hb⟩
                case measure => simp [intOf]; omega
              · have a4 : ¬ 57 < (s[k].toNat : Int) := by omega
                go_wp2
                go_round
                case rel => exact ⟨k + 1, by omega, by go_num, fun t ht h => by rcases Nat.lt_succ_iff_lt_or_eq.1 h with h | rfl; exact HI.out t ht h; exact hb⟩
                case measure => simp [intOf]; omega
            · have a2 : ¬ 122 < (s[k].toNat : Int) := by omega
              go_wp2
              go_round
              case rel => exact ⟨k + 1, by omega, by go_num, fun t ht h => by rcases Nat.lt_succ_iff_lt_or_eq.1 h with h | rfl; exact HI.out t ht h; exact hb⟩
              case measure => simp [intOf]; omega
          · have hf : letterB s[k] = false := by simpa using hb
            have hb' := hf
            simp only [letterB, decide_eq_false_iff_not] at hb'
            have a6 : ((s[k].toNat : Int) != 45) = true := by simp; omega
            have HF := hid (letters_bad hlt hf)
            clear hf hb
            by_cases a1 : (s[k].toNat : Int) < 97
            · by_cases a3 : (s[k].toNat : Int) < 48
              · go_wp2
                go_ret
                exact ⟨ret_bool HF.out.symm, rfl⟩
              · have a4 : 57 < (s[k].toNat : Int) := by omega
                go_wp2
                go_ret
                exact ⟨ret_bool HF.out.symm, rfl⟩
            · have a2 : 122 < (s[k].toNat : Int) := by omega
              have a3 : ¬ (s[k].toNat : Int) < 48 := by omega
              have a4 : 57 < (s[k].toNat : Int) := by omega
              go_wp2
              go_ret
              exact ⟨ret_bool HF.out.symm, rfl⟩
        · obtain rfl : k = s.size := by omega
          go_wp2
          go_ret
          exact ⟨ret_bool (letters_ok (by omega) (by omega) fun t ht => HI.out t ht ht).symm, rfl⟩
end Go.Proofs.YtefpnojanldkeaaDoor
namespace Go.Proofs
open Go.Shelf
def Tryd.hasDot_ren : Go.Shelf.Ren := ⟨fun | 8 => 68 | 6 => 72 | n => n, fun | 22 => 41 | 23 => 96 | 25 => 159 | 4 => 4 | 3 => 3 | 0 => 0 | n => n, fun | n => n⟩
theorem Tryd.hasDot : Go.Proofs.SlLaysH0.n8 Tryd.prog Tryd.hasDot_ren := {
  mixed := by kernel_rfl
  f6 := ⟨Tryd.f72.name, by decide, Tryd.func72.trans (congrArg some (by kernel_rfl))⟩
  f8 := ⟨Tryd.f68.name, by decide, Tryd.func68.trans (congrArg some (by kernel_rfl))⟩
  t0 := Tryd.underlying0
  a0 := Tryd.isAgg0
  z0 := Tryd.sizeOf0
  v0 := Tryd.zeroValue0
  t3 := Tryd.underlying3
  a3 := Tryd.isAgg3
  z3 := Tryd.sizeOf3
  v3 := Tryd.zeroValue3
  t4 := Tryd.underlying4
  a4 := Tryd.isAgg4
  z4 := Tryd.sizeOf4
  v4 := Tryd.zeroValue4
  t22 := Tryd.underlying41
  a22 := Tryd.isAgg41
  z22 := Tryd.sizeOf41
  v22 := Tryd.zeroValue41
  t25 := Tryd.underlying159
  a25 := Tryd.isAgg159
  z25 := Tryd.sizeOf159
  v25 := Tryd.zeroValue159 }
end Go.Proofs
namespace Go.Proofs.YtefpnojanldkeaaDoor
open Go.RowKit Go.Shelf
set_option maxRecDepth 100000
set_option linter.unusedSectionVars false
variable [Inhabited ComV] [DecidableEq D3] [Inhabited D3] [Inhabited OpV]

set_option maxHeartbeats 1000000 in
theorem isDot_any (w : World) (d : D3) (n : Int) : Calls Tryd.prog 70 #[.agg #[.int .i64 d.p, .int .i64 d.t, .int .i64 d.a], .int .i64 n] w fun e w' => e = .returned (.bool (dotB n d)) ∧ w' = w.alloc (.cells #[.int .i64 d.p, .int .i64 d.t, .int .i64 d.a] 96) := by
  obtain ⟨x1, x2, x3⟩ := d
  show Calls Tryd.prog 70 #[.agg #[.int .i64 x1, .int .i64 x2, .int .i64 x3], .int .i64 n] w fun e w' => e = .returned (.bool (dotB n ⟨x1, x2, x3⟩)) ∧ w' = w.alloc (.cells #[.int .i64 x1, .int .i64 x2, .int .i64 x3] 96)
  by_cases h0 : 0 ≤ x1
  · by_cases h1 : x1 < n
    · by_cases h2 : 1 ≤ x2
      · by_cases h3 : x2 ≤ 1099511627776
        · go_enter Tryd.func70, Tryd.ntmps70
          go_wp2_with (go_at_call 65; refine (isAt_any _ _).mono ?_; rintro e w' ⟨rfl, rfl⟩)
          go_ret
          exact ⟨ret_bool (by simp [dotB, h0, h1, h2, h3]), rfl⟩
        · go_enter Tryd.func70, Tryd.ntmps70
          go_wp2_with (go_at_call 65; refine (isAt_any _ _).mono ?_; rintro e w' ⟨rfl, rfl⟩)
          go_ret
          exact ⟨ret_bool (by simp only [dotB]; rw [decide_eq_false (p := x2 ≤ 1099511627776) (by omega)]; simp), rfl⟩
      · go_enter Tryd.func70, Tryd.ntmps70
        go_wp2_with (go_at_call 65; refine (isAt_any _ _).mono ?_; rintro e w' ⟨rfl, rfl⟩)
        go_ret
        exact ⟨ret_bool (by simp only [dotB]; rw [decide_eq_false (p := 1 ≤ x2) (by omega)]; simp), rfl⟩
    · go_enter Tryd.func70, Tryd.ntmps70
      go_wp2_with (go_at_call 65; refine (isAt_any _ _).mono ?_; rintro e w' ⟨rfl, rfl⟩)
      go_ret
      exact ⟨ret_bool (by simp only [dotB]; rw [decide_eq_false (p := x1 < n) (by omega)]; simp), rfl⟩
  · go_enter Tryd.func70, Tryd.ntmps70
    go_wp2_with (go_at_call 65; refine (isAt_any _ _).mono ?_; rintro e w' ⟨rfl, rfl⟩)
    go_ret
    exact ⟨ret_bool (by simp only [dotB]; rw [decide_eq_false (p := 0 ≤ x1) (by omega)]; simp), rfl⟩
theorem badDot_any (w : World) (B : Nat) (n : Int) (hc : w.cell? ⟨B, 0, none⟩ = some (.int .i64 n)) (d : D3) : Calls Tryd.prog 69 #[.agg #[.int .i64 d.p, .int .i64 d.t, .int .i64 d.a], .pointer (some ⟨B, 0, none⟩)] w fun e w' => e = .returned (.bool (!dotB n d)) ∧ Below w.heap.size w w' := by
  have hB : B < w.heap.size := lt_of_cell hc
  have hne : B ≠ w.heap.size := by omega
  have K := fun W => isDot_any W d n
  obtain ⟨b, hb⟩ : ∃ b, b = dotB n d := ⟨_, rfl⟩
  rw [← hb] at K ⊢
  clear hb
  obtain ⟨x1, x2, x3⟩ := d
  go_enter Tryd.func69, Tryd.ntmps69
  go_wp2_with (go_at_call 70; refine (K _).mono ?_; rintro e w' ⟨rfl, rfl⟩)
  go_ret
  exact ⟨rfl, (below_alloc _ _).trans ((below_alloc _ _).mono (by simp))⟩
/-- The slice v reads, in the world w, as rows of k cells. -/
def RowAt (k : Nat) (w : World) (v : Value) (rows : List (List Value)) : Prop :=
  ∃ ad cap, v = .slice ad rows.length cap ∧ (ad = none → cap = 0) ∧ rows.length ≤ cap ∧ (rows = [] ∨ ∃ b off, ad = some ⟨b, off, none⟩ ∧ ∀ j r, rows[j]? = some r → r.length = k ∧ ∀ i u, r[i]? = some u → w.cell? ⟨b, off + j * k + i, none⟩ = some u)
theorem RowAt.mono {k : Nat} {w w' : World} {v : Value} {rows : List (List Value)} {B : Nat} (h : RowAt k w v rows) (hb : Below B w w') (hB : w.heap.size ≤ B) : RowAt k w' v rows := by
  obtain ⟨ad, cap, rfl, hn, hc, h⟩ := h
  refine ⟨ad, cap, rfl, hn, hc, ?_⟩
  rcases h with h | ⟨b, off, rfl, h⟩
  · exact .inl h
  · exact .inr ⟨b, off, rfl, fun j r hr => ⟨(h j r hr).1, fun i u hu => by
      have := (h j r hr).2 i u hu
      rw [hb.cell (p := ⟨b, off + j * k + i, none⟩) (by have := lt_of_cell this; simp only at this ⊢; omega)]; exact this⟩⟩
def DotsAt (w : World) (v : Value) (ds : List D3) : Prop := RowAt 3 w v (ds.map D3.cells)
theorem DotsAt.mono {w w' : World} {v : Value} {ds : List D3} {B : Nat} (h : DotsAt w v ds) (hb : Below B w w') (hB : w.heap.size ≤ B) : DotsAt w' v ds := RowAt.mono h hb hB
theorem DotsAt.len {w : World} {v : Value} {ds : List D3} (h : DotsAt w v ds) : ∃ ad cap, v = .slice ad ds.length cap := by
  obtain ⟨ad, cap, rfl, _⟩ := h
  exact ⟨ad, cap, by simp⟩
/-- slices.ContainsFunc over no dot. -/
theorem indexDots_none (w : World) (p : Option Addr) (cap : Nat) (fv : Value) : Calls Tryd.prog 72 #[.slice p 0 cap, fv] w fun e w' => e = .returned (.int .i64 (-1)) ∧ w' = w := by
  go_enter Tryd.func72, Tryd.ntmps72
  go_wp2
  refine wp_loop_rounds 1 ?_
  rw [rounds_succ]
  go_wp2
  go_ret
  exact ⟨rfl, rfl⟩
theorem containsDots_none (w : World) (p : Option Addr) (cap : Nat) (fv : Value) : Calls Tryd.prog 68 #[.slice p 0 cap, fv] w fun e w' => e = .returned (.bool false) ∧ w' = w := by
  go_enter Tryd.func68, Tryd.ntmps68
  go_wp2_with (go_at_call 72; refine (indexDots_none _ _ _ _).mono ?_; rintro e w' ⟨rfl, rfl⟩)
  go_ret
  exact ⟨rfl, rfl⟩
/-- Is any dot none? -/
theorem badDots_any (w : World) (B : Nat) (n : Int) (hc : w.cell? ⟨B, 0, none⟩ = some (.int .i64 n)) (v : Value) (ds : List D3) (hd : DotsAt w v ds) (hl : ds.length ≤ 1000000) :
    Calls Tryd.prog 68 #[v, .func (.func 69) #[] #[.pointer (some ⟨B, 0, none⟩)]] w fun e w' => e = .returned (.bool (!ds.all (dotB n))) ∧ Below w.heap.size w w' := by
  obtain ⟨ad, cap, rfl, hn, hcap, h⟩ := hd
  rcases h with h | ⟨b, off, rfl, h⟩
  · have h0 : ds = [] := by simpa using h
    subst h0
    refine (containsDots_none w ad cap _).mono ?_
    rintro e w' ⟨rfl, rfl⟩
    exact ⟨rfl, Below.refl _ _⟩
  · by_cases h0 : ds = []
    · subst h0
      refine (containsDots_none w _ cap _).mono ?_
      rintro e w' ⟨rfl, rfl⟩
      exact ⟨rfl, Below.refl _ _⟩
    · have hcell : ∀ j, j < ds.length → ∀ i u, (D3.cells ds[j]!)[i]? = some u → w.cell? ⟨b, off + j * 3 + i, none⟩ = some u := fun j hj i u hu => by
        refine (h j (D3.cells ds[j]!) ?_).2 i u hu
        rw [List.getElem?_map, List.getElem?_eq_getElem hj, getElem!_pos ds j hj]
        rfl
      have hb : b < w.heap.size := lt_of_cell (hcell 0 (by have := List.length_pos_iff.2 h0; omega) 0 _ rfl)
      have hB : B < w.heap.size := lt_of_cell hc
      have hcon := AnyQ.slices_ContainsFunc Tryd.hasDot 3 Tryd.isAgg96 Tryd.sizeOf96 D3.cells (fun _ => rfl) (fun d => !dotB n d) 69 #[.pointer (some ⟨B, 0, none⟩)] (enters_of Tryd.func69 (by kernel_rfl) rfl) b off ds.length cap ds w
        (fun W x hW => (badDot_any W B n (by rw [hW.cell (p := ⟨B, 0, none⟩) hB]; exact hc) x).mono fun _ _ ⟨he, hw⟩ => ⟨he, hW.trans (hw.mono hW.size)⟩) (Nat.le_refl _) (by omega) hb hcell
      change Calls Tryd.prog 68 _ _ _ at hcon
      rw [List.take_of_length_le (Nat.le_refl _)] at hcon
      simp only [List.length_map]
      refine hcon.mono ?_
      rintro e w' ⟨rfl, hw⟩
      exact ⟨ret_bool (by simp [List.not_all_eq_any_not]), hw⟩
end Go.Proofs.YtefpnojanldkeaaDoor
