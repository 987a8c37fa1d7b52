/- Commits checked, for commits as the texts of stream have them; faulted. -/
import Derived.Test.YtcojglkjbbgoaaaDoorJCD
import Derived.Test.YtcojglkjbbgoaaaDoorJHC
import Derived.Test.YtcojglkjbbgoaaaDoorJECode
namespace Go.Proofs.YtcojglkjbbgoaaaDoor
open Go.RowKit
set_option maxRecDepth 100000

def toD (d : D3) : V.D3 := ⟨d.p, d.t, d.a⟩
def toO (o : OpV) : V.OpV := ⟨o.at_, o.key, o.kind, o.text, o.n, o.rem, o.dots.map toD⟩
def toC (c : ComV) : V.ComV := ⟨c.when_, c.place, c.ops.map toO⟩
theorem ints_v {w : World} {v : Value} {zs : List Int} (h : IntsAt w v zs) : V.IntsAt w v zs := h
theorem cells_v (ds : List D3) : (ds.map toD).map V.D3.cells = ds.map D3.cells := by
  rw [List.map_map]
  rfl
theorem dots_v {w : World} {v : Value} {ds : List D3} (h : DotsAt w v ds) : V.DotsAt w v (ds.map toD) := by
  show V.RowAt 3 w v ((ds.map toD).map V.D3.cells)
  rw [cells_v]
  exact h
theorem opRow_v {w : World} {r : List Value} {o : OpV} (h : OpRow w r o) : V.OpRow w r (toO o) := by
  obtain ⟨dv, h1, h2⟩ := h
  exact ⟨dv, h1, dots_v h2⟩
theorem f2_v {w : World} : ∀ {rows : List (List Value)} {os : List OpV}, F2 (OpRow w) rows os → V.F2 (V.OpRow w) rows (os.map toO)
  | [], [], _ => trivial
  | _ :: _, _ :: _, ⟨h1, h2⟩ => ⟨opRow_v h1, f2_v h2⟩
theorem ops_v {w : World} {v : Value} {os : List OpV} (h : OpsAt w v os) : V.OpsAt w v (os.map toO) := by
  obtain ⟨rows, h1, h2⟩ := h
  exact ⟨rows, h1, f2_v h2⟩
abbrev inhD : Inhabited V.D3 := ⟨⟨0, 0, 0⟩⟩
abbrev inhO : Inhabited V.OpV := ⟨⟨0, ByteArray.empty, 0, ByteArray.empty, 0, false, []⟩⟩
/-- The error of a commit: its number, and its place. -/
def comE (c : ComV) : Nat × Option Nat := @V.comErr inhO (toC c)
theorem small_v {c : ComV} (h : Light c) : ∀ o ∈ (toC c).ops, V.Small o := fun o ho => by
  obtain ⟨o', h1, rfl⟩ := List.mem_map.1 ho
  have := h.each o' h1
  refine ⟨?_, ?_⟩
  · show o'.text.size ≤ _
    omega
  · show (o'.dots.map toD).length ≤ _
    rw [List.length_map]
    omega
theorem e4_of {A : Nat → Addr} {B : Nat} {w : World} (h : Sents A B w) : V.E4 A w := ⟨h.cell 1 (by decide), h.cell 2 (by decide), h.cell 3 (by decide), h.cell 11 (by decide)⟩
theorem checkCommit_h (A : Nat → Addr) (B : Nat) (w : World) (hS : Sents A B w) (c : ComV) (wv ov : Value) (hw : IntsAt w wv c.when_) (ho : OpsAt w ov c.ops) (hL : Light c) :
    Calls Tryd.prog 43 #[.agg #[wv, .int .i64 c.place, ov]] w fun e w' => ∃ v, e = .returned v ∧ V.ErrAt A w' v (comE c) ∧ Below w.heap.size w w' :=
  @V.checkCommit inhD inhO A w (e4_of hS) (by have := hS.gl; have := hS.size; omega) (toC c) wv ov hw (ops_v ho) (by have := hL.when_; show c.when_.length ≤ _; omega) (by have := hL.ops; show (c.ops.map toO).length ≤ _; rw [List.length_map]; omega) (small_v hL)
theorem commitFault_h (w : World) (c : ComV) (wv ov : Value) (hw : IntsAt w wv c.when_) (ho : OpsAt w ov c.ops) (hL : Light c) :
    Calls Tryd.prog 44 #[.agg #[wv, .int .i64 c.place, ov]] w fun e w' => e = .returned (.agg #[.int .i64 ((comE c).1 : Nat), .int .i64 (V.faultAt (comE c).2)]) ∧ Below w.heap.size w w' :=
  @V.rCommitFault inhD inhO w (toC c) wv ov hw (ops_v ho) (by have := hL.when_; show c.when_.length ≤ _; omega) (by have := hL.ops; show (c.ops.map toO).length ≤ _; rw [List.length_map]; omega) (small_v hL)
theorem comE_le (c : ComV) : (comE c).1 ≤ 12 := @V.comErr_le inhD inhO (toC c)
theorem scan_zero' {f : Nat → Nat} {m : Nat} (h : (V.scan f m).1 = 0) : V.scan f m = (0, none) := by
  by_cases h0 : ∀ i, i < m → f i = 0
  · exact @V.scan_none inhD inhO _ _ h0
  · exfalso
    obtain ⟨i, hi, hne, hmin⟩ : ∃ i, i < m ∧ f i ≠ 0 ∧ ∀ j, j < i → f j = 0 := by
      have key : ∀ n, (∃ i, i < n ∧ i < m ∧ f i ≠ 0) → ∃ i, i < m ∧ f i ≠ 0 ∧ ∀ j, j < i → f j = 0 := by
        intro n
        induction n with
        | zero => rintro ⟨i, hi, _⟩; omega
        | succ n ih =>
          rintro ⟨i, hi, h1, h2⟩
          by_cases hx : ∃ j, j < n ∧ j < m ∧ f j ≠ 0
          · exact ih hx
          · refine ⟨i, h1, h2, fun j hj => ?_⟩
            by_cases e : f j = 0
            · exact e
            · exact absurd ⟨j, by omega, by omega, e⟩ hx
      obtain ⟨i, h1⟩ := Classical.not_forall.1 h0
      obtain ⟨h2, h3⟩ := Classical.not_imp.1 h1
      exact key m ⟨i, h2, h2, h3⟩
    rw [@V.scan_some inhD inhO _ _ _ hi hmin hne] at h
    exact hne h
theorem comE_zero {c : ComV} (h : (comE c).1 = 0) : comE c = (0, none) ∧ 0 ≤ c.place ∧ c.place < c.when_.length := by
  unfold comE V.comErr at h ⊢
  by_cases h1 : V.chk (toC c).when_ ≠ 0
  · rw [if_pos h1] at h
    have := @V.chk_cases inhD inhO (toC c).when_
    simp only at h
    omega
  · rw [if_neg h1] at h ⊢
    by_cases h2 : (toC c).place < 0 ∨ ((toC c).when_.length : Int) ≤ (toC c).place ∨ (toC c).when_.getD (toC c).place.toNat 0 = 0 ∨ 12 < (toC c).ops.length
    · rw [if_pos h2] at h
      simp at h
    · rw [if_neg h2] at h ⊢
      have e1 : (toC c).place = c.place := rfl
      have e2 : (toC c).when_ = c.when_ := rfl
      rw [e1, e2] at h2
      refine ⟨?_, by omega, by omega⟩
      by_cases h3 : (toC c).ops = []
      · rw [if_pos h3] at h
        simp at h
      · rw [if_neg h3] at h ⊢
        exact scan_zero' h
set_option maxHeartbeats 1000000 in
theorem faulted_err (A : Nat → Addr) (B : Nat) (w : World) (hS : Sents A B w) (v : Value) (er : Nat × Option Nat) (h : V.ErrAt A w v er) (h12 : er.1 ≤ 12) (hz : er.1 = 0 → er = (0, none)) :
    Calls Tryd.prog 21 #[v, .agg #[.int .i64 (er.1 : Nat), .int .i64 (V.faultAt er.2)]] w fun e w' => e = .returned (.bool true) ∧ Below w.heap.size w w' := by
  obtain ⟨n, o⟩ := er
  simp only at h12 hz ⊢
  obtain ⟨wa, hwa⟩ : ∃ wa, wa = w.alloc (.cells #[.int .i64 (n : Nat), .int .i64 (V.faultAt o)] 60) := ⟨_, rfl⟩
  have hb : Below w.heap.size w wa := by rw [hwa]; exact below_alloc _ _
  have hX : wa.heap[w.heap.size]? = some (.cells #[.int .i64 (n : Nat), .int .i64 (V.faultAt o)] 60 (0, 0)) := by rw [hwa]; exact heap_new _ _
  have hSa : Sents A B wa := hS.below (hb.mono hS.size)
  have hl := lt_of_heap hX
  have KC : Hid (Calls Tryd.prog 42 #[v] wa fun e w' => e = .returned (.tuple #[.int .i64 (n : Nat), .int .i64 (V.faultAt o)]) ∧ Below wa.heap.size wa w') := by
    cases o with
    | none =>
      have hv : v = V.errV A n := h
      subst hv
      cases n with
      | zero =>
        refine (code_nil wa).mono ?_
        rintro e w' ⟨rfl, rfl⟩
        exact ⟨rfl, Below.refl _ _⟩
      | succ k =>
        refine (code_sent A B wa k hSa (by omega)).mono ?_
        rintro e w' ⟨rfl, hb'⟩
        exact ⟨rfl, hb'⟩
    | some i =>
      obtain ⟨pb, rfl, c0, c1⟩ := h
      cases n with
      | zero => have := hz rfl; cases this
      | succ k =>
        have c0' : wa.cell? ⟨pb, 0, none⟩ = some (.int .i64 i) := by rw [hb.cell (p := ⟨pb, 0, none⟩) (lt_of_cell c0)]; exact c0
        have c1' : wa.cell? ⟨pb, 1, none⟩ = some (.iface 162 (.pointer (some (A k)))) := by rw [hb.cell (p := ⟨pb, 1, none⟩) (lt_of_cell c1)]; exact c1
        refine (code_fault A B wa k pb i hSa (by omega) c0' c1').mono ?_
        rintro e w' ⟨rfl, hb'⟩
        exact ⟨rfl, hb'⟩
  obtain ⟨x, hx⟩ : ∃ x : Int, x = (n : Nat) := ⟨_, rfl⟩
  obtain ⟨y, hy⟩ : ∃ y : Int, y = V.faultAt o := ⟨_, rfl⟩
  rw [← hx, ← hy] at KC hX hwa ⊢
  have HX := hid hX
  have B0 := hid hb
  clear h hz hS hSa hX hb hx hy h12
  have b1 : (x == x) = true := by simp
  have b2 : (y == y) = true := by simp
  by_cases h0 : x = 0
  · subst h0
    go_enter Tryd.func21, Tryd.ntmps21
    go_wp2_with fail
    rw [← hwa]
    refine KC.out.mono ?_
    rintro e w1 ⟨rfl, hb1⟩
    have q0 : w1.cell? ⟨w.heap.size, 0, none⟩ = some (.int .i64 0) := (cell_of ((hb1.block _ hl).trans HX.out)).trans rfl
    have q1 : w1.cell? ⟨w.heap.size, 1, none⟩ = some (.int .i64 y) := (cell_of ((hb1.block _ hl).trans HX.out)).trans rfl
    have B1 := hid (B0.out.trans (hb1.mono B0.out.size))
    clear hb1 hwa
    go_wp2_with fail
    go_ret
    exact ⟨rfl, B1.out⟩
  · have b3 : (x == 0) = false := beq_eq_false_iff_ne.2 h0
    clear h0
    go_enter Tryd.func21, Tryd.ntmps21
    go_wp2_with fail
    rw [← hwa]
    refine KC.out.mono ?_
    rintro e w1 ⟨rfl, hb1⟩
    have q0 : w1.cell? ⟨w.heap.size, 0, none⟩ = some (.int .i64 x) := (cell_of ((hb1.block _ hl).trans HX.out)).trans rfl
    have q1 : w1.cell? ⟨w.heap.size, 1, none⟩ = some (.int .i64 y) := (cell_of ((hb1.block _ hl).trans HX.out)).trans rfl
    have B1 := hid (B0.out.trans (hb1.mono B0.out.size))
    clear hb1 hwa
    go_wp2_with fail
    go_ret
    exact ⟨rfl, B1.out⟩
end Go.Proofs.YtcojglkjbbgoaaaDoor
