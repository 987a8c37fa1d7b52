/- plain.Code by its contracts; plain.Code by its contracts; Commits checked, for commits as the texts of stream have them; faulted; The sender's Commit. -/
import Derived.Test.YtefpnojanldkeaaDoorJVOfRE
import Derived.Test.YtefpnojanldkeaaDoorJVAsFacts
import Derived.Test.YtefpnojanldkeaaDoorJVCmp
import Derived.Test.YtefpnojanldkeaaDoorJVOp2
import Derived.Test.YtefpnojanldkeaaDoorJVCom
import Derived.Test.YtefpnojanldkeaaDoorJWPutN
import Derived.Handy
import Derived.Test.YtefpnojanldkeaaDoorJHC
import Derived.Test.YtefpnojanldkeaaDoorJCA
import Derived.Test.YtefpnojanldkeaaDoorJTN
import Derived.WalkKit
import Derived.LaidEql
import Derived.Stop.Asserts
import Derived.RowKitTokens
import Derived.Test.YtefpnojanldkeaaDoorJCB
import Derived.StillTailTactics
import Derived.Deep.Draws
import Derived.Deep.Cut
import Derived.Test.YtefpnojanldkeaaDoorJTB
import Derived.Test.YtefpnojanldkeaaDoorJSBeat
import Derived.Test.YtefpnojanldkeaaDoorJPC
import Derived.Test.YtefpnojanldkeaaDoorJVRefN
import Derived.Test.YtefpnojanldkeaaDoorJWPart2
import Derived.Test.YtefpnojanldkeaaDoorJVOwnM
import Derived.Test.YtefpnojanldkeaaDoorJWNew
namespace Go.Proofs.YtefpnojanldkeaaDoor
open Go.RowKit
set_option linter.unusedSectionVars false
variable [Inhabited ComV] [DecidableEq D3] [Inhabited D3] [Inhabited Dn] [Inhabited OpV]

theorem code_nil (w : World) : Calls Tryd.prog 16 #[.nilIface] w fun e w' => e = .returned (.tuple #[.int .i64 0, .int .i64 (-1)]) ∧ w' = w := by
  go_enter Tryd.func16, Tryd.ntmps16
  go_wp2
  go_ret2
  exact ⟨rfl, rfl⟩
/-- The twelve errors, as a row. -/
def twelve (A : Nat → Addr) : Obj := .cells #[.iface 162 (.pointer (some (A 0))), .iface 162 (.pointer (some (A 1))), .iface 162 (.pointer (some (A 2))), .iface 162 (.pointer (some (A 3))), .iface 162 (.pointer (some (A 4))), .iface 162 (.pointer (some (A 5))), .iface 162 (.pointer (some (A 6))), .iface 162 (.pointer (some (A 7))), .iface 162 (.pointer (some (A 8))), .iface 162 (.pointer (some (A 9))), .iface 162 (.pointer (some (A 10))), .iface 162 (.pointer (some (A 11)))] 24
theorem twelve_cell (A : Nat → Addr) (w : World) (n m : Nat) (hn : n = w.heap.size) (h : m < 12) : (w.alloc (twelve A)).cell? ⟨n, m, none⟩ = some (.iface 162 (.pointer (some (A m)))) := by
  unfold twelve
  rw [World.cell?_alloc_at _ _ _ _ hn]
  rcases (by omega : m = 0 ∨ m = 1 ∨ m = 2 ∨ m = 3 ∨ m = 4 ∨ m = 5 ∨ m = 6 ∨ m = 7 ∨ m = 8 ∨ m = 9 ∨ m = 10 ∨ m = 11) with rfl | rfl | rfl | rfl | rfl | rfl | rfl | rfl | rfl | rfl | rfl | rfl <;> rfl
set_option maxHeartbeats 4000000 in
theorem code_sent (A : Nat → Addr) (B : Nat) (w : World) (k : Nat) (hS : Sents A B w) (hk : k < 12) :
    Calls Tryd.prog 16 #[.iface 162 (.pointer (some (A k)))] w fun e w' => e = .returned (.tuple #[.int .i64 (k + 1), .int .i64 (-1)]) ∧ Below w.heap.size w w' := by
  have g0 : ∀ o1 o2 o3 o4, ((((w.alloc o1).alloc o2).alloc o3).alloc o4).cell? ⟨2, 0, none⟩ = some (.iface 162 (.pointer (some (A 0)))) := fun _ _ _ _ => cell_alloc (cell_alloc (cell_alloc (cell_alloc (hS.cell 0 (by omega)) _) _) _) _
  have g1 : ∀ o1 o2 o3 o4, ((((w.alloc o1).alloc o2).alloc o3).alloc o4).cell? ⟨0, 0, none⟩ = some (.iface 162 (.pointer (some (A 1)))) := fun _ _ _ _ => cell_alloc (cell_alloc (cell_alloc (cell_alloc (hS.cell 1 (by omega)) _) _) _) _
  have g2 : ∀ o1 o2 o3 o4, ((((w.alloc o1).alloc o2).alloc o3).alloc o4).cell? ⟨3, 0, none⟩ = some (.iface 162 (.pointer (some (A 2)))) := fun _ _ _ _ => cell_alloc (cell_alloc (cell_alloc (cell_alloc (hS.cell 2 (by omega)) _) _) _) _
  have g3 : ∀ o1 o2 o3 o4, ((((w.alloc o1).alloc o2).alloc o3).alloc o4).cell? ⟨1, 0, none⟩ = some (.iface 162 (.pointer (some (A 3)))) := fun _ _ _ _ => cell_alloc (cell_alloc (cell_alloc (cell_alloc (hS.cell 3 (by omega)) _) _) _) _
  have g4 : ∀ o1 o2 o3 o4, ((((w.alloc o1).alloc o2).alloc o3).alloc o4).cell? ⟨4, 0, none⟩ = some (.iface 162 (.pointer (some (A 4)))) := fun _ _ _ _ => cell_alloc (cell_alloc (cell_alloc (cell_alloc (hS.cell 4 (by omega)) _) _) _) _
  have g5 : ∀ o1 o2 o3 o4, ((((w.alloc o1).alloc o2).alloc o3).alloc o4).cell? ⟨5, 0, none⟩ = some (.iface 162 (.pointer (some (A 5)))) := fun _ _ _ _ => cell_alloc (cell_alloc (cell_alloc (cell_alloc (hS.cell 5 (by omega)) _) _) _) _
  have g6 : ∀ o1 o2 o3 o4, ((((w.alloc o1).alloc o2).alloc o3).alloc o4).cell? ⟨6, 0, none⟩ = some (.iface 162 (.pointer (some (A 6)))) := fun _ _ _ _ => cell_alloc (cell_alloc (cell_alloc (cell_alloc (hS.cell 6 (by omega)) _) _) _) _
  have g7 : ∀ o1 o2 o3 o4, ((((w.alloc o1).alloc o2).alloc o3).alloc o4).cell? ⟨7, 0, none⟩ = some (.iface 162 (.pointer (some (A 7)))) := fun _ _ _ _ => cell_alloc (cell_alloc (cell_alloc (cell_alloc (hS.cell 7 (by omega)) _) _) _) _
  have g8 : ∀ o1 o2 o3 o4, ((((w.alloc o1).alloc o2).alloc o3).alloc o4).cell? ⟨8, 0, none⟩ = some (.iface 162 (.pointer (some (A 8)))) := fun _ _ _ _ => cell_alloc (cell_alloc (cell_alloc (cell_alloc (hS.cell 8 (by omega)) _) _) _) _
  have g9 : ∀ o1 o2 o3 o4, ((((w.alloc o1).alloc o2).alloc o3).alloc o4).cell? ⟨9, 0, none⟩ = some (.iface 162 (.pointer (some (A 9)))) := fun _ _ _ _ => cell_alloc (cell_alloc (cell_alloc (cell_alloc (hS.cell 9 (by omega)) _) _) _) _
  have g10 : ∀ o1 o2 o3 o4, ((((w.alloc o1).alloc o2).alloc o3).alloc o4).cell? ⟨10, 0, none⟩ = some (.iface 162 (.pointer (some (A 10)))) := fun _ _ _ _ => cell_alloc (cell_alloc (cell_alloc (cell_alloc (hS.cell 10 (by omega)) _) _) _) _
  have g11 : ∀ o1 o2 o3 o4, ((((w.alloc o1).alloc o2).alloc o3).alloc o4).cell? ⟨11, 0, none⟩ = some (.iface 162 (.pointer (some (A 11)))) := fun _ _ _ _ => cell_alloc (cell_alloc (cell_alloc (cell_alloc (hS.cell 11 (by omega)) _) _) _) _
  have hg := hS.handle
  have hz : 12 < w.heap.size := by have := hS.gl; have := hS.size; omega
  go_enter Tryd.func16, Tryd.ntmps16
  go_wp2_with (go_at_call 26; refine (as_miss _ _ _ (cell_alloc hg _)).mono ?_; rintro e w' ⟨rfl, rfl⟩)
  go_loopw [3, 30] (fun a i wr => ∃ m : Nat, m ≤ k ∧ i = .int .i64 m ∧ a = .int .i64 (-1) ∧ (∀ j, j < 12 → wr.cell? ⟨w.heap.size + 1 + 1 + 1 + 1, j, none⟩ = some (.iface 162 (.pointer (some (A j))))) ∧ Sents A B wr ∧ Below w.heap.size w wr) (fun _ i _ => 12 - (intOf i).toNat)
  case atStart =>
    refine ⟨0, Nat.zero_le _, rfl, rfl, fun j hj => ?_, ?_, ?_⟩
    · exact twelve_cell A _ _ j (by simp) hj
    · refine hS.below ?_
      refine Below.mono ?_ hS.size
      go_grown
    · go_grown
  case round =>
    obtain ⟨m, hm, rfl, rfl, hrow, hSr, hbl⟩ := hrel
    have hc := hrow m (by omega)
    have h12 : m < 12 := by omega
    have HR : Hid (∀ j, j < 12 → wr.cell? ⟨w.heap.size + 1 + 1 + 1 + 1, j, none⟩ = some (.iface 162 (.pointer (some (A j))))) := hrow
    clear hrow g0 g1 g2 g3 g4 g5 g6 g7 g8 g9 g10 g11 hg
    by_cases e : m = k
    · subst e
      go_wp2_with (go_at_call 27; refine (is_same _ _).mono ?_; rintro e w' ⟨rfl, rfl⟩)
      go_ret2
      exact ⟨rfl, hbl⟩
    · have hne : A k ≠ A m := hSr.ne k m hk (by omega) (Ne.symm e)
      obtain ⟨ca, ta, ha⟩ := hSr.row k hk
      obtain ⟨cb, tb, hb⟩ := hSr.row m (by omega)
      go_wp2_with (go_at_call 27; refine (is_other _ _ _ _ _ _ _ hne ha hb).mono ?_; rintro e w' ⟨rfl, rfl⟩)
      go_roundw
      case rel => exact ⟨m + 1, by omega, by go_num, rfl, HR.out, hSr, hbl⟩
      case measure => simp [intOf]; omega
/-! ### coded -/
end Go.Proofs.YtefpnojanldkeaaDoor
namespace Go.Proofs.YtefpnojanldkeaaDoor
open Go.RowKit
set_option linter.unusedSectionVars false
variable [Inhabited ComV] [DecidableEq D3] [Inhabited D3] [Inhabited Dn] [Inhabited OpV]

/-! ### coded -/
theorem coded_nilS (w : World) : Calls Tryd.prog 7 #[.nilIface, .int .i64 0] w fun e w' => e = .returned (.bool true) ∧ w' = w := by
  go_enter Tryd.func7, Tryd.ntmps7
  go_wp2_with (go_at_call 16; refine (code_nil _).mono ?_; rintro e w' ⟨rfl, rfl⟩)
  go_ret
  exact ⟨rfl, rfl⟩
theorem coded_sentS (A : Nat → Addr) (B : Nat) (w : World) (k : Nat) (n : Int) (hS : Sents A B w) (hk : k < 12) (hn : n = k + 1) :
    Calls Tryd.prog 7 #[.iface 162 (.pointer (some (A k))), .int .i64 n] w fun e w' => e = .returned (.bool true) ∧ Below w.heap.size w w' := by
  subst hn
  go_enter Tryd.func7, Tryd.ntmps7
  go_wp2_with (go_at_call 16; refine (code_sent A B _ k hS hk).mono ?_; rintro e w' ⟨rfl, hb⟩)
  go_ret
  exact ⟨by simp, hb⟩
end Go.Proofs.YtefpnojanldkeaaDoor
namespace Go.Proofs.YtefpnojanldkeaaDoor
open Go.RowKit
set_option maxRecDepth 100000
set_option linter.unusedSectionVars false
variable [Inhabited ComV] [DecidableEq D3] [Inhabited D3] [Inhabited Dn] [Inhabited OpV]

def toD (d : D3) : V.D3 := ⟨d.p, d.t, d.a⟩
def toO (o : OpV) : V.OpV := ⟨o.at_, o.key, o.kind, o.text, o.n, o.rem, o.dots.map toD⟩
def toC (c : ComV) : V.ComV := ⟨c.when_, c.place, c.ops.map toO⟩
theorem cells_v (ds : List D3) : (ds.map toD).map V.D3.cells = ds.map D3.cells := by
  rw [List.map_map]
  rfl
theorem dots_v {w : World} {v : Value} {ds : List D3} (h : DotsAt w v ds) : V.DotsAt w v (ds.map toD) := by
  show V.RowAt 3 w v ((ds.map toD).map V.D3.cells)
  rw [cells_v]
  exact h
theorem opRow_v {w : World} {r : List Value} {o : OpV} (h : OpRow w r o) : V.OpRow w r (toO o) := by
  obtain ⟨dv, h1, h2⟩ := h
  exact ⟨dv, h1, dots_v h2⟩
theorem f2_v {w : World} : ∀ {rows : List (List Value)} {os : List OpV}, F2 (OpRow w) rows os → V.F2 (V.OpRow w) rows (os.map toO)
  | [], [], _ => trivial
  | _ :: _, _ :: _, ⟨h1, h2⟩ => ⟨opRow_v h1, f2_v h2⟩
theorem ops_v {w : World} {v : Value} {os : List OpV} (h : OpsAt w v os) : V.OpsAt w v (os.map toO) := by
  obtain ⟨rows, h1, h2⟩ := h
  exact ⟨rows, h1, f2_v h2⟩
abbrev inhD : Inhabited V.D3 := ⟨⟨0, 0, 0⟩⟩
abbrev inhO : Inhabited V.OpV := ⟨⟨0, ByteArray.empty, 0, ByteArray.empty, 0, false, []⟩⟩
/-- The error of a commit: its number, and its place. -/
def comE (c : ComV) : Nat × Option Nat := @V.comErr inhO (toC c)
theorem small_v {c : ComV} (h : Light c) : ∀ o ∈ (toC c).ops, V.Small o := fun o ho => by
  obtain ⟨o', h1, rfl⟩ := List.mem_map.1 ho
  have := h.each o' h1
  refine ⟨?_, ?_⟩
  · show o'.text.size ≤ _
    omega
  · show (o'.dots.map toD).length ≤ _
    rw [List.length_map]
    omega
theorem e4_of {A : Nat → Addr} {B : Nat} {w : World} (h : Sents A B w) : V.E4 A w := ⟨h.cell 1 (by decide), h.cell 2 (by decide), h.cell 3 (by decide), h.cell 11 (by decide)⟩
theorem checkCommit_h (A : Nat → Addr) (B : Nat) (w : World) (hS : Sents A B w) (c : ComV) (wv ov : Value) (hw : IntsAt w wv c.when_) (ho : OpsAt w ov c.ops) (hL : Light c) :
    Calls Tryd.prog 36 #[.agg #[wv, .int .i64 c.place, ov]] w fun e w' => ∃ v, e = .returned v ∧ V.ErrAt A w' v (comE c) ∧ Below w.heap.size w w' :=
  letI : Inhabited V.D3 := inhD; letI : Inhabited V.OpV := inhO; V.checkCommit A w (e4_of hS) (by have := hS.gl; have := hS.size; omega) (toC c) wv ov hw (ops_v ho) (by have := hL.when_; show c.when_.length ≤ _; omega) (by have := hL.ops; show (c.ops.map toO).length ≤ _; rw [List.length_map]; omega) (small_v hL)
theorem scan_zero' {f : Nat → Nat} {m : Nat} (h : (V.scan f m).1 = 0) : V.scan f m = (0, none) := by
  by_cases h0 : ∀ i, i < m → f i = 0
  · exact (haveI : Inhabited V.D3 := inhD; haveI : Inhabited V.OpV := inhO; V.scan_none h0)
  · exfalso
    obtain ⟨i, hi, hne, hmin⟩ : ∃ i, i < m ∧ f i ≠ 0 ∧ ∀ j, j < i → f j = 0 := by
      have key : ∀ n, (∃ i, i < n ∧ i < m ∧ f i ≠ 0) → ∃ i, i < m ∧ f i ≠ 0 ∧ ∀ j, j < i → f j = 0 := by
        intro n
        induction n with
        | zero => rintro ⟨i, hi, _⟩; omega
        | succ n ih =>
          rintro ⟨i, hi, h1, h2⟩
          by_cases hx : ∃ j, j < n ∧ j < m ∧ f j ≠ 0
          · exact ih hx
          · refine ⟨i, h1, h2, fun j hj => ?_⟩
            by_cases e : f j = 0
            · exact e
            · exact absurd ⟨j, by omega, by omega, e⟩ hx
      obtain ⟨i, h1⟩ := Classical.not_forall.1 h0
      obtain ⟨h2, h3⟩ := Classical.not_imp.1 h1
      exact key m ⟨i, h2, h2, h3⟩
    have hsc := (haveI : Inhabited V.D3 := inhD; haveI : Inhabited V.OpV := inhO; V.scan_some hi hmin hne)
    rw [hsc] at h
    exact hne h
theorem comE_zero {c : ComV} (h : (comE c).1 = 0) : comE c = (0, none) ∧ 0 ≤ c.place ∧ c.place < c.when_.length := by
  unfold comE V.comErr at h ⊢
  by_cases h1 : V.chk (toC c).when_ ≠ 0
  · rw [if_pos h1] at h
    have := (haveI : Inhabited V.D3 := inhD; haveI : Inhabited V.OpV := inhO; V.chk_cases (toC c).when_)
    simp only at h
    omega
  · rw [if_neg h1] at h ⊢
    by_cases h2 : (toC c).place < 0 ∨ ((toC c).when_.length : Int) ≤ (toC c).place ∨ (toC c).when_.getD (toC c).place.toNat 0 = 0 ∨ 12 < (toC c).ops.length
    · rw [if_pos h2] at h
      simp at h
    · rw [if_neg h2] at h ⊢
      have e1 : (toC c).place = c.place := rfl
      have e2 : (toC c).when_ = c.when_ := rfl
      rw [e1, e2] at h2
      refine ⟨?_, by omega, by omega⟩
      by_cases h3 : (toC c).ops = []
      · rw [if_pos h3] at h
        simp at h
      · rw [if_neg h3] at h ⊢
        exact scan_zero' h
end Go.Proofs.YtefpnojanldkeaaDoor
namespace Go.Proofs.YtefpnojanldkeaaDoor
open Go.RowKit
set_option maxRecDepth 100000
set_option linter.unusedSectionVars false
variable [Inhabited ComV] [DecidableEq D3] [Inhabited D3] [Inhabited Dn] [Inhabited OpV]

theorem errAt_nil {A : Nat → Addr} {w : World} {v : Value} {er : Nat × Option Nat} (h : V.ErrAt A w v er) (he : er = (0, none)) : v = .nilIface := by
  subst he
  exact h
/-- The boxes of Commit. -/
structure CmI (w : World) (wv ov : Value) (p : Int) (wr : World) : Prop where
  below : Below w.heap.size w wr
  box : wr.heap[w.heap.size]? = some (.cells #[wv, .int .i64 p, ov] 37 (0, 0))
  res : wr.heap[w.heap.size + 1]? = some (.cells #[.int .i64 0, .int .i64 0, .int .i64 0, .int .i64 0, .int .i64 0, .bool false, .slice none 0 0, .int .i64 0, .slice none 0 0] 45 (0, 0))
theorem CmI.start (w : World) (wv ov : Value) (p : Int) : CmI w wv ov p ((w.alloc (.cells #[wv, .int .i64 p, ov] 37)).alloc (.cells #[.int .i64 0, .int .i64 0, .int .i64 0, .int .i64 0, .int .i64 0, .bool false, .slice none 0 0, .int .i64 0, .slice none 0 0] 45)) :=
  ⟨below2S _ _ _, heap_old (heap_new _ _) _, heap_new2 _ _ _⟩
theorem CmI.moved {w wr w' : World} {wv ov : Value} {p : Int} (h : CmI w wv ov p wr) (hb : Below wr.heap.size wr w') : CmI w wv ov p w' := by
  have := lt_of_heap h.res
  exact ⟨h.below.trans (hb.mono h.below.size), by rw [hb.block _ (by omega)]; exact h.box, by rw [hb.block _ (by omega)]; exact h.res⟩
end Go.Proofs.YtefpnojanldkeaaDoor
