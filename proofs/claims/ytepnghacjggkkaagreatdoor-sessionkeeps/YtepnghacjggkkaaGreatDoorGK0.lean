/- errors.As with a target of type **api.Fault: an error of errors.New's make is none (false); an api.Fault is one (true, and the target is set); plain.Code by its contracts; plain.Code by its contracts; The type's handle and all twelve sentinels, out of what the rows list; All that SessionKeeps calls, by its contracts. -/
import Derived.Test.YtepnghacjggkkaaGreatDoorGVAsFacts
import Derived.BigQuiet
import Derived.Deep.Draws
import Derived.Deep.QuietTactic
import Derived.Deep.RegionHeld
import Derived.DeepKeys5
import Derived.Ground.SlsfProg
import Derived.Handy
import Derived.Laws.MakeOwn
import Derived.Lib.SlKept
import Derived.Lib.SliceRun
import Derived.Maps.AppendAt
import Derived.Maps.OwnSet
import Derived.Shelf.GgSortFunc.RowK
import Derived.Shelf.SlGeneric
import Derived.Shelf.SlicesE.DeleteFunc
import Derived.Shelf.SlicesQ.IndexFunc
import Derived.Sort.Grow
import Derived.StillTailTactics
import Derived.Test.YtepnghacjggkkaaGreatDoorChecked
import Derived.Test.YtepnghacjggkkaaGreatDoorProg
import Derived.WalkKit
import Derived.Test.YtepnghacjggkkaaGreatDoorGVOpM
import Derived.Test.YtepnghacjggkkaaGreatDoorGVWorld
import Derived.Deep.Cut
import Derived.Deep.Fields
import Derived.Deep.RegionHeldLaw
import Derived.Deep.RegionLaw
import Derived.Deep.Slices
import Derived.LaidHandle
import Derived.LaidLaws
import Derived.LaidSub
import Derived.Laws.AppendOwnNone
import Derived.Laws.IdiomCopy
import Derived.Laws.OwnMore
import Derived.Laws.ResultCell
import Derived.OpenShut
import Derived.ProofKit
import Derived.Shelf.SlIter.Nil
import Derived.Shelf.Slices.CompactS
import Derived.Shelf.Slices.In.SortNone
import Derived.Shelf.SlicesQ.Load
import Derived.Shelf.Sort.Plain
import Derived.Sort.KeysCollected
import Derived.Test.YtepnghacjggkkaaGreatDoorRows
import Derived.WalkLawsBesides
import Derived.WalkSpells
import Derived.LaidEql
import Derived.RowKitTokens
import Derived.Stop.Asserts
import Derived.Test.YtepnghacjggkkaaGreatDoorGKY
import Derived.Test.YtepnghacjggkkaaGreatDoorGKU
import Derived.Test.YtepnghacjggkkaaGreatDoorGKV
namespace Go.Proofs.YtepnghacjggkkaaGreatDoor
open Go.RowKit Go.Extern.Stop Go.Stop Go.Extern

set_option maxHeartbeats 4000000 in
theorem as_hit (e t : Addr) (old : Value) (w : World) (hg : w.cell? ⟨12, 0, none⟩ = some (.iface 180 (.agg #[.pointer (some ⟨13, 26, none⟩)]))) (ht0 : w.cell? t = some old) (hf0 : w.frozen? t = false) :
    Calls Tryz.prog 50 #[.iface 116 (.pointer (some e)), .iface 118 (.pointer (some t))] w fun ev w' => ev = .returned (.bool true) ∧ w' = ((((w.alloc (.cells #[.pointer (some t)] 118)).alloc (.cells #[.pointer (some ⟨13, 118, none⟩), .pointer (some ⟨w.heap.size, 0, none⟩), .int .u64 150] 148)).alloc (.cells #[.pointer (some ⟨13, 118, none⟩), .pointer (some ⟨w.heap.size, 0, none⟩), .int .u64 150] 148)).alloc (.cells #[.pointer (some e)] 116)).setCell t (.pointer (some e)) := by
  have h46 := @run_callFunc_extern Tryz.prog 72 _ (ent Tryz.f72) Tryz.func72 (by kernel_rfl) (by kernel_rfl) (by kernel_rfl) (by kernel_rfl)
  have h47 := @run_callFunc_extern Tryz.prog 73 _ (ent Tryz.f73) Tryz.func73 (by kernel_rfl) (by kernel_rfl) (by kernel_rfl) (by kernel_rfl)
  have h48 := @run_callFunc_extern Tryz.prog 74 _ (ent Tryz.f74) Tryz.func74 (by kernel_rfl) (by kernel_rfl) (by kernel_rfl) (by kernel_rfl)
  have h118 := @run_callFunc_extern Tryz.prog 201 _ (ent Tryz.f201) Tryz.func201 (by kernel_rfl) (by kernel_rfl) (by kernel_rfl) (by kernel_rfl)
  have h131 := @run_callFunc_extern Tryz.prog 214 _ (ent Tryz.f214) Tryz.func214 (by kernel_rfl) (by kernel_rfl) (by kernel_rfl) (by kernel_rfl)
  have h132 := @run_callFunc_extern Tryz.prog 215 _ (ent Tryz.f215) Tryz.func215 (by kernel_rfl) (by kernel_rfl) (by kernel_rfl) (by kernel_rfl)
  have h50 := @run_callFunc_extern Tryz.prog 76 _ (ent Tryz.f76) Tryz.func76 (by kernel_rfl) (by kernel_rfl) (by kernel_rfl) (by kernel_rfl)
  have h129 := @run_callFunc_extern Tryz.prog 212 _ (ent Tryz.f212) Tryz.func212 (by kernel_rfl) (by kernel_rfl) (by kernel_rfl) (by kernel_rfl)
  have h62 := @run_callFunc_extern Tryz.prog 97 _ (ent Tryz.f97) Tryz.func97 (by kernel_rfl) (by kernel_rfl) (by kernel_rfl) (by kernel_rfl)
  have h63 := @run_callFunc_extern Tryz.prog 98 _ (ent Tryz.f98) Tryz.func98 (by kernel_rfl) (by kernel_rfl) (by kernel_rfl) (by kernel_rfl)
  have q0 := Tryz.valueOf118
  have q1 := Tryz.valueOf116
  have q2 := Tryz.type118
  have q3 := Tryz.methodKind
  have q4 := Tryz.methodElem
  have q5 := Tryz.methodImplements
  have q6 := Tryz.methodAssignableTo
  have q7 := Tryz.kind118
  have q8 := Tryz.kind116
  have q9 := Tryz.elem118
  have q10 := Tryz.implements116
  have q11 := Tryz.typeOf116
  have q12 := Tryz.typeOf276
  have q13 := Tryz.assignable116
  have q14 := Tryz.assignable276
  have q15 := Tryz.noAsE
  have q16 := Tryz.noUnwrapE
  have q17 := Tryz.noUnwrapsE
  have n8 := Tryz.isNil118 ⟨w.heap.size, 0, none⟩ t ((w.alloc (.cells #[.pointer (some t)] 118)).alloc (.cells #[.pointer (some ⟨13, 118, none⟩), .pointer (some ⟨w.heap.size, 0, none⟩), .int .u64 150] 148)) (by simp)
  have hlt : 12 < w.heap.size := by
    rcases Nat.lt_or_ge 12 w.heap.size with h | h
    · exact h
    · simp [World.cell?, Array.getElem?_eq_none h] at hg
  have hg2 : ((w.alloc (.cells #[.pointer (some t)] 118)).alloc (.cells #[.pointer (some ⟨13, 118, none⟩), .pointer (some ⟨w.heap.size, 0, none⟩), .int .u64 150] 148)).cell? ⟨12, 0, none⟩ = some (.iface 180 (.agg #[.pointer (some ⟨13, 26, none⟩)])) := by
    rw [World.cell?_alloc_lt _ _ ⟨12, 0, none⟩ (by simp; omega), World.cell?_alloc_lt _ _ ⟨12, 0, none⟩ hlt]; exact hg
  have el := Tryz.elemV118 ⟨w.heap.size, 0, none⟩ t (((w.alloc (.cells #[.pointer (some t)] 118)).alloc (.cells #[.pointer (some ⟨13, 118, none⟩), .pointer (some ⟨w.heap.size, 0, none⟩), .int .u64 150] 148)).alloc (.cells #[.pointer (some ⟨13, 118, none⟩), .pointer (some ⟨w.heap.size, 0, none⟩), .int .u64 150] 148)) (by rw [World.cell?_alloc_lt _ _ ⟨w.heap.size, 0, none⟩ (by simp; omega)]; simp)
  have htl : t.block < w.heap.size := by
    rcases Nat.lt_or_ge t.block w.heap.size with h | h
    · exact h
    · simp [World.cell?, Array.getElem?_eq_none h] at ht0
  have st := Tryz.set116 t ⟨w.heap.size + 1 + 1 + 1, 0, none⟩ e old ((((w.alloc (.cells #[.pointer (some t)] 118)).alloc (.cells #[.pointer (some ⟨13, 118, none⟩), .pointer (some ⟨w.heap.size, 0, none⟩), .int .u64 150] 148)).alloc (.cells #[.pointer (some ⟨13, 118, none⟩), .pointer (some ⟨w.heap.size, 0, none⟩), .int .u64 150] 148)).alloc (.cells #[.pointer (some e)] 116))
    (by rw [World.cell?_alloc_at _ _ _ _ (by simp)]; rfl)
    (by rw [World.cell?_alloc_lt _ _ t (by simp; omega), World.cell?_alloc_lt _ _ t (by simp; omega), World.cell?_alloc_lt _ _ t (by simp; omega), World.cell?_alloc_lt _ _ t htl]; exact ht0)
    (by rw [World.frozen?_alloc_old _ _ t (by simp; omega), World.frozen?_alloc_old _ _ t (by simp; omega), World.frozen?_alloc_old _ _ t (by simp; omega), World.frozen?_alloc_old _ _ t (Nat.ne_of_lt htl)]; exact hf0)
  go_enter Tryz.func50, Tryz.ntmps50
  go_wp2
  refine wp_loop_rounds 1 ?_
  rw [rounds_succ]
  go_wp2
  go_ret
  exact ⟨rfl, rfl⟩
set_option maxHeartbeats 4000000 in
theorem as_miss (e t : Addr) (w : World) (hg : w.cell? ⟨12, 0, none⟩ = some (.iface 180 (.agg #[.pointer (some ⟨13, 26, none⟩)]))) :
    Calls Tryz.prog 50 #[.iface 276 (.pointer (some e)), .iface 118 (.pointer (some t))] w fun ev w' => ev = .returned (.bool false) ∧ w' = ((w.alloc (.cells #[.pointer (some t)] 118)).alloc (.cells #[.pointer (some ⟨13, 118, none⟩), .pointer (some ⟨w.heap.size, 0, none⟩), .int .u64 150] 148)).alloc (.cells #[.pointer (some ⟨13, 118, none⟩), .pointer (some ⟨w.heap.size, 0, none⟩), .int .u64 150] 148) := by
  have h46 := @run_callFunc_extern Tryz.prog 72 _ (ent Tryz.f72) Tryz.func72 (by kernel_rfl) (by kernel_rfl) (by kernel_rfl) (by kernel_rfl)
  have h47 := @run_callFunc_extern Tryz.prog 73 _ (ent Tryz.f73) Tryz.func73 (by kernel_rfl) (by kernel_rfl) (by kernel_rfl) (by kernel_rfl)
  have h48 := @run_callFunc_extern Tryz.prog 74 _ (ent Tryz.f74) Tryz.func74 (by kernel_rfl) (by kernel_rfl) (by kernel_rfl) (by kernel_rfl)
  have h118 := @run_callFunc_extern Tryz.prog 201 _ (ent Tryz.f201) Tryz.func201 (by kernel_rfl) (by kernel_rfl) (by kernel_rfl) (by kernel_rfl)
  have h131 := @run_callFunc_extern Tryz.prog 214 _ (ent Tryz.f214) Tryz.func214 (by kernel_rfl) (by kernel_rfl) (by kernel_rfl) (by kernel_rfl)
  have h132 := @run_callFunc_extern Tryz.prog 215 _ (ent Tryz.f215) Tryz.func215 (by kernel_rfl) (by kernel_rfl) (by kernel_rfl) (by kernel_rfl)
  have h50 := @run_callFunc_extern Tryz.prog 76 _ (ent Tryz.f76) Tryz.func76 (by kernel_rfl) (by kernel_rfl) (by kernel_rfl) (by kernel_rfl)
  have h129 := @run_callFunc_extern Tryz.prog 212 _ (ent Tryz.f212) Tryz.func212 (by kernel_rfl) (by kernel_rfl) (by kernel_rfl) (by kernel_rfl)
  have h62 := @run_callFunc_extern Tryz.prog 97 _ (ent Tryz.f97) Tryz.func97 (by kernel_rfl) (by kernel_rfl) (by kernel_rfl) (by kernel_rfl)
  have h63 := @run_callFunc_extern Tryz.prog 98 _ (ent Tryz.f98) Tryz.func98 (by kernel_rfl) (by kernel_rfl) (by kernel_rfl) (by kernel_rfl)
  have q0 := Tryz.valueOf118
  have q1 := Tryz.valueOf116
  have q2 := Tryz.type118
  have q3 := Tryz.methodKind
  have q4 := Tryz.methodElem
  have q5 := Tryz.methodImplements
  have q6 := Tryz.methodAssignableTo
  have q7 := Tryz.kind118
  have q8 := Tryz.kind116
  have q9 := Tryz.elem118
  have q10 := Tryz.implements116
  have q11 := Tryz.typeOf116
  have q12 := Tryz.typeOf276
  have q13 := Tryz.assignable116
  have q14 := Tryz.assignable276
  have q15 := Tryz.noAsE
  have q16 := Tryz.noUnwrapE
  have q17 := Tryz.noUnwrapsE
  have n8 := Tryz.isNil118 ⟨w.heap.size, 0, none⟩ t ((w.alloc (.cells #[.pointer (some t)] 118)).alloc (.cells #[.pointer (some ⟨13, 118, none⟩), .pointer (some ⟨w.heap.size, 0, none⟩), .int .u64 150] 148)) (by simp)
  have hlt : 12 < w.heap.size := by
    rcases Nat.lt_or_ge 12 w.heap.size with h | h
    · exact h
    · simp [World.cell?, Array.getElem?_eq_none h] at hg
  have hg2 : ((w.alloc (.cells #[.pointer (some t)] 118)).alloc (.cells #[.pointer (some ⟨13, 118, none⟩), .pointer (some ⟨w.heap.size, 0, none⟩), .int .u64 150] 148)).cell? ⟨12, 0, none⟩ = some (.iface 180 (.agg #[.pointer (some ⟨13, 26, none⟩)])) := by
    rw [World.cell?_alloc_lt _ _ ⟨12, 0, none⟩ (by simp; omega), World.cell?_alloc_lt _ _ ⟨12, 0, none⟩ hlt]; exact hg
  go_enter Tryz.func50, Tryz.ntmps50
  go_wp2
  refine wp_loop_rounds 1 ?_
  rw [rounds_succ]
  go_wp2
  go_ret
  exact ⟨rfl, rfl⟩
end Go.Proofs.YtepnghacjggkkaaGreatDoor
namespace Go.Proofs.YtepnghacjggkkaaGreatDoor
open Go.RowKit
set_option linter.unusedSectionVars false
variable [Inhabited ComV] [DecidableEq D3] [Inhabited D3] [Inhabited Dd] [Inhabited Dn] [Inhabited OpV]

def twelve (A : Nat → Addr) : Obj := .cells #[.iface 276 (.pointer (some (A 0))), .iface 276 (.pointer (some (A 1))), .iface 276 (.pointer (some (A 2))), .iface 276 (.pointer (some (A 3))), .iface 276 (.pointer (some (A 4))), .iface 276 (.pointer (some (A 5))), .iface 276 (.pointer (some (A 6))), .iface 276 (.pointer (some (A 7))), .iface 276 (.pointer (some (A 8))), .iface 276 (.pointer (some (A 9))), .iface 276 (.pointer (some (A 10))), .iface 276 (.pointer (some (A 11)))] 26
theorem twelve_cell (A : Nat → Addr) (w : World) (n m : Nat) (hn : n = w.heap.size) (h : m < 12) : (w.alloc (twelve A)).cell? ⟨n, m, none⟩ = some (.iface 276 (.pointer (some (A m)))) := by
  unfold twelve
  rw [World.cell?_alloc_at _ _ _ _ hn]
  rcases (by omega : m = 0 ∨ m = 1 ∨ m = 2 ∨ m = 3 ∨ m = 4 ∨ m = 5 ∨ m = 6 ∨ m = 7 ∨ m = 8 ∨ m = 9 ∨ m = 10 ∨ m = 11) with rfl | rfl | rfl | rfl | rfl | rfl | rfl | rfl | rfl | rfl | rfl | rfl <;> rfl
set_option maxHeartbeats 4000000 in
theorem code_sent (A : Nat → Addr) (B : Nat) (w : World) (k : Nat) (hS : Sents A B w) (hk : k < 12) :
    Calls Tryz.prog 32 #[.iface 276 (.pointer (some (A k)))] w fun e w' => e = .returned (.tuple #[.int .i64 (k + 1), .int .i64 (-1)]) ∧ Below w.heap.size w w' := by
  have g0 : ∀ o1 o2 o3 o4, ((((w.alloc o1).alloc o2).alloc o3).alloc o4).cell? ⟨6, 0, none⟩ = some (.iface 276 (.pointer (some (A 0)))) := fun _ _ _ _ => cell_alloc (cell_alloc (cell_alloc (cell_alloc (hS.cell 0 (by omega)) _) _) _) _
  have g1 : ∀ o1 o2 o3 o4, ((((w.alloc o1).alloc o2).alloc o3).alloc o4).cell? ⟨0, 0, none⟩ = some (.iface 276 (.pointer (some (A 1)))) := fun _ _ _ _ => cell_alloc (cell_alloc (cell_alloc (cell_alloc (hS.cell 1 (by omega)) _) _) _) _
  have g2 : ∀ o1 o2 o3 o4, ((((w.alloc o1).alloc o2).alloc o3).alloc o4).cell? ⟨2, 0, none⟩ = some (.iface 276 (.pointer (some (A 2)))) := fun _ _ _ _ => cell_alloc (cell_alloc (cell_alloc (cell_alloc (hS.cell 2 (by omega)) _) _) _) _
  have g3 : ∀ o1 o2 o3 o4, ((((w.alloc o1).alloc o2).alloc o3).alloc o4).cell? ⟨7, 0, none⟩ = some (.iface 276 (.pointer (some (A 3)))) := fun _ _ _ _ => cell_alloc (cell_alloc (cell_alloc (cell_alloc (hS.cell 3 (by omega)) _) _) _) _
  have g4 : ∀ o1 o2 o3 o4, ((((w.alloc o1).alloc o2).alloc o3).alloc o4).cell? ⟨4, 0, none⟩ = some (.iface 276 (.pointer (some (A 4)))) := fun _ _ _ _ => cell_alloc (cell_alloc (cell_alloc (cell_alloc (hS.cell 4 (by omega)) _) _) _) _
  have g5 : ∀ o1 o2 o3 o4, ((((w.alloc o1).alloc o2).alloc o3).alloc o4).cell? ⟨8, 0, none⟩ = some (.iface 276 (.pointer (some (A 5)))) := fun _ _ _ _ => cell_alloc (cell_alloc (cell_alloc (cell_alloc (hS.cell 5 (by omega)) _) _) _) _
  have g6 : ∀ o1 o2 o3 o4, ((((w.alloc o1).alloc o2).alloc o3).alloc o4).cell? ⟨9, 0, none⟩ = some (.iface 276 (.pointer (some (A 6)))) := fun _ _ _ _ => cell_alloc (cell_alloc (cell_alloc (cell_alloc (hS.cell 6 (by omega)) _) _) _) _
  have g7 : ∀ o1 o2 o3 o4, ((((w.alloc o1).alloc o2).alloc o3).alloc o4).cell? ⟨10, 0, none⟩ = some (.iface 276 (.pointer (some (A 7)))) := fun _ _ _ _ => cell_alloc (cell_alloc (cell_alloc (cell_alloc (hS.cell 7 (by omega)) _) _) _) _
  have g8 : ∀ o1 o2 o3 o4, ((((w.alloc o1).alloc o2).alloc o3).alloc o4).cell? ⟨5, 0, none⟩ = some (.iface 276 (.pointer (some (A 8)))) := fun _ _ _ _ => cell_alloc (cell_alloc (cell_alloc (cell_alloc (hS.cell 8 (by omega)) _) _) _) _
  have g9 : ∀ o1 o2 o3 o4, ((((w.alloc o1).alloc o2).alloc o3).alloc o4).cell? ⟨1, 0, none⟩ = some (.iface 276 (.pointer (some (A 9)))) := fun _ _ _ _ => cell_alloc (cell_alloc (cell_alloc (cell_alloc (hS.cell 9 (by omega)) _) _) _) _
  have g10 : ∀ o1 o2 o3 o4, ((((w.alloc o1).alloc o2).alloc o3).alloc o4).cell? ⟨3, 0, none⟩ = some (.iface 276 (.pointer (some (A 10)))) := fun _ _ _ _ => cell_alloc (cell_alloc (cell_alloc (cell_alloc (hS.cell 10 (by omega)) _) _) _) _
  have g11 : ∀ o1 o2 o3 o4, ((((w.alloc o1).alloc o2).alloc o3).alloc o4).cell? ⟨11, 0, none⟩ = some (.iface 276 (.pointer (some (A 11)))) := fun _ _ _ _ => cell_alloc (cell_alloc (cell_alloc (cell_alloc (hS.cell 11 (by omega)) _) _) _) _
  have hg := hS.handle
  have hz : 12 < w.heap.size := by have := hS.gl; have := hS.size; omega
  go_enter Tryz.func32, Tryz.ntmps32
  go_wp2_with (go_at_call 50; refine (as_miss _ _ _ (cell_alloc hg _)).mono ?_; rintro e w' ⟨rfl, rfl⟩)
  go_loopw [3, 30] (fun a i wr => ∃ m : Nat, m ≤ k ∧ i = .int .i64 m ∧ a = .int .i64 (-1) ∧ (∀ j, j < 12 → wr.cell? ⟨w.heap.size + 1 + 1 + 1 + 1, j, none⟩ = some (.iface 276 (.pointer (some (A j))))) ∧ Sents A B wr ∧ Below w.heap.size w wr) (fun _ i _ => 12 - (intOf i).toNat)
  case atStart =>
    refine ⟨0, Nat.zero_le _, rfl, rfl, fun j hj => ?_, ?_, ?_⟩
    · exact twelve_cell A _ _ j (by simp) hj
    · refine hS.below ?_
      refine Below.mono ?_ hS.size
      go_grown
    · go_grown
  case round =>
    obtain ⟨m, hm, rfl, rfl, hrow, hSr, hbl⟩ := hrel
    have hc := hrow m (by omega)
    have h12 : m < 12 := by omega
    have HR : Hid (∀ j, j < 12 → wr.cell? ⟨w.heap.size + 1 + 1 + 1 + 1, j, none⟩ = some (.iface 276 (.pointer (some (A j))))) := hrow
    clear hrow g0 g1 g2 g3 g4 g5 g6 g7 g8 g9 g10 g11 hg
    by_cases e : m = k
    · subst e
      go_wp2_with (go_at_call 51; refine (is_same _ _).mono ?_; rintro e w' ⟨rfl, rfl⟩)
      go_ret2
      exact ⟨rfl, hbl⟩
    · have hne : A k ≠ A m := hSr.ne k m hk (by omega) (Ne.symm e)
      obtain ⟨ca, ta, ha⟩ := hSr.row k hk
      obtain ⟨cb, tb, hb⟩ := hSr.row m (by omega)
      go_wp2_with (go_at_call 51; refine (is_other _ _ _ _ _ _ _ hne ha hb).mono ?_; rintro e w' ⟨rfl, rfl⟩)
      go_roundw
      case rel => exact ⟨m + 1, by omega, by go_num, rfl, HR.out, hSr, hbl⟩
      case measure => simp [intOf]; omega
end Go.Proofs.YtepnghacjggkkaaGreatDoor
namespace Go.Proofs.YtepnghacjggkkaaGreatDoor
open Go.RowKit
set_option linter.unusedSectionVars false
variable [Inhabited ComV] [DecidableEq D3] [Inhabited D3] [Inhabited Dd] [Inhabited Dn] [Inhabited OpV]

theorem coded_sentS (A : Nat → Addr) (B : Nat) (w : World) (k : Nat) (n : Int) (hS : Sents A B w) (hk : k < 12) (hn : n = k + 1) :
    Calls Tryz.prog 11 #[.iface 276 (.pointer (some (A k))), .int .i64 n] w fun e w' => e = .returned (.bool true) ∧ Below w.heap.size w w' := by
  subst hn
  go_enter Tryz.func11, Tryz.ntmps11
  go_wp2_with (go_at_call 32; refine (code_sent A B _ k hS hk).mono ?_; rintro e w' ⟨rfl, hb⟩)
  go_ret
  exact ⟨by simp, hb⟩
end Go.Proofs.YtepnghacjggkkaaGreatDoor
namespace Go.Proofs.YtepnghacjggkkaaGreatDoor
open Go.RowKit Go.ChangeShapes Go.WideShapes Go.ChangeAt
set_option maxRecDepth 100000
set_option linter.unusedSectionVars false
variable [Inhabited ComV] [DecidableEq D3] [Inhabited D3] [Inhabited Dd] [Inhabited Dn] [Inhabited OpV]

theorem Tryz.rt : (Tryz.prog.cutTypes.find? (·.1 == "internal/reflectlite.rtype")).map (·.2) = some 180 := by kernel_rfl
theorem Tryz.oneRow : ((List.range 307).filter fun t => Tryz.prog.rowNamed t [101, 114, 114, 111, 114]) = [26] := by kernel_rfl
theorem Tryz.tsize : Tryz.prog.types.size = 307 := by kernel_rfl
theorem Tryz.et : Tryz.prog.globalNamed "errors.errorType" = some 12 := by kernel_rfl
theorem handle_of_laid {W : World} {l : List (String × DataW Unit)} (h : laidMetH Tryz.prog l W) (hm : ("errors.errorType", Rows.laid_errors_errorType) ∈ l) : W.cell? ⟨12, 0, none⟩ = some (.iface 180 (.agg #[.pointer (some ⟨13, 26, none⟩)])) := by
  have h' := (laidMetH_iff.1 h).2 _ (List.mem_filter.2 ⟨hm, by rfl⟩)
  have h'' : ∃ name u ty, (Rows.laid_errors_errorType (H := Unit)).handleName? = some name ∧ (Tryz.prog.cutTypes.find? (·.1 == "internal/reflectlite.rtype")).map (·.2) = some u ∧ ty < Tryz.prog.types.size ∧ Tryz.prog.rowNamed ty name = true ∧
      W.var? Tryz.prog "errors.errorType" = some #[.iface u (.agg #[typeHandle Tryz.prog ty])] := h'
  obtain ⟨name, u, ty, e1, e2, e3, e4, e5⟩ := h''
  have en : name = [101, 114, 114, 111, 114] := (Option.some.inj e1).symm
  subst en
  obtain rfl := Option.some.inj (Tryz.rt.symm.trans e2)
  have hm : ty ∈ (List.range 307).filter fun t => Tryz.prog.rowNamed t [101, 114, 114, 111, 114] := List.mem_filter.2 ⟨List.mem_range.2 (by rw [← Tryz.tsize]; exact e3), e4⟩
  rw [Tryz.oneRow] at hm
  obtain rfl := List.mem_singleton.1 hm
  have hh : typeHandle Tryz.prog 26 = .pointer (some ⟨13, 26, none⟩) := by kernel_rfl
  rw [hh] at e5
  simpa using World.var?_cell Tryz.et e5 0
def names12 : List (String × List UInt8) := [("causeway/api.ErrText", [99, 97, 117, 115, 101, 119, 97, 121, 58, 32, 116, 101, 120, 116]), ("causeway/api.ErrBound", [99, 97, 117, 115, 101, 119, 97, 121, 58, 32, 98, 111, 117, 110, 100]), ("causeway/api.ErrShape", [99, 97, 117, 115, 101, 119, 97, 121, 58, 32, 115, 104, 97, 112, 101]), ("causeway/api.ErrName", [99, 97, 117, 115, 101, 119, 97, 121, 58, 32, 110, 97, 109, 101]), ("causeway/api.ErrNone", [99, 97, 117, 115, 101, 119, 97, 121, 58, 32, 110, 111, 110, 101]), ("causeway/api.ErrExist", [99, 97, 117, 115, 101, 119, 97, 121, 58, 32, 101, 120, 105, 115, 116]), ("causeway/api.ErrFull", [99, 97, 117, 115, 101, 119, 97, 121, 58, 32, 102, 117, 108, 108]), ("causeway/api.ErrSum", [99, 97, 117, 115, 101, 119, 97, 121, 58, 32, 115, 117, 109]), ("causeway/api.ErrOld", [99, 97, 117, 115, 101, 119, 97, 121, 58, 32, 111, 108, 100]), ("causeway/api.ErrHeld", [99, 97, 117, 115, 101, 119, 97, 121, 58, 32, 104, 101, 108, 100]), ("causeway/api.ErrWait", [99, 97, 117, 115, 101, 119, 97, 121, 58, 32, 119, 97, 105, 116]), ("causeway/api.ErrKind", [99, 97, 117, 115, 101, 119, 97, 121, 58, 32, 107, 105, 110, 100])]
theorem global12 (k : Nat) (x : String × List UInt8) (h : names12[k]? = some x) : Tryz.prog.globalNamed x.1 = some (gix k) ∧ (Tryz.prog.globals[gix k]?).map (·.type) = some 26 := by
  have hk : k < 12 := (List.getElem?_eq_some_iff.1 h).1
  rcases (by omega : k = 0 ∨ k = 1 ∨ k = 2 ∨ k = 3 ∨ k = 4 ∨ k = 5 ∨ k = 6 ∨ k = 7 ∨ k = 8 ∨ k = 9 ∨ k = 10 ∨ k = 11) with rfl | rfl | rfl | rfl | rfl | rfl | rfl | rfl | rfl | rfl | rfl | rfl <;> (obtain rfl := Option.some.inj h; exact ⟨by kernel_rfl, by kernel_rfl⟩)
theorem sents_of_laid {W : World} {l : List (String × DataW Unit)} (h : laidMetH Tryz.prog l W) (hm : ("errors.errorType", Rows.laid_errors_errorType) ∈ l)
    (hf : (l.filter fun x => x.2.handleName?.isNone).filter (fun x => (names12.map (·.1)).contains x.1) = listed names12) : ∃ A, Sents A W.heap.size W := by
  have h12 : laidMet Tryz.prog (listed names12) W := by rw [← hf]; exact (laidMetH_iff.1 h).1.filter _
  obtain ⟨A, a1, a2, a3, a4⟩ := laidMet_sents Tryz.underlying26 Tryz.row276 Tryz.underlying276 Tryz.underlying296 rfl rfl Tryz.underlying9 Tryz.cells296 Tryz.cells9 names12 h12 (fun x hx => by
    obtain ⟨k, hk⟩ := List.getElem?_of_mem hx
    exact ⟨gix k, global12 k x hk⟩)
  have hh := handle_of_laid h hm
  refine ⟨A, ?_, Nat.le_refl _, fun k hk => ?_, fun k hk => a2 k hk, fun k hk => ?_, fun i j hi hj hne => a4 i j hi hj hne, hh⟩
  · exact lt_of_cell hh
  · have hx : names12[k]? = some (names12[k]'hk) := List.getElem?_eq_getElem _
    simpa using World.var?_cell (global12 k _ hx).1 (a1 k _ hx) 0
  · obtain ⟨v, hv⟩ := a3 k hk
    exact lt_of_cell hv
end Go.Proofs.YtepnghacjggkkaaGreatDoor
namespace Go.Proofs.YtepnghacjggkkaaGreatDoor
set_option linter.unusedSectionVars false
variable [Inhabited ComV] [DecidableEq D3] [Inhabited D3] [Inhabited Dd] [Inhabited Dn] [Inhabited OpV]
end Go.Proofs.YtepnghacjggkkaaGreatDoor
