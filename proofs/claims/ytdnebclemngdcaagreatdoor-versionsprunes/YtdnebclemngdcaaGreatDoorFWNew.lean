/- New: an empty store. -/
import Derived.Test.YtdnebclemngdcaaGreatDoorFWState
import Derived.Test.YtdnebclemngdcaaGreatDoorFVMath
import Derived.Maps.OwnSet
namespace Go.Proofs.YtdnebclemngdcaaGreatDoor
open Go.RowKit Go.Sort Go.Maps
set_option maxRecDepth 100000
set_option linter.unusedSectionVars false
variable [Inhabited ComV] [DecidableEq D3] [Inhabited D3] [Inhabited Dd] [Inhabited Dn] [Inhabited OpV]

theorem Tryz.info3n : (Tryz.prog.info? 3).map (fun i => (i.zero, i.size, i.bytes)) = some (some (.int .i64 0), 1, 8) := by kernel_rfl
theorem new_bad (A : Nat → Addr) (w : World) (hE : E4 A w) (n : Int) (h : n < 1 ∨ 6 < n) : Calls Tryz.prog 8 #[.int .i64 n] w fun e w' => e = .returned (.tuple #[.pointer none, .iface 255 (.pointer (some (A 1)))]) ∧ Below w.heap.size w w' := by
  have c0 := hE.bound
  clear hE
  by_cases h1 : n < 1
  · go_enter Tryz.func8, Tryz.ntmps8
    go_wp2
    go_region
    go_wp2
    go_ret2
    exact ⟨rfl, (Below.refl _ _).drew⟩
  · have h2 : 6 < n := by omega
    clear h
    go_enter Tryz.func8, Tryz.ntmps8
    go_wp2
    go_region
    go_wp2
    go_ret2
    exact ⟨rfl, (Below.refl _ _).drew⟩
theorem ver_new {w w1 : World} {n : Nat} (ho : w1.ownsRow w.heap.size 3 1 (.slice (some ⟨w.heap.size, 0, none⟩) n n) n (madeCells #[Value.int .i64 0] n).toList) :
    VerAt (((w1.alloc (.map #[] 0)).alloc (.map #[] 0)).alloc (.cells #[.slice (some ⟨w.heap.size, 0, none⟩) n n, .map (some w1.heap.size), .map (some (w1.heap.size + 1))] 83)) (w1.heap.size + 1 + 1) w1.heap.size (w1.heap.size + 1) (fun _ => .slice none 0 0) ⟨List.replicate n 0, [], []⟩ 0 := by
  refine ⟨⟨.slice (some ⟨w.heap.size, 0, none⟩) n n, ?_, ?_⟩, ⟨.map [], ?_, fun d _ => rfl⟩, ⟨.map [], ?_, fun k => ⟨rfl, rfl⟩⟩, fun k => ⟨[], World.ownsRow_nil _ _ _ _, trivial⟩, fun k k' _ b hb => (by cases hb), by omega⟩
  · have := (MapKept.heap_alloc ((w1.alloc (.map #[] 0)).alloc (.map #[] 0)) (.cells #[.slice (some ⟨w.heap.size, 0, none⟩) n n, .map (some w1.heap.size), .map (some (w1.heap.size + 1))] 83)).1
    rwa [World.size_alloc, World.size_alloc] at this
  · have h3 := ((ho.alloc (.map #[] 0)).alloc (.map #[] 0)).alloc (.cells #[.slice (some ⟨w.heap.size, 0, none⟩) n n, .map (some w1.heap.size), .map (some (w1.heap.size + 1))] 83)
    rw [toList_madeCells_one] at h3
    unfold IntsT
    refine rowT_of_owns (base := w.heap.size) (n := n) ?_ (by simp) (fun r hr => by obtain ⟨_, _, rfl⟩ := List.mem_map.1 hr; rfl)
    have e : ((List.replicate n (0 : Int)).map fun z => [Value.int .i64 z]).flatten = List.replicate n (Value.int .i64 0) := by
      rw [List.map_replicate]
      exact List.flatten_replicate_singleton
    rw [e]
    exact h3
  · have := ((World.ownsMap_made (w1.alloc (.map #[] 0)) Tryz.prog 87 (unitElem (H := Unit))).alloc (.cells #[.slice (some ⟨w.heap.size, 0, none⟩) n n, .map (some w1.heap.size), .map (some (w1.heap.size + 1))] 83))
    rwa [World.size_alloc] at this
  · exact ((World.ownsMap_made w1 Tryz.prog 9 sliceElem).alloc _).alloc _
set_option maxHeartbeats 1000000 in
theorem new_ok (w : World) (n : Nat) (h1 : 1 ≤ n) (h6 : n ≤ 6) : Calls Tryz.prog 8 #[.int .i64 n] w fun e w' => ∃ p mb db, e = .returned (.tuple #[.pointer (some ⟨p, 0, none⟩), .nilIface]) ∧ w.heap.size ≤ p ∧ w.heap.size ≤ mb ∧ w.heap.size ≤ db ∧ VerAt w' p mb db (fun _ => .slice none 0 0) ⟨List.replicate n 0, [], []⟩ 0 ∧ Below w.heap.size w w' := by
  obtain ⟨i0, hi, hz0, hz1, hz2⟩ := info_parts Tryz.info3n
  have hn1 : ¬ (n : Int) < 1 := by omega
  have hn6 : ¬ 6 < (n : Int) := by omega
  have hmm := @run_makeMap Tryz.prog
  go_enter Tryz.func8, Tryz.ntmps8
  go_wp2_with (refine wpList_make_full _ rfl _ _ 23 rfl w.heap.size 3 i0 (.int .i64 0) 1 Tryz.underlying23 hi hz0 hz1 .i64 .i64 _ _ n rfl rfl rfl rfl ?b2 ?b3 ?b4 ?_)
  case b2 => omega
  case b3 => unfold maxLen; omega
  intro w1 hown hgrow
  have HO := hid hown
  have HG := hid hgrow
  clear hown hgrow
  go_wp2
  go_ret2
  have hs := HG.out.size
  have hb : Below w.heap.size w w1 := ⟨HG.out.os, HG.out.tape, HG.out.output, HG.out.size, fun i hi => HG.out.block i hi (by simp)⟩
  exact ⟨w1.heap.size + 1 + 1, w1.heap.size, w1.heap.size + 1, rfl, by omega, by omega, by omega, ver_new HO.out, ((hb.alloc hb.size _).alloc (by simp; omega) _).alloc (by simp; omega) _⟩
end Go.Proofs.YtdnebclemngdcaaGreatDoor
