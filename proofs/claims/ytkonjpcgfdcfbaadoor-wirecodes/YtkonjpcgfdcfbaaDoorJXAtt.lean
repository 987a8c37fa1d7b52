/- attempt: what is thrown is caught. -/
import Derived.Test.YtkonjpcgfdcfbaaDoorJXSt
import Derived.Defers
import Derived.Recover
namespace Go.Proofs.YtkonjpcgfdcfbaaDoor
open Go.RowKit
set_option maxRecDepth 100000

theorem run_ta_hit {P : Program} (t xT : TypeId) (v : Value) (fs : Array Field) (h : P.underlying t = some (.struct fs)) (w : World) : (Instr.typeAssert (.iface t v) xT t true).run P w = .ok (.tuple #[v, .bool true]) w := by
  simp [Instr.typeAssert, run_underlying h, go_sem, Result.andThen]
theorem run_ta_nil {P : Program} (t xT : TypeId) (z : Value) (fs : Array Field) (h : P.underlying t = some (.struct fs)) (hz : ∀ w, (zeroValue t).run P w = .ok z w) (w : World) : (Instr.typeAssert .nilIface xT t true).run P w = .ok (.tuple #[z, .bool false]) w := by
  simp [Instr.typeAssert, run_underlying h, go_sem, Result.andThen, hz]

set_option maxHeartbeats 1000000 in
theorem catch_idle (p : Addr) (w : World) :
    CallsD Tryd.prog 32 #[.pointer (some p)] .returning w fun e u' w' => e = .returned (.tuple #[]) ∧ u' = .returning ∧ Below w.heap.size w w' := by
  have h0 := run_ta_nil 75 20 _ _ Tryd.underlying75 Tryd.zeroValue75
  refine callsD_of_wpS Tryd.func32 rfl fun c₀ cs hu => ?_
  apply wpS_seq
  apply wpS_region
  simp [wpOpsS, go_sem, recoverD, hu, Tryd.ntmps32, Exit.thenS, Array.replicate, List.replicate]
  refine wpS_of_wp ?_
  go_wp2
  cases c₀
  simp_all [bodyPostS, results, Tryd.results32]
  exact below_alloc _ _
set_option maxHeartbeats 1000000 in
theorem catch_thrown (b : Nat) (t : TypeId) (q : Option Addr) (older : List PanicEntry) (w : World) (hc : w.cell? ⟨b, 0, none⟩ = some .nilIface) (hz : w.frozen? ⟨b, 0, none⟩ = false) :
    CallsD Tryd.prog 32 #[.pointer (some ⟨b, 0, none⟩)] (.panicking ({ v := .iface 75 (.agg #[.iface t (.pointer q)]), recovered := false } :: older)) w fun e u' w' =>
      e = .returned (.tuple #[]) ∧ u' = .panicking ({ v := .iface 75 (.agg #[.iface t (.pointer q)]), recovered := true } :: older) ∧ w' = (w.alloc (.cells #[.iface t (.pointer q)] 75)).setCell ⟨b, 0, none⟩ (.iface t (.pointer q)) := by
  have hca := fun o => cell_alloc hc o
  have hza : ∀ o, (w.alloc o).frozen? ⟨b, 0, none⟩ = false := fun o => by rw [Below.frozen (below_alloc w o) (p := ⟨b, 0, none⟩) (lt_of_cell hc)]; exact hz
  have h1 := run_ta_hit 75 20 (.agg #[.iface t (.pointer q)]) _ Tryd.underlying75
  refine callsD_of_wpS Tryd.func32 rfl fun c₀ cs hu => ?_
  apply wpS_seq
  apply wpS_region
  simp [wpOpsS, go_sem, recoverD, hu, Tryd.ntmps32, Exit.thenS, Array.replicate, List.replicate]
  refine wpS_of_wp ?_
  go_wp2
  cases c₀
  simp_all [bodyPostS, results, Tryd.results32]

/-- attempt where what it does comes back. -/
theorem attempt_ok25 (p q : Addr) (w : World) (R : World → Prop) (hf : Calls Tryd.prog 25 #[.pointer (some p), .pointer (some q)] (w.alloc (.cells #[.nilIface] 31)) fun e w' => e = .returned (.tuple #[]) ∧ w'.heap[w.heap.size]? = some (.cells #[.nilIface] 31 (0, 0)) ∧ R w') :
    Calls Tryd.prog 17 #[.func (.func 25) #[] #[.pointer (some p), .pointer (some q)]] w fun e w' => e = .returned .nilIface ∧ ∃ w1, R w1 ∧ w1.heap[w.heap.size]? = some (.cells #[.nilIface] 31 (0, 0)) ∧ Aside w.heap.size w1.heap.size w1 w' := by
  have hmf : ∀ (fn : Fn) (first cap : Array Value) (w : World), (Instr.makeFunc fn first cap).run Tryd.prog w = .ok (.func fn first cap) w := fun _ _ _ _ => rfl
  have K := hid hf
  clear hf
  go_enter_defers Tryd.func17, Tryd.ntmps17
  go_wp2_with fail
  refine K.out.mono ?_
  rintro e w1 ⟨rfl, hb, hr⟩
  have c1 : w1.cell? ⟨w.heap.size, 0, none⟩ = some .nilIface := by rw [cell_of hb]; rfl
  have z1 : w1.frozen? ⟨w.heap.size, 0, none⟩ = false := free_of hb
  have HB := hid hb
  clear hb
  go_wp2
  refine leaves_cons (f := 32) (args := #[.pointer (some ⟨w.heap.size, 0, none⟩)]) (by simp) (by simp [go_sem]) ?_
  refine (catch_idle ⟨w.heap.size, 0, none⟩ _).mono ?_
  rintro e u' w2 ⟨rfl, rfl, hb2⟩
  have hlt := lt_of_heap HB.out
  have hs : (w1.setCell ⟨w.heap.size, 0, none⟩ .nilIface).heap.size = w1.heap.size := by simp [World.setCell]
  have c2 : w2.cell? ⟨w.heap.size, 0, none⟩ = some .nilIface := by
    rw [hb2.cell (p := ⟨w.heap.size, 0, none⟩) (by rw [hs]; exact hlt), cell_of (heap_set HB.out _)]
    rfl
  have HF : Hid (Aside w.heap.size w1.heap.size w1 w2) := ((Aside.refl w.heap.size w1.heap.size w1).set (p := ⟨w.heap.size, 0, none⟩) (.inl rfl) _).then hb2 (by rw [hs]; exact Nat.le_refl _)
  clear hb2 hs
  simp [Leaves, settle, results, Tryd.results17, go_sem, c2]
  exact ⟨w1, hr, HB.out, HF.out⟩
/-- attempt where what it does throws. -/
theorem attempt_bad25 (p q : Addr) (w : World) (t : TypeId) (a : Option Addr) (R : World → Prop) (hf : Calls Tryd.prog 25 #[.pointer (some p), .pointer (some q)] (w.alloc (.cells #[.nilIface] 31)) fun e w' => e = thrown (.iface t (.pointer a)) ∧ w'.heap[w.heap.size]? = some (.cells #[.nilIface] 31 (0, 0)) ∧ R w') :
    Calls Tryd.prog 17 #[.func (.func 25) #[] #[.pointer (some p), .pointer (some q)]] w fun e w' => e = .returned (.iface t (.pointer a)) ∧ ∃ w1, R w1 ∧ w1.heap[w.heap.size]? = some (.cells #[.nilIface] 31 (0, 0)) ∧ Aside w.heap.size w1.heap.size w1 w' := by
  have hmf : ∀ (fn : Fn) (first cap : Array Value) (w : World), (Instr.makeFunc fn first cap).run Tryd.prog w = .ok (.func fn first cap) w := fun _ _ _ _ => rfl
  have K := hid hf
  clear hf
  go_enter_defers Tryd.func17, Tryd.ntmps17
  go_wp2_with fail
  refine K.out.mono ?_
  rintro e w1 ⟨rfl, hb, hr⟩
  have c1 : w1.cell? ⟨w.heap.size, 0, none⟩ = some .nilIface := by rw [cell_of hb]; rfl
  have z1 : w1.frozen? ⟨w.heap.size, 0, none⟩ = false := free_of hb
  have HB := hid hb
  clear hb
  go_wp2
  refine leaves_cons (f := 32) (args := #[.pointer (some ⟨w.heap.size, 0, none⟩)]) (by simp) (by simp [go_sem]) ?_
  refine (catch_thrown w.heap.size t a [] w1 c1 z1).mono ?_
  rintro e u' w2 ⟨rfl, rfl, hw2⟩
  have hlt := lt_of_heap HB.out
  have c2 : w2.cell? ⟨w.heap.size, 0, none⟩ = some (.iface t (.pointer a)) := by
    rw [hw2, cell_of (heap_set (heap_old HB.out _) _)]
    rfl
  have HF : Hid (Aside w.heap.size w1.heap.size w1 w2) := by
    show Aside _ _ _ _
    rw [hw2]
    exact ((Aside.refl w.heap.size w1.heap.size w1).alloc (Nat.le_refl _) _).set (p := ⟨w.heap.size, 0, none⟩) (.inl rfl) _
  clear hw2
  simp [Leaves, settle, results, Tryd.results17, go_sem, c2]
  exact ⟨w1, hr, HB.out, HF.out⟩
/-- attempt where what it does comes back. -/
theorem attempt_ok18 (p q : Addr) (w : World) (R : World → Prop) (hf : Calls Tryd.prog 18 #[.pointer (some p), .pointer (some q)] (w.alloc (.cells #[.nilIface] 31)) fun e w' => e = .returned (.tuple #[]) ∧ w'.heap[w.heap.size]? = some (.cells #[.nilIface] 31 (0, 0)) ∧ R w') :
    Calls Tryd.prog 17 #[.func (.func 18) #[] #[.pointer (some p), .pointer (some q)]] w fun e w' => e = .returned .nilIface ∧ ∃ w1, R w1 ∧ w1.heap[w.heap.size]? = some (.cells #[.nilIface] 31 (0, 0)) ∧ Aside w.heap.size w1.heap.size w1 w' := by
  have hmf : ∀ (fn : Fn) (first cap : Array Value) (w : World), (Instr.makeFunc fn first cap).run Tryd.prog w = .ok (.func fn first cap) w := fun _ _ _ _ => rfl
  have K := hid hf
  clear hf
  go_enter_defers Tryd.func17, Tryd.ntmps17
  go_wp2_with fail
  refine K.out.mono ?_
  rintro e w1 ⟨rfl, hb, hr⟩
  have c1 : w1.cell? ⟨w.heap.size, 0, none⟩ = some .nilIface := by rw [cell_of hb]; rfl
  have z1 : w1.frozen? ⟨w.heap.size, 0, none⟩ = false := free_of hb
  have HB := hid hb
  clear hb
  go_wp2
  refine leaves_cons (f := 32) (args := #[.pointer (some ⟨w.heap.size, 0, none⟩)]) (by simp) (by simp [go_sem]) ?_
  refine (catch_idle ⟨w.heap.size, 0, none⟩ _).mono ?_
  rintro e u' w2 ⟨rfl, rfl, hb2⟩
  have hlt := lt_of_heap HB.out
  have hs : (w1.setCell ⟨w.heap.size, 0, none⟩ .nilIface).heap.size = w1.heap.size := by simp [World.setCell]
  have c2 : w2.cell? ⟨w.heap.size, 0, none⟩ = some .nilIface := by
    rw [hb2.cell (p := ⟨w.heap.size, 0, none⟩) (by rw [hs]; exact hlt), cell_of (heap_set HB.out _)]
    rfl
  have HF : Hid (Aside w.heap.size w1.heap.size w1 w2) := ((Aside.refl w.heap.size w1.heap.size w1).set (p := ⟨w.heap.size, 0, none⟩) (.inl rfl) _).then hb2 (by rw [hs]; exact Nat.le_refl _)
  clear hb2 hs
  simp [Leaves, settle, results, Tryd.results17, go_sem, c2]
  exact ⟨w1, hr, HB.out, HF.out⟩
/-- attempt where what it does throws. -/
theorem attempt_bad18 (p q : Addr) (w : World) (t : TypeId) (a : Option Addr) (R : World → Prop) (hf : Calls Tryd.prog 18 #[.pointer (some p), .pointer (some q)] (w.alloc (.cells #[.nilIface] 31)) fun e w' => e = thrown (.iface t (.pointer a)) ∧ w'.heap[w.heap.size]? = some (.cells #[.nilIface] 31 (0, 0)) ∧ R w') :
    Calls Tryd.prog 17 #[.func (.func 18) #[] #[.pointer (some p), .pointer (some q)]] w fun e w' => e = .returned (.iface t (.pointer a)) ∧ ∃ w1, R w1 ∧ w1.heap[w.heap.size]? = some (.cells #[.nilIface] 31 (0, 0)) ∧ Aside w.heap.size w1.heap.size w1 w' := by
  have hmf : ∀ (fn : Fn) (first cap : Array Value) (w : World), (Instr.makeFunc fn first cap).run Tryd.prog w = .ok (.func fn first cap) w := fun _ _ _ _ => rfl
  have K := hid hf
  clear hf
  go_enter_defers Tryd.func17, Tryd.ntmps17
  go_wp2_with fail
  refine K.out.mono ?_
  rintro e w1 ⟨rfl, hb, hr⟩
  have c1 : w1.cell? ⟨w.heap.size, 0, none⟩ = some .nilIface := by rw [cell_of hb]; rfl
  have z1 : w1.frozen? ⟨w.heap.size, 0, none⟩ = false := free_of hb
  have HB := hid hb
  clear hb
  go_wp2
  refine leaves_cons (f := 32) (args := #[.pointer (some ⟨w.heap.size, 0, none⟩)]) (by simp) (by simp [go_sem]) ?_
  refine (catch_thrown w.heap.size t a [] w1 c1 z1).mono ?_
  rintro e u' w2 ⟨rfl, rfl, hw2⟩
  have hlt := lt_of_heap HB.out
  have c2 : w2.cell? ⟨w.heap.size, 0, none⟩ = some (.iface t (.pointer a)) := by
    rw [hw2, cell_of (heap_set (heap_old HB.out _) _)]
    rfl
  have HF : Hid (Aside w.heap.size w1.heap.size w1 w2) := by
    show Aside _ _ _ _
    rw [hw2]
    exact ((Aside.refl w.heap.size w1.heap.size w1).alloc (Nat.le_refl _) _).set (p := ⟨w.heap.size, 0, none⟩) (.inl rfl) _
  clear hw2
  simp [Leaves, settle, results, Tryd.results17, go_sem, c2]
  exact ⟨w1, hr, HB.out, HF.out⟩
end Go.Proofs.YtkonjpcgfdcfbaaDoor
