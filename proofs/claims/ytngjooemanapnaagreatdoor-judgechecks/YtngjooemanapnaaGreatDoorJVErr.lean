/- Closed facts on the model's entries for internal/reflectlite at this program's types, and three small laws on those that read or write memory; errors.As with a target of type **api.Fault: an error of errors.New's make is none (false); an api.Fault is one (true, and the target is set); All twelve sentinels and the type's handle: a predicate that every world of a call keeps; withoutPlace and checkList by their contracts, where something is wrong. -/
import Derived.Test.YtngjooemanapnaaGreatDoorJVIs
import Derived.Test.YtngjooemanapnaaGreatDoorJVCmpD
import Derived.Test.YtngjooemanapnaaGreatDoorJVMap
namespace Go.Proofs.YtngjooemanapnaaGreatDoor
open Go.RowKit Go.Extern.Stop Go.Stop Go.Extern

theorem Tryz.valueOf83 (t : Addr) (w : World) : (ent Tryz.f65 #[.iface 83 (.pointer (some t))]).run Tryz.prog w
    = .ok (.agg #[.pointer (some ⟨13, 83, none⟩), .pointer (some ⟨w.heap.size, 0, none⟩), .int .u64 150]) (w.alloc (.cells #[.pointer (some t)] 83)) := by kernel_rfl
theorem Tryz.valueOf81 (e : Addr) (w : World) : (ent Tryz.f65 #[.iface 81 (.pointer (some e))]).run Tryz.prog w
    = .ok (.agg #[.pointer (some ⟨13, 81, none⟩), .pointer (some ⟨w.heap.size, 0, none⟩), .int .u64 150]) (w.alloc (.cells #[.pointer (some e)] 81)) := by kernel_rfl
theorem Tryz.type83 (a : Addr) (w : World) : (ent Tryz.f66 #[.agg #[.pointer (some ⟨13, 83, none⟩), .pointer (some a), .int .u64 150]]).run Tryz.prog w
    = .ok (.iface 143 (.agg #[.pointer (some ⟨13, 83, none⟩)])) w := by kernel_rfl
theorem Tryz.methodKind (h : Value) (w : World) : (Go.method 355 143 (.agg #[h]) "Kind").run Tryz.prog w = .ok (162, h) w := by kernel_rfl
theorem Tryz.methodElem (h : Value) (w : World) : (Go.method 355 143 (.agg #[h]) "Elem").run Tryz.prog w = .ok (173, .agg #[h]) w := by kernel_rfl
theorem Tryz.methodImplements (h : Value) (w : World) : (Go.method 355 143 (.agg #[h]) "Implements").run Tryz.prog w = .ok (174, .agg #[h]) w := by kernel_rfl
theorem Tryz.methodAssignableTo (h : Value) (w : World) : (Go.method 355 143 (.agg #[h]) "AssignableTo").run Tryz.prog w = .ok (171, .agg #[h]) w := by kernel_rfl
theorem Tryz.kind83 (w : World) : (ent Tryz.f162 #[.pointer (some ⟨13, 83, none⟩)]).run Tryz.prog w = .ok (.int .u8 22) w := by kernel_rfl
theorem Tryz.kind81 (w : World) : (ent Tryz.f162 #[.pointer (some ⟨13, 81, none⟩)]).run Tryz.prog w = .ok (.int .u8 22) w := by kernel_rfl
theorem Tryz.elem83 (w : World) : (ent Tryz.f173 #[.agg #[.pointer (some ⟨13, 83, none⟩)]]).run Tryz.prog w = .ok (.iface 143 (.agg #[.pointer (some ⟨13, 81, none⟩)])) w := by kernel_rfl
theorem Tryz.implements81 (w : World) : (ent Tryz.f174 #[.agg #[.pointer (some ⟨13, 81, none⟩)], .iface 143 (.agg #[.pointer (some ⟨13, 27, none⟩)])]).run Tryz.prog w = .ok (.bool true) w := by kernel_rfl
theorem Tryz.typeOf81 (v : Value) (w : World) : (ent Tryz.f69 #[.iface 81 v]).run Tryz.prog w = .ok (.iface 143 (.agg #[.pointer (some ⟨13, 81, none⟩)])) w := by kernel_rfl
theorem Tryz.typeOf223 (v : Value) (w : World) : (ent Tryz.f69 #[.iface 223 v]).run Tryz.prog w = .ok (.iface 143 (.agg #[.pointer (some ⟨13, 223, none⟩)])) w := by kernel_rfl
theorem Tryz.assignable81 (w : World) : (ent Tryz.f171 #[.agg #[.pointer (some ⟨13, 81, none⟩)], .iface 143 (.agg #[.pointer (some ⟨13, 81, none⟩)])]).run Tryz.prog w = .ok (.bool true) w := by kernel_rfl
theorem Tryz.assignable223 (w : World) : (ent Tryz.f171 #[.agg #[.pointer (some ⟨13, 223, none⟩)], .iface 143 (.agg #[.pointer (some ⟨13, 81, none⟩)])]).run Tryz.prog w = .ok (.bool false) w := by kernel_rfl
theorem Tryz.ent67 : ent Tryz.f67 = ReflectliteValue.method (ReflectliteValue.valueError "reflectlite.Value.IsNil" 0) ReflectliteValue.isNil := by kernel_rfl
theorem Tryz.ent82 : ent Tryz.f82 = ReflectliteValue.method (ReflectliteValue.valueError "reflectlite.Value.Elem" 0) ReflectliteValue.elem := by kernel_rfl
theorem Tryz.ent83 : ent Tryz.f83 = ReflectliteValue.set := by kernel_rfl
theorem Tryz.parts83 (a : Addr) (w : World) : (ReflectliteValue.parts (.agg #[.pointer (some ⟨13, 83, none⟩), .pointer (some a), .int .u64 150])).run Tryz.prog w = .ok (some (83, a, 150)) w := by kernel_rfl
theorem Tryz.parts81a (a : Addr) (w : World) : (ReflectliteValue.parts (.agg #[.pointer (some ⟨13, 81, none⟩), .pointer (some a), .int .u64 406])).run Tryz.prog w = .ok (some (81, a, 406)) w := by kernel_rfl
theorem Tryz.parts81 (a : Addr) (w : World) : (ReflectliteValue.parts (.agg #[.pointer (some ⟨13, 81, none⟩), .pointer (some a), .int .u64 150])).run Tryz.prog w = .ok (some (81, a, 150)) w := by kernel_rfl
theorem Tryz.elemOf83 (w : World) : (Rtype.elem? 83).run Tryz.prog w = .ok (some 81) w := by kernel_rfl
theorem Tryz.mk81 (p : Addr) (w : World) : (ReflectliteValue.mk 81 p ReflectliteValue.flagAddr).run Tryz.prog w = .ok (.agg #[.pointer (some ⟨13, 81, none⟩), .pointer (some p), .int .u64 406]) w := by kernel_rfl
theorem Tryz.direct81 (w : World) : (Rtype.directlyAssignable 81 81).run Tryz.prog w = .ok true w := by kernel_rfl
theorem Tryz.isNil83 (a p : Addr) (W : World) (ha : W.cell? a = some (.pointer (some p))) :
    (ent Tryz.f67 #[.agg #[.pointer (some ⟨13, 83, none⟩), .pointer (some a), .int .u64 150]]).run Tryz.prog W = .ok (.bool false) W := by
  rw [Tryz.ent67]
  show (ReflectliteValue.parts (.agg #[.pointer (some ⟨13, 83, none⟩), .pointer (some a), .int .u64 150]) >>= _).run _ _ = _
  simp only [Sem.run_bind, Tryz.parts83, Result.andThen]
  simp [ReflectliteValue.isNil, loadVar, isAgg, underlying, Tryz.underlying83, ha, Result.andThen]
theorem Tryz.elemV83 (a p : Addr) (W : World) (ha : W.cell? a = some (.pointer (some p))) :
    (ent Tryz.f82 #[.agg #[.pointer (some ⟨13, 83, none⟩), .pointer (some a), .int .u64 150]]).run Tryz.prog W
      = .ok (.agg #[.pointer (some ⟨13, 81, none⟩), .pointer (some p), .int .u64 406]) W := by
  rw [Tryz.ent82]
  show (ReflectliteValue.parts (.agg #[.pointer (some ⟨13, 83, none⟩), .pointer (some a), .int .u64 150]) >>= _).run _ _ = _
  simp only [Sem.run_bind, Tryz.parts83, Result.andThen]
  simp [ReflectliteValue.elem, loadVar, isAgg, underlying, Tryz.underlying83, ha, Result.andThen, Tryz.elemOf83, Tryz.mk81]
theorem Tryz.set81 (ta b e : Addr) (old : Value) (W : World) (hb : W.cell? b = some (.pointer (some e))) (ht : W.cell? ta = some old) (hf : W.frozen? ta = false) :
    (ent Tryz.f83 #[.agg #[.pointer (some ⟨13, 81, none⟩), .pointer (some ta), .int .u64 406], .agg #[.pointer (some ⟨13, 81, none⟩), .pointer (some b), .int .u64 150]]).run Tryz.prog W
      = .ok (.tuple #[]) (W.setCell ta (.pointer (some e))) := by
  rw [Tryz.ent83]
  show (ReflectliteValue.parts (.agg #[.pointer (some ⟨13, 81, none⟩), .pointer (some ta), .int .u64 406]) >>= fun x => ReflectliteValue.parts (.agg #[.pointer (some ⟨13, 81, none⟩), .pointer (some b), .int .u64 150]) >>= _).run _ _ = _
  simp only [Sem.run_bind, Tryz.parts81a, Tryz.parts81, Result.andThen]
  simp [ReflectliteValue.flagAddr, loadVar, isAgg, underlying, Tryz.underlying81, hb, Result.andThen, Tryz.direct81, storeVar, Value.cells, storeCells, Addr.add]
  rw [run_store Tryz.prog W ta _ _ (by rfl)]
  simp [ht, hf]
end Go.Proofs.YtngjooemanapnaaGreatDoor
namespace Go.Proofs.YtngjooemanapnaaGreatDoor
open Go.RowKit Go.Extern.Stop Go.Stop Go.Extern

/-- errors.As(nil, target). -/
theorem as_nil (t : Value) (w : World) :
    Calls Tryz.prog 36 #[.nilIface, t] w fun e w' => e = .returned (.bool false) ∧ w' = w := by
  go_enter Tryz.func36, Tryz.ntmps36
  go_wp2
  go_ret
  exact ⟨rfl, rfl⟩
set_option maxHeartbeats 4000000 in
theorem as_hit (e t : Addr) (old : Value) (w : World) (hg : w.cell? ⟨12, 0, none⟩ = some (.iface 143 (.agg #[.pointer (some ⟨13, 27, none⟩)]))) (ht0 : w.cell? t = some old) (hf0 : w.frozen? t = false) :
    Calls Tryz.prog 36 #[.iface 81 (.pointer (some e)), .iface 83 (.pointer (some t))] w fun ev w' => ev = .returned (.bool true) ∧ w' = ((((w.alloc (.cells #[.pointer (some t)] 83)).alloc (.cells #[.pointer (some ⟨13, 83, none⟩), .pointer (some ⟨w.heap.size, 0, none⟩), .int .u64 150] 115)).alloc (.cells #[.pointer (some ⟨13, 83, none⟩), .pointer (some ⟨w.heap.size, 0, none⟩), .int .u64 150] 115)).alloc (.cells #[.pointer (some e)] 81)).setCell t (.pointer (some e)) := by
  have h46 := @run_callFunc_extern Tryz.prog 65 _ (ent Tryz.f65) Tryz.func65 (by kernel_rfl) (by kernel_rfl) (by kernel_rfl) (by kernel_rfl)
  have h47 := @run_callFunc_extern Tryz.prog 66 _ (ent Tryz.f66) Tryz.func66 (by kernel_rfl) (by kernel_rfl) (by kernel_rfl) (by kernel_rfl)
  have h48 := @run_callFunc_extern Tryz.prog 67 _ (ent Tryz.f67) Tryz.func67 (by kernel_rfl) (by kernel_rfl) (by kernel_rfl) (by kernel_rfl)
  have h118 := @run_callFunc_extern Tryz.prog 162 _ (ent Tryz.f162) Tryz.func162 (by kernel_rfl) (by kernel_rfl) (by kernel_rfl) (by kernel_rfl)
  have h131 := @run_callFunc_extern Tryz.prog 173 _ (ent Tryz.f173) Tryz.func173 (by kernel_rfl) (by kernel_rfl) (by kernel_rfl) (by kernel_rfl)
  have h132 := @run_callFunc_extern Tryz.prog 174 _ (ent Tryz.f174) Tryz.func174 (by kernel_rfl) (by kernel_rfl) (by kernel_rfl) (by kernel_rfl)
  have h50 := @run_callFunc_extern Tryz.prog 69 _ (ent Tryz.f69) Tryz.func69 (by kernel_rfl) (by kernel_rfl) (by kernel_rfl) (by kernel_rfl)
  have h129 := @run_callFunc_extern Tryz.prog 171 _ (ent Tryz.f171) Tryz.func171 (by kernel_rfl) (by kernel_rfl) (by kernel_rfl) (by kernel_rfl)
  have h62 := @run_callFunc_extern Tryz.prog 82 _ (ent Tryz.f82) Tryz.func82 (by kernel_rfl) (by kernel_rfl) (by kernel_rfl) (by kernel_rfl)
  have h63 := @run_callFunc_extern Tryz.prog 83 _ (ent Tryz.f83) Tryz.func83 (by kernel_rfl) (by kernel_rfl) (by kernel_rfl) (by kernel_rfl)
  have q0 := Tryz.valueOf83
  have q1 := Tryz.valueOf81
  have q2 := Tryz.type83
  have q3 := Tryz.methodKind
  have q4 := Tryz.methodElem
  have q5 := Tryz.methodImplements
  have q6 := Tryz.methodAssignableTo
  have q7 := Tryz.kind83
  have q8 := Tryz.kind81
  have q9 := Tryz.elem83
  have q10 := Tryz.implements81
  have q11 := Tryz.typeOf81
  have q12 := Tryz.typeOf223
  have q13 := Tryz.assignable81
  have q14 := Tryz.assignable223
  have q15 := Tryz.noAsE
  have q16 := Tryz.noUnwrapE
  have q17 := Tryz.noUnwrapsE
  have n8 := Tryz.isNil83 ⟨w.heap.size, 0, none⟩ t ((w.alloc (.cells #[.pointer (some t)] 83)).alloc (.cells #[.pointer (some ⟨13, 83, none⟩), .pointer (some ⟨w.heap.size, 0, none⟩), .int .u64 150] 115)) (by simp)
  have hlt : 12 < w.heap.size := by
    rcases Nat.lt_or_ge 12 w.heap.size with h | h
    · exact h
    · simp [World.cell?, Array.getElem?_eq_none h] at hg
  have hg2 : ((w.alloc (.cells #[.pointer (some t)] 83)).alloc (.cells #[.pointer (some ⟨13, 83, none⟩), .pointer (some ⟨w.heap.size, 0, none⟩), .int .u64 150] 115)).cell? ⟨12, 0, none⟩ = some (.iface 143 (.agg #[.pointer (some ⟨13, 27, none⟩)])) := by
    rw [World.cell?_alloc_lt _ _ ⟨12, 0, none⟩ (by simp; omega), World.cell?_alloc_lt _ _ ⟨12, 0, none⟩ hlt]; exact hg
  have el := Tryz.elemV83 ⟨w.heap.size, 0, none⟩ t (((w.alloc (.cells #[.pointer (some t)] 83)).alloc (.cells #[.pointer (some ⟨13, 83, none⟩), .pointer (some ⟨w.heap.size, 0, none⟩), .int .u64 150] 115)).alloc (.cells #[.pointer (some ⟨13, 83, none⟩), .pointer (some ⟨w.heap.size, 0, none⟩), .int .u64 150] 115)) (by rw [World.cell?_alloc_lt _ _ ⟨w.heap.size, 0, none⟩ (by simp; omega)]; simp)
  have htl : t.block < w.heap.size := by
    rcases Nat.lt_or_ge t.block w.heap.size with h | h
    · exact h
    · simp [World.cell?, Array.getElem?_eq_none h] at ht0
  have st := Tryz.set81 t ⟨w.heap.size + 1 + 1 + 1, 0, none⟩ e old ((((w.alloc (.cells #[.pointer (some t)] 83)).alloc (.cells #[.pointer (some ⟨13, 83, none⟩), .pointer (some ⟨w.heap.size, 0, none⟩), .int .u64 150] 115)).alloc (.cells #[.pointer (some ⟨13, 83, none⟩), .pointer (some ⟨w.heap.size, 0, none⟩), .int .u64 150] 115)).alloc (.cells #[.pointer (some e)] 81))
    (by rw [World.cell?_alloc_at _ _ _ _ (by simp)]; rfl)
    (by rw [World.cell?_alloc_lt _ _ t (by simp; omega), World.cell?_alloc_lt _ _ t (by simp; omega), World.cell?_alloc_lt _ _ t (by simp; omega), World.cell?_alloc_lt _ _ t htl]; exact ht0)
    (by rw [World.frozen?_alloc_old _ _ t (by simp; omega), World.frozen?_alloc_old _ _ t (by simp; omega), World.frozen?_alloc_old _ _ t (by simp; omega), World.frozen?_alloc_old _ _ t (Nat.ne_of_lt htl)]; exact hf0)
  go_enter Tryz.func36, Tryz.ntmps36
  go_wp2
  refine wp_loop_rounds 1 ?_
  rw [rounds_succ]
  go_wp2
  go_ret
  exact ⟨rfl, rfl⟩
set_option maxHeartbeats 4000000 in
theorem as_miss (e t : Addr) (w : World) (hg : w.cell? ⟨12, 0, none⟩ = some (.iface 143 (.agg #[.pointer (some ⟨13, 27, none⟩)]))) :
    Calls Tryz.prog 36 #[.iface 223 (.pointer (some e)), .iface 83 (.pointer (some t))] w fun ev w' => ev = .returned (.bool false) ∧ w' = ((w.alloc (.cells #[.pointer (some t)] 83)).alloc (.cells #[.pointer (some ⟨13, 83, none⟩), .pointer (some ⟨w.heap.size, 0, none⟩), .int .u64 150] 115)).alloc (.cells #[.pointer (some ⟨13, 83, none⟩), .pointer (some ⟨w.heap.size, 0, none⟩), .int .u64 150] 115) := by
  have h46 := @run_callFunc_extern Tryz.prog 65 _ (ent Tryz.f65) Tryz.func65 (by kernel_rfl) (by kernel_rfl) (by kernel_rfl) (by kernel_rfl)
  have h47 := @run_callFunc_extern Tryz.prog 66 _ (ent Tryz.f66) Tryz.func66 (by kernel_rfl) (by kernel_rfl) (by kernel_rfl) (by kernel_rfl)
  have h48 := @run_callFunc_extern Tryz.prog 67 _ (ent Tryz.f67) Tryz.func67 (by kernel_rfl) (by kernel_rfl) (by kernel_rfl) (by kernel_rfl)
  have h118 := @run_callFunc_extern Tryz.prog 162 _ (ent Tryz.f162) Tryz.func162 (by kernel_rfl) (by kernel_rfl) (by kernel_rfl) (by kernel_rfl)
  have h131 := @run_callFunc_extern Tryz.prog 173 _ (ent Tryz.f173) Tryz.func173 (by kernel_rfl) (by kernel_rfl) (by kernel_rfl) (by kernel_rfl)
  have h132 := @run_callFunc_extern Tryz.prog 174 _ (ent Tryz.f174) Tryz.func174 (by kernel_rfl) (by kernel_rfl) (by kernel_rfl) (by kernel_rfl)
  have h50 := @run_callFunc_extern Tryz.prog 69 _ (ent Tryz.f69) Tryz.func69 (by kernel_rfl) (by kernel_rfl) (by kernel_rfl) (by kernel_rfl)
  have h129 := @run_callFunc_extern Tryz.prog 171 _ (ent Tryz.f171) Tryz.func171 (by kernel_rfl) (by kernel_rfl) (by kernel_rfl) (by kernel_rfl)
  have h62 := @run_callFunc_extern Tryz.prog 82 _ (ent Tryz.f82) Tryz.func82 (by kernel_rfl) (by kernel_rfl) (by kernel_rfl) (by kernel_rfl)
  have h63 := @run_callFunc_extern Tryz.prog 83 _ (ent Tryz.f83) Tryz.func83 (by kernel_rfl) (by kernel_rfl) (by kernel_rfl) (by kernel_rfl)
  have q0 := Tryz.valueOf83
  have q1 := Tryz.valueOf81
  have q2 := Tryz.type83
  have q3 := Tryz.methodKind
  have q4 := Tryz.methodElem
  have q5 := Tryz.methodImplements
  have q6 := Tryz.methodAssignableTo
  have q7 := Tryz.kind83
  have q8 := Tryz.kind81
  have q9 := Tryz.elem83
  have q10 := Tryz.implements81
  have q11 := Tryz.typeOf81
  have q12 := Tryz.typeOf223
  have q13 := Tryz.assignable81
  have q14 := Tryz.assignable223
  have q15 := Tryz.noAsE
  have q16 := Tryz.noUnwrapE
  have q17 := Tryz.noUnwrapsE
  have n8 := Tryz.isNil83 ⟨w.heap.size, 0, none⟩ t ((w.alloc (.cells #[.pointer (some t)] 83)).alloc (.cells #[.pointer (some ⟨13, 83, none⟩), .pointer (some ⟨w.heap.size, 0, none⟩), .int .u64 150] 115)) (by simp)
  have hlt : 12 < w.heap.size := by
    rcases Nat.lt_or_ge 12 w.heap.size with h | h
    · exact h
    · simp [World.cell?, Array.getElem?_eq_none h] at hg
  have hg2 : ((w.alloc (.cells #[.pointer (some t)] 83)).alloc (.cells #[.pointer (some ⟨13, 83, none⟩), .pointer (some ⟨w.heap.size, 0, none⟩), .int .u64 150] 115)).cell? ⟨12, 0, none⟩ = some (.iface 143 (.agg #[.pointer (some ⟨13, 27, none⟩)])) := by
    rw [World.cell?_alloc_lt _ _ ⟨12, 0, none⟩ (by simp; omega), World.cell?_alloc_lt _ _ ⟨12, 0, none⟩ hlt]; exact hg
  go_enter Tryz.func36, Tryz.ntmps36
  go_wp2
  refine wp_loop_rounds 1 ?_
  rw [rounds_succ]
  go_wp2
  go_ret
  exact ⟨rfl, rfl⟩
end Go.Proofs.YtngjooemanapnaaGreatDoor
namespace Go.Proofs.YtngjooemanapnaaGreatDoor
open Go.RowKit

structure Sents (A : Nat → Addr) (B : Nat) (w : World) : Prop where
  gl : 13 ≤ B
  size : B ≤ w.heap.size
  cell : ∀ k, k < 12 → w.cell? ⟨gix k, 0, none⟩ = some (.iface 223 (.pointer (some (A k))))
  row : ∀ k, k < 12 → ∃ c t, w.heap[(A k).block]? = some (.cells c t (0, 0))
  lt : ∀ k, k < 12 → (A k).block < B
  ne : ∀ i j, i < 12 → j < 12 → i ≠ j → A i ≠ A j
  handle : w.cell? ⟨12, 0, none⟩ = some (.iface 143 (.agg #[.pointer (some ⟨13, 27, none⟩)]))
theorem Sents.below {A : Nat → Addr} {B : Nat} {w w' : World} (h : Sents A B w) (hb : Below B w w') : Sents A B w' where
  gl := h.gl
  size := Nat.le_trans h.size hb.size
  cell := fun k hk => by rw [hb.cell (p := ⟨gix k, 0, none⟩) (by have := h.gl; have := gix_lt k; show gix k < B; omega)]; exact h.cell k hk
  row := fun k hk => by rw [hb.block _ (h.lt k hk)]; exact h.row k hk
  lt := h.lt
  ne := h.ne
  handle := by rw [hb.cell (p := ⟨12, 0, none⟩) (by have := h.gl; show 12 < B; omega)]; exact h.handle
theorem Sents.e4 {A : Nat → Addr} {B : Nat} {w : World} (h : Sents A B w) : E4 A w := ⟨h.cell 1 (by decide), h.cell 2 (by decide), h.cell 3 (by decide), h.cell 11 (by decide)⟩
/-- What values hands out, and what errors.As reads. -/
structure E5 (A : Nat → Addr) (w : World) : Prop where
  e4 : E4 A w
  handle : w.cell? ⟨12, 0, none⟩ = some (.iface 143 (.agg #[.pointer (some ⟨13, 27, none⟩)]))
theorem E5.size {A : Nat → Addr} {w : World} (h : E5 A w) : 13 ≤ w.heap.size := lt_of_cell h.handle
theorem E5.below {A : Nat → Addr} {B : Nat} {w w' : World} (h : E5 A w) (hb : Below B w w') (hB : 13 ≤ B) : E5 A w' :=
  ⟨h.e4.below hb (by omega), by rw [hb.cell (p := ⟨12, 0, none⟩) (by show 12 < B; omega)]; exact h.handle⟩
theorem Sents.e5 {A : Nat → Addr} {B : Nat} {w : World} (h : Sents A B w) : E5 A w := ⟨h.e4, h.handle⟩
end Go.Proofs.YtngjooemanapnaaGreatDoor
namespace Go.Proofs.YtngjooemanapnaaGreatDoor
open Go.RowKit
set_option maxRecDepth 100000
set_option linter.unusedSectionVars false
variable [Inhabited ComV] [DecidableEq D3] [Inhabited D3] [Inhabited Dd] [Inhabited OpV]

abbrev hnd : Value := .iface 143 (.agg #[.pointer (some ⟨13, 27, none⟩)])
set_option maxHeartbeats 1000000 in
theorem without_sent (w : World) (a : Addr) (hg : w.cell? ⟨12, 0, none⟩ = some hnd) : Calls Tryz.prog 42 #[.iface 223 (.pointer (some a))] w fun e w' => e = .returned (.iface 223 (.pointer (some a))) ∧ Below w.heap.size w w' := by
  have HG := hid hg
  clear hg
  go_enter Tryz.func42, Tryz.ntmps42
  go_wp2_with (go_at_call 36; refine (as_miss _ _ _ (cell_alloc HG.out _)).mono ?_; rintro e w' ⟨rfl, rfl⟩)
  go_ret
  refine ⟨rfl, ?_⟩
  go_grown
set_option maxHeartbeats 1000000 in
theorem without_fault (w : World) (pb : Nat) (a : Addr) (hg : w.cell? ⟨12, 0, none⟩ = some hnd) (c1 : w.cell? ⟨pb, 1, none⟩ = some (.iface 223 (.pointer (some a)))) : Calls Tryz.prog 42 #[.iface 81 (.pointer (some ⟨pb, 0, none⟩))] w fun e w' => e = .returned (.iface 223 (.pointer (some a))) ∧ Below w.heap.size w w' := by
  have HG := hid hg
  have hpl : pb < w.heap.size := lt_of_cell c1
  have f1 : ∀ o1 o2 o3 o4 o5, (((((w.alloc o1).alloc o2).alloc o3).alloc o4).alloc o5).cell? ⟨pb, 1, none⟩ = some (.iface 223 (.pointer (some a))) := fun _ _ _ _ _ => (cell_alloc (cell_alloc (cell_alloc (cell_alloc (cell_alloc c1 _) _) _) _) _)
  have hne : w.heap.size ≠ pb := by omega
  clear hg c1
  go_enter Tryz.func42, Tryz.ntmps42
  go_wp2_with (go_at_call 36; refine (as_hit _ _ (.pointer none) _ (cell_alloc HG.out _) (by simp) (by simp)).mono ?_; rintro e w' ⟨rfl, rfl⟩)
  go_ret
  refine ⟨rfl, ?_⟩
  go_grown
end Go.Proofs.YtngjooemanapnaaGreatDoor
