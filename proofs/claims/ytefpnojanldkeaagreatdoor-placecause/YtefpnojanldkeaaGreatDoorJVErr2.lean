/- errors.Is and errors.As by their contracts, at errors of errors.New's make and at one api.Fault around such an error; Closed facts on the model's entries for internal/reflectlite at this program's types, and three small laws on those that read or write memory; errors.As with a target of type **api.Fault: an error of errors.New's make is none (false); an api.Fault is one (true, and the target is set); withoutPlace and checkList by their contracts, where something is wrong; checkList, opsOn, Of and Dots by their contracts, where something is wrong. -/
import Derived.Test.YtefpnojanldkeaaGreatDoorProg
import Derived.Test.YtefpnojanldkeaaGreatDoorJVVec
import Derived.Test.YtefpnojanldkeaaGreatDoorJVStandM
import Derived.WalkKit
import Derived.LaidEql
import Derived.Stop.Asserts
import Derived.RowKitTokens
import Derived.Test.YtefpnojanldkeaaGreatDoorJVOnceM
import Derived.Test.YtefpnojanldkeaaGreatDoorJVOp
import Derived.Test.YtefpnojanldkeaaGreatDoorJVRefN
import Derived.Test.YtefpnojanldkeaaGreatDoorJVMap
import Derived.Test.YtefpnojanldkeaaGreatDoorJVRow
namespace Go.Proofs.YtefpnojanldkeaaGreatDoor
open Go.RowKit Go.Extern.Stop Go.Stop Go.Extern
set_option linter.unusedSectionVars false
variable [Inhabited ComV] [DecidableEq D3] [Inhabited D3] [Inhabited Dd] [Inhabited Dn] [Inhabited OpV]

/-- The model's entry for a function without a body. -/
def ent (f : Func) : Array Value → Sem Value := (Extern.find f).getD fun _ => pure .nilIface
theorem Tryz.isTypeOf (v : Value) (w : World) : (Extern.ReflectliteType.typeOf #[.iface 238 v]).run Tryz.prog w = .ok (.iface 187 (.agg #[.pointer (some ⟨13, 238, none⟩)])) w := by kernel_rfl
theorem Tryz.isComparable (w : World) : ((ent Tryz.f181) #[.agg #[.pointer (some ⟨13, 238, none⟩)]]).run Tryz.prog w = .ok (.bool true) w := by kernel_rfl
theorem Tryz.isMethodComparable (v : Value) (w : World) : (Go.method 369 187 v "Comparable").run Tryz.prog w = .ok (181, v) w := by kernel_rfl
theorem Tryz.isComp : (Tryz.prog.info? 238).map (·.comparable) = some true := by kernel_rfl
theorem Tryz.isSize : (Tryz.prog.info? 258).map (·.size) = some 1 := by kernel_rfl
theorem Tryz.noIsE (v : Value) (xT : TypeId) (w : World) : (Instr.typeAssert (.iface 238 v) xT 198 true).run Tryz.prog w = .ok (.tuple #[.nilIface, .bool false]) w := run_typeAssert_lacksB Tryz.underlying198 (by kernel_rfl) (by kernel_rfl) v xT w
theorem Tryz.noUnwrapE (v : Value) (xT : TypeId) (w : World) : (Instr.typeAssert (.iface 238 v) xT 194 true).run Tryz.prog w = .ok (.tuple #[.nilIface, .bool false]) w := run_typeAssert_lacksB Tryz.underlying194 (by kernel_rfl) (by kernel_rfl) v xT w
theorem Tryz.noUnwrapsE (v : Value) (xT : TypeId) (w : World) : (Instr.typeAssert (.iface 238 v) xT 196 true).run Tryz.prog w = .ok (.tuple #[.nilIface, .bool false]) w := run_typeAssert_lacksB Tryz.underlying196 (by kernel_rfl) (by kernel_rfl) v xT w
theorem Tryz.noAsE (v : Value) (xT : TypeId) (w : World) : (Instr.typeAssert (.iface 238 v) xT 191 true).run Tryz.prog w = .ok (.tuple #[.nilIface, .bool false]) w := run_typeAssert_lacksB Tryz.underlying191 (by kernel_rfl) (by kernel_rfl) v xT w
theorem Tryz.noIsF (v : Value) (xT : TypeId) (w : World) : (Instr.typeAssert (.iface 113 v) xT 198 true).run Tryz.prog w = .ok (.tuple #[.nilIface, .bool false]) w := run_typeAssert_lacksB Tryz.underlying198 (by kernel_rfl) (by kernel_rfl) v xT w
theorem Tryz.hasUnwrapF (v : Value) (xT : TypeId) (w : World) : (Instr.typeAssert (.iface 113 v) xT 194 true).run Tryz.prog w = .ok (.tuple #[.iface 113 v, .bool true]) w := run_typeAssert_hasB Tryz.underlying194 (by kernel_rfl) v xT w
theorem Tryz.methodUnwrap (v : Value) (w : World) : (Go.method 369 113 v "Unwrap").run Tryz.prog w = .ok (175, v) w := by kernel_rfl
/-- errors.Is(x, x). -/
theorem is_same (a : Addr) (w : World) :
    Calls Tryz.prog 75 #[.iface 238 (.pointer (some a)), .iface 238 (.pointer (some a))] w fun e w' => e = .returned (.bool true) ∧ w' = w := by
  obtain ⟨i, hi, hcmp⟩ := Option.map_eq_some_iff.1 Tryz.isComp
  obtain ⟨j, hj, hjs⟩ := Option.map_eq_some_iff.1 Tryz.isSize
  have h50 := @run_callFunc_extern Tryz.prog 91 _ Extern.ReflectliteType.typeOf Tryz.func91 (by kernel_rfl) (by kernel_rfl) (by kernel_rfl) (by kernel_rfl)
  have h130 := @run_callFunc_extern Tryz.prog 181 _ (ent Tryz.f181) Tryz.func181 (by kernel_rfl) (by kernel_rfl) (by kernel_rfl) (by kernel_rfl)
  have tT := Tryz.isTypeOf
  have cT := Tryz.isComparable
  have mR := Tryz.isMethodComparable
  have nE := Tryz.noIsE
  have uE := Tryz.noUnwrapE
  have vE := Tryz.noUnwrapsE
  have nF := Tryz.noIsF
  have uF := Tryz.hasUnwrapF
  have mU := Tryz.methodUnwrap
  have heq := run_eql_iface_ptr_same (P := Tryz.prog) w a Tryz.underlying27 Tryz.underlying238 hi hcmp hj
  go_enter Tryz.func75, Tryz.ntmps75
  go_wp2
  refine wp_loop_rounds 1 ?_
  rw [rounds_succ]
  go_wp2
  go_ret
  exact ⟨rfl, rfl⟩
/-- errors.Is(x, y), two pointers. -/
theorem is_other (a b : Addr) (ca cb : Array Value) (ta tb : TypeId) (w : World) (hne : a ≠ b) (ha : w.heap[a.block]? = some (.cells ca ta (0, 0))) (hb : w.heap[b.block]? = some (.cells cb tb (0, 0))) :
    Calls Tryz.prog 75 #[.iface 238 (.pointer (some a)), .iface 238 (.pointer (some b))] w fun e w' => e = .returned (.bool false) ∧ w' = w := by
  obtain ⟨i, hi, hcmp⟩ := Option.map_eq_some_iff.1 Tryz.isComp
  obtain ⟨j, hj, hjs⟩ := Option.map_eq_some_iff.1 Tryz.isSize
  have h50 := @run_callFunc_extern Tryz.prog 91 _ Extern.ReflectliteType.typeOf Tryz.func91 (by kernel_rfl) (by kernel_rfl) (by kernel_rfl) (by kernel_rfl)
  have h130 := @run_callFunc_extern Tryz.prog 181 _ (ent Tryz.f181) Tryz.func181 (by kernel_rfl) (by kernel_rfl) (by kernel_rfl) (by kernel_rfl)
  have tT := Tryz.isTypeOf
  have cT := Tryz.isComparable
  have mR := Tryz.isMethodComparable
  have nE := Tryz.noIsE
  have uE := Tryz.noUnwrapE
  have vE := Tryz.noUnwrapsE
  have nF := Tryz.noIsF
  have uF := Tryz.hasUnwrapF
  have mU := Tryz.methodUnwrap
  have heq := run_eql_iface_ptr_other (P := Tryz.prog) w Tryz.underlying27 Tryz.underlying238 hi hcmp hj (by rw [hjs]; decide) hne ha hb
  go_enter Tryz.func75, Tryz.ntmps75
  go_wp2
  refine wp_loop_rounds 1 ?_
  rw [rounds_succ]
  go_wp2
  go_ret
  exact ⟨rfl, rfl⟩
end Go.Proofs.YtefpnojanldkeaaGreatDoor
namespace Go.Proofs.YtefpnojanldkeaaGreatDoor
open Go.RowKit Go.Extern.Stop Go.Stop Go.Extern
set_option linter.unusedSectionVars false
variable [Inhabited ComV] [DecidableEq D3] [Inhabited D3] [Inhabited Dd] [Inhabited Dn] [Inhabited OpV]

theorem Tryz.valueOf135 (t : Addr) (w : World) : (ent Tryz.f87 #[.iface 135 (.pointer (some t))]).run Tryz.prog w
    = .ok (.agg #[.pointer (some ⟨13, 135, none⟩), .pointer (some ⟨w.heap.size, 0, none⟩), .int .u64 150]) (w.alloc (.cells #[.pointer (some t)] 135)) := by kernel_rfl
theorem Tryz.valueOf113 (e : Addr) (w : World) : (ent Tryz.f87 #[.iface 113 (.pointer (some e))]).run Tryz.prog w
    = .ok (.agg #[.pointer (some ⟨13, 113, none⟩), .pointer (some ⟨w.heap.size, 0, none⟩), .int .u64 150]) (w.alloc (.cells #[.pointer (some e)] 113)) := by kernel_rfl
theorem Tryz.type135 (a : Addr) (w : World) : (ent Tryz.f88 #[.agg #[.pointer (some ⟨13, 135, none⟩), .pointer (some a), .int .u64 150]]).run Tryz.prog w
    = .ok (.iface 187 (.agg #[.pointer (some ⟨13, 135, none⟩)])) w := by kernel_rfl
theorem Tryz.methodKind (h : Value) (w : World) : (Go.method 369 187 (.agg #[h]) "Kind").run Tryz.prog w = .ok (170, h) w := by kernel_rfl
theorem Tryz.methodElem (h : Value) (w : World) : (Go.method 369 187 (.agg #[h]) "Elem").run Tryz.prog w = .ok (182, .agg #[h]) w := by kernel_rfl
theorem Tryz.methodImplements (h : Value) (w : World) : (Go.method 369 187 (.agg #[h]) "Implements").run Tryz.prog w = .ok (183, .agg #[h]) w := by kernel_rfl
theorem Tryz.methodAssignableTo (h : Value) (w : World) : (Go.method 369 187 (.agg #[h]) "AssignableTo").run Tryz.prog w = .ok (180, .agg #[h]) w := by kernel_rfl
theorem Tryz.kind135 (w : World) : (ent Tryz.f170 #[.pointer (some ⟨13, 135, none⟩)]).run Tryz.prog w = .ok (.int .u8 22) w := by kernel_rfl
theorem Tryz.kind113 (w : World) : (ent Tryz.f170 #[.pointer (some ⟨13, 113, none⟩)]).run Tryz.prog w = .ok (.int .u8 22) w := by kernel_rfl
theorem Tryz.elem135 (w : World) : (ent Tryz.f182 #[.agg #[.pointer (some ⟨13, 135, none⟩)]]).run Tryz.prog w = .ok (.iface 187 (.agg #[.pointer (some ⟨13, 113, none⟩)])) w := by kernel_rfl
theorem Tryz.implements113 (w : World) : (ent Tryz.f183 #[.agg #[.pointer (some ⟨13, 113, none⟩)], .iface 187 (.agg #[.pointer (some ⟨13, 27, none⟩)])]).run Tryz.prog w = .ok (.bool true) w := by kernel_rfl
theorem Tryz.typeOf113 (v : Value) (w : World) : (ent Tryz.f91 #[.iface 113 v]).run Tryz.prog w = .ok (.iface 187 (.agg #[.pointer (some ⟨13, 113, none⟩)])) w := by kernel_rfl
theorem Tryz.typeOf238 (v : Value) (w : World) : (ent Tryz.f91 #[.iface 238 v]).run Tryz.prog w = .ok (.iface 187 (.agg #[.pointer (some ⟨13, 238, none⟩)])) w := by kernel_rfl
theorem Tryz.assignable113 (w : World) : (ent Tryz.f180 #[.agg #[.pointer (some ⟨13, 113, none⟩)], .iface 187 (.agg #[.pointer (some ⟨13, 113, none⟩)])]).run Tryz.prog w = .ok (.bool true) w := by kernel_rfl
theorem Tryz.assignable238 (w : World) : (ent Tryz.f180 #[.agg #[.pointer (some ⟨13, 238, none⟩)], .iface 187 (.agg #[.pointer (some ⟨13, 113, none⟩)])]).run Tryz.prog w = .ok (.bool false) w := by kernel_rfl
theorem Tryz.ent89 : ent Tryz.f89 = ReflectliteValue.method (ReflectliteValue.valueError "reflectlite.Value.IsNil" 0) ReflectliteValue.isNil := by kernel_rfl
theorem Tryz.ent115 : ent Tryz.f115 = ReflectliteValue.method (ReflectliteValue.valueError "reflectlite.Value.Elem" 0) ReflectliteValue.elem := by kernel_rfl
theorem Tryz.ent116 : ent Tryz.f116 = ReflectliteValue.set := by kernel_rfl
theorem Tryz.parts135 (a : Addr) (w : World) : (ReflectliteValue.parts (.agg #[.pointer (some ⟨13, 135, none⟩), .pointer (some a), .int .u64 150])).run Tryz.prog w = .ok (some (135, a, 150)) w := by kernel_rfl
theorem Tryz.parts113a (a : Addr) (w : World) : (ReflectliteValue.parts (.agg #[.pointer (some ⟨13, 113, none⟩), .pointer (some a), .int .u64 406])).run Tryz.prog w = .ok (some (113, a, 406)) w := by kernel_rfl
theorem Tryz.parts113 (a : Addr) (w : World) : (ReflectliteValue.parts (.agg #[.pointer (some ⟨13, 113, none⟩), .pointer (some a), .int .u64 150])).run Tryz.prog w = .ok (some (113, a, 150)) w := by kernel_rfl
theorem Tryz.elemOf135 (w : World) : (Rtype.elem? 135).run Tryz.prog w = .ok (some 113) w := by kernel_rfl
theorem Tryz.mk113 (p : Addr) (w : World) : (ReflectliteValue.mk 113 p ReflectliteValue.flagAddr).run Tryz.prog w = .ok (.agg #[.pointer (some ⟨13, 113, none⟩), .pointer (some p), .int .u64 406]) w := by kernel_rfl
theorem Tryz.direct113 (w : World) : (Rtype.directlyAssignable 113 113).run Tryz.prog w = .ok true w := by kernel_rfl
theorem Tryz.isNil135 (a p : Addr) (W : World) (ha : W.cell? a = some (.pointer (some p))) :
    (ent Tryz.f89 #[.agg #[.pointer (some ⟨13, 135, none⟩), .pointer (some a), .int .u64 150]]).run Tryz.prog W = .ok (.bool false) W := by
  rw [Tryz.ent89]
  show (ReflectliteValue.parts (.agg #[.pointer (some ⟨13, 135, none⟩), .pointer (some a), .int .u64 150]) >>= _).run _ _ = _
  simp only [Sem.run_bind, Tryz.parts135, Result.andThen]
  simp [ReflectliteValue.isNil, loadVar, isAgg, underlying, Tryz.underlying135, ha, Result.andThen]
theorem Tryz.elemV135 (a p : Addr) (W : World) (ha : W.cell? a = some (.pointer (some p))) :
    (ent Tryz.f115 #[.agg #[.pointer (some ⟨13, 135, none⟩), .pointer (some a), .int .u64 150]]).run Tryz.prog W
      = .ok (.agg #[.pointer (some ⟨13, 113, none⟩), .pointer (some p), .int .u64 406]) W := by
  rw [Tryz.ent115]
  show (ReflectliteValue.parts (.agg #[.pointer (some ⟨13, 135, none⟩), .pointer (some a), .int .u64 150]) >>= _).run _ _ = _
  simp only [Sem.run_bind, Tryz.parts135, Result.andThen]
  simp [ReflectliteValue.elem, loadVar, isAgg, underlying, Tryz.underlying135, ha, Result.andThen, Tryz.elemOf135, Tryz.mk113]
theorem Tryz.set113 (ta b e : Addr) (old : Value) (W : World) (hb : W.cell? b = some (.pointer (some e))) (ht : W.cell? ta = some old) (hf : W.frozen? ta = false) :
    (ent Tryz.f116 #[.agg #[.pointer (some ⟨13, 113, none⟩), .pointer (some ta), .int .u64 406], .agg #[.pointer (some ⟨13, 113, none⟩), .pointer (some b), .int .u64 150]]).run Tryz.prog W
      = .ok (.tuple #[]) (W.setCell ta (.pointer (some e))) := by
  rw [Tryz.ent116]
  show (ReflectliteValue.parts (.agg #[.pointer (some ⟨13, 113, none⟩), .pointer (some ta), .int .u64 406]) >>= fun x => ReflectliteValue.parts (.agg #[.pointer (some ⟨13, 113, none⟩), .pointer (some b), .int .u64 150]) >>= _).run _ _ = _
  simp only [Sem.run_bind, Tryz.parts113a, Tryz.parts113, Result.andThen]
  simp [ReflectliteValue.flagAddr, loadVar, isAgg, underlying, Tryz.underlying113, hb, Result.andThen, Tryz.direct113, storeVar, Value.cells, storeCells, Addr.add]
  rw [run_store Tryz.prog W ta _ _ (by rfl)]
  simp [ht, hf]
end Go.Proofs.YtefpnojanldkeaaGreatDoor
namespace Go.Proofs.YtefpnojanldkeaaGreatDoor
open Go.RowKit Go.Extern.Stop Go.Stop Go.Extern
set_option linter.unusedSectionVars false
variable [Inhabited ComV] [DecidableEq D3] [Inhabited D3] [Inhabited Dd] [Inhabited Dn] [Inhabited OpV]

set_option maxHeartbeats 4000000 in
theorem as_hit (e t : Addr) (old : Value) (w : World) (hg : w.cell? ⟨12, 0, none⟩ = some (.iface 187 (.agg #[.pointer (some ⟨13, 27, none⟩)]))) (ht0 : w.cell? t = some old) (hf0 : w.frozen? t = false) :
    Calls Tryz.prog 74 #[.iface 113 (.pointer (some e)), .iface 135 (.pointer (some t))] w fun ev w' => ev = .returned (.bool true) ∧ w' = ((((w.alloc (.cells #[.pointer (some t)] 135)).alloc (.cells #[.pointer (some ⟨13, 135, none⟩), .pointer (some ⟨w.heap.size, 0, none⟩), .int .u64 150] 154)).alloc (.cells #[.pointer (some ⟨13, 135, none⟩), .pointer (some ⟨w.heap.size, 0, none⟩), .int .u64 150] 154)).alloc (.cells #[.pointer (some e)] 113)).setCell t (.pointer (some e)) := by
  have h46 := @run_callFunc_extern Tryz.prog 87 _ (ent Tryz.f87) Tryz.func87 (by kernel_rfl) (by kernel_rfl) (by kernel_rfl) (by kernel_rfl)
  have h47 := @run_callFunc_extern Tryz.prog 88 _ (ent Tryz.f88) Tryz.func88 (by kernel_rfl) (by kernel_rfl) (by kernel_rfl) (by kernel_rfl)
  have h48 := @run_callFunc_extern Tryz.prog 89 _ (ent Tryz.f89) Tryz.func89 (by kernel_rfl) (by kernel_rfl) (by kernel_rfl) (by kernel_rfl)
  have h118 := @run_callFunc_extern Tryz.prog 170 _ (ent Tryz.f170) Tryz.func170 (by kernel_rfl) (by kernel_rfl) (by kernel_rfl) (by kernel_rfl)
  have h131 := @run_callFunc_extern Tryz.prog 182 _ (ent Tryz.f182) Tryz.func182 (by kernel_rfl) (by kernel_rfl) (by kernel_rfl) (by kernel_rfl)
  have h132 := @run_callFunc_extern Tryz.prog 183 _ (ent Tryz.f183) Tryz.func183 (by kernel_rfl) (by kernel_rfl) (by kernel_rfl) (by kernel_rfl)
  have h50 := @run_callFunc_extern Tryz.prog 91 _ (ent Tryz.f91) Tryz.func91 (by kernel_rfl) (by kernel_rfl) (by kernel_rfl) (by kernel_rfl)
  have h129 := @run_callFunc_extern Tryz.prog 180 _ (ent Tryz.f180) Tryz.func180 (by kernel_rfl) (by kernel_rfl) (by kernel_rfl) (by kernel_rfl)
  have h62 := @run_callFunc_extern Tryz.prog 115 _ (ent Tryz.f115) Tryz.func115 (by kernel_rfl) (by kernel_rfl) (by kernel_rfl) (by kernel_rfl)
  have h63 := @run_callFunc_extern Tryz.prog 116 _ (ent Tryz.f116) Tryz.func116 (by kernel_rfl) (by kernel_rfl) (by kernel_rfl) (by kernel_rfl)
  have q0 := Tryz.valueOf135
  have q1 := Tryz.valueOf113
  have q2 := Tryz.type135
  have q3 := Tryz.methodKind
  have q4 := Tryz.methodElem
  have q5 := Tryz.methodImplements
  have q6 := Tryz.methodAssignableTo
  have q7 := Tryz.kind135
  have q8 := Tryz.kind113
  have q9 := Tryz.elem135
  have q10 := Tryz.implements113
  have q11 := Tryz.typeOf113
  have q12 := Tryz.typeOf238
  have q13 := Tryz.assignable113
  have q14 := Tryz.assignable238
  have q15 := Tryz.noAsE
  have q16 := Tryz.noUnwrapE
  have q17 := Tryz.noUnwrapsE
  have n8 := Tryz.isNil135 ⟨w.heap.size, 0, none⟩ t ((w.alloc (.cells #[.pointer (some t)] 135)).alloc (.cells #[.pointer (some ⟨13, 135, none⟩), .pointer (some ⟨w.heap.size, 0, none⟩), .int .u64 150] 154)) (by simp)
  have hlt : 12 < w.heap.size := by
    rcases Nat.lt_or_ge 12 w.heap.size with h | h
    · exact h
    · simp [World.cell?, Array.getElem?_eq_none h] at hg
  have hg2 : ((w.alloc (.cells #[.pointer (some t)] 135)).alloc (.cells #[.pointer (some ⟨13, 135, none⟩), .pointer (some ⟨w.heap.size, 0, none⟩), .int .u64 150] 154)).cell? ⟨12, 0, none⟩ = some (.iface 187 (.agg #[.pointer (some ⟨13, 27, none⟩)])) := by
    rw [World.cell?_alloc_lt _ _ ⟨12, 0, none⟩ (by simp; omega), World.cell?_alloc_lt _ _ ⟨12, 0, none⟩ hlt]; exact hg
  have el := Tryz.elemV135 ⟨w.heap.size, 0, none⟩ t (((w.alloc (.cells #[.pointer (some t)] 135)).alloc (.cells #[.pointer (some ⟨13, 135, none⟩), .pointer (some ⟨w.heap.size, 0, none⟩), .int .u64 150] 154)).alloc (.cells #[.pointer (some ⟨13, 135, none⟩), .pointer (some ⟨w.heap.size, 0, none⟩), .int .u64 150] 154)) (by rw [World.cell?_alloc_lt _ _ ⟨w.heap.size, 0, none⟩ (by simp; omega)]; simp)
  have htl : t.block < w.heap.size := by
    rcases Nat.lt_or_ge t.block w.heap.size with h | h
    · exact h
    · simp [World.cell?, Array.getElem?_eq_none h] at ht0
  have st := Tryz.set113 t ⟨w.heap.size + 1 + 1 + 1, 0, none⟩ e old ((((w.alloc (.cells #[.pointer (some t)] 135)).alloc (.cells #[.pointer (some ⟨13, 135, none⟩), .pointer (some ⟨w.heap.size, 0, none⟩), .int .u64 150] 154)).alloc (.cells #[.pointer (some ⟨13, 135, none⟩), .pointer (some ⟨w.heap.size, 0, none⟩), .int .u64 150] 154)).alloc (.cells #[.pointer (some e)] 113))
    (by rw [World.cell?_alloc_at _ _ _ _ (by simp)]; rfl)
    (by rw [World.cell?_alloc_lt _ _ t (by simp; omega), World.cell?_alloc_lt _ _ t (by simp; omega), World.cell?_alloc_lt _ _ t (by simp; omega), World.cell?_alloc_lt _ _ t htl]; exact ht0)
    (by rw [World.frozen?_alloc_old _ _ t (by simp; omega), World.frozen?_alloc_old _ _ t (by simp; omega), World.frozen?_alloc_old _ _ t (by simp; omega), World.frozen?_alloc_old _ _ t (Nat.ne_of_lt htl)]; exact hf0)
  go_enter Tryz.func74, Tryz.ntmps74
  go_wp2
  refine wp_loop_rounds 1 ?_
  rw [rounds_succ]
  go_wp2
  go_ret
  exact ⟨rfl, rfl⟩
set_option maxHeartbeats 4000000 in
theorem as_miss (e t : Addr) (w : World) (hg : w.cell? ⟨12, 0, none⟩ = some (.iface 187 (.agg #[.pointer (some ⟨13, 27, none⟩)]))) :
    Calls Tryz.prog 74 #[.iface 238 (.pointer (some e)), .iface 135 (.pointer (some t))] w fun ev w' => ev = .returned (.bool false) ∧ w' = ((w.alloc (.cells #[.pointer (some t)] 135)).alloc (.cells #[.pointer (some ⟨13, 135, none⟩), .pointer (some ⟨w.heap.size, 0, none⟩), .int .u64 150] 154)).alloc (.cells #[.pointer (some ⟨13, 135, none⟩), .pointer (some ⟨w.heap.size, 0, none⟩), .int .u64 150] 154) := by
  have h46 := @run_callFunc_extern Tryz.prog 87 _ (ent Tryz.f87) Tryz.func87 (by kernel_rfl) (by kernel_rfl) (by kernel_rfl) (by kernel_rfl)
  have h47 := @run_callFunc_extern Tryz.prog 88 _ (ent Tryz.f88) Tryz.func88 (by kernel_rfl) (by kernel_rfl) (by kernel_rfl) (by kernel_rfl)
  have h48 := @run_callFunc_extern Tryz.prog 89 _ (ent Tryz.f89) Tryz.func89 (by kernel_rfl) (by kernel_rfl) (by kernel_rfl) (by kernel_rfl)
  have h118 := @run_callFunc_extern Tryz.prog 170 _ (ent Tryz.f170) Tryz.func170 (by kernel_rfl) (by kernel_rfl) (by kernel_rfl) (by kernel_rfl)
  have h131 := @run_callFunc_extern Tryz.prog 182 _ (ent Tryz.f182) Tryz.func182 (by kernel_rfl) (by kernel_rfl) (by kernel_rfl) (by kernel_rfl)
  have h132 := @run_callFunc_extern Tryz.prog 183 _ (ent Tryz.f183) Tryz.func183 (by kernel_rfl) (by kernel_rfl) (by kernel_rfl) (by kernel_rfl)
  have h50 := @run_callFunc_extern Tryz.prog 91 _ (ent Tryz.f91) Tryz.func91 (by kernel_rfl) (by kernel_rfl) (by kernel_rfl) (by kernel_rfl)
  have h129 := @run_callFunc_extern Tryz.prog 180 _ (ent Tryz.f180) Tryz.func180 (by kernel_rfl) (by kernel_rfl) (by kernel_rfl) (by kernel_rfl)
  have h62 := @run_callFunc_extern Tryz.prog 115 _ (ent Tryz.f115) Tryz.func115 (by kernel_rfl) (by kernel_rfl) (by kernel_rfl) (by kernel_rfl)
  have h63 := @run_callFunc_extern Tryz.prog 116 _ (ent Tryz.f116) Tryz.func116 (by kernel_rfl) (by kernel_rfl) (by kernel_rfl) (by kernel_rfl)
  have q0 := Tryz.valueOf135
  have q1 := Tryz.valueOf113
  have q2 := Tryz.type135
  have q3 := Tryz.methodKind
  have q4 := Tryz.methodElem
  have q5 := Tryz.methodImplements
  have q6 := Tryz.methodAssignableTo
  have q7 := Tryz.kind135
  have q8 := Tryz.kind113
  have q9 := Tryz.elem135
  have q10 := Tryz.implements113
  have q11 := Tryz.typeOf113
  have q12 := Tryz.typeOf238
  have q13 := Tryz.assignable113
  have q14 := Tryz.assignable238
  have q15 := Tryz.noAsE
  have q16 := Tryz.noUnwrapE
  have q17 := Tryz.noUnwrapsE
  have n8 := Tryz.isNil135 ⟨w.heap.size, 0, none⟩ t ((w.alloc (.cells #[.pointer (some t)] 135)).alloc (.cells #[.pointer (some ⟨13, 135, none⟩), .pointer (some ⟨w.heap.size, 0, none⟩), .int .u64 150] 154)) (by simp)
  have hlt : 12 < w.heap.size := by
    rcases Nat.lt_or_ge 12 w.heap.size with h | h
    · exact h
    · simp [World.cell?, Array.getElem?_eq_none h] at hg
  have hg2 : ((w.alloc (.cells #[.pointer (some t)] 135)).alloc (.cells #[.pointer (some ⟨13, 135, none⟩), .pointer (some ⟨w.heap.size, 0, none⟩), .int .u64 150] 154)).cell? ⟨12, 0, none⟩ = some (.iface 187 (.agg #[.pointer (some ⟨13, 27, none⟩)])) := by
    rw [World.cell?_alloc_lt _ _ ⟨12, 0, none⟩ (by simp; omega), World.cell?_alloc_lt _ _ ⟨12, 0, none⟩ hlt]; exact hg
  go_enter Tryz.func74, Tryz.ntmps74
  go_wp2
  refine wp_loop_rounds 1 ?_
  rw [rounds_succ]
  go_wp2
  go_ret
  exact ⟨rfl, rfl⟩
end Go.Proofs.YtefpnojanldkeaaGreatDoor
namespace Go.Proofs.YtefpnojanldkeaaGreatDoor
open Go.RowKit
set_option maxRecDepth 100000
set_option linter.unusedSectionVars false
variable [Inhabited ComV] [DecidableEq D3] [Inhabited D3] [Inhabited Dd] [Inhabited Dn] [Inhabited OpV]

abbrev hnd : Value := .iface 187 (.agg #[.pointer (some ⟨13, 27, none⟩)])
set_option maxHeartbeats 1000000 in
theorem without_sent (w : World) (a : Addr) (hg : w.cell? ⟨12, 0, none⟩ = some hnd) : Calls Tryz.prog 118 #[.iface 238 (.pointer (some a))] w fun e w' => e = .returned (.iface 238 (.pointer (some a))) ∧ Below w.heap.size w w' := by
  have HG := hid hg
  clear hg
  go_enter Tryz.func118, Tryz.ntmps118
  go_wp2_with (go_at_call 74; refine (as_miss _ _ _ (cell_alloc HG.out _)).mono ?_; rintro e w' ⟨rfl, rfl⟩)
  go_ret
  refine ⟨rfl, ?_⟩
  go_grown
set_option maxHeartbeats 1000000 in
theorem without_fault (w : World) (pb : Nat) (a : Addr) (hg : w.cell? ⟨12, 0, none⟩ = some hnd) (c1 : w.cell? ⟨pb, 1, none⟩ = some (.iface 238 (.pointer (some a)))) : Calls Tryz.prog 118 #[.iface 113 (.pointer (some ⟨pb, 0, none⟩))] w fun e w' => e = .returned (.iface 238 (.pointer (some a))) ∧ Below w.heap.size w w' := by
  have HG := hid hg
  have hpl : pb < w.heap.size := lt_of_cell c1
  have f1 : ∀ o1 o2 o3 o4 o5, (((((w.alloc o1).alloc o2).alloc o3).alloc o4).alloc o5).cell? ⟨pb, 1, none⟩ = some (.iface 238 (.pointer (some a))) := fun _ _ _ _ _ => (cell_alloc (cell_alloc (cell_alloc (cell_alloc (cell_alloc c1 _) _) _) _) _)
  have hne : w.heap.size ≠ pb := by omega
  clear hg c1
  go_enter Tryz.func118, Tryz.ntmps118
  go_wp2_with (go_at_call 74; refine (as_hit _ _ (.pointer none) _ (cell_alloc HG.out _) (by simp) (by simp)).mono ?_; rintro e w' ⟨rfl, rfl⟩)
  go_ret
  refine ⟨rfl, ?_⟩
  go_grown
end Go.Proofs.YtefpnojanldkeaaGreatDoor
namespace Go.Proofs.YtefpnojanldkeaaGreatDoor
open Go.RowKit Go.Sort Go.Maps
set_option maxRecDepth 100000
set_option linter.unusedSectionVars false
variable [Inhabited ComV] [DecidableEq D3] [Inhabited D3] [Inhabited Dd] [Inhabited Dn] [Inhabited OpV]

theorem errAt_some {A : Nat → Addr} {w : World} {v : Value} {k : Nat} {o : Option Nat} (h : ErrAt A w v (k + 1, o)) : v = .iface 238 (.pointer (some (A k))) ∨ ∃ pb, v = .iface 113 (.pointer (some ⟨pb, 0, none⟩)) ∧ w.cell? ⟨pb, 1, none⟩ = some (.iface 238 (.pointer (some (A k)))) := by
  cases o with
  | none => exact .inl h
  | some i =>
    obtain ⟨pb, h1, _, h3⟩ := h
    exact .inr ⟨pb, h1, h3⟩
/-- What a check hands back. -/
def ChkRet (A : Nat → Addr) (w : World) (er : Nat × Option Nat) (e : Ending) (w' : World) : Prop := ∃ v, e = .returned v ∧ ErrAt A w' v er ∧ Below w.heap.size w w'
set_option maxHeartbeats 4000000 in
theorem checkList_bad_n (A : Nat → Addr) (w : World) (hE : E5 A w) (b off m c : Nat) (l : List ComV) (hm : l.length = m) (hl : m ≤ 1000000) (hsm : ∀ c ∈ l, SmallC c) (i0 : Nat) (hi0 : i0 < m) (hok : ∀ i, i < i0 → listBad l i = 0) (hbad : listBad l i0 ≠ 0)
    (ho : ∀ j, j < m → ∃ wv ov, IntsAt w wv l[j]!.when_ ∧ OpsAt w ov l[j]!.ops ∧ w.cell? ⟨b, off + j * 3, none⟩ = some wv ∧ w.cell? ⟨b, off + j * 3 + 1, none⟩ = some (.int .i64 l[j]!.place) ∧ w.cell? ⟨b, off + j * 3 + 2, none⟩ = some ov) :
    Calls Tryz.prog 103 #[.slice (some ⟨b, off, none⟩) m c] w fun e w' => ChkRet A w (listBad l i0, some i0) e w' := by
  have h13 := hE.size
  obtain ⟨wv0, _, hi00, _, z0, _, _⟩ := ho 0 (by omega)
  rw [Nat.zero_mul, Nat.add_zero] at z0
  obtain ⟨a0, k0, rfl, _, _⟩ := hi00
  obtain ⟨n0, hn0⟩ : ∃ n0, n0 = l[0]!.when_.length := ⟨_, rfl⟩
  rw [← hn0] at z0
  have HN0 := hid hn0
  have HO := hid ho
  have HE := hid hE
  have HM := hid hm
  have HS := hid hsm
  have HK := hid hok
  have HBAD := hid hbad
  clear ho hE hm hsm hok hn0 hbad
  go_enter Tryz.func103, Tryz.ntmps103
  go_wp2
  go_loopw [8] (fun i wr => ∃ k : Nat, k ≤ i0 ∧ i = .int .i64 k ∧ Hid (Below w.heap.size w wr)) (fun i _ => m - (intOf i).toNat)
  case atStart => exact ⟨0, Nat.zero_le _, rfl, Below.refl _ _⟩
  case round =>
    obtain ⟨k, hk, rfl, HB⟩ := hrel
    have hsz := HB.out.size
    have hlt : k < m := by omega
    obtain ⟨wv, ov, hi, hop, q0, q1, q2⟩ := HO.out k hlt
    have up : ∀ {a : Addr} {v : Value}, w.cell? a = some v → wr.cell? a = some v := fun {a v} h => by rw [HB.out.cell (lt_of_cell h)]; exact h
    have r0 := up q0
    have r1 := up q1
    have r2 := up q2
    have y0 := up z0
    have hSm : SmallC l[k]! := HS.out _ (by rw [getElem!_pos l k (by have := HM.out; omega)]; exact List.getElem_mem _)
    have hi' := hi.mono HB.out (Nat.le_refl _)
    have ho' := hop.mono HB.out (Nat.le_refl _)
    have hE4 : E4 A wr := HE.out.e4.below HB.out (by omega)
    have hH : wr.cell? ⟨12, 0, none⟩ = some hnd := by rw [HB.out.cell (p := ⟨12, 0, none⟩) (by show 12 < _; omega)]; exact HE.out.handle
    obtain ⟨x, hx⟩ : ∃ x, x = l[k]! := ⟨_, rfl⟩
    rw [← hx] at r1 hSm hi' ho'
    have KC := fun o => checkCommit A (wr.alloc o) (hE4.below (below_alloc wr o) (by omega)) (by simp; omega) x wv ov (hi'.mono (below_alloc wr o) (Nat.le_refl _)) (ho'.mono (below_alloc wr o) (Nat.le_refl _)) hSm.1 hSm.2.1 hSm.2.2
    have hSh := hE4.shape
    have hlen2 : Hid (∃ n1, n1 = x.when_.length) := ⟨_, rfl⟩
    obtain ⟨a1, c1, rfl, _, _⟩ := hi'
    obtain ⟨a2, c2, rfl, _, _, _⟩ := ho'.shape
    obtain ⟨n1, hn1⟩ := hlen2.out
    obtain ⟨m2, hm2⟩ : ∃ m2, m2 = x.ops.length := ⟨_, rfl⟩
    obtain ⟨pl, hpl⟩ : ∃ pl, pl = x.place := ⟨_, rfl⟩
    rw [← hn1, ← hm2, ← hpl] at KC
    rw [← hn1] at r0
    rw [← hm2] at r2
    rw [← hpl] at r1
    have HN1 := hid hn1
    have HX := hid hx
    have HH := hid hH
    have HSH := hid hSh
    clear q0 q1 q2 hi hop hx hSm hm2 hpl up hn1 hE4 hH hSh hlen2
    by_cases hkl : k < i0
    · have hb0 := HK.out k hkl
      have hce : comErr x = (0, none) := comErr_zero (by
        unfold listBad at hb0
        rw [← HX.out] at hb0
        split at hb0
        · rename_i h; exact absurd hb0 h
        · rename_i h; simpa using h)
      have hlen : n1 = n0 := by
        unfold listBad at hb0
        rw [← HX.out, if_neg (by rw [hce]; decide)] at hb0
        split at hb0
        · exact absurd hb0 (by decide)
        · rename_i h; rw [HN0.out, HN1.out]; simpa using h
      rw [hce] at KC
      subst hlen
      clear hce hb0
      go_wp2_with (go_at_call 52; refine (KC _).mono ?_; rintro e w' ⟨v, rfl, hv, hw⟩; obtain rfl : v = .nilIface := hv)
      have hwB : Hid (Below w.heap.size w w') := (HB.out.alloc hsz _).trans (hw.mono (by simp; omega))
      have f0 : w'.cell? ⟨wr.heap.size, 0, none⟩ = some (.slice a1 n1 c1) := by rw [hw.cell (p := ⟨wr.heap.size, 0, none⟩) (by simp)]; simp
      have g0 : w'.cell? ⟨b, off, none⟩ = some (.slice a0 n1 k0) := by rw [hwB.out.cell (lt_of_cell z0)]; exact z0
      have bne : ((n1 : Int) != (n1 : Int)) = false := by simp
      clear hw KC y0 r0 r1 r2
      go_quiet (fail)
      go_wp2
      exact ⟨⟨k + 1, by omega, by go_num, below_draws hwB.out _⟩, by simp [intOf]; omega⟩
    · obtain rfl : k = i0 := by omega
      by_cases hce : (comErr x).1 = 0
      · have hlb : listBad l k = 3 := by
          have := HBAD.out
          unfold listBad at this ⊢
          rw [← HX.out] at this ⊢
          rw [if_neg (by rw [hce]; decide)] at this ⊢
          split at this
          · rename_i h; rw [if_pos h]
          · exact absurd rfl this
        have hne : n1 ≠ n0 := by
          intro h
          have := HBAD.out
          unfold listBad at this
          rw [← HX.out, if_neg (by rw [hce]; decide), if_neg (by rw [← HN0.out, ← HN1.out, h]; exact fun q => q rfl)] at this
          exact absurd rfl this
        have hc0 := comErr_zero hce
        rw [hc0] at KC
        have HLB := hid hlb
        clear hce hc0 hlb
        go_wp2_with (go_at_call 52; refine (KC _).mono ?_; rintro e w' ⟨v, rfl, hv, hw⟩; obtain rfl : v = .nilIface := hv)
        have hwB : Hid (Below w.heap.size w w') := (HB.out.alloc hsz _).trans (hw.mono (by simp; omega))
        have f0 : w'.cell? ⟨wr.heap.size, 0, none⟩ = some (.slice a1 n1 c1) := by rw [hw.cell (p := ⟨wr.heap.size, 0, none⟩) (by simp)]; simp
        have g0 : w'.cell? ⟨b, off, none⟩ = some (.slice a0 n0 k0) := by rw [hwB.out.cell (lt_of_cell z0)]; exact z0
        have bne : ((n1 : Int) != (n0 : Int)) = true := by rw [bne_iff_ne]; omega
        have g3 : w'.cell? ⟨1, 0, none⟩ = some (.iface 238 (.pointer (some (A 2)))) := (HE.out.e4.below hwB.out (by omega)).shape
        clear hw KC y0 r0 r1 r2
        go_quiet (fail)
        go_wp2
        go_ret
        refine ⟨_, rfl, ErrAt.at (k := 3) (i := k) w'.heap.size (by rw [HLB.out]) ((World.cell?_alloc_at _ _ _ _ rfl).trans rfl) ((World.cell?_alloc_at _ _ _ _ rfl).trans rfl), ?_⟩
        exact (below_draws hwB.out _).alloc (by have := hwB.out.size; simp; omega) _
      · obtain ⟨er, o, her⟩ : ∃ er o, comErr x = (er + 1, o) := ⟨(comErr x).1 - 1, (comErr x).2, by rw [Nat.sub_add_cancel (by omega)]⟩
        have hlb : listBad l k = er + 1 := by
          unfold listBad
          rw [← HX.out, if_pos hce, her]
        rw [her] at KC
        have HLB := hid hlb
        clear hce hlb her y0
        go_upto_region 5 with (go_at_call 52; refine (KC _).mono ?_; rintro e w' ⟨v, rfl, hv, hw⟩)
        have hwB : Hid (Below w.heap.size w w') := (HB.out.alloc hsz _).trans (hw.mono (by simp; omega))
        have hg : w'.cell? ⟨12, 0, none⟩ = some hnd := by rw [hwB.out.cell (p := ⟨12, 0, none⟩) (by show 12 < _; omega)]; exact HE.out.handle
        have fin : Hid (∀ w2 : World, Below w'.heap.size w' w2 → ChkRet A w (listBad l k, some k) (.returned (.iface 113 (.pointer (some ⟨w2.heap.size, 0, none⟩)))) (w2.alloc (.cells #[.int .i64 k, .iface 238 (.pointer (some (A er)))] 115))) := fun w2 h2 => by
          refine ⟨_, rfl, ErrAt.at (k := er + 1) (i := k) w2.heap.size (by rw [HLB.out]) ((World.cell?_alloc_at _ _ _ _ rfl).trans rfl) ((World.cell?_alloc_at _ _ _ _ rfl).trans rfl), ?_⟩
          have h3 := hwB.out.trans (h2.mono hwB.out.size)
          exact h3.alloc h3.size _
        rcases errAt_some hv with rfl | ⟨pb, rfl, c1'⟩
        · have K74 := without_sent w' (A er) hg
          clear hv hw hg KC r0 r1 r2
          go_wp2_with (go_at_call 118; refine K74.mono ?_; rintro e w2 ⟨rfl, hb2⟩)
          go_ret
          exact fin.out w2 hb2
        · have K74 := without_fault w' pb (A er) hg c1'
          clear hv hw hg KC r0 r1 r2 c1'
          go_wp2_with (go_at_call 118; refine K74.mono ?_; rintro e w2 ⟨rfl, hb2⟩)
          go_ret
          exact fin.out w2 hb2
theorem listErr_first {l : List ComV} {k : Nat} (h : (listErr l).1 = k + 1) : ∃ i, i < l.length ∧ (∀ j, j < i → listBad l j = 0) ∧ listBad l i = k + 1 ∧ listErr l = (k + 1, some i) := by
  unfold listErr scan at h ⊢
  cases hq : (List.range l.length).find? (fun i => decide (listBad l i ≠ 0)) with
  | none => rw [hq] at h; cases h
  | some i =>
    rw [hq] at h
    have h' : listBad l i = k + 1 := h
    rw [List.find?_range_eq_some] at hq
    obtain ⟨h1, h2, h3⟩ := hq
    exact ⟨i, by simpa using h2, fun j hj => by simpa using h3 j hj, h', by simp only [h']⟩
theorem checkList_bad (A : Nat → Addr) (w : World) (hE : E5 A w) (v : Value) (l : List ComV) (hv : ComsAt w v l) (hl : l.length ≤ 1000000) (hsm : ∀ c ∈ l, SmallC c) {k : Nat} (hk : (listErr l).1 = k + 1) :
    Calls Tryz.prog 103 #[v] w fun e w' => ChkRet A w (listErr l) e w' := by
  obtain ⟨i, hi, h1, h2, h3⟩ := listErr_first hk
  obtain ⟨ad, cap, rfl, _, _, h⟩ := hv.shape
  rcases h with rfl | ⟨b, off, rfl, h⟩
  · simp at hi
  · have := checkList_bad_n A w hE b off l.length cap l rfl hl hsm i hi h1 (by omega) h
    rw [h3, ← h2]
    exact this
end Go.Proofs.YtefpnojanldkeaaGreatDoor
