/- Closed facts on the model's entries for internal/reflectlite at this program's types, and three small laws on those that read or write memory. -/
import Derived.Test.YtfechdagacmliaaDoorIs
namespace Go.Proofs.YtfechdagacmliaaDoor
open Go.RowKit Go.Extern.Stop Go.Stop Go.Extern

theorem Tryd.valueOf58 (t : Addr) (w : World) : (ent Tryd.f46 #[.iface 58 (.pointer (some t))]).run Tryd.prog w
    = .ok (.agg #[.pointer (some ⟨21, 58, none⟩), .pointer (some ⟨w.heap.size, 0, none⟩), .int .u64 150]) (w.alloc (.cells #[.pointer (some t)] 58)) := by kernel_rfl
theorem Tryd.valueOf29 (e : Addr) (w : World) : (ent Tryd.f46 #[.iface 29 (.pointer (some e))]).run Tryd.prog w
    = .ok (.agg #[.pointer (some ⟨21, 29, none⟩), .pointer (some ⟨w.heap.size, 0, none⟩), .int .u64 150]) (w.alloc (.cells #[.pointer (some e)] 29)) := by kernel_rfl
theorem Tryd.type58 (a : Addr) (w : World) : (ent Tryd.f47 #[.agg #[.pointer (some ⟨21, 58, none⟩), .pointer (some a), .int .u64 150]]).run Tryd.prog w
    = .ok (.iface 97 (.agg #[.pointer (some ⟨21, 58, none⟩)])) w := by kernel_rfl
theorem Tryd.methodKind (h : Value) (w : World) : (Go.method 284 97 (.agg #[h]) "Kind").run Tryd.prog w = .ok (118, h) w := by kernel_rfl
theorem Tryd.methodElem (h : Value) (w : World) : (Go.method 284 97 (.agg #[h]) "Elem").run Tryd.prog w = .ok (131, .agg #[h]) w := by kernel_rfl
theorem Tryd.methodImplements (h : Value) (w : World) : (Go.method 284 97 (.agg #[h]) "Implements").run Tryd.prog w = .ok (132, .agg #[h]) w := by kernel_rfl
theorem Tryd.methodAssignableTo (h : Value) (w : World) : (Go.method 284 97 (.agg #[h]) "AssignableTo").run Tryd.prog w = .ok (129, .agg #[h]) w := by kernel_rfl
theorem Tryd.kind58 (w : World) : (ent Tryd.f118 #[.pointer (some ⟨21, 58, none⟩)]).run Tryd.prog w = .ok (.int .u8 22) w := by kernel_rfl
theorem Tryd.kind29 (w : World) : (ent Tryd.f118 #[.pointer (some ⟨21, 29, none⟩)]).run Tryd.prog w = .ok (.int .u8 22) w := by kernel_rfl
theorem Tryd.elem58 (w : World) : (ent Tryd.f131 #[.agg #[.pointer (some ⟨21, 58, none⟩)]]).run Tryd.prog w = .ok (.iface 97 (.agg #[.pointer (some ⟨21, 29, none⟩)])) w := by kernel_rfl
theorem Tryd.implements29 (w : World) : (ent Tryd.f132 #[.agg #[.pointer (some ⟨21, 29, none⟩)], .iface 97 (.agg #[.pointer (some ⟨21, 25, none⟩)])]).run Tryd.prog w = .ok (.bool true) w := by kernel_rfl
theorem Tryd.typeOf29 (v : Value) (w : World) : (ent Tryd.f50 #[.iface 29 v]).run Tryd.prog w = .ok (.iface 97 (.agg #[.pointer (some ⟨21, 29, none⟩)])) w := by kernel_rfl
theorem Tryd.typeOf60 (v : Value) (w : World) : (ent Tryd.f50 #[.iface 60 v]).run Tryd.prog w = .ok (.iface 97 (.agg #[.pointer (some ⟨21, 60, none⟩)])) w := by kernel_rfl
theorem Tryd.assignable29 (w : World) : (ent Tryd.f129 #[.agg #[.pointer (some ⟨21, 29, none⟩)], .iface 97 (.agg #[.pointer (some ⟨21, 29, none⟩)])]).run Tryd.prog w = .ok (.bool true) w := by kernel_rfl
theorem Tryd.assignable60 (w : World) : (ent Tryd.f129 #[.agg #[.pointer (some ⟨21, 60, none⟩)], .iface 97 (.agg #[.pointer (some ⟨21, 29, none⟩)])]).run Tryd.prog w = .ok (.bool false) w := by kernel_rfl

theorem Tryd.ent48 : ent Tryd.f48 = ReflectliteValue.method (ReflectliteValue.valueError "reflectlite.Value.IsNil" 0) ReflectliteValue.isNil := by kernel_rfl
theorem Tryd.ent62 : ent Tryd.f62 = ReflectliteValue.method (ReflectliteValue.valueError "reflectlite.Value.Elem" 0) ReflectliteValue.elem := by kernel_rfl
theorem Tryd.ent63 : ent Tryd.f63 = ReflectliteValue.set := by kernel_rfl
theorem Tryd.parts58 (a : Addr) (w : World) : (ReflectliteValue.parts (.agg #[.pointer (some ⟨21, 58, none⟩), .pointer (some a), .int .u64 150])).run Tryd.prog w = .ok (some (58, a, 150)) w := by kernel_rfl
theorem Tryd.parts29a (a : Addr) (w : World) : (ReflectliteValue.parts (.agg #[.pointer (some ⟨21, 29, none⟩), .pointer (some a), .int .u64 406])).run Tryd.prog w = .ok (some (29, a, 406)) w := by kernel_rfl
theorem Tryd.parts29 (a : Addr) (w : World) : (ReflectliteValue.parts (.agg #[.pointer (some ⟨21, 29, none⟩), .pointer (some a), .int .u64 150])).run Tryd.prog w = .ok (some (29, a, 150)) w := by kernel_rfl
theorem Tryd.elemOf58 (w : World) : (Rtype.elem? 58).run Tryd.prog w = .ok (some 29) w := by kernel_rfl
theorem Tryd.mk29 (p : Addr) (w : World) : (ReflectliteValue.mk 29 p ReflectliteValue.flagAddr).run Tryd.prog w = .ok (.agg #[.pointer (some ⟨21, 29, none⟩), .pointer (some p), .int .u64 406]) w := by kernel_rfl
theorem Tryd.direct29 (w : World) : (Rtype.directlyAssignable 29 29).run Tryd.prog w = .ok true w := by kernel_rfl
theorem Tryd.isNil58 (a p : Addr) (W : World) (ha : W.cell? a = some (.pointer (some p))) :
    (ent Tryd.f48 #[.agg #[.pointer (some ⟨21, 58, none⟩), .pointer (some a), .int .u64 150]]).run Tryd.prog W = .ok (.bool false) W := by
  rw [Tryd.ent48]
  show (ReflectliteValue.parts (.agg #[.pointer (some ⟨21, 58, none⟩), .pointer (some a), .int .u64 150]) >>= _).run _ _ = _
  simp only [Sem.run_bind, Tryd.parts58, Result.andThen]
  simp [ReflectliteValue.isNil, loadVar, isAgg, underlying, Tryd.underlying58, ha, Result.andThen]
theorem Tryd.elemV58 (a p : Addr) (W : World) (ha : W.cell? a = some (.pointer (some p))) :
    (ent Tryd.f62 #[.agg #[.pointer (some ⟨21, 58, none⟩), .pointer (some a), .int .u64 150]]).run Tryd.prog W
      = .ok (.agg #[.pointer (some ⟨21, 29, none⟩), .pointer (some p), .int .u64 406]) W := by
  rw [Tryd.ent62]
  show (ReflectliteValue.parts (.agg #[.pointer (some ⟨21, 58, none⟩), .pointer (some a), .int .u64 150]) >>= _).run _ _ = _
  simp only [Sem.run_bind, Tryd.parts58, Result.andThen]
  simp [ReflectliteValue.elem, loadVar, isAgg, underlying, Tryd.underlying58, ha, Result.andThen, Tryd.elemOf58, Tryd.mk29]
theorem Tryd.set29 (ta b e : Addr) (old : Value) (W : World) (hb : W.cell? b = some (.pointer (some e))) (ht : W.cell? ta = some old) (hf : W.frozen? ta = false) :
    (ent Tryd.f63 #[.agg #[.pointer (some ⟨21, 29, none⟩), .pointer (some ta), .int .u64 406], .agg #[.pointer (some ⟨21, 29, none⟩), .pointer (some b), .int .u64 150]]).run Tryd.prog W
      = .ok (.tuple #[]) (W.setCell ta (.pointer (some e))) := by
  rw [Tryd.ent63]
  show (ReflectliteValue.parts (.agg #[.pointer (some ⟨21, 29, none⟩), .pointer (some ta), .int .u64 406]) >>= fun x => ReflectliteValue.parts (.agg #[.pointer (some ⟨21, 29, none⟩), .pointer (some b), .int .u64 150]) >>= _).run _ _ = _
  simp only [Sem.run_bind, Tryd.parts29a, Tryd.parts29, Result.andThen]
  simp [ReflectliteValue.flagAddr, loadVar, isAgg, underlying, Tryd.underlying29, hb, Result.andThen, Tryd.direct29, storeVar, Value.cells, storeCells, Addr.add]
  rw [run_store Tryd.prog W ta _ _ (by rfl)]
  simp [ht, hf]

end Go.Proofs.YtfechdagacmliaaDoor
