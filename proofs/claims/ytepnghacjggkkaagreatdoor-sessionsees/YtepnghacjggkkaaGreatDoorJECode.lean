/- Slices of strings and of ints as they come in; errors.Is and errors.As by their contracts, at errors of errors.New's make and at one api.Fault around such an error; Closed facts on the model's entries for internal/reflectlite at this program's types, and three small laws on those that read or write memory; errors.As with a target of type **api.Fault: an error of errors.New's make is none (false); an api.Fault is one (true, and the target is set); plain.Code by its contracts; plain.Code by its contracts. -/
import Derived.Test.YtepnghacjggkkaaGreatDoorJVLayT
import Derived.BigQuiet
import Derived.Deep.Cut
import Derived.Deep.Draws
import Derived.Deep.Fields
import Derived.Deep.QuietTactic
import Derived.Deep.RegionHeld
import Derived.Deep.RegionHeldLaw
import Derived.Deep.RegionLaw
import Derived.Deep.Slices
import Derived.Deep.Strs
import Derived.Ground.SlsfProg
import Derived.Handy
import Derived.LaidEql
import Derived.LaidHandle
import Derived.LaidLaws
import Derived.LaidMore
import Derived.LaidSub
import Derived.Laws.AppendOwnNone
import Derived.Laws.IdiomCopy
import Derived.Laws.MakeOwn
import Derived.Laws.OwnMore
import Derived.Laws.ResultCell
import Derived.Lib.SlKept
import Derived.Lib.SliceRun
import Derived.Maps.AppendAt
import Derived.Maps.OwnSet
import Derived.OpenShut
import Derived.ProofKit
import Derived.RowKitTokens
import Derived.Shelf.GgSortFunc.RowK
import Derived.Shelf.SlGeneric
import Derived.Shelf.SlIter.Nil
import Derived.Shelf.Slices.CompactS
import Derived.Shelf.Slices.In.SortNone
import Derived.Shelf.SlicesE.DeleteFunc
import Derived.Shelf.SlicesQ.IndexFunc
import Derived.Shelf.SlicesQ.Load
import Derived.Shelf.Sort.Plain
import Derived.Sort.Grow
import Derived.Sort.KeysCollected
import Derived.StillTailTactics
import Derived.Stop.Asserts
import Derived.Test.YtepnghacjggkkaaGreatDoorProg
import Derived.Test.YtepnghacjggkkaaGreatDoorRows
import Derived.WalkKit
import Derived.WalkLawsBesides
import Derived.WalkSpells
import Derived.DeepKeys5
import Derived.Test.YtepnghacjggkkaaGreatDoorChecked
import Derived.Test.YtepnghacjggkkaaGreatDoorJVOpM
import Derived.Test.YtepnghacjggkkaaGreatDoorJTC
namespace Go.Proofs.YtepnghacjggkkaaGreatDoor
open Go.ChangeShapes Go.WideShapes Go.ChangeAt Go.RowKit
set_option maxRecDepth 100000
set_option linter.unusedSectionVars false
variable [Inhabited ComV] [DecidableEq D3] [Inhabited D3] [Inhabited Dd] [Inhabited Dn] [Inhabited OpV]

theorem Tryz.laidOutP : laidOutB Tryz.prog = true := by kernel_rfl
theorem Tryz.cellsP3 : Tryz.prog.cellsOf 3 = 1 := by kernel_rfl
theorem Tryz.readP23 : Tryz.prog.readableRec 22 = true := by kernel_rfl
theorem Tryz.ltP23 : 22 < Tryz.prog.types.size := of_decide_eq_true (by kernel_rfl)
theorem ints_view {H : Type} {enc : TypeId × Value → H} {W : World} {base : Nat} {v : Value} {d : DataW H} {p : List MemPlace} (hv : Value.okWide Tryz.prog W .any base 22 v) (h : DataW.Trod enc Tryz.prog W 0 (fun _ => true) true 22 v d p) :
    ∃ zs, IntsAt W v zs := by
  obtain ⟨a0, len, cap, rfl⟩ := okWide_slice Tryz.underlying22 hv
  obtain ⟨fuel, hf⟩ := h
  rcases open_ints Tryz.underlying22 Tryz.underlying3 Tryz.cellsP3 hf with ⟨hcs, hx⟩ | ⟨a, len', cap', zs, hcs, _, hl, hm, hz, hx, hcell, hwz⟩
  · simp [Value.cells] at hcs
    obtain ⟨rfl, rfl, rfl⟩ := hcs
    exact ⟨[], none, 0, rfl, (fun _ => rfl), .inl rfl⟩
  · simp [Value.cells] at hcs
    obtain ⟨rfl, rfl, rfl⟩ := hcs
    simp only [if_true] at hz
    have hlen : (zs.take len).length = len := by rw [List.length_take]; omega
    refine ⟨zs.take len, some a, cap, by rw [hlen], (fun h => by cases h), ?_⟩
    by_cases h0 : len = 0
    · subst h0; exact .inl rfl
    · obtain ⟨b, off, rfl, hc⟩ := ints_at hcell (by omega)
      refine .inr ⟨b, off, rfl, fun t ht => ?_⟩
      rw [hlen] at ht
      rw [hc t (by omega)]
      simp [List.getD_eq_getElem?_getD, ht]
theorem ints_stay {H : Type} {enc : TypeId × Value → H} {W W' : World} {v : Value} {d : DataW H} {p : List MemPlace} (h : DataW.Trod enc Tryz.prog W 0 (fun _ => true) true 22 v d p) (hb : Below W.heap.size W W') (hlt : ∀ x ∈ p, x.block < W.heap.size) :
    DataW.Trod enc Tryz.prog W' 0 (fun b => decide (b < W.heap.size)) true 22 v d p :=
  Below.trod Tryz.laidOutP Tryz.readP23 Tryz.ltP23 h hb hlt
end Go.Proofs.YtepnghacjggkkaaGreatDoor
namespace Go.Proofs.YtepnghacjggkkaaGreatDoor
open Go.RowKit Go.Extern.Stop Go.Stop Go.Extern

def ent (f : Func) : Array Value → Sem Value := (Extern.find f).getD fun _ => pure .nilIface
theorem Tryz.isTypeOf (v : Value) (w : World) : (Extern.ReflectliteType.typeOf #[.iface 276 v]).run Tryz.prog w = .ok (.iface 180 (.agg #[.pointer (some ⟨13, 276, none⟩)])) w := by kernel_rfl
theorem Tryz.isComparable (w : World) : ((ent Tryz.f213) #[.agg #[.pointer (some ⟨13, 276, none⟩)]]).run Tryz.prog w = .ok (.bool true) w := by kernel_rfl
theorem Tryz.isMethodComparable (v : Value) (w : World) : (Go.method 407 180 v "Comparable").run Tryz.prog w = .ok (213, v) w := by kernel_rfl
theorem Tryz.isComp : (Tryz.prog.info? 276).map (·.comparable) = some true := by kernel_rfl
theorem Tryz.isSize : (Tryz.prog.info? 296).map (·.size) = some 1 := by kernel_rfl
theorem Tryz.noIsE (v : Value) (xT : TypeId) (w : World) : (Instr.typeAssert (.iface 276 v) xT 190 true).run Tryz.prog w = .ok (.tuple #[.nilIface, .bool false]) w := run_typeAssert_lacksB Tryz.underlying190 (by kernel_rfl) (by kernel_rfl) v xT w
theorem Tryz.noUnwrapE (v : Value) (xT : TypeId) (w : World) : (Instr.typeAssert (.iface 276 v) xT 187 true).run Tryz.prog w = .ok (.tuple #[.nilIface, .bool false]) w := run_typeAssert_lacksB Tryz.underlying187 (by kernel_rfl) (by kernel_rfl) v xT w
theorem Tryz.noUnwrapsE (v : Value) (xT : TypeId) (w : World) : (Instr.typeAssert (.iface 276 v) xT 188 true).run Tryz.prog w = .ok (.tuple #[.nilIface, .bool false]) w := run_typeAssert_lacksB Tryz.underlying188 (by kernel_rfl) (by kernel_rfl) v xT w
theorem Tryz.noAsE (v : Value) (xT : TypeId) (w : World) : (Instr.typeAssert (.iface 276 v) xT 184 true).run Tryz.prog w = .ok (.tuple #[.nilIface, .bool false]) w := run_typeAssert_lacksB Tryz.underlying184 (by kernel_rfl) (by kernel_rfl) v xT w
theorem Tryz.noIsF (v : Value) (xT : TypeId) (w : World) : (Instr.typeAssert (.iface 116 v) xT 190 true).run Tryz.prog w = .ok (.tuple #[.nilIface, .bool false]) w := run_typeAssert_lacksB Tryz.underlying190 (by kernel_rfl) (by kernel_rfl) v xT w
theorem Tryz.hasUnwrapF (v : Value) (xT : TypeId) (w : World) : (Instr.typeAssert (.iface 116 v) xT 187 true).run Tryz.prog w = .ok (.tuple #[.iface 116 v, .bool true]) w := run_typeAssert_hasB Tryz.underlying187 (by kernel_rfl) v xT w
theorem Tryz.methodUnwrap (v : Value) (w : World) : (Go.method 407 116 v "Unwrap").run Tryz.prog w = .ok (207, v) w := by kernel_rfl
theorem is_same (a : Addr) (w : World) :
    Calls Tryz.prog 51 #[.iface 276 (.pointer (some a)), .iface 276 (.pointer (some a))] w fun e w' => e = .returned (.bool true) ∧ w' = w := by
  obtain ⟨i, hi, hcmp⟩ := Option.map_eq_some_iff.1 Tryz.isComp
  obtain ⟨j, hj, hjs⟩ := Option.map_eq_some_iff.1 Tryz.isSize
  have h50 := @run_callFunc_extern Tryz.prog 76 _ Extern.ReflectliteType.typeOf Tryz.func76 (by kernel_rfl) (by kernel_rfl) (by kernel_rfl) (by kernel_rfl)
  have h130 := @run_callFunc_extern Tryz.prog 213 _ (ent Tryz.f213) Tryz.func213 (by kernel_rfl) (by kernel_rfl) (by kernel_rfl) (by kernel_rfl)
  have tT := Tryz.isTypeOf
  have cT := Tryz.isComparable
  have mR := Tryz.isMethodComparable
  have nE := Tryz.noIsE
  have uE := Tryz.noUnwrapE
  have vE := Tryz.noUnwrapsE
  have nF := Tryz.noIsF
  have uF := Tryz.hasUnwrapF
  have mU := Tryz.methodUnwrap
  have heq := run_eql_iface_ptr_same (P := Tryz.prog) w a Tryz.underlying26 Tryz.underlying276 hi hcmp hj
  go_enter Tryz.func51, Tryz.ntmps51
  go_wp2
  refine wp_loop_rounds 1 ?_
  rw [rounds_succ]
  go_wp2
  go_ret
  exact ⟨rfl, rfl⟩
theorem is_other (a b : Addr) (ca cb : Array Value) (ta tb : TypeId) (w : World) (hne : a ≠ b) (ha : w.heap[a.block]? = some (.cells ca ta (0, 0))) (hb : w.heap[b.block]? = some (.cells cb tb (0, 0))) :
    Calls Tryz.prog 51 #[.iface 276 (.pointer (some a)), .iface 276 (.pointer (some b))] w fun e w' => e = .returned (.bool false) ∧ w' = w := by
  obtain ⟨i, hi, hcmp⟩ := Option.map_eq_some_iff.1 Tryz.isComp
  obtain ⟨j, hj, hjs⟩ := Option.map_eq_some_iff.1 Tryz.isSize
  have h50 := @run_callFunc_extern Tryz.prog 76 _ Extern.ReflectliteType.typeOf Tryz.func76 (by kernel_rfl) (by kernel_rfl) (by kernel_rfl) (by kernel_rfl)
  have h130 := @run_callFunc_extern Tryz.prog 213 _ (ent Tryz.f213) Tryz.func213 (by kernel_rfl) (by kernel_rfl) (by kernel_rfl) (by kernel_rfl)
  have tT := Tryz.isTypeOf
  have cT := Tryz.isComparable
  have mR := Tryz.isMethodComparable
  have nE := Tryz.noIsE
  have uE := Tryz.noUnwrapE
  have vE := Tryz.noUnwrapsE
  have nF := Tryz.noIsF
  have uF := Tryz.hasUnwrapF
  have mU := Tryz.methodUnwrap
  have heq := run_eql_iface_ptr_other (P := Tryz.prog) w Tryz.underlying26 Tryz.underlying276 hi hcmp hj (by rw [hjs]; decide) hne ha hb
  go_enter Tryz.func51, Tryz.ntmps51
  go_wp2
  refine wp_loop_rounds 1 ?_
  rw [rounds_succ]
  go_wp2
  go_ret
  exact ⟨rfl, rfl⟩
end Go.Proofs.YtepnghacjggkkaaGreatDoor
namespace Go.Proofs.YtepnghacjggkkaaGreatDoor
open Go.RowKit Go.Extern.Stop Go.Stop Go.Extern

theorem Tryz.valueOf118 (t : Addr) (w : World) : (ent Tryz.f72 #[.iface 118 (.pointer (some t))]).run Tryz.prog w
    = .ok (.agg #[.pointer (some ⟨13, 118, none⟩), .pointer (some ⟨w.heap.size, 0, none⟩), .int .u64 150]) (w.alloc (.cells #[.pointer (some t)] 118)) := by kernel_rfl
theorem Tryz.valueOf116 (e : Addr) (w : World) : (ent Tryz.f72 #[.iface 116 (.pointer (some e))]).run Tryz.prog w
    = .ok (.agg #[.pointer (some ⟨13, 116, none⟩), .pointer (some ⟨w.heap.size, 0, none⟩), .int .u64 150]) (w.alloc (.cells #[.pointer (some e)] 116)) := by kernel_rfl
theorem Tryz.type118 (a : Addr) (w : World) : (ent Tryz.f73 #[.agg #[.pointer (some ⟨13, 118, none⟩), .pointer (some a), .int .u64 150]]).run Tryz.prog w
    = .ok (.iface 180 (.agg #[.pointer (some ⟨13, 118, none⟩)])) w := by kernel_rfl
theorem Tryz.methodKind (h : Value) (w : World) : (Go.method 407 180 (.agg #[h]) "Kind").run Tryz.prog w = .ok (201, h) w := by kernel_rfl
theorem Tryz.methodElem (h : Value) (w : World) : (Go.method 407 180 (.agg #[h]) "Elem").run Tryz.prog w = .ok (214, .agg #[h]) w := by kernel_rfl
theorem Tryz.methodImplements (h : Value) (w : World) : (Go.method 407 180 (.agg #[h]) "Implements").run Tryz.prog w = .ok (215, .agg #[h]) w := by kernel_rfl
theorem Tryz.methodAssignableTo (h : Value) (w : World) : (Go.method 407 180 (.agg #[h]) "AssignableTo").run Tryz.prog w = .ok (212, .agg #[h]) w := by kernel_rfl
theorem Tryz.kind118 (w : World) : (ent Tryz.f201 #[.pointer (some ⟨13, 118, none⟩)]).run Tryz.prog w = .ok (.int .u8 22) w := by kernel_rfl
theorem Tryz.kind116 (w : World) : (ent Tryz.f201 #[.pointer (some ⟨13, 116, none⟩)]).run Tryz.prog w = .ok (.int .u8 22) w := by kernel_rfl
theorem Tryz.elem118 (w : World) : (ent Tryz.f214 #[.agg #[.pointer (some ⟨13, 118, none⟩)]]).run Tryz.prog w = .ok (.iface 180 (.agg #[.pointer (some ⟨13, 116, none⟩)])) w := by kernel_rfl
theorem Tryz.implements116 (w : World) : (ent Tryz.f215 #[.agg #[.pointer (some ⟨13, 116, none⟩)], .iface 180 (.agg #[.pointer (some ⟨13, 26, none⟩)])]).run Tryz.prog w = .ok (.bool true) w := by kernel_rfl
theorem Tryz.typeOf116 (v : Value) (w : World) : (ent Tryz.f76 #[.iface 116 v]).run Tryz.prog w = .ok (.iface 180 (.agg #[.pointer (some ⟨13, 116, none⟩)])) w := by kernel_rfl
theorem Tryz.typeOf276 (v : Value) (w : World) : (ent Tryz.f76 #[.iface 276 v]).run Tryz.prog w = .ok (.iface 180 (.agg #[.pointer (some ⟨13, 276, none⟩)])) w := by kernel_rfl
theorem Tryz.assignable116 (w : World) : (ent Tryz.f212 #[.agg #[.pointer (some ⟨13, 116, none⟩)], .iface 180 (.agg #[.pointer (some ⟨13, 116, none⟩)])]).run Tryz.prog w = .ok (.bool true) w := by kernel_rfl
theorem Tryz.assignable276 (w : World) : (ent Tryz.f212 #[.agg #[.pointer (some ⟨13, 276, none⟩)], .iface 180 (.agg #[.pointer (some ⟨13, 116, none⟩)])]).run Tryz.prog w = .ok (.bool false) w := by kernel_rfl
theorem Tryz.ent74 : ent Tryz.f74 = ReflectliteValue.method (ReflectliteValue.valueError "reflectlite.Value.IsNil" 0) ReflectliteValue.isNil := by kernel_rfl
theorem Tryz.ent97 : ent Tryz.f97 = ReflectliteValue.method (ReflectliteValue.valueError "reflectlite.Value.Elem" 0) ReflectliteValue.elem := by kernel_rfl
theorem Tryz.ent98 : ent Tryz.f98 = ReflectliteValue.set := by kernel_rfl
theorem Tryz.parts118 (a : Addr) (w : World) : (ReflectliteValue.parts (.agg #[.pointer (some ⟨13, 118, none⟩), .pointer (some a), .int .u64 150])).run Tryz.prog w = .ok (some (118, a, 150)) w := by kernel_rfl
theorem Tryz.parts116a (a : Addr) (w : World) : (ReflectliteValue.parts (.agg #[.pointer (some ⟨13, 116, none⟩), .pointer (some a), .int .u64 406])).run Tryz.prog w = .ok (some (116, a, 406)) w := by kernel_rfl
theorem Tryz.parts116 (a : Addr) (w : World) : (ReflectliteValue.parts (.agg #[.pointer (some ⟨13, 116, none⟩), .pointer (some a), .int .u64 150])).run Tryz.prog w = .ok (some (116, a, 150)) w := by kernel_rfl
theorem Tryz.elemOf118 (w : World) : (Rtype.elem? 118).run Tryz.prog w = .ok (some 116) w := by kernel_rfl
theorem Tryz.mk116 (p : Addr) (w : World) : (ReflectliteValue.mk 116 p ReflectliteValue.flagAddr).run Tryz.prog w = .ok (.agg #[.pointer (some ⟨13, 116, none⟩), .pointer (some p), .int .u64 406]) w := by kernel_rfl
theorem Tryz.direct116 (w : World) : (Rtype.directlyAssignable 116 116).run Tryz.prog w = .ok true w := by kernel_rfl
theorem Tryz.isNil118 (a p : Addr) (W : World) (ha : W.cell? a = some (.pointer (some p))) :
    (ent Tryz.f74 #[.agg #[.pointer (some ⟨13, 118, none⟩), .pointer (some a), .int .u64 150]]).run Tryz.prog W = .ok (.bool false) W := by
  rw [Tryz.ent74]
  show (ReflectliteValue.parts (.agg #[.pointer (some ⟨13, 118, none⟩), .pointer (some a), .int .u64 150]) >>= _).run _ _ = _
  simp only [Sem.run_bind, Tryz.parts118, Result.andThen]
  simp [ReflectliteValue.isNil, loadVar, isAgg, underlying, Tryz.underlying118, ha, Result.andThen]
theorem Tryz.elemV118 (a p : Addr) (W : World) (ha : W.cell? a = some (.pointer (some p))) :
    (ent Tryz.f97 #[.agg #[.pointer (some ⟨13, 118, none⟩), .pointer (some a), .int .u64 150]]).run Tryz.prog W
      = .ok (.agg #[.pointer (some ⟨13, 116, none⟩), .pointer (some p), .int .u64 406]) W := by
  rw [Tryz.ent97]
  show (ReflectliteValue.parts (.agg #[.pointer (some ⟨13, 118, none⟩), .pointer (some a), .int .u64 150]) >>= _).run _ _ = _
  simp only [Sem.run_bind, Tryz.parts118, Result.andThen]
  simp [ReflectliteValue.elem, loadVar, isAgg, underlying, Tryz.underlying118, ha, Result.andThen, Tryz.elemOf118, Tryz.mk116]
theorem Tryz.set116 (ta b e : Addr) (old : Value) (W : World) (hb : W.cell? b = some (.pointer (some e))) (ht : W.cell? ta = some old) (hf : W.frozen? ta = false) :
    (ent Tryz.f98 #[.agg #[.pointer (some ⟨13, 116, none⟩), .pointer (some ta), .int .u64 406], .agg #[.pointer (some ⟨13, 116, none⟩), .pointer (some b), .int .u64 150]]).run Tryz.prog W
      = .ok (.tuple #[]) (W.setCell ta (.pointer (some e))) := by
  rw [Tryz.ent98]
  show (ReflectliteValue.parts (.agg #[.pointer (some ⟨13, 116, none⟩), .pointer (some ta), .int .u64 406]) >>= fun x => ReflectliteValue.parts (.agg #[.pointer (some ⟨13, 116, none⟩), .pointer (some b), .int .u64 150]) >>= _).run _ _ = _
  simp only [Sem.run_bind, Tryz.parts116a, Tryz.parts116, Result.andThen]
  simp [ReflectliteValue.flagAddr, loadVar, isAgg, underlying, Tryz.underlying116, hb, Result.andThen, Tryz.direct116, storeVar, Value.cells, storeCells, Addr.add]
  rw [run_store Tryz.prog W ta _ _ (by rfl)]
  simp [ht, hf]
end Go.Proofs.YtepnghacjggkkaaGreatDoor
namespace Go.Proofs.YtepnghacjggkkaaGreatDoor
open Go.RowKit Go.Extern.Stop Go.Stop Go.Extern

set_option maxHeartbeats 4000000 in
theorem as_hit (e t : Addr) (old : Value) (w : World) (hg : w.cell? ⟨12, 0, none⟩ = some (.iface 180 (.agg #[.pointer (some ⟨13, 26, none⟩)]))) (ht0 : w.cell? t = some old) (hf0 : w.frozen? t = false) :
    Calls Tryz.prog 50 #[.iface 116 (.pointer (some e)), .iface 118 (.pointer (some t))] w fun ev w' => ev = .returned (.bool true) ∧ w' = ((((w.alloc (.cells #[.pointer (some t)] 118)).alloc (.cells #[.pointer (some ⟨13, 118, none⟩), .pointer (some ⟨w.heap.size, 0, none⟩), .int .u64 150] 148)).alloc (.cells #[.pointer (some ⟨13, 118, none⟩), .pointer (some ⟨w.heap.size, 0, none⟩), .int .u64 150] 148)).alloc (.cells #[.pointer (some e)] 116)).setCell t (.pointer (some e)) := by
  have h46 := @run_callFunc_extern Tryz.prog 72 _ (ent Tryz.f72) Tryz.func72 (by kernel_rfl) (by kernel_rfl) (by kernel_rfl) (by kernel_rfl)
  have h47 := @run_callFunc_extern Tryz.prog 73 _ (ent Tryz.f73) Tryz.func73 (by kernel_rfl) (by kernel_rfl) (by kernel_rfl) (by kernel_rfl)
  have h48 := @run_callFunc_extern Tryz.prog 74 _ (ent Tryz.f74) Tryz.func74 (by kernel_rfl) (by kernel_rfl) (by kernel_rfl) (by kernel_rfl)
  have h118 := @run_callFunc_extern Tryz.prog 201 _ (ent Tryz.f201) Tryz.func201 (by kernel_rfl) (by kernel_rfl) (by kernel_rfl) (by kernel_rfl)
  have h131 := @run_callFunc_extern Tryz.prog 214 _ (ent Tryz.f214) Tryz.func214 (by kernel_rfl) (by kernel_rfl) (by kernel_rfl) (by kernel_rfl)
  have h132 := @run_callFunc_extern Tryz.prog 215 _ (ent Tryz.f215) Tryz.func215 (by kernel_rfl) (by kernel_rfl) (by kernel_rfl) (by kernel_rfl)
  have h50 := @run_callFunc_extern Tryz.prog 76 _ (ent Tryz.f76) Tryz.func76 (by kernel_rfl) (by kernel_rfl) (by kernel_rfl) (by kernel_rfl)
  have h129 := @run_callFunc_extern Tryz.prog 212 _ (ent Tryz.f212) Tryz.func212 (by kernel_rfl) (by kernel_rfl) (by kernel_rfl) (by kernel_rfl)
  have h62 := @run_callFunc_extern Tryz.prog 97 _ (ent Tryz.f97) Tryz.func97 (by kernel_rfl) (by kernel_rfl) (by kernel_rfl) (by kernel_rfl)
  have h63 := @run_callFunc_extern Tryz.prog 98 _ (ent Tryz.f98) Tryz.func98 (by kernel_rfl) (by kernel_rfl) (by kernel_rfl) (by kernel_rfl)
  have q0 := Tryz.valueOf118
  have q1 := Tryz.valueOf116
  have q2 := Tryz.type118
  have q3 := Tryz.methodKind
  have q4 := Tryz.methodElem
  have q5 := Tryz.methodImplements
  have q6 := Tryz.methodAssignableTo
  have q7 := Tryz.kind118
  have q8 := Tryz.kind116
  have q9 := Tryz.elem118
  have q10 := Tryz.implements116
  have q11 := Tryz.typeOf116
  have q12 := Tryz.typeOf276
  have q13 := Tryz.assignable116
  have q14 := Tryz.assignable276
  have q15 := Tryz.noAsE
  have q16 := Tryz.noUnwrapE
  have q17 := Tryz.noUnwrapsE
  have n8 := Tryz.isNil118 ⟨w.heap.size, 0, none⟩ t ((w.alloc (.cells #[.pointer (some t)] 118)).alloc (.cells #[.pointer (some ⟨13, 118, none⟩), .pointer (some ⟨w.heap.size, 0, none⟩), .int .u64 150] 148)) (by simp)
  have hlt : 12 < w.heap.size := by
    rcases Nat.lt_or_ge 12 w.heap.size with h | h
    · exact h
    · simp [World.cell?, Array.getElem?_eq_none h] at hg
  have hg2 : ((w.alloc (.cells #[.pointer (some t)] 118)).alloc (.cells #[.pointer (some ⟨13, 118, none⟩), .pointer (some ⟨w.heap.size, 0, none⟩), .int .u64 150] 148)).cell? ⟨12, 0, none⟩ = some (.iface 180 (.agg #[.pointer (some ⟨13, 26, none⟩)])) := by
    rw [World.cell?_alloc_lt _ _ ⟨12, 0, none⟩ (by simp; omega), World.cell?_alloc_lt _ _ ⟨12, 0, none⟩ hlt]; exact hg
  have el := Tryz.elemV118 ⟨w.heap.size, 0, none⟩ t (((w.alloc (.cells #[.pointer (some t)] 118)).alloc (.cells #[.pointer (some ⟨13, 118, none⟩), .pointer (some ⟨w.heap.size, 0, none⟩), .int .u64 150] 148)).alloc (.cells #[.pointer (some ⟨13, 118, none⟩), .pointer (some ⟨w.heap.size, 0, none⟩), .int .u64 150] 148)) (by rw [World.cell?_alloc_lt _ _ ⟨w.heap.size, 0, none⟩ (by simp; omega)]; simp)
  have htl : t.block < w.heap.size := by
    rcases Nat.lt_or_ge t.block w.heap.size with h | h
    · exact h
    · simp [World.cell?, Array.getElem?_eq_none h] at ht0
  have st := Tryz.set116 t ⟨w.heap.size + 1 + 1 + 1, 0, none⟩ e old ((((w.alloc (.cells #[.pointer (some t)] 118)).alloc (.cells #[.pointer (some ⟨13, 118, none⟩), .pointer (some ⟨w.heap.size, 0, none⟩), .int .u64 150] 148)).alloc (.cells #[.pointer (some ⟨13, 118, none⟩), .pointer (some ⟨w.heap.size, 0, none⟩), .int .u64 150] 148)).alloc (.cells #[.pointer (some e)] 116))
    (by rw [World.cell?_alloc_at _ _ _ _ (by simp)]; rfl)
    (by rw [World.cell?_alloc_lt _ _ t (by simp; omega), World.cell?_alloc_lt _ _ t (by simp; omega), World.cell?_alloc_lt _ _ t (by simp; omega), World.cell?_alloc_lt _ _ t htl]; exact ht0)
    (by rw [World.frozen?_alloc_old _ _ t (by simp; omega), World.frozen?_alloc_old _ _ t (by simp; omega), World.frozen?_alloc_old _ _ t (by simp; omega), World.frozen?_alloc_old _ _ t (Nat.ne_of_lt htl)]; exact hf0)
  go_enter Tryz.func50, Tryz.ntmps50
  go_wp2
  refine wp_loop_rounds 1 ?_
  rw [rounds_succ]
  go_wp2
  go_ret
  exact ⟨rfl, rfl⟩
set_option maxHeartbeats 4000000 in
theorem as_miss (e t : Addr) (w : World) (hg : w.cell? ⟨12, 0, none⟩ = some (.iface 180 (.agg #[.pointer (some ⟨13, 26, none⟩)]))) :
    Calls Tryz.prog 50 #[.iface 276 (.pointer (some e)), .iface 118 (.pointer (some t))] w fun ev w' => ev = .returned (.bool false) ∧ w' = ((w.alloc (.cells #[.pointer (some t)] 118)).alloc (.cells #[.pointer (some ⟨13, 118, none⟩), .pointer (some ⟨w.heap.size, 0, none⟩), .int .u64 150] 148)).alloc (.cells #[.pointer (some ⟨13, 118, none⟩), .pointer (some ⟨w.heap.size, 0, none⟩), .int .u64 150] 148) := by
  have h46 := @run_callFunc_extern Tryz.prog 72 _ (ent Tryz.f72) Tryz.func72 (by kernel_rfl) (by kernel_rfl) (by kernel_rfl) (by kernel_rfl)
  have h47 := @run_callFunc_extern Tryz.prog 73 _ (ent Tryz.f73) Tryz.func73 (by kernel_rfl) (by kernel_rfl) (by kernel_rfl) (by kernel_rfl)
  have h48 := @run_callFunc_extern Tryz.prog 74 _ (ent Tryz.f74) Tryz.func74 (by kernel_rfl) (by kernel_rfl) (by kernel_rfl) (by kernel_rfl)
  have h118 := @run_callFunc_extern Tryz.prog 201 _ (ent Tryz.f201) Tryz.func201 (by kernel_rfl) (by kernel_rfl) (by kernel_rfl) (by kernel_rfl)
  have h131 := @run_callFunc_extern Tryz.prog 214 _ (ent Tryz.f214) Tryz.func214 (by kernel_rfl) (by kernel_rfl) (by kernel_rfl) (by kernel_rfl)
  have h132 := @run_callFunc_extern Tryz.prog 215 _ (ent Tryz.f215) Tryz.func215 (by kernel_rfl) (by kernel_rfl) (by kernel_rfl) (by kernel_rfl)
  have h50 := @run_callFunc_extern Tryz.prog 76 _ (ent Tryz.f76) Tryz.func76 (by kernel_rfl) (by kernel_rfl) (by kernel_rfl) (by kernel_rfl)
  have h129 := @run_callFunc_extern Tryz.prog 212 _ (ent Tryz.f212) Tryz.func212 (by kernel_rfl) (by kernel_rfl) (by kernel_rfl) (by kernel_rfl)
  have h62 := @run_callFunc_extern Tryz.prog 97 _ (ent Tryz.f97) Tryz.func97 (by kernel_rfl) (by kernel_rfl) (by kernel_rfl) (by kernel_rfl)
  have h63 := @run_callFunc_extern Tryz.prog 98 _ (ent Tryz.f98) Tryz.func98 (by kernel_rfl) (by kernel_rfl) (by kernel_rfl) (by kernel_rfl)
  have q0 := Tryz.valueOf118
  have q1 := Tryz.valueOf116
  have q2 := Tryz.type118
  have q3 := Tryz.methodKind
  have q4 := Tryz.methodElem
  have q5 := Tryz.methodImplements
  have q6 := Tryz.methodAssignableTo
  have q7 := Tryz.kind118
  have q8 := Tryz.kind116
  have q9 := Tryz.elem118
  have q10 := Tryz.implements116
  have q11 := Tryz.typeOf116
  have q12 := Tryz.typeOf276
  have q13 := Tryz.assignable116
  have q14 := Tryz.assignable276
  have q15 := Tryz.noAsE
  have q16 := Tryz.noUnwrapE
  have q17 := Tryz.noUnwrapsE
  have n8 := Tryz.isNil118 ⟨w.heap.size, 0, none⟩ t ((w.alloc (.cells #[.pointer (some t)] 118)).alloc (.cells #[.pointer (some ⟨13, 118, none⟩), .pointer (some ⟨w.heap.size, 0, none⟩), .int .u64 150] 148)) (by simp)
  have hlt : 12 < w.heap.size := by
    rcases Nat.lt_or_ge 12 w.heap.size with h | h
    · exact h
    · simp [World.cell?, Array.getElem?_eq_none h] at hg
  have hg2 : ((w.alloc (.cells #[.pointer (some t)] 118)).alloc (.cells #[.pointer (some ⟨13, 118, none⟩), .pointer (some ⟨w.heap.size, 0, none⟩), .int .u64 150] 148)).cell? ⟨12, 0, none⟩ = some (.iface 180 (.agg #[.pointer (some ⟨13, 26, none⟩)])) := by
    rw [World.cell?_alloc_lt _ _ ⟨12, 0, none⟩ (by simp; omega), World.cell?_alloc_lt _ _ ⟨12, 0, none⟩ hlt]; exact hg
  go_enter Tryz.func50, Tryz.ntmps50
  go_wp2
  refine wp_loop_rounds 1 ?_
  rw [rounds_succ]
  go_wp2
  go_ret
  exact ⟨rfl, rfl⟩
end Go.Proofs.YtepnghacjggkkaaGreatDoor
namespace Go.Proofs.YtepnghacjggkkaaGreatDoor
open Go.RowKit
set_option linter.unusedSectionVars false
variable [Inhabited ComV] [DecidableEq D3] [Inhabited D3] [Inhabited Dd] [Inhabited Dn] [Inhabited OpV]

def twelve (A : Nat → Addr) : Obj := .cells #[.iface 276 (.pointer (some (A 0))), .iface 276 (.pointer (some (A 1))), .iface 276 (.pointer (some (A 2))), .iface 276 (.pointer (some (A 3))), .iface 276 (.pointer (some (A 4))), .iface 276 (.pointer (some (A 5))), .iface 276 (.pointer (some (A 6))), .iface 276 (.pointer (some (A 7))), .iface 276 (.pointer (some (A 8))), .iface 276 (.pointer (some (A 9))), .iface 276 (.pointer (some (A 10))), .iface 276 (.pointer (some (A 11)))] 26
theorem twelve_cell (A : Nat → Addr) (w : World) (n m : Nat) (hn : n = w.heap.size) (h : m < 12) : (w.alloc (twelve A)).cell? ⟨n, m, none⟩ = some (.iface 276 (.pointer (some (A m)))) := by
  unfold twelve
  rw [World.cell?_alloc_at _ _ _ _ hn]
  rcases (by omega : m = 0 ∨ m = 1 ∨ m = 2 ∨ m = 3 ∨ m = 4 ∨ m = 5 ∨ m = 6 ∨ m = 7 ∨ m = 8 ∨ m = 9 ∨ m = 10 ∨ m = 11) with rfl | rfl | rfl | rfl | rfl | rfl | rfl | rfl | rfl | rfl | rfl | rfl <;> rfl
set_option maxHeartbeats 4000000 in
theorem code_sent (A : Nat → Addr) (B : Nat) (w : World) (k : Nat) (hS : Sents A B w) (hk : k < 12) :
    Calls Tryz.prog 32 #[.iface 276 (.pointer (some (A k)))] w fun e w' => e = .returned (.tuple #[.int .i64 (k + 1), .int .i64 (-1)]) ∧ Below w.heap.size w w' := by
  have g0 : ∀ o1 o2 o3 o4, ((((w.alloc o1).alloc o2).alloc o3).alloc o4).cell? ⟨6, 0, none⟩ = some (.iface 276 (.pointer (some (A 0)))) := fun _ _ _ _ => cell_alloc (cell_alloc (cell_alloc (cell_alloc (hS.cell 0 (by omega)) _) _) _) _
  have g1 : ∀ o1 o2 o3 o4, ((((w.alloc o1).alloc o2).alloc o3).alloc o4).cell? ⟨0, 0, none⟩ = some (.iface 276 (.pointer (some (A 1)))) := fun _ _ _ _ => cell_alloc (cell_alloc (cell_alloc (cell_alloc (hS.cell 1 (by omega)) _) _) _) _
  have g2 : ∀ o1 o2 o3 o4, ((((w.alloc o1).alloc o2).alloc o3).alloc o4).cell? ⟨2, 0, none⟩ = some (.iface 276 (.pointer (some (A 2)))) := fun _ _ _ _ => cell_alloc (cell_alloc (cell_alloc (cell_alloc (hS.cell 2 (by omega)) _) _) _) _
  have g3 : ∀ o1 o2 o3 o4, ((((w.alloc o1).alloc o2).alloc o3).alloc o4).cell? ⟨7, 0, none⟩ = some (.iface 276 (.pointer (some (A 3)))) := fun _ _ _ _ => cell_alloc (cell_alloc (cell_alloc (cell_alloc (hS.cell 3 (by omega)) _) _) _) _
  have g4 : ∀ o1 o2 o3 o4, ((((w.alloc o1).alloc o2).alloc o3).alloc o4).cell? ⟨4, 0, none⟩ = some (.iface 276 (.pointer (some (A 4)))) := fun _ _ _ _ => cell_alloc (cell_alloc (cell_alloc (cell_alloc (hS.cell 4 (by omega)) _) _) _) _
  have g5 : ∀ o1 o2 o3 o4, ((((w.alloc o1).alloc o2).alloc o3).alloc o4).cell? ⟨8, 0, none⟩ = some (.iface 276 (.pointer (some (A 5)))) := fun _ _ _ _ => cell_alloc (cell_alloc (cell_alloc (cell_alloc (hS.cell 5 (by omega)) _) _) _) _
  have g6 : ∀ o1 o2 o3 o4, ((((w.alloc o1).alloc o2).alloc o3).alloc o4).cell? ⟨9, 0, none⟩ = some (.iface 276 (.pointer (some (A 6)))) := fun _ _ _ _ => cell_alloc (cell_alloc (cell_alloc (cell_alloc (hS.cell 6 (by omega)) _) _) _) _
  have g7 : ∀ o1 o2 o3 o4, ((((w.alloc o1).alloc o2).alloc o3).alloc o4).cell? ⟨10, 0, none⟩ = some (.iface 276 (.pointer (some (A 7)))) := fun _ _ _ _ => cell_alloc (cell_alloc (cell_alloc (cell_alloc (hS.cell 7 (by omega)) _) _) _) _
  have g8 : ∀ o1 o2 o3 o4, ((((w.alloc o1).alloc o2).alloc o3).alloc o4).cell? ⟨5, 0, none⟩ = some (.iface 276 (.pointer (some (A 8)))) := fun _ _ _ _ => cell_alloc (cell_alloc (cell_alloc (cell_alloc (hS.cell 8 (by omega)) _) _) _) _
  have g9 : ∀ o1 o2 o3 o4, ((((w.alloc o1).alloc o2).alloc o3).alloc o4).cell? ⟨1, 0, none⟩ = some (.iface 276 (.pointer (some (A 9)))) := fun _ _ _ _ => cell_alloc (cell_alloc (cell_alloc (cell_alloc (hS.cell 9 (by omega)) _) _) _) _
  have g10 : ∀ o1 o2 o3 o4, ((((w.alloc o1).alloc o2).alloc o3).alloc o4).cell? ⟨3, 0, none⟩ = some (.iface 276 (.pointer (some (A 10)))) := fun _ _ _ _ => cell_alloc (cell_alloc (cell_alloc (cell_alloc (hS.cell 10 (by omega)) _) _) _) _
  have g11 : ∀ o1 o2 o3 o4, ((((w.alloc o1).alloc o2).alloc o3).alloc o4).cell? ⟨11, 0, none⟩ = some (.iface 276 (.pointer (some (A 11)))) := fun _ _ _ _ => cell_alloc (cell_alloc (cell_alloc (cell_alloc (hS.cell 11 (by omega)) _) _) _) _
  have hg := hS.handle
  have hz : 12 < w.heap.size := by have := hS.gl; have := hS.size; omega
  go_enter Tryz.func32, Tryz.ntmps32
  go_wp2_with (go_at_call 50; refine (as_miss _ _ _ (cell_alloc hg _)).mono ?_; rintro e w' ⟨rfl, rfl⟩)
  go_loopw [3, 30] (fun a i wr => ∃ m : Nat, m ≤ k ∧ i = .int .i64 m ∧ a = .int .i64 (-1) ∧ (∀ j, j < 12 → wr.cell? ⟨w.heap.size + 1 + 1 + 1 + 1, j, none⟩ = some (.iface 276 (.pointer (some (A j))))) ∧ Sents A B wr ∧ Below w.heap.size w wr) (fun _ i _ => 12 - (intOf i).toNat)
  case atStart =>
    refine ⟨0, Nat.zero_le _, rfl, rfl, fun j hj => ?_, ?_, ?_⟩
    · exact twelve_cell A _ _ j (by simp) hj
    · refine hS.below ?_
      refine Below.mono ?_ hS.size
      go_grown
    · go_grown
  case round =>
    obtain ⟨m, hm, rfl, rfl, hrow, hSr, hbl⟩ := hrel
    have hc := hrow m (by omega)
    have h12 : m < 12 := by omega
    have HR : Hid (∀ j, j < 12 → wr.cell? ⟨w.heap.size + 1 + 1 + 1 + 1, j, none⟩ = some (.iface 276 (.pointer (some (A j))))) := hrow
    clear hrow g0 g1 g2 g3 g4 g5 g6 g7 g8 g9 g10 g11 hg
    by_cases e : m = k
    · subst e
      go_wp2_with (go_at_call 51; refine (is_same _ _).mono ?_; rintro e w' ⟨rfl, rfl⟩)
      go_ret2
      exact ⟨rfl, hbl⟩
    · have hne : A k ≠ A m := hSr.ne k m hk (by omega) (Ne.symm e)
      obtain ⟨ca, ta, ha⟩ := hSr.row k hk
      obtain ⟨cb, tb, hb⟩ := hSr.row m (by omega)
      go_wp2_with (go_at_call 51; refine (is_other _ _ _ _ _ _ _ hne ha hb).mono ?_; rintro e w' ⟨rfl, rfl⟩)
      go_roundw
      case rel => exact ⟨m + 1, by omega, by go_num, rfl, HR.out, hSr, hbl⟩
      case measure => simp [intOf]; omega
end Go.Proofs.YtepnghacjggkkaaGreatDoor
namespace Go.Proofs.YtepnghacjggkkaaGreatDoor
open Go.RowKit
set_option linter.unusedSectionVars false
variable [Inhabited ComV] [DecidableEq D3] [Inhabited D3] [Inhabited Dd] [Inhabited Dn] [Inhabited OpV]

theorem coded_sentS (A : Nat → Addr) (B : Nat) (w : World) (k : Nat) (n : Int) (hS : Sents A B w) (hk : k < 12) (hn : n = k + 1) :
    Calls Tryz.prog 11 #[.iface 276 (.pointer (some (A k))), .int .i64 n] w fun e w' => e = .returned (.bool true) ∧ Below w.heap.size w w' := by
  subst hn
  go_enter Tryz.func11, Tryz.ntmps11
  go_wp2_with (go_at_call 32; refine (code_sent A B _ k hS hk).mono ?_; rintro e w' ⟨rfl, hb⟩)
  go_ret
  exact ⟨by simp, hb⟩
end Go.Proofs.YtepnghacjggkkaaGreatDoor
