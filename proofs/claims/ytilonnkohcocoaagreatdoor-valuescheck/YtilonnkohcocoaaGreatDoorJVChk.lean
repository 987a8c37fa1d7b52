/- Check and CheckCommit tell of any op and any commit what the document's answer tells: causewaylaw1.ValuesCheck returns true, whatever op, number of places and commit it is given, in memory that holds the listed variables as the program text lays them. -/
import Derived.Test.YtilonnkohcocoaaGreatDoorJV0
import Derived.LaidMore
import Derived.Test.YtilonnkohcocoaaGreatDoorCards
import Derived.Test.YtilonnkohcocoaaGreatDoorTie
namespace Go.Proofs.YtilonnkohcocoaaGreatDoor
open Go.ChangeShapes Go.WideShapes Go.ChangeAt Go.RowKit
open Go.ChangeMaps (open_string shut_string)

theorem valuesCheck_door (os : Os) : laidMetH Tryz.prog Rows.valuesCheckRow.laid ((World.doorLaid Tryz.prog 244 os).forCall (fun _ _ => 0) ⟨#[], #[.agg #[.int .i64 0, .string ⟨#[]⟩, .int .i64 0, .string ⟨#[]⟩, .int .i64 0, .bool false, .slice none 0 0], .int .i64 0, .agg #[.slice none 0 0, .int .i64 0, .slice none 0 0]], []⟩).memory :=
  laidMetH_of_parts3 (fuel := 8) (laidMet_of_run' 8 (by kernel_rfl) (by kernel_rfl)) (by kernel_rfl) (by kernel_rfl)

set_option maxRecDepth 100000 in
theorem valuesCheck_lifted (os : Os) (started : os.Started) (H : Type) (enc : TypeId × Value → H) :
    ReturnsInHanded {} Tryz.checked os 3 .any (fun w args => (Rows.valuesCheckSpec.pre enc Tryz.prog Tryz.f3 [] false w args ∧ laidMetH Tryz.prog Rows.valuesCheckRow.laid w) ∧ sizedMet enc Tryz.prog Tryz.f3 (OpenSpec.ofChange Rows.valuesCheckSpec) false w args)
      (Rows.valuesCheckSpec.post enc Tryz.prog Tryz.f3 false true false false) := by
  have iI0 : Inhabited ComV := ⟨⟨[], 0, []⟩⟩
  have iD1 : DecidableEq D3 := fun a b => Classical.propDecidable (a = b)
  have iI1 : Inhabited D3 := ⟨⟨0, 0, 0⟩⟩
  have iI2 : Inhabited Dd := ⟨⟨0, ByteArray.empty, 0, ByteArray.empty, 0, false, none, 0, 0, ⟨0, 0, 0⟩, 0, []⟩⟩
  have iI3 : Inhabited Dn := ⟨⟨⟨0, ByteArray.empty, 0, ByteArray.empty, 0, false, []⟩, ⟨0, 0, 0⟩, 0⟩⟩
  have iI4 : Inhabited OpV := ⟨⟨0, ByteArray.empty, 0, ByteArray.empty, 0, false, []⟩⟩
  refine returnsInHanded_of_change_and (C := Tryz.checked) (X := fun w _ => laidMetH Tryz.prog Rows.valuesCheckRow.laid w) (fun _ _ _ hh h => h.of_heap hh) ownKnobs started (by kernel_rfl) Tryz.func3
    (ChangeSpec.witness_shaped (enc := enc) (C := Tryz.checked) (os := os) (X := fun w _ => laidMetH Tryz.prog Rows.valuesCheckRow.laid w) false (World.doorLaid Tryz.prog 244 os) #[.agg #[.int .i64 0, .string ⟨#[]⟩, .int .i64 0, .string ⟨#[]⟩, .int .i64 0, .bool false, .slice none 0 0], .int .i64 0, .agg #[.slice none 0 0, .int .i64 0, .slice none 0 0]] 8 rfl (World.shaped_of_RefB (by kernel_rfl) (by kernel_rfl)) (by kernel_rfl) (by kernel_rfl) (by kernel_rfl) (valuesCheck_door os)) ?_
  intro W base args ds gs before hval0 hW _ _ hL _
  have hval : ∀ (j : Nat) t v, Tryz.f3.params[j]? = some t → args[j]? = some v → Value.okWide Tryz.prog W .any base t v := hval0
  have hW' := hW
  obtain ⟨p, q, hA0, hV, rfl, hfz, hnd⟩ := hW
  have hA : DataW.TrodAll enc Tryz.prog W 0 (fun _ => true) true Tryz.f3.params.toList args.toList ds p := hA0
  rw [Tryz.params3] at hA hval
  obtain ⟨v0, vs0, d0, ds0, p0, q0, hargs, rfl, rfl, h0, r0⟩ := trodAll_cons hA
  obtain ⟨v1, vs1, d1, ds1, p1, q1, rfl, rfl, rfl, h1, r1⟩ := trodAll_cons r0
  obtain ⟨v2, vs2, d2, ds2, p2, q2, rfl, rfl, rfl, h2, r2⟩ := trodAll_cons r1
  obtain ⟨rfl, rfl, rfl⟩ := trodAll_nil r2
  obtain rfl : args = #[v0, v1, v2] := by cases args; simp_all
  obtain ⟨rfl, rfl⟩ := trodVars_none hV
  clear hA0 hval0
  obtain ⟨z0, k0⟩ := op_view (hval 0 24 v0 rfl rfl) h0
  obtain ⟨x1, rfl, rfl, rfl, wx1⟩ := open_int Tryz.underlying3 (hval 1 3 v1 rfl rfl) h1
  obtain ⟨z2, k2⟩ := com_view (hval 2 28 v2 rfl rfl) h2
  simp only [List.append_nil, List.nil_append] at hW'
  have hlt : ∀ x ∈ p0 ++ p2, x.block < W.heap.size := fun x hx => hW'.lt x (by simpa using hx)
  obtain ⟨A, hS⟩ := sents_of_laid hL (by simp [Rows.valuesCheckRow]) (by kernel_rfl)
  refine (check_vals A _ W hS v0 z0 k0 x1 v2 z2 k2).mono fun e W' ⟨he, hb⟩ => ?_
  subst he
  refine ⟨_, rfl, _, _, _, [], _, [], hW', ?_, (trodAll_cons_mk (op_stay h0 hb (fun x hx => hlt x (by simp [hx]))) (trodAll_cons_mk (shut_int Tryz.underlying3 wx1) (trodAll_cons_mk (com_stay h2 hb (fun x hx => hlt x (by simp [hx]))) trodAll_mk0))), ?_, hb.frame _, fun h => by cases h⟩
  · exact trodAll_mk1 (shut_bool Tryz.underlying4 true)
  · rfl

theorem valuesCheck_said : Rows.ValuesCheckSaid :=
  OpenClaim.holds_of_wide 3 Tryz.f3 rfl rfl rfl rfl rfl rfl rfl ⟨rfl, rfl, rfl, rfl, rfl⟩ rfl rfl rfl rfl rfl (by kernel_rfl) Tryz.func3 (by kernel_rfl)
    (of_decide_eq_true (by kernel_rfl)) (by unfold Func.isWrapper; first | (rw [if_pos (by decide +kernel)]; kernel_rfl) | (rw [if_neg (by decide +kernel)]; exact ⟨rfl, rfl⟩))
    (fun os started H enc _ => valuesCheck_lifted os started H enc)

theorem valuesCheck_plain (f : FuncId) (fn : Func) (hf : Tryz.pinned.checked.prog.funcNamed "causeway/causewaylaw1.ValuesCheck" = some f) (hfn : Tryz.pinned.checked.prog.funcs[f]? = some fn) :
    true = Tryz.pinned.checked.prog.looks [] ∧ ∀ (j : Nat) t, fn.params[j]? = some t → Tryz.pinned.checked.prog.wantsStandIn t = false := by
  obtain rfl : f = 3 := Option.some.inj ((show Tryz.prog.funcNamed "causeway/causewaylaw1.ValuesCheck" = some 3 by kernel_rfl).symm.trans hf) |>.symm
  obtain rfl : fn = Tryz.f3 := (Option.some.inj (Tryz.func3.symm.trans hfn)).symm
  refine ⟨by kernel_rfl, fun j t ht => ?_⟩
  rw [Tryz.params3] at ht
  have hm := Array.mem_of_getElem? ht
  have w3 : Tryz.prog.wantsStandIn 3 = false := by kernel_rfl
  have w24 : Tryz.prog.wantsStandIn 24 = false := by kernel_rfl
  have w28 : Tryz.prog.wantsStandIn 28 = false := by kernel_rfl
  simp only [List.mem_toArray, List.mem_cons, List.not_mem_nil, or_false] at hm
  rcases hm with rfl | rfl | rfl
  · exact w24
  · exact w3
  · exact w28

theorem valuesCheck_card : Rows.ValuesCheckCardSaid :=
  Claim7.holds_tied_plain_at .later [] _ _ _ _ valuesCheck_said (fun _ h => by cases h) (by kernel_rfl) (fun _ h => by cases h) valuesCheck_row_tie rfl ⟨rfl, rfl⟩ (by kernel_rfl) rfl valuesCheck_plain (by kernel_rfl)
end Go.Proofs.YtilonnkohcocoaaGreatDoor
