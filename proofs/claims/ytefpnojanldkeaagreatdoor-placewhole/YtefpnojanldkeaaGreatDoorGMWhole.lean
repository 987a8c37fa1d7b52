/- Of a transaction at one place another one reads all, or nothing, whatever of its messages has come: causewaylaw2.PlaceWhole returns true, whatever number, keys, picks and word on beats it is given, in memory that holds the listed variables as the program text lays them. -/
import Derived.Test.YtefpnojanldkeaaGreatDoorGMX
import Derived.LaidMore
import Derived.Test.YtefpnojanldkeaaGreatDoorCards
import Derived.Test.YtefpnojanldkeaaGreatDoorTie
namespace Go.Proofs.YtefpnojanldkeaaGreatDoor
open Go.ChangeShapes Go.WideShapes Go.ChangeAt Go.RowKit
open Go.ChangeMaps (open_string shut_string)

theorem placeWhole_door (os : Os) : laidMetH Tryz.prog Rows.placeWholeRow.laid ((World.doorLaid Tryz.prog 244 os).forCall (fun _ _ => 0) ⟨#[], #[.int .i64 0, .slice none 0 0, .slice none 0 0, .bool false], []⟩).memory :=
  laidMetH_of_parts3 (fuel := 8) (laidMet_of_run' 8 (by kernel_rfl) (by kernel_rfl)) (by kernel_rfl) (by kernel_rfl)

set_option maxRecDepth 100000 in
theorem placeWhole_lifted (os : Os) (started : os.Started) (H : Type) (enc : TypeId × Value → H) :
    ReturnsInHanded {} Tryz.checked os 3 .any (fun w args => (Rows.placeWholeSpec.pre enc Tryz.prog Tryz.f3 [] false w args ∧ laidMetH Tryz.prog Rows.placeWholeRow.laid w) ∧ sizedMet enc Tryz.prog Tryz.f3 (OpenSpec.ofChange Rows.placeWholeSpec) false w args)
      (Rows.placeWholeSpec.post enc Tryz.prog Tryz.f3 false true false false) := by
  have iI0 : Inhabited ComV := ⟨⟨[], 0, []⟩⟩
  have iD1 : DecidableEq D3 := fun a b => Classical.propDecidable (a = b)
  have iI1 : Inhabited D3 := ⟨⟨0, 0, 0⟩⟩
  have iI2 : Inhabited Dd := ⟨⟨0, ByteArray.empty, 0, ByteArray.empty, 0, false, none, 0, 0, ⟨0, 0, 0⟩, 0, []⟩⟩
  have iI3 : Inhabited Dn := ⟨⟨⟨0, ByteArray.empty, 0, ByteArray.empty, 0, false, []⟩, ⟨0, 0, 0⟩, 0⟩⟩
  have iI4 : Inhabited OpV := ⟨⟨0, ByteArray.empty, 0, ByteArray.empty, 0, false, []⟩⟩
  refine returnsInHanded_of_change_and (C := Tryz.checked) (X := fun w _ => laidMetH Tryz.prog Rows.placeWholeRow.laid w) (fun _ _ _ hh h => h.of_heap hh) ownKnobs started (by kernel_rfl) Tryz.func3
    (ChangeSpec.witness_shaped (enc := enc) (C := Tryz.checked) (os := os) (X := fun w _ => laidMetH Tryz.prog Rows.placeWholeRow.laid w) false (World.doorLaid Tryz.prog 244 os) #[.int .i64 0, .slice none 0 0, .slice none 0 0, .bool false] 8 rfl (World.shaped_of_RefB (by kernel_rfl) (by kernel_rfl)) (by kernel_rfl) (by kernel_rfl) (by kernel_rfl) (placeWhole_door os)) ?_
  intro W base args ds gs before hval0 hW _ _ hL _
  have hval : ∀ (j : Nat) t v, Tryz.f3.params[j]? = some t → args[j]? = some v → Value.okWide Tryz.prog W .any base t v := hval0
  have hW' := hW
  obtain ⟨p, q, hA0, hV, rfl, hfz, hnd⟩ := hW
  have hA : DataW.TrodAll enc Tryz.prog W 0 (fun _ => true) true Tryz.f3.params.toList args.toList ds p := hA0
  rw [Tryz.params3] at hA hval
  obtain ⟨v0, vs0, d0, ds0, p0, q0, hargs, rfl, rfl, h0, r0⟩ := trodAll_cons hA
  obtain ⟨v1, vs1, d1, ds1, p1, q1, rfl, rfl, rfl, h1, r1⟩ := trodAll_cons r0
  obtain ⟨v2, vs2, d2, ds2, p2, q2, rfl, rfl, rfl, h2, r2⟩ := trodAll_cons r1
  obtain ⟨v3, vs3, d3, ds3, p3, q3, rfl, rfl, rfl, h3, r3⟩ := trodAll_cons r2
  obtain ⟨rfl, rfl, rfl⟩ := trodAll_nil r3
  obtain rfl : args = #[v0, v1, v2, v3] := by cases args; simp_all
  obtain ⟨rfl, rfl⟩ := trodVars_none hV
  clear hA0 hval0
  obtain ⟨x0, rfl, rfl, rfl, wx0⟩ := open_int Tryz.underlying3 (hval 0 3 v0 rfl rfl) h0
  obtain ⟨z1, k1⟩ := strs_view (hval 1 22 v1 rfl rfl) h1
  obtain ⟨z2, k2⟩ := ints_view (hval 2 23 v2 rfl rfl) h2
  obtain ⟨x3, rfl, rfl, rfl⟩ := open_bool Tryz.underlying4 (hval 3 4 v3 rfl rfl) h3
  simp only [List.append_nil, List.nil_append] at hW'
  have hlt : ∀ x ∈ p1 ++ p2, x.block < W.heap.size := fun x hx => hW'.lt x (by simpa using hx)
  obtain ⟨A, hS⟩ := sen_of_laid hL (by simp [Rows.placeWholeRow]) (by kernel_rfl)
  refine (whole_walk A _ W hS x0 v1 v2 z1 z2 k1 k2 x3).mono fun e W' ⟨he, hb⟩ => ?_
  subst he
  refine ⟨_, rfl, _, _, _, [], _, [], hW', ?_, (trodAll_cons_mk (shut_int Tryz.underlying3 wx0) (trodAll_cons_mk (strs_stay h1 hb (fun x hx => hlt x (by simp [hx]))) (trodAll_cons_mk (ints_stay h2 hb (fun x hx => hlt x (by simp [hx]))) (trodAll_cons_mk (shut_bool Tryz.underlying4 x3) trodAll_mk0)))), ?_, hb.frame _, fun h => by cases h⟩
  · exact trodAll_mk1 (shut_bool Tryz.underlying4 true)
  · rfl

theorem placeWhole_said : Rows.PlaceWholeSaid :=
  OpenClaim.holds_of_wide 3 Tryz.f3 rfl rfl rfl rfl rfl rfl rfl ⟨rfl, rfl, rfl, rfl, rfl⟩ rfl rfl rfl rfl rfl (by kernel_rfl) Tryz.func3 (by kernel_rfl)
    (of_decide_eq_true (by kernel_rfl)) (by unfold Func.isWrapper; first | (rw [if_pos (by decide +kernel)]; kernel_rfl) | (rw [if_neg (by decide +kernel)]; exact ⟨rfl, rfl⟩))
    (fun os started H enc _ => placeWhole_lifted os started H enc)

theorem placeWhole_plain (f : FuncId) (fn : Func) (hf : Tryz.pinned.checked.prog.funcNamed "causeway/causewaylaw2.PlaceWhole" = some f) (hfn : Tryz.pinned.checked.prog.funcs[f]? = some fn) :
    true = Tryz.pinned.checked.prog.looks [] ∧ ∀ (j : Nat) t, fn.params[j]? = some t → Tryz.pinned.checked.prog.wantsStandIn t = false := by
  obtain rfl : f = 3 := Option.some.inj ((show Tryz.prog.funcNamed "causeway/causewaylaw2.PlaceWhole" = some 3 by kernel_rfl).symm.trans hf) |>.symm
  obtain rfl : fn = Tryz.f3 := (Option.some.inj (Tryz.func3.symm.trans hfn)).symm
  refine ⟨by kernel_rfl, fun j t ht => ?_⟩
  rw [Tryz.params3] at ht
  have hm := Array.mem_of_getElem? ht
  have w3 : Tryz.prog.wantsStandIn 3 = false := by kernel_rfl
  have w4 : Tryz.prog.wantsStandIn 4 = false := by kernel_rfl
  have w22 : Tryz.prog.wantsStandIn 22 = false := by kernel_rfl
  have w23 : Tryz.prog.wantsStandIn 23 = false := by kernel_rfl
  simp only [List.mem_toArray, List.mem_cons, List.not_mem_nil, or_false] at hm
  rcases hm with rfl | rfl | rfl | rfl
  · exact w3
  · exact w22
  · exact w23
  · exact w4

theorem placeWhole_card : Rows.PlaceWholeCardSaid :=
  Claim7.holds_tied_plain_at .later [] _ _ _ _ placeWhole_said (fun _ h => by cases h) (by kernel_rfl) (fun _ h => by cases h) placeWhole_row_tie rfl ⟨rfl, rfl⟩ (by kernel_rfl) rfl placeWhole_plain (by kernel_rfl)
end Go.Proofs.YtefpnojanldkeaaGreatDoor
