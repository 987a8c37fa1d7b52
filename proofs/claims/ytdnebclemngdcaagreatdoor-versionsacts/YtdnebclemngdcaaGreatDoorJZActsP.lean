/- A store and the plain list of what was put into it answer alike at every act: causewaylaw1.VersionsActs returns true, whatever number of places and whatever acts it is given, in memory that holds the listed variables as the program text lays them. -/
import Derived.Test.YtdnebclemngdcaaGreatDoorJZA5
import Derived.Test.YtdnebclemngdcaaGreatDoorJVLaid2
import Derived.LaidMore
import Derived.Test.YtdnebclemngdcaaGreatDoorCards
import Derived.Test.YtdnebclemngdcaaGreatDoorTie
namespace Go.Proofs.YtdnebclemngdcaaGreatDoor
open Go.ChangeShapes Go.WideShapes Go.ChangeAt Go.RowKit
open Go.ChangeMaps (open_string shut_string)

theorem versionsActs_door (os : Os) : laidMetH Tryz.prog Rows.versionsActsRow.laid ((World.doorLaid Tryz.prog 244 os).forCall (fun _ _ => 0) ⟨#[], #[.int .i64 0, .slice none 0 0], []⟩).memory :=
  laidMetH_of_parts3 (fuel := 8) (laidMet_of_run' 8 (by kernel_rfl) (by kernel_rfl)) (by kernel_rfl) (by kernel_rfl)

set_option maxRecDepth 100000 in
theorem versionsActs_lifted (os : Os) (started : os.Started) (H : Type) (enc : TypeId × Value → H) :
    ReturnsInHanded {} Tryz.checked os 5 .any (fun w args => (Rows.versionsActsSpec.pre enc Tryz.prog Tryz.f5 [] false w args ∧ laidMetH Tryz.prog Rows.versionsActsRow.laid w) ∧ sizedMet enc Tryz.prog Tryz.f5 (OpenSpec.ofChange Rows.versionsActsSpec) false w args)
      (Rows.versionsActsSpec.post enc Tryz.prog Tryz.f5 false true false false) := by
  have iI0 : Inhabited ComV := ⟨⟨[], 0, []⟩⟩
  have iD1 : DecidableEq D3 := fun a b => Classical.propDecidable (a = b)
  have iI1 : Inhabited D3 := ⟨⟨0, 0, 0⟩⟩
  have iI2 : Inhabited Dd := ⟨⟨0, ByteArray.empty, 0, ByteArray.empty, 0, false, none, 0, 0, ⟨0, 0, 0⟩, 0, []⟩⟩
  have iI3 : Inhabited Dn := ⟨⟨⟨0, ByteArray.empty, 0, ByteArray.empty, 0, false, []⟩, ⟨0, 0, 0⟩, 0⟩⟩
  have iI4 : Inhabited OpV := ⟨⟨0, ByteArray.empty, 0, ByteArray.empty, 0, false, []⟩⟩
  refine returnsInHanded_of_change_and (C := Tryz.checked) (X := fun w _ => laidMetH Tryz.prog Rows.versionsActsRow.laid w) (fun _ _ _ hh h => h.of_heap hh) ownKnobs started (by kernel_rfl) Tryz.func5
    (ChangeSpec.witness_shaped (enc := enc) (C := Tryz.checked) (os := os) (X := fun w _ => laidMetH Tryz.prog Rows.versionsActsRow.laid w) false (World.doorLaid Tryz.prog 244 os) #[.int .i64 0, .slice none 0 0] 8 rfl (World.shaped_of_RefB (by kernel_rfl) (by kernel_rfl)) (by kernel_rfl) (by kernel_rfl) (by kernel_rfl) (versionsActs_door os)) ?_
  intro W base args ds gs before hval0 hW _ _ hL _; have hval : ∀ (j : Nat) t v, Tryz.f5.params[j]? = some t → args[j]? = some v → Value.okWide Tryz.prog W .any base t v := hval0; have hW' := hW; obtain ⟨p, q, hA0, hV, rfl, hfz, hnd⟩ := hW; have hA : DataW.TrodAll enc Tryz.prog W 0 (fun _ => true) true Tryz.f5.params.toList args.toList ds p := hA0; rw [Tryz.params5] at hA hval; obtain ⟨v0, vs0, d0, ds0, p0, q0, hargs, rfl, rfl, h0, r0⟩ := trodAll_cons hA; obtain ⟨v1, vs1, d1, ds1, p1, q1, rfl, rfl, rfl, h1, r1⟩ := trodAll_cons r0; obtain ⟨rfl, rfl, rfl⟩ := trodAll_nil r1; obtain rfl : args = #[v0, v1] := by cases args; simp_all
  obtain ⟨rfl, rfl⟩ := trodVars_none hV; clear hA0 hval0; obtain ⟨x0, rfl, rfl, rfl, wx0⟩ := open_int Tryz.underlying3 (hval 0 3 v0 rfl rfl) h0; obtain ⟨z1, k1⟩ := acts_view (hval 1 52 v1 rfl rfl) h1; simp only [List.append_nil, List.nil_append] at hW'; have hlt : ∀ x ∈ p1, x.block < W.heap.size := fun x hx => hW'.lt x (by simpa using hx)
  obtain ⟨A, hS⟩ := sents_of_laid hL (by simp [Rows.versionsActsRow]) (by kernel_rfl); refine (acts_walk A _ W hS x0 v1 z1 k1).mono fun e W' ⟨he, hb⟩ => ?_
  subst he; refine ⟨_, rfl, _, _, _, [], _, [], hW', ?_, (trodAll_cons_mk (shut_int Tryz.underlying3 wx0) (trodAll_cons_mk (acts_stay h1 hb (fun x hx => hlt x (by simp [hx]))) trodAll_mk0)), ?_, hb.frame _, fun h => by cases h⟩
  · exact trodAll_mk1 (shut_bool Tryz.underlying4 true)
  · rfl

theorem versionsActs_said : Rows.VersionsActsSaid :=
  OpenClaim.holds_of_wide 5 Tryz.f5 rfl rfl rfl rfl rfl rfl rfl ⟨rfl, rfl, rfl, rfl, rfl⟩ rfl rfl rfl rfl rfl (by kernel_rfl) Tryz.func5 (by kernel_rfl)
    (of_decide_eq_true (by kernel_rfl)) (by unfold Func.isWrapper; first | (rw [if_pos (by decide +kernel)]; kernel_rfl) | (rw [if_neg (by decide +kernel)]; exact ⟨rfl, rfl⟩))
    (fun os started H enc _ => versionsActs_lifted os started H enc)

theorem versionsActs_plain (f : FuncId) (fn : Func) (hf : Tryz.pinned.checked.prog.funcNamed "causeway/causewaylaw1.VersionsActs" = some f) (hfn : Tryz.pinned.checked.prog.funcs[f]? = some fn) :
    true = Tryz.pinned.checked.prog.looks [] ∧ ∀ (j : Nat) t, fn.params[j]? = some t → Tryz.pinned.checked.prog.wantsStandIn t = false := by
  obtain rfl : f = 5 := Option.some.inj ((show Tryz.prog.funcNamed "causeway/causewaylaw1.VersionsActs" = some 5 by kernel_rfl).symm.trans hf) |>.symm; obtain rfl : fn = Tryz.f5 := (Option.some.inj (Tryz.func5.symm.trans hfn)).symm; refine ⟨by kernel_rfl, fun j t ht => ?_⟩; rw [Tryz.params5] at ht; have hm := Array.mem_of_getElem? ht; have w3 : Tryz.prog.wantsStandIn 3 = false := by kernel_rfl
  have w52 : Tryz.prog.wantsStandIn 52 = false := by kernel_rfl
  simp only [List.mem_toArray, List.mem_cons, List.not_mem_nil, or_false] at hm; rcases hm with rfl | rfl
  · exact w3
  · exact w52

theorem versionsActs_card : Rows.VersionsActsCardSaid :=
  Claim7.holds_tied_plain_at .later [] _ _ _ _ versionsActs_said (fun _ h => by cases h) (by kernel_rfl) (fun _ h => by cases h) versionsActs_row_tie rfl ⟨rfl, rfl⟩ (by kernel_rfl) rfl versionsActs_plain (by kernel_rfl)
end Go.Proofs.YtdnebclemngdcaaGreatDoor
