/- What a session reads of its own ops it reads again when they are committed: causewaylaw2.SessionKeeps returns true, whatever steps and key it is given, in memory that holds the listed variables as the program text lays them. -/
import Derived.Test.YtepnghacjggkkaaGreatDoorGK0
import Derived.Test.YtepnghacjggkkaaGreatDoorGKX2
import Derived.LaidMore
import Derived.Test.YtepnghacjggkkaaGreatDoorCards
import Derived.Test.YtepnghacjggkkaaGreatDoorTie
namespace Go.Proofs.YtepnghacjggkkaaGreatDoor
open Go.ChangeShapes Go.WideShapes Go.ChangeAt Go.RowKit
open Go.ChangeMaps (open_string shut_string)

theorem ownKnobs : ownKnob Tryz.prog.godebug = none := by kernel_rfl
theorem sessionKeeps_door (os : Os) : laidMetH Tryz.prog Rows.sessionKeepsRow.laid ((World.doorLaid Tryz.prog 244 os).forCall (fun _ _ => 0) ⟨#[], #[.slice none 0 0, .string ⟨#[]⟩], []⟩).memory :=
  laidMetH_of_parts3 (fuel := 8) (laidMet_of_run' 8 (by kernel_rfl) (by kernel_rfl)) (by kernel_rfl) (by kernel_rfl)

set_option maxRecDepth 100000 in
theorem sessionKeeps_lifted (os : Os) (started : os.Started) (H : Type) (enc : TypeId × Value → H) :
    ReturnsInHanded {} Tryz.checked os 4 .any (fun w args => (Rows.sessionKeepsSpec.pre enc Tryz.prog Tryz.f4 [] false w args ∧ laidMetH Tryz.prog Rows.sessionKeepsRow.laid w) ∧ sizedMet enc Tryz.prog Tryz.f4 (OpenSpec.ofChange Rows.sessionKeepsSpec) false w args)
      (Rows.sessionKeepsSpec.post enc Tryz.prog Tryz.f4 false true false false) := by
  have iI0 : Inhabited ComV := ⟨⟨[], 0, []⟩⟩
  have iD1 : DecidableEq D3 := fun a b => Classical.propDecidable (a = b)
  have iI1 : Inhabited D3 := ⟨⟨0, 0, 0⟩⟩
  have iI2 : Inhabited Dd := ⟨⟨0, ByteArray.empty, 0, ByteArray.empty, 0, false, none, 0, 0, ⟨0, 0, 0⟩, 0, []⟩⟩
  have iI3 : Inhabited Dn := ⟨⟨⟨0, ByteArray.empty, 0, ByteArray.empty, 0, false, []⟩, ⟨0, 0, 0⟩, 0⟩⟩
  have iI4 : Inhabited OpV := ⟨⟨0, ByteArray.empty, 0, ByteArray.empty, 0, false, []⟩⟩
  refine returnsInHanded_of_change_and (C := Tryz.checked) (X := fun w _ => laidMetH Tryz.prog Rows.sessionKeepsRow.laid w) (fun _ _ _ hh h => h.of_heap hh) ownKnobs started (by kernel_rfl) Tryz.func4
    (ChangeSpec.witness_shaped (enc := enc) (C := Tryz.checked) (os := os) (X := fun w _ => laidMetH Tryz.prog Rows.sessionKeepsRow.laid w) false (World.doorLaid Tryz.prog 244 os) #[.slice none 0 0, .string ⟨#[]⟩] 8 rfl (World.shaped_of_RefB (by kernel_rfl) (by kernel_rfl)) (by kernel_rfl) (by kernel_rfl) (by kernel_rfl) (sessionKeeps_door os)) ?_
  intro W base args ds gs before hval0 hW _ _ hL _
  have hval : ∀ (j : Nat) t v, Tryz.f4.params[j]? = some t → args[j]? = some v → Value.okWide Tryz.prog W .any base t v := hval0
  have hW' := hW
  obtain ⟨p, q, hA0, hV, rfl, hfz, hnd⟩ := hW
  have hA : DataW.TrodAll enc Tryz.prog W 0 (fun _ => true) true Tryz.f4.params.toList args.toList ds p := hA0
  rw [Tryz.params4] at hA hval
  obtain ⟨v0, vs0, d0, ds0, p0, q0, hargs, rfl, rfl, h0, r0⟩ := trodAll_cons hA
  obtain ⟨v1, vs1, d1, ds1, p1, q1, rfl, rfl, rfl, h1, r1⟩ := trodAll_cons r0
  obtain ⟨rfl, rfl, rfl⟩ := trodAll_nil r1
  obtain rfl : args = #[v0, v1] := by cases args; simp_all
  obtain ⟨rfl, rfl⟩ := trodVars_none hV
  clear hA0 hval0
  obtain ⟨z0, k0⟩ := steps_view (hval 0 51 v0 rfl rfl) h0
  obtain ⟨s1, rfl, rfl, rfl, hs1⟩ := open_string Tryz.underlying9 (hval 1 9 v1 rfl rfl) h1
  simp only [List.append_nil] at hW'
  have hlt : ∀ x ∈ p0, x.block < W.heap.size := fun x hx => hW'.lt x (by simpa using hx)
  obtain ⟨A, hS⟩ := sents_of_laid hL (by simp [Rows.sessionKeepsRow]) (by kernel_rfl)
  refine (keeps_walk A W hS v0 z0 k0 s1).mono fun e W' ⟨he, hb⟩ => ?_
  subst he
  refine ⟨_, rfl, _, _, _, [], _, [], hW', ?_, (trodAll_cons_mk (steps_stay h0 hb (fun x hx => hlt x (by simp [hx]))) (trodAll_cons_mk (shut_string Tryz.underlying9 hs1) trodAll_mk0)), ?_, hb.frame _, fun h => by cases h⟩
  · exact trodAll_mk1 (shut_bool Tryz.underlying4 true)
  · rfl

theorem sessionKeeps_said : Rows.SessionKeepsSaid :=
  OpenClaim.holds_of_wide 4 Tryz.f4 rfl rfl rfl rfl rfl rfl rfl ⟨rfl, rfl, rfl, rfl, rfl⟩ rfl rfl rfl rfl rfl (by kernel_rfl) Tryz.func4 (by kernel_rfl)
    (of_decide_eq_true (by kernel_rfl)) (by unfold Func.isWrapper; first | (rw [if_pos (by decide +kernel)]; kernel_rfl) | (rw [if_neg (by decide +kernel)]; exact ⟨rfl, rfl⟩))
    (fun os started H enc _ => sessionKeeps_lifted os started H enc)

theorem sessionKeeps_plain (f : FuncId) (fn : Func) (hf : Tryz.pinned.checked.prog.funcNamed "causeway/causewaylaw2.SessionKeeps" = some f) (hfn : Tryz.pinned.checked.prog.funcs[f]? = some fn) :
    true = Tryz.pinned.checked.prog.looks [] ∧ ∀ (j : Nat) t, fn.params[j]? = some t → Tryz.pinned.checked.prog.wantsStandIn t = false := by
  obtain rfl : f = 4 := Option.some.inj ((show Tryz.prog.funcNamed "causeway/causewaylaw2.SessionKeeps" = some 4 by kernel_rfl).symm.trans hf) |>.symm
  obtain rfl : fn = Tryz.f4 := (Option.some.inj (Tryz.func4.symm.trans hfn)).symm
  refine ⟨by kernel_rfl, fun j t ht => ?_⟩
  rw [Tryz.params4] at ht
  have hm := Array.mem_of_getElem? ht
  have w9 : Tryz.prog.wantsStandIn 9 = false := by kernel_rfl
  have w51 : Tryz.prog.wantsStandIn 51 = false := by kernel_rfl
  simp only [List.mem_toArray, List.mem_cons, List.not_mem_nil, or_false] at hm
  rcases hm with rfl | rfl
  · exact w51
  · exact w9

theorem sessionKeeps_card : Rows.SessionKeepsCardSaid :=
  Claim7.holds_tied_plain_at .later [] _ _ _ _ sessionKeeps_said (fun _ h => by cases h) (by kernel_rfl) (fun _ h => by cases h) sessionKeeps_row_tie rfl ⟨rfl, rfl⟩ (by kernel_rfl) rfl sessionKeeps_plain (by kernel_rfl)
end Go.Proofs.YtepnghacjggkkaaGreatDoor
