/- The text of a vector is what the document says, and Read reads just the texts that Text makes: causewaylaw1.VectorTexts returns true, whatever slice and text it is given, in memory that holds the listed variables as the program text lays them. -/
import Derived.Test.YtfechdagacmliaaDoorTextsWalk
import Derived.Test.YtfechdagacmliaaDoorFrame
import Derived.Test.YtfechdagacmliaaDoorCards
import Derived.Test.YtfechdagacmliaaDoorTie
import Derived.Deep.DeepHandedRow
import Derived.Deep.DeepWitnessRowRef
import Derived.Lib.LaidTab
namespace Go.Proofs.YtfechdagacmliaaDoor
open Go.ChangeShapes Go.WideShapes Go.ChangeAt Go.RowKit
open Go.ChangeMaps (open_string shut_string)
set_option maxRecDepth 100000

def namesS : List (String × List UInt8) := [("strconv.ErrRange", [118, 97, 108, 117, 101, 32, 111, 117, 116, 32, 111, 102, 32, 114, 97, 110, 103, 101]), ("strconv.ErrSyntax", [105, 110, 118, 97, 108, 105, 100, 32, 115, 121, 110, 116, 97, 120])]
theorem Tryd.pow_type : (Tryd.prog.globals[15]?).map (·.type) = some 141 := by kernel_rfl
theorem Tryd.cells122 : Tryd.prog.cellsOf 122 = 1 := by kernel_rfl
theorem Tryd.cells141 : Tryd.prog.cellsOf 141 = 20 := by kernel_rfl

theorem tw_of_laid {W : World} {A : Nat → Addr} (h : laidMetH Tryd.prog Rows.vectorTextsRow.laid W) (hS : Sents A W.heap.size W) (hsh : W.ShapedOpen Tryd.prog) : TW A W := by
  have g13 : Tryd.prog.globalNamed "strconv.ErrSyntax" = some 13 := by kernel_rfl
  have g14 : Tryd.prog.globalNamed "strconv.ErrRange" = some 14 := by kernel_rfl
  have t13 : (Tryd.prog.globals[13]?).map (·.type) = some 25 := by kernel_rfl
  have t14 : (Tryd.prog.globals[14]?).map (·.type) = some 25 := by kernel_rfl
  have hf : (Rows.vectorTextsRow.laid.filter fun x => x.2.handleName?.isNone).filter (fun x => (namesS.map (·.1)).contains x.1) = listed namesS := by kernel_rfl
  have h2 : laidMet Tryd.prog (listed namesS) W := by rw [← hf]; exact (laidMetH_iff.1 h).1.filter _
  obtain ⟨D, a1, _, _, _⟩ := laidMet_sents Tryd.underlying25 Tryd.row60 Tryd.underlying60 Tryd.underlying62 rfl rfl Tryd.underlying9 Tryd.cells62 Tryd.cells9 namesS h2 (fun x hx => by
    rcases List.mem_cons.1 hx with rfl | hx
    · exact ⟨14, g14, t14⟩
    · obtain rfl := List.mem_singleton.1 hx
      exact ⟨13, g13, t13⟩)
  have hp : (Rows.vectorTextsRow.laid.filter fun x => x.2.handleName?.isNone).filter (fun x => x.1 == "internal/strconv.uint64pow10") = [("internal/strconv.uint64pow10", Lib.tabData .u64 Lib.pow10Tab)] := by kernel_rfl
  have h3 : laidMet Tryd.prog [("internal/strconv.uint64pow10", Lib.tabData .u64 Lib.pow10Tab)] W := by rw [← hp]; exact (laidMetH_iff.1 h).1.filter _
  have c13 : W.cell? ⟨13, 0, none⟩ = some (.iface 60 (.pointer (some (D 1)))) := by simpa using World.var?_cell g13 (a1 1 _ rfl) 0
  have c14 : W.cell? ⟨14, 0, none⟩ = some (.iface 60 (.pointer (some (D 0)))) := by simpa using World.var?_cell g14 (a1 0 _ rfl) 0
  exact ⟨hS.e2, hS.cell 0 (by omega), ⟨_, _, c13⟩, ⟨_, _, c14⟩, Tryd.laysM147.s1_3 W hsh, Lib.tabIs_of_head (rest := []) Tryd.gPow Tryd.pow_type Tryd.underlying141 Tryd.underlying122 Tryd.cells122 Tryd.cells141 h3⟩

/-- The pinned table's cells, laid in a world. -/
def withFirst (w : World) : World :=
  { w with heap := w.heap.modify 17 fun
      | .cells _ t frozen => .cells (Go.Pinned.utf8FirstZ.map fun (n : Nat) => Value.int .u8 (n : Int)).toArray t frozen
      | o => o }

theorem vectorTexts_door (os : Os) : laidMetH Tryd.prog Rows.vectorTextsRow.laid ((withFirst (World.doorLaid Tryd.prog 307 os)).forCall (fun _ _ => 0) ⟨#[], #[.slice none 0 0, .string ⟨#[]⟩], []⟩).memory :=
  laidMetH_of_parts3 (fuel := 8) (laidMet_of_run' 8 (by kernel_rfl) (by kernel_rfl)) (by kernel_rfl) (by kernel_rfl)
theorem vectorTexts_reads (os : Os) {H : Type} (enc : TypeId × Value → H) : ∃ places, DataW.whole enc Tryd.prog ((withFirst (World.doorLaid Tryd.prog 307 os)).forCall (fun _ _ => 0) ⟨#[], #[.slice none 0 0, .string ⟨#[]⟩], []⟩).memory Tryd.f7.params.toList Rows.vectorTextsSpec.vars false #[Value.slice none 0 0, Value.string ⟨#[]⟩].toList 8 = some ([.nil, .lit (.string [])], [], places) :=
  ⟨[], by kernel_rfl⟩

theorem vectorTexts_contract (H : Type) (enc : TypeId × Value → H) (W : World) (base : Nat) (args : Array Value) (ds gs : List (DataW H)) (before : List MemPlace)
    (hval : ∀ (j : Nat) t v, Tryd.f7.params[j]? = some t → args[j]? = some v → Value.okWide Tryd.prog W .any base t v)
    (hW : DataW.Whole enc Tryd.prog Tryd.f7.params.toList Rows.vectorTextsSpec.vars false W args.toList ds gs before) (hL : laidMetH Tryd.prog Rows.vectorTextsRow.laid W) (hsh : W.ShapedOpen Tryd.prog) :
    Calls Tryd.prog 7 args W fun e W' => ∃ v, e = .returned v ∧ Rows.vectorTextsSpec.post enc Tryd.prog Tryd.f7 false true false false W args v W' := by
  have hW' := hW
  obtain ⟨p, q, hA0, hV, rfl, hfz, hnd⟩ := hW
  have hA : DataW.TrodAll enc Tryd.prog W 0 (fun _ => true) true Tryd.f7.params.toList args.toList ds p := hA0
  rw [Tryd.params7] at hA hval
  obtain ⟨v0, vs0, d0, ds0, p0, q0, hargs, rfl, rfl, h0, r0⟩ := trodAll_cons hA
  obtain ⟨v1, vs1, d1, ds1, p1, q1, rfl, rfl, rfl, h1, r1⟩ := trodAll_cons r0
  obtain ⟨rfl, rfl, rfl⟩ := trodAll_nil r1
  obtain rfl : args = #[v0, v1] := by cases args; simp_all
  obtain ⟨rfl, rfl⟩ := trodVars_none hV
  clear hA0
  obtain ⟨z0, k0⟩ := ints_view (hval 0 22 v0 rfl rfl) h0
  obtain ⟨s, rfl, rfl, rfl, hs⟩ := open_string Tryd.underlying9 (hval 1 9 v1 rfl rfl) h1
  simp only [List.append_nil] at hW'
  have hlt : ∀ x ∈ p0, x.block < W.heap.size := fun x hx => hW'.lt x (by simpa using hx)
  obtain ⟨A, hS⟩ := sents_of_laid hL (by simp [Rows.vectorTextsRow]) (by kernel_rfl)
  have hT := tw_of_laid hL hS hsh
  refine (texts_any A W hS hT v0 s z0 k0).mono fun e W' ⟨he, hb⟩ => ?_
  subst he
  refine ⟨_, rfl, _, _, _, [], _, [], hW', ?_, (trodAll_cons_mk (ints_stay h0 hb hlt) (trodAll_cons_mk (shut_string Tryd.underlying9 hs) trodAll_mk0)), ?_, hb.frame _, fun h => by cases h⟩
  · exact trodAll_mk1 (shut_bool Tryd.underlying4 true)
  · rfl

theorem vectorTexts_lifted (os : Os) (started : os.Started) (H : Type) (enc : TypeId × Value → H) (F : Stop.Interp) :
    ReturnsInHanded {} Tryd.checked os 7 .any ((OpenSpec.ofChange Rows.vectorTextsSpec).preRow enc Tryd.prog Tryd.f7 Rows.vectorTextsRow.domain false Rows.vectorTextsRow.laid) (((OpenSpec.ofChange Rows.vectorTextsSpec).at F).post enc Tryd.prog Tryd.f7 false true false false) := by
  obtain ⟨places, hx⟩ := vectorTexts_reads os enc
  refine returnsInHanded_of_row (C := Tryd.checked) (s := OpenSpec.ofChange Rows.vectorTextsSpec) ownKnobs started (by kernel_rfl) Tryd.func7
    (witness_row_atRef (enc := enc) (C := Tryd.checked) false (withFirst (World.doorLaid Tryd.prog 307 os)) #[.slice none 0 0, .string ⟨#[]⟩] rfl (by kernel_rfl) (by kernel_rfl) (by kernel_rfl)
      (OpenSpec.preRow_of_cond 8 hx (by kernel_rfl) (fun k hk => by cases hk) (by kernel_rfl) (vectorTexts_door os))) ?_
  intro W base args ds gs before hval hW _ _ _ hL hsh _
  exact vectorTexts_contract H enc W base args ds gs before hval hW hL hsh

theorem vectorTexts_said : Rows.VectorTextsSaid :=
  OpenClaim.holds_of_cond 7 Tryd.f7 rfl rfl rfl rfl rfl rfl rfl ⟨rfl, rfl, rfl, rfl, rfl⟩ rfl rfl rfl rfl rfl (by kernel_rfl) Tryd.func7 (by kernel_rfl)
    (of_decide_eq_true (by kernel_rfl)) (by unfold Func.isWrapper; first | (rw [if_pos (by decide +kernel)]; kernel_rfl) | (rw [if_neg (by decide +kernel)]; exact ⟨rfl, rfl⟩))
    (fun os started H enc _ F => by rw [OpenClaim.pre_eq_preRow]; exact vectorTexts_lifted os started H enc F)

theorem vectorTexts_plain (f : FuncId) (fn : Func) (hf : Tryd.pinned.checked.prog.funcNamed "causeway/causewaylaw1.VectorTexts" = some f) (hfn : Tryd.pinned.checked.prog.funcs[f]? = some fn) :
    true = Tryd.pinned.checked.prog.looks [] ∧ ∀ (j : Nat) t, fn.params[j]? = some t → Tryd.pinned.checked.prog.wantsStandIn t = false := by
  obtain rfl : f = 7 := Option.some.inj ((show Tryd.prog.funcNamed "causeway/causewaylaw1.VectorTexts" = some 7 by kernel_rfl).symm.trans hf) |>.symm
  obtain rfl : fn = Tryd.f7 := (Option.some.inj (Tryd.func7.symm.trans hfn)).symm
  refine ⟨by kernel_rfl, fun j t ht => ?_⟩
  rw [Tryd.params7] at ht
  have hm := Array.mem_of_getElem? ht
  have h22 : Tryd.prog.wantsStandIn 22 = false := by kernel_rfl
  have h9 : Tryd.prog.wantsStandIn 9 = false := by kernel_rfl
  have ht' : t = 22 ∨ t = 9 := by simp at hm; exact hm
  rcases ht' with rfl | rfl
  · exact h22
  · exact h9

theorem vectorTexts_card : Rows.VectorTextsCardSaid :=
  Claim7.holds_tied_plain_at .later [] _ _ _ _ vectorTexts_said (fun _ h => by cases h) (by kernel_rfl) (fun _ h => by cases h) vectorTexts_row_tie rfl ⟨rfl, rfl⟩ (by kernel_rfl) rfl vectorTexts_plain (by kernel_rfl)
end Go.Proofs.YtfechdagacmliaaDoor
