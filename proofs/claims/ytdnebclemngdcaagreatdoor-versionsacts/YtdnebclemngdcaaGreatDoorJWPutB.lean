/- stored: a commit is kept; What is put whole, or in parts, turned around: plain mathematics; What may be read of what is put whole, or in parts, turned around: plain mathematics; Put of what may not be put: an error that is not nil; nothing turns. -/
import Derived.Test.YtdnebclemngdcaaGreatDoorJWSeenW
import Derived.Test.YtdnebclemngdcaaGreatDoorJWNew
import Derived.Test.YtdnebclemngdcaaGreatDoorJWSeen
namespace Go.Proofs.YtdnebclemngdcaaGreatDoor
open Go.RowKit Go.Sort Go.Maps
set_option maxRecDepth 100000
set_option linter.unusedSectionVars false
variable [Inhabited ComV] [DecidableEq D3] [Inhabited D3] [Inhabited Dd] [Inhabited Dn] [Inhabited OpV]

def storedOp : OpV := ⟨0, ⟨#[107]⟩, 2, ⟨#[]⟩, 5, false, []⟩
def storedC : ComV := ⟨[1], 0, [storedOp]⟩
def storedS : St := ⟨[0], [storedC], [⟨0, 1, 0⟩]⟩
theorem stored_err : comErr storedC = (0, none) := by kernel_rfl
theorem stored_put : putTo ⟨[0], [], []⟩ storedC 1 = storedS := by rfl
theorem stored_one : seenL storedS ⟨#[107]⟩ [1] = [storedC] := by rfl
theorem stored_none : seenL storedS ⟨#[107]⟩ [0] = [] := by rfl
theorem stored_once : (onceA [storedC]).filter (fun x => decide (x.o.key = ⟨#[107]⟩)) = [⟨storedOp, ⟨0, 1, 0⟩, 1⟩] := by rfl
theorem stored_val {ds : List Dn} (h : IsOps ⟨#[107]⟩ [storedC] ds) : valA ds = ⟨2, ByteArray.empty, 5, []⟩ := by
  rw [isOps_eq h (ys := [⟨storedOp, ⟨0, 1, 0⟩, 1⟩]) ⟨by rw [stored_once], List.pairwise_singleton _ _⟩]; rfl
theorem stored_val0 {ds : List Dn} (h : IsOps ⟨#[107]⟩ [] ds) : valA ds = ⟨0, ByteArray.empty, 0, []⟩ := by
  rw [isOps_eq h (ys := []) ⟨by rfl, List.Pairwise.nil⟩]; rfl
theorem stored_st : StOk storedS 1 := by
  have hc : ComOk storedC := comOk_of (by rw [stored_err]); refine ⟨by rfl, rfl, fun c h => ?_, fun c h => ?_, fun c h => ?_⟩
  · obtain rfl : c = storedC := by simpa [storedS] using h
    exact hc
  · obtain rfl : c = storedC := by simpa [storedS] using h
    rfl
  · obtain rfl : c = storedC := by simpa [storedS] using h
    exact ⟨by decide, by decide, fun o ho => by
      obtain rfl : o = storedOp := by simpa [storedC] using ho
      exact ⟨by decide, by decide⟩⟩
theorem stored_com (w : World) : ComT ((w.alloc (.cells #[.int .i64 1] 3)).alloc (.cells #[.int .i64 0, .string ⟨#[107]⟩, .int .i64 2, .string ⟨#[]⟩, .int .i64 5, .bool false, .slice none 0 0] 76)) [.slice (some ⟨w.heap.size, 0, none⟩) 1 1, .int .i64 0, .slice (some ⟨w.heap.size + 1, 0, none⟩) 1 1] storedC := by
  have h1 : ((w.alloc (.cells #[.int .i64 1] 3)).alloc (.cells #[.int .i64 0, .string ⟨#[107]⟩, .int .i64 2, .string ⟨#[]⟩, .int .i64 5, .bool false, .slice none 0 0] 76)).heap[w.heap.size]? = some (.cells #[.int .i64 1] 3 (0, 0)) := by
    rw [(MapKept.heap_alloc _ _).2 _ (by simp)]; exact (MapKept.heap_alloc _ _).1
  have h2 : ((w.alloc (.cells #[.int .i64 1] 3)).alloc (.cells #[.int .i64 0, .string ⟨#[107]⟩, .int .i64 2, .string ⟨#[]⟩, .int .i64 5, .bool false, .slice none 0 0] 76)).heap[w.heap.size + 1]? = some (.cells #[.int .i64 0, .string ⟨#[107]⟩, .int .i64 2, .string ⟨#[]⟩, .int .i64 5, .bool false, .slice none 0 0] 76 (0, 0)) := by
    have := (MapKept.heap_alloc (w.alloc (.cells #[.int .i64 1] 3)) (.cells #[.int .i64 0, .string ⟨#[107]⟩, .int .i64 2, .string ⟨#[]⟩, .int .i64 5, .bool false, .slice none 0 0] 76)).1; rwa [World.size_alloc] at this
  refine ⟨_, _, rfl, rowT_lit (rows := [[.int .i64 1]]) h1 rfl (fun r hr => by obtain rfl := List.mem_singleton.1 hr; rfl) (by decide), ⟨[opCells storedOp (.slice none 0 0)], rowT_lit (rows := [opCells storedOp (.slice none 0 0)]) h2 rfl (fun r hr => by obtain rfl := List.mem_singleton.1 hr; rfl) (by decide), ⟨⟨.slice none 0 0, rfl, ⟨none, 0, rfl, (fun _ => rfl), Nat.le_refl _, .inl rfl⟩⟩, trivial⟩⟩⟩
theorem below_turn {w w1 w2 w3 : World} {mb db : Nat} {f f' : ByteArray → Value} (hb1 : Below w.heap.size w w1) (hb2 : Below w1.heap.size w1 w2) (ht : Turn w2 w3 mb db f f') (hm : w.heap.size ≤ mb) (hd : w.heap.size ≤ db) (hf : ∀ k b, (f k).ownBlock = some b → w.heap.size ≤ b) : Below w.heap.size w w3 := by
  have h1 := hb1.size; have h2 := hb2.size; refine ⟨ht.os.trans (hb2.os.trans hb1.os), ht.tape.trans (hb2.tape.trans hb1.tape), ht.output.trans (hb2.output.trans hb1.output), Nat.le_trans h1 (Nat.le_trans h2 ht.size), fun b hb => ?_⟩; rw [ht.block b (by omega) (by omega) (by omega) (fun k e => by have := hf k b e; omega), hb2.block b (by omega)]; exact hb1.block b hb
end Go.Proofs.YtdnebclemngdcaaGreatDoor
namespace Go.Proofs.YtdnebclemngdcaaGreatDoor
open Go.RowKit Go.Sort Go.Maps
set_option maxRecDepth 100000
set_option linter.unusedSectionVars false
variable [Inhabited ComV] [DecidableEq D3] [Inhabited D3] [Inhabited Dd] [Inhabited Dn] [Inhabited OpV]

def partsC (c : ComV) : List ComV := c.ops.map (partC c)
def dotsC (c : ComV) : List D3 := c.ops.map (dotC c)
def stOf (nb : Nat) (l : List ComV) : St := ⟨List.replicate nb 0, l.flatMap partsC, l.flatMap dotsC⟩
theorem stOf_put (nb : Nat) (l : List ComV) (c : ComV) : putTo (stOf nb l) c c.ops.length = stOf nb (l ++ [c]) := by
  unfold putTo stOf partsC dotsC; rw [List.take_length, List.flatMap_append, List.flatMap_append]; simp
structure PutOk (s : St) (c : ComV) : Prop where
  err : comErr c = (0, none)
  len : c.when_.length = s.base.length
  old : leB c.when_ s.base = false
  new : ∀ o ∈ c.ops, dotC c o ∉ s.dots
theorem dotsC_nodup {c : ComV} (h : ComOk c) : (dotsC c).Nodup := by
  unfold dotsC; rw [List.nodup_iff_pairwise_ne, List.pairwise_map, List.pairwise_iff_getElem]; intro i j hi hj hij e; have h1 := at_rise h.ops i j hij hj; rw [getElem!_pos c.ops i hi, getElem!_pos c.ops j hj] at h1; have h2 : (dotC c c.ops[i]).a = (dotC c c.ops[j]).a := by rw [e]
  have h3 : c.ops[i].at_ = c.ops[j].at_ := h2; omega
end Go.Proofs.YtdnebclemngdcaaGreatDoor
namespace Go.Proofs.YtdnebclemngdcaaGreatDoor
open Go.RowKit Go.Sort Go.Maps
set_option maxRecDepth 100000
set_option linter.unusedSectionVars false
variable [Inhabited ComV] [DecidableEq D3] [Inhabited D3] [Inhabited Dd] [Inhabited Dn] [Inhabited OpV]

theorem chk_zeros {nb : Nat} (h1 : 1 ≤ nb) (h6 : nb ≤ 6) : chk (List.replicate nb 0) = 0 := by
  rw [chk_zero]; refine ⟨by simpa using h1, by simpa using h6, fun t ht => ?_⟩
  have : (List.replicate nb (0 : Int)).getD t 0 = 0 := by
    rw [List.getD_eq_getElem?_getD, List.getElem?_replicate]
    split <;> rfl
  rw [this]; omega
theorem comOk_one {c : ComV} (h : ComOk c) {o : OpV} (ho : o ∈ c.ops) : ComOk (partC c o) := by
  refine ⟨h.chk, h.lo, h.hi, h.time, by simp [partC], by simp [partC], fun i hi => ?_⟩; obtain ⟨j, hj, rfl⟩ := List.getElem_of_mem ho
  have e : (c.ops.drop j).take 1 = [c.ops[j]] := by
    rw [List.drop_eq_getElem_cons hj]; rfl
  have := opBad_part (s := j) (m := 1) (i := i) h.ops (by rw [e]; simpa [partC] using hi); rw [e] at this; exact this
end Go.Proofs.YtdnebclemngdcaaGreatDoor
namespace Go.Proofs.YtdnebclemngdcaaGreatDoor
open Go.RowKit Go.Sort Go.Maps
set_option maxRecDepth 100000
set_option linter.unusedSectionVars false
variable [Inhabited ComV] [DecidableEq D3] [Inhabited D3] [Inhabited Dd] [Inhabited Dn] [Inhabited OpV]

theorem err_iface {A : Nat → Addr} {w : World} {v : Value} {er : Nat × Option Nat} (h : ErrAt A w v er) (h0 : er.1 ≠ 0) : ∃ t u, v = .iface t u := by
  obtain ⟨k, o⟩ := er
  cases o with
  | none =>
    have e : v = errV A k := h
    cases k with
    | zero => exact absurd rfl h0
    | succ k => exact ⟨_, _, e⟩
  | some i =>
    obtain ⟨pb, e, _⟩ := h; exact ⟨_, _, e⟩
theorem nil_of_errB {A : Nat → Addr} {w : World} {v : Value} (h : ErrAt A w v (0, none)) : v = .nilIface := h
end Go.Proofs.YtdnebclemngdcaaGreatDoor
