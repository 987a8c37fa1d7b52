/- A commit in rows of one's own, read. -/
import Derived.Test.YtkonjpcgfdcfbaaDoorJXWhole
import Derived.Test.YtkonjpcgfdcfbaaDoorJXEs
namespace Go.Proofs.YtkonjpcgfdcfbaaDoor
open Go.RowKit

theorem owns_ints {w : World} {base : Nat} {v : Value} {zs : List Int} (h : w.ownsRow base 3 1 v zs.length (zs.map (Value.int .i64))) : IntsAt w v zs := by
  rcases h.2 with ⟨rfl, h0⟩ | ⟨g, cap, cur, rfl, _, hh, hc, _, hs, ht⟩
  · obtain rfl := List.eq_nil_of_length_eq_zero h0
    exact ⟨_, _, rfl, fun _ => rfl, .inl rfl⟩
  · refine ⟨_, cap, rfl, (fun h => by cases h), .inr ⟨g, 0, rfl, fun j hj => ?_⟩⟩
    have e : (zs.map (Value.int .i64))[j]? = some (.int .i64 (zs.getD j 0)) := by simp [List.getElem?_map, List.getD_eq_getElem?_getD, List.getElem?_eq_getElem hj]
    rw [← ht, List.getElem?_take, if_pos (by omega), Array.getElem?_toList] at e
    rw [cell_of hh, Nat.zero_add]
    exact e
theorem f2_opRow {base : Nat} {w : World} {rows : List (List Value)} {os : List OpV} (h : F2 (OpOwn base w) rows os) : F2 (OpRow w) rows os := f2_mono (fun _ _ ⟨dv, h1, h2⟩ => ⟨dv, h1, dots_of_owns h2⟩) h
theorem rows7 {w : World} : ∀ {rows : List (List Value)} {os : List OpV}, F2 (OpRow w) rows os → ∀ r ∈ rows, r.length = 7
  | [], [], _, _, hr => by simp at hr
  | _ :: _, _ :: _, ⟨⟨_, h1, _⟩, h2⟩, r, hr => by
    rcases List.mem_cons.1 hr with rfl | hr
    · rw [h1]; rfl
    · exact rows7 h2 r hr
theorem ComOwn.ints {base : Nat} {w : World} {wv ov : Value} {c : ComV} (h : ComOwn base w wv ov c) : IntsAt w wv c.when_ := owns_ints h.1
theorem ComOwn.opsAt {base : Nat} {w : World} {wv ov : Value} {c : ComV} (h : ComOwn base w wv ov c) : OpsAt w ov c.ops := by
  obtain ⟨_, rows, h2, h3⟩ := h
  have hf := f2_opRow h3
  exact ⟨rows, rowAt_of_owns h2 (f2_len hf).symm (rows7 hf), hf⟩

theorem Sents.at {A : Nat → Addr} {B : Nat} {w w' : World} (h : Sents A B w) (hb : Below w.heap.size w w') : Sents A B w' := h.below (hb.mono h.size)
end Go.Proofs.YtkonjpcgfdcfbaaDoor
