/- What Decode and Unwire tell of any text: one error, or one message. -/
import Derived.Test.YtkonjpcgfdcfbaaDoorJXUn
import Derived.Test.YtkonjpcgfdcfbaaDoorJXBk
import Derived.Test.YtkonjpcgfdcfbaaDoorJXSc
import Derived.Test.YtkonjpcgfdcfbaaDoorJXCode
import Derived.Test.YtkonjpcgfdcfbaaDoorJXCo
namespace Go.Proofs.YtkonjpcgfdcfbaaDoor
open Go.RowKit

theorem mem_flat {α : Type} (e : α → List UInt8) {x : α} : ∀ {xs : List α}, x ∈ xs → (e x).length ≤ (xs.flatMap e).length
  | y :: ys, h => by
    rw [List.flatMap_cons, List.length_append]
    rcases List.mem_cons.1 h with rfl | h
    · omega
    · have := mem_flat e h; omega
theorem com_le (m : MsgV) : (com8 m.c).length ≤ (msg8 m).length := by unfold msg8; simp only [List.length_append]; omega
theorem msg_bounds {m : MsgV} (h : (msg8 m).length ≤ 5996) : m.c.when_.length ≤ 1000000 ∧ m.c.ops.length ≤ 1000000 ∧ ∀ o ∈ m.c.ops, o.dots.length ≤ 1000000 ∧ o.key.size ≤ 1000000 ∧ o.text.size ≤ 1000000 := by
  have hc := com_le m
  have e1 : (m.c.when_.flatMap be8).length ≤ (com8 m.c).length := by unfold com8; simp only [List.length_append]; omega
  have e2 : (m.c.ops.flatMap op8).length ≤ (com8 m.c).length := by unfold com8; simp only [List.length_append]; omega
  have f1 := flat_len be8 (fun d => by rw [be8_len]; omega) m.c.when_
  have f2 := flat_len op8 op8_pos m.c.ops
  refine ⟨by omega, by omega, fun o ho => ?_⟩
  have g := mem_flat op8 ho
  have d1 := flat_len dot8 dot8_pos o.dots
  have d2 : (o.dots.flatMap dot8).length ≤ (op8 o).length ∧ (txt8 o.key).length ≤ (op8 o).length ∧ (txt8 o.text).length ≤ (op8 o).length := by unfold op8; simp only [List.length_append]; omega
  have t1 : ∀ s : ByteArray, s.size ≤ (txt8 s).length := fun s => by
    have e : s.data.toList.length = s.data.size := Array.length_toList
    unfold txt8
    rw [List.length_append, e]
    show s.data.size ≤ (be8 _).length + s.data.size
    omega
  have := t1 o.key
  have := t1 o.text
  omega
/-- The text L is wrong: the error with the number k + 1. -/
structure RdErr (A : Nat → Addr) (L : List UInt8) (k : Nat) : Prop where
  lt : k < 12
  dec : ∀ B w, Sents A B w → Calls Tryd.prog 11 #[.string ⟨L.toArray⟩] w fun e w' => e = .returned (.tuple #[.agg #[.int .i64 0, .int .i64 0, .int .i64 0, .int .i64 0, .int .i64 0, .bool false, .slice none 0 0, .int .i64 0, .slice none 0 0], .iface 131 (.pointer (some (A k)))]) ∧ Below w.heap.size w w'
  un : ∀ w, Calls Tryd.prog 16 #[.string ⟨L.toArray⟩] w fun e w' => e = .returned (.tuple #[.agg #[.int .i64 0, .int .i64 0, .int .i64 0, .int .i64 0, .int .i64 0, .bool false, .slice none 0 0, .int .i64 0, .slice none 0 0], .int .i64 ((k : Int) + 1)]) ∧ Below w.heap.size w w'
/-- The text L is the message m. -/
structure RdOk (A : Nat → Addr) (L : List UInt8) (m : MsgV) : Prop where
  eq : L = msg8 m ++ sum4 (msg8 m)
  le : (msg8 m).length ≤ 5996
  dec : ∀ B w, Sents A B w → Calls Tryd.prog 11 #[.string ⟨L.toArray⟩] w (DecRet w m)
  un : ∀ w, Calls Tryd.prog 16 #[.string ⟨L.toArray⟩] w fun e w' => ∃ a1 c1 a2 c2, e = .returned (.tuple #[.agg #[.int .i64 m.frm, .int .i64 m.to_, .int .i64 m.shard, .int .i64 m.seq, .int .i64 m.time, .bool m.beat, .slice a1 m.c.when_.length c1, .int .i64 m.c.place, .slice a2 m.c.ops.length c2], .int .i64 0]) ∧ IntsAt w' (.slice a1 m.c.when_.length c1) m.c.when_ ∧ OpsAt w' (.slice a2 m.c.ops.length c2) m.c.ops ∧ Below w.heap.size w w'
theorem reads_any (A : Nat → Addr) (L : List UInt8) : (∃ k, RdErr A L k) ∨ ∃ m, RdOk A L m := by
  by_cases h6 : 6000 < L.length
  · exact .inl ⟨0, by decide, fun B w hS => decode_long w (A 0) L (hS.cell 0 (by decide)) h6, fun w => unwire_early w L (.inl h6)⟩
  by_cases h4 : L.length < 4
  · exact .inl ⟨0, by decide, fun B w hS => decode_short w (A 0) L (hS.cell 0 (by decide)) h4, fun w => unwire_early w L (.inr h4)⟩
  obtain ⟨t, ht⟩ : ∃ t, t = L.take (L.length - 4) := ⟨_, rfl⟩
  obtain ⟨s, hs⟩ : ∃ s, s = L.drop (L.length - 4) := ⟨_, rfl⟩
  by_cases hne : sum4 t = s
  · cases hq : wholeP t with
    | none =>
      refine .inl ⟨0, by decide, fun B w hS => decode_bad w (A 0) L t (hS.cell 0 (by decide)) h6 h4 ht (by rw [hne, hs]) hq, fun w => ?_⟩
      refine (unwire_main w L t h6 h4 ht (by rw [hne, hs])).mono ?_
      rintro e w' (⟨m, _, _, _, _, h, _⟩ | ⟨_, h1, h2⟩)
      · rw [hq] at h; cases h
      · exact ⟨h1, h2⟩
    | some m =>
      have hm := whole_rb hq
      refine .inr ⟨m, ?_, ?_, fun B w hS => decode_ok w (A 0) L t m (hS.cell 0 (by decide)) h6 h4 ht (by rw [hne, hs]) hq, fun w => ?_⟩
      · rw [← hm, hne, ht, hs, List.take_append_drop]
      · rw [← hm, ht, List.length_take]; omega
      · refine (unwire_main w L t h6 h4 ht (by rw [hne, hs])).mono ?_
        rintro e w' (⟨m', a1, c1, a2, c2, h, h1, h2, h3⟩ | ⟨h, _⟩)
        · rw [hq] at h
          obtain rfl := Option.some.inj h
          exact ⟨a1, c1, a2, c2, h1, h2.ints, h2.opsAt, h3⟩
        · rw [hq] at h; cases h
  · refine .inl ⟨7, by decide, fun B w hS => decode_sum w (A 7) L t s (hS.cell 7 (by decide)) h6 h4 ht hs (fun e => hne e.symm), fun w => ?_⟩
    exact unwire_sum w L t s h6 h4 ht hs hne
end Go.Proofs.YtkonjpcgfdcfbaaDoor
