/- Encode, by its contracts. -/
import Derived.Test.YtkonjpcgfdcfbaaDoorJXWm
import Derived.Test.YtkonjpcgfdcfbaaDoorJXAtt
import Derived.Test.YtkonjpcgfdcfbaaDoorJXEi
namespace Go.Proofs.YtkonjpcgfdcfbaaDoor
open Go.RowKit
set_option maxRecDepth 100000

theorem bytes_of_row {w : World} {base : Nat} {v : Value} {bs : List UInt8} (h : w.ownsRow base 5 1 v bs.length (cellsB bs)) (hne : bs ≠ []) : ∃ g cap, v = .slice (some ⟨g, 0, none⟩) bs.length cap ∧ ∀ j (hj : j < bs.length), w.cell? ((⟨g, 0, none⟩ : Addr).add j) = some (.int .u8 (bs[j].toNat : Int)) := by
  obtain ⟨_, h2⟩ := h
  rcases h2 with ⟨rfl, h0⟩ | ⟨g, cap, cur, rfl, hb, hh, hn, hm, hs, ht⟩
  · exact absurd (List.eq_nil_of_length_eq_zero h0) hne
  · refine ⟨g, cap, rfl, fun j hj => ?_⟩
    have e : cur[j]? = some (.int .u8 (bs[j].toNat : Int)) := by
      have h1 : (cur.toList.take (bs.length * 1))[j]? = (cellsB bs)[j]? := by rw [ht]
      rw [List.getElem?_take, if_pos (by omega), Array.getElem?_toList] at h1
      rw [h1]
      unfold cellsB
      rw [List.getElem?_map, List.getElem?_eq_getElem hj]
      rfl
    rw [Addr.add_lit, Nat.zero_add]
    simp only [World.cell?, hh]
    exact e
theorem Ws.aside {a6 : Addr} {p b : Nat} {w0 w w' : World} {bs : List UInt8} {v : Value} {cs : Array Value} (h : Ws a6 p w0 w bs v) (hb : w.heap[b]? = some (.cells cs 31 (0, 0))) (hpb : p < b) (ha : Aside b w.heap.size w w') : Ws a6 p w0 w' bs v :=
  have hp := lt_of_heap h.box
  ⟨h.below.trans ⟨ha.os, ha.tape, ha.output, ha.size, fun k hk => ha.block k (by omega) (by omega)⟩, by rw [ha.block _ hp (by omega)]; exact h.box, owns_below h.row (fun i cs' hc => ha.block i (lt_of_heap hc) fun e => (by
    rw [e, hb] at hc
    injection hc with hc
    injection hc with _ hc
    cases hc)), by rw [ha.cell (p := ⟨7, 0, none⟩) (by have := h.lt; show 7 < _; omega) (by have := h.lt; show 7 ≠ b; omega)]; exact h.err, h.lt, h.len⟩
set_option maxHeartbeats 2000000 in
theorem encode1_any (w : World) (a6 : Addr) (p g : Nat) (w0 : World) (v : Value) (m : MsgV) (wp op : Option Addr) (wc oc : Nat) (h : Ws a6 p w0 w [] v) (hg : w.heap[g]? = some (.cells #[.int .i64 m.frm, .int .i64 m.to_, .int .i64 m.shard, .int .i64 m.seq, .int .i64 m.time, .bool m.beat, .slice wp m.c.when_.length wc, .int .i64 m.c.place, .slice op m.c.ops.length oc] 34 (0, 0))) (hw : IntsAt w0 (.slice wp m.c.when_.length wc) m.c.when_) (ho : OpsAt w0 (.slice op m.c.ops.length oc) m.c.ops) (hp0 : w0.heap.size ≤ p) (hwn : m.c.when_.length ≤ 1000000) (hon : m.c.ops.length ≤ 1000000) (hob : ∀ o ∈ m.c.ops, o.dots.length ≤ 1000000 ∧ o.key.size ≤ 1000000 ∧ o.text.size ≤ 1000000) :
    Calls Tryd.prog 18 #[.pointer (some ⟨p, 0, none⟩), .pointer (some ⟨g, 0, none⟩)] w (WrPost a6 p w0 w [] (msg8 m)) := by
  have K := hid (wmessage_any w a6 p w0 [] v m wp op wc oc h hw ho hp0 hwn hon hob)
  have c0 := (cell_of (j := 0) hg).trans rfl
  have c1 := (cell_of (j := 1) hg).trans rfl
  have c2 := (cell_of (j := 2) hg).trans rfl
  have c3 := (cell_of (j := 3) hg).trans rfl
  have c4 := (cell_of (j := 4) hg).trans rfl
  have c5 := (cell_of (j := 5) hg).trans rfl
  have c6 := (cell_of (j := 6) hg).trans rfl
  have c7 := (cell_of (j := 7) hg).trans rfl
  have c8 := (cell_of (j := 8) hg).trans rfl
  clear hg
  go_enter Tryd.func18, Tryd.ntmps18
  go_wp2_with fail
  refine K.out.mono ?_
  rintro e w1 (⟨h1, rfl, h2⟩ | ⟨h1, rfl, h2⟩)
  · go_wp2
    go_end0
    exact .inl ⟨h1, rfl, h2⟩
  · go_wp2
    exact ⟨rfl, .inr ⟨h1, rfl, h2⟩⟩
/-- Encode's beginning: the writer's box lies behind the message's. -/
theorem ws_start {w : World} {a6 : Addr} (C : Array Value) (he : w.cell? ⟨7, 0, none⟩ = some (.iface 131 (.pointer (some a6)))) : Ws a6 (w.heap.size + 1) (w.alloc (.cells C 34)) (((w.alloc (.cells C 34)).alloc (.cells #[.slice none 0 0] 55)).alloc (.cells #[.nilIface] 31)) [] (.slice none 0 0) := by
  have hl := lt_of_cell he
  have hl2 : 7 < w.heap.size := hl
  have hs : (w.alloc (.cells C 34)).heap.size = w.heap.size + 1 := by simp
  refine ⟨?_, ?_, World.ownsRow_nil _ _ _ _, cell_alloc (cell_alloc (cell_alloc he _) _) _, by omega, Nat.zero_le _⟩
  · rw [← hs]
    exact (below_alloc _ _).alloc (by simp) _
  · rw [← hs]
    exact heap_old (heap_new _ _) _
set_option maxHeartbeats 4000000 in
theorem encode_bad (w : World) (a6 : Addr) (m : MsgV) (wp op : Option Addr) (wc oc : Nat) (he : w.cell? ⟨7, 0, none⟩ = some (.iface 131 (.pointer (some a6)))) (hw : IntsAt w (.slice wp m.c.when_.length wc) m.c.when_) (ho : OpsAt w (.slice op m.c.ops.length oc) m.c.ops) (hwn : m.c.when_.length ≤ 1000000) (hon : m.c.ops.length ≤ 1000000) (hob : ∀ o ∈ m.c.ops, o.dots.length ≤ 1000000 ∧ o.key.size ≤ 1000000 ∧ o.text.size ≤ 1000000) (hl : 5996 < (msg8 m).length) :
    Calls Tryd.prog 7 #[.agg #[.int .i64 m.frm, .int .i64 m.to_, .int .i64 m.shard, .int .i64 m.seq, .int .i64 m.time, .bool m.beat, .slice wp m.c.when_.length wc, .int .i64 m.c.place, .slice op m.c.ops.length oc]] w fun e w' => e = .returned (.tuple #[.string ⟨#[]⟩, .iface 131 (.pointer (some a6))]) ∧ Below w.heap.size w w' := by
  have hmf : ∀ (fn : Fn) (first cap : Array Value) (w : World), (Instr.makeFunc fn first cap).run Tryd.prog w = .ok (.func fn first cap) w := fun _ _ _ _ => rfl
  have hs : ((w.alloc (.cells #[.int .i64 m.frm, .int .i64 m.to_, .int .i64 m.shard, .int .i64 m.seq, .int .i64 m.time, .bool m.beat, .slice wp m.c.when_.length wc, .int .i64 m.c.place, .slice op m.c.ops.length oc] 34)).alloc (.cells #[.slice none 0 0] 55)).heap.size = w.heap.size + 2 := by simp
  have K1 := encode1_any _ a6 (w.heap.size + 1) w.heap.size (w.alloc (.cells #[.int .i64 m.frm, .int .i64 m.to_, .int .i64 m.shard, .int .i64 m.seq, .int .i64 m.time, .bool m.beat, .slice wp m.c.when_.length wc, .int .i64 m.c.place, .slice op m.c.ops.length oc] 34)) _ m wp op wc oc (ws_start _ he) (heap_old (heap_old (heap_new _ _) _) _) (hw.mono (below_alloc _ _) (Nat.le_refl _)) (ho.mono (below_alloc _ _) (Nat.le_refl _)) (by simp) hwn hon hob
  have KA := hid (attempt_bad18 ⟨w.heap.size + 1, 0, none⟩ ⟨w.heap.size, 0, none⟩ ((w.alloc (.cells #[.int .i64 m.frm, .int .i64 m.to_, .int .i64 m.shard, .int .i64 m.seq, .int .i64 m.time, .bool m.beat, .slice wp m.c.when_.length wc, .int .i64 m.c.place, .slice op m.c.ops.length oc] 34)).alloc (.cells #[.slice none 0 0] 55)) 131 (some a6) (fun u => Below w.heap.size w u) (K1.mono fun e u hu => by
    obtain ⟨e1, ⟨v, bs', h2⟩, h3⟩ := hu.bad (by rw [List.length_nil]; omega)
    exact ⟨e1, h3.heap (heap_new _ _) (by rw [hs]; omega) (by decide), (below_alloc w _).trans (h2.below.mono (by omega))⟩))
  clear K1
  go_enter Tryd.func7, Tryd.ntmps7
  go_wp2_with fail
  refine KA.out.mono ?_
  rintro e w1 ⟨rfl, u, hu, hn, ha⟩
  have HB : Hid (Below w.heap.size w w1) := hu.trans ((ha.below (Nat.le_of_lt (lt_of_heap hn))).mono (by rw [hs]; omega))
  clear hu hn ha hs KA
  go_wp2
  go_ret2
  exact ⟨rfl, HB.out⟩
theorem ba_app (a b : List UInt8) : (⟨a.toArray⟩ : ByteArray) ++ ⟨b.toArray⟩ = ⟨(a ++ b).toArray⟩ := by
  apply ByteArray.ext
  simp [ByteArray.data_append]
theorem msg8_ne (m : MsgV) : msg8 m ≠ [] := fun e => by
  have := congrArg List.length e
  unfold msg8 at this
  rw [List.length_append, be8_len] at this
  simp at this
theorem ret_two {x y : ByteArray} {z : Value} (h : x = y) : Ending.returned (.tuple #[.string x, z]) = .returned (.tuple #[.string y, z]) := by rw [h]
set_option maxHeartbeats 4000000 in
theorem encode_ok (w : World) (a6 : Addr) (m : MsgV) (wp op : Option Addr) (wc oc : Nat) (he : w.cell? ⟨7, 0, none⟩ = some (.iface 131 (.pointer (some a6)))) (hw : IntsAt w (.slice wp m.c.when_.length wc) m.c.when_) (ho : OpsAt w (.slice op m.c.ops.length oc) m.c.ops) (hwn : m.c.when_.length ≤ 1000000) (hon : m.c.ops.length ≤ 1000000) (hob : ∀ o ∈ m.c.ops, o.dots.length ≤ 1000000 ∧ o.key.size ≤ 1000000 ∧ o.text.size ≤ 1000000) (hl : (msg8 m).length ≤ 5996) :
    Calls Tryd.prog 7 #[.agg #[.int .i64 m.frm, .int .i64 m.to_, .int .i64 m.shard, .int .i64 m.seq, .int .i64 m.time, .bool m.beat, .slice wp m.c.when_.length wc, .int .i64 m.c.place, .slice op m.c.ops.length oc]] w fun e w' => e = .returned (.tuple #[.string ⟨(msg8 m ++ sum4 (msg8 m)).toArray⟩, .nilIface]) ∧ Below w.heap.size w w' := by
  have hmf : ∀ (fn : Fn) (first cap : Array Value) (w : World), (Instr.makeFunc fn first cap).run Tryd.prog w = .ok (.func fn first cap) w := fun _ _ _ _ => rfl
  have hs : ((w.alloc (.cells #[.int .i64 m.frm, .int .i64 m.to_, .int .i64 m.shard, .int .i64 m.seq, .int .i64 m.time, .bool m.beat, .slice wp m.c.when_.length wc, .int .i64 m.c.place, .slice op m.c.ops.length oc] 34)).alloc (.cells #[.slice none 0 0] 55)).heap.size = w.heap.size + 2 := by simp
  have K1 := encode1_any _ a6 (w.heap.size + 1) w.heap.size (w.alloc (.cells #[.int .i64 m.frm, .int .i64 m.to_, .int .i64 m.shard, .int .i64 m.seq, .int .i64 m.time, .bool m.beat, .slice wp m.c.when_.length wc, .int .i64 m.c.place, .slice op m.c.ops.length oc] 34)) _ m wp op wc oc (ws_start _ he) (heap_old (heap_old (heap_new _ _) _) _) (hw.mono (below_alloc _ _) (Nat.le_refl _)) (ho.mono (below_alloc _ _) (Nat.le_refl _)) (by simp) hwn hon hob
  have KA := hid (attempt_ok18 ⟨w.heap.size + 1, 0, none⟩ ⟨w.heap.size, 0, none⟩ ((w.alloc (.cells #[.int .i64 m.frm, .int .i64 m.to_, .int .i64 m.shard, .int .i64 m.seq, .int .i64 m.time, .bool m.beat, .slice wp m.c.when_.length wc, .int .i64 m.c.place, .slice op m.c.ops.length oc] 34)).alloc (.cells #[.slice none 0 0] 55)) (fun u => Below w.heap.size w u ∧ ∃ v, Ws a6 (w.heap.size + 1) (w.alloc (.cells #[.int .i64 m.frm, .int .i64 m.to_, .int .i64 m.shard, .int .i64 m.seq, .int .i64 m.time, .bool m.beat, .slice wp m.c.when_.length wc, .int .i64 m.c.place, .slice op m.c.ops.length oc] 34)) u (msg8 m) v) (K1.mono fun e u hu => by
    obtain ⟨e1, ⟨v, h2⟩, h3⟩ := hu.ok (by rw [List.length_nil]; omega)
    rw [List.nil_append] at h2
    exact ⟨e1, h3.heap (heap_new _ _) (by rw [hs]; omega) (by decide), (below_alloc w _).trans (h2.below.mono (by omega)), v, h2⟩))
  clear K1
  have HNE := hid (msg8_ne m)
  obtain ⟨bs, hbs⟩ : ∃ bs, bs = msg8 m := ⟨_, rfl⟩
  rw [← hbs] at KA HNE hl ⊢
  have K20 := hid (fun W => sumOf_any W bs (by omega))
  clear hbs
  go_enter Tryd.func7, Tryd.ntmps7
  go_wp2_with fail
  refine KA.out.mono ?_
  rintro e w1 ⟨rfl, u, ⟨hu, v, hv⟩, hn, ha⟩
  have hv1 := hv.aside hn (by rw [hs]; omega) ha
  obtain ⟨g, cap, hvg, hcs⟩ := bytes_of_row hv1.row HNE.out
  subst hvg
  have hc : w1.cell? ⟨w.heap.size + 1, 0, none⟩ = some (.slice (some ⟨g, 0, none⟩) bs.length cap) := (cell_of hv1.box).trans rfl
  have hcv := run_convert_bytes_back (P := Tryd.prog) w1 53 9 5 ⟨g, 0, none⟩ cap bs Tryd.underlying53 Tryd.underlying5 Tryd.underlying9 hcs
  have HB : Hid (Below w.heap.size w w1) := hu.trans ((ha.below (Nat.le_of_lt (lt_of_heap hn))).mono (by rw [hs]; omega))
  have h4 : (sum4 bs).length = 4 := rfl
  clear hu hn ha hs KA hv hv1 hcs
  go_wp2_with (go_at_call 20; refine (K20.out _).mono ?_; rintro e w2 ⟨rfl, hb2⟩)
  go_ret2
  exact ⟨ret_two (ba_app _ _), HB.out.trans (hb2.mono HB.out.size)⟩
end Go.Proofs.YtkonjpcgfdcfbaaDoor
