/- BackWire; the closed fact. -/
import Derived.Test.YtkonjpcgfdcfbaaDoorJXDec
import Derived.Test.YtkonjpcgfdcfbaaDoorJXEnc
namespace Go.Proofs.YtkonjpcgfdcfbaaDoor
open Go.RowKit
set_option maxRecDepth 100000

theorem heap_new2 (w : World) (o1 o2 : Obj) : ((w.alloc o1).alloc o2).heap[w.heap.size + 1]? = some o2 := by
  have := heap_new (w.alloc o1) o2
  rwa [World.size_alloc] at this
set_option maxHeartbeats 2000000 in
theorem backWire_any (w : World) (x1 x2 x3 x4 x5 p : Int) (x6 : Bool) (a1 a2 : Option Addr) (n1 c1 n2 c2 : Nat) :
    Calls Tryd.prog 13 #[.agg #[.int .i64 x1, .int .i64 x2, .int .i64 x3, .int .i64 x4, .int .i64 x5, .bool x6, .slice a1 n1 c1, .int .i64 p, .slice a2 n2 c2]] w fun e w' => e = .returned (.agg #[.int .i64 x1, .int .i64 x2, .int .i64 x3, .int .i64 x4, .int .i64 x5, .bool x6, .slice a1 n1 c1, .int .i64 p, .slice a2 n2 c2]) ∧ Below w.heap.size w w' := by
  go_enter Tryd.func13, Tryd.ntmps13
  go_wp2_with fail
  refine bodyPost_ret (ret_cell (k := 9) Tryd.results13 Tryd.isAgg27 Tryd.sizeOf27 _ _ (w.heap.size + 1) [.int .i64 x1, .int .i64 x2, .int .i64 x3, .int .i64 x4, .int .i64 x5, .bool x6, .slice a1 n1 c1, .int .i64 p, .slice a2 n2 c2] rfl rfl (cells_heap (t := 27) _ (heap_new2 _ _ _))) rfl ⟨rfl, (below_alloc _ _).alloc (by simp) _⟩
theorem msg8_zero : (msg8 ⟨0, 0, 0, 0, 0, false, ⟨[], 0, []⟩⟩).length = 72 := by decide +kernel
theorem ints_nil (w : World) : IntsAt w (.slice none 0 0) [] := ⟨none, 0, rfl, fun _ => rfl, .inl rfl⟩
theorem ops_nil (w : World) : OpsAt w (.slice none 0 0) [] := ⟨[], ⟨none, 0, rfl, fun _ => rfl, Nat.le_refl _, .inl rfl⟩, trivial⟩
theorem sum4_len (l : List UInt8) : (sum4 l).length = 4 := rfl
theorem okM_zero : OkM ⟨0, 0, 0, 0, 0, false, ⟨[], 0, []⟩⟩ := by
  have h : In64 0 := by unfold In64; omega
  exact ⟨h, h, h, h, h, ⟨by unfold InLen; simp, fun x hx => by simp at hx, h, by unfold InLen; simp, fun x hx => by simp at hx⟩⟩
/-- The sentinels that Encode and Decode hand out. -/
theorem take_msg (l : List UInt8) : (l ++ sum4 l).take ((l ++ sum4 l).length - 4) = l := by
  rw [List.length_append, sum4_len, Nat.add_sub_cancel, List.take_left]
theorem drop_msg (l : List UInt8) : (l ++ sum4 l).drop ((l ++ sum4 l).length - 4) = sum4 l := by
  rw [List.length_append, sum4_len, Nat.add_sub_cancel, List.drop_left]
set_option maxHeartbeats 4000000 in
theorem wired_true (w : World) (a0 a6 : Addr) (h0 : w.cell? ⟨0, 0, none⟩ = some (.iface 131 (.pointer (some a0)))) (h7 : w.cell? ⟨7, 0, none⟩ = some (.iface 131 (.pointer (some a6)))) :
    Calls Tryd.prog 5 #[] w fun e w' => e = .returned (.bool true) ∧ Below w.heap.size w w' := by
  have H0 := hid h0
  have hl0 := lt_of_cell h0
  have KE := hid (encode_ok w a6 ⟨0, 0, 0, 0, 0, false, ⟨[], 0, []⟩⟩ none none 0 0 h7 (ints_nil w) (ops_nil w) (Nat.zero_le _) (Nat.zero_le _) (fun o ho => by simp at ho) (by rw [msg8_zero]; decide))
  clear h0 h7
  go_enter Tryd.func5, Tryd.ntmps5
  go_wp2_with fail
  refine KE.out.mono ?_
  rintro e w1 ⟨rfl, hb1⟩
  obtain ⟨l, hl⟩ : ∃ l, l = msg8 ⟨0, 0, 0, 0, 0, false, ⟨[], 0, []⟩⟩ ++ sum4 (msg8 ⟨0, 0, 0, 0, 0, false, ⟨[], 0, []⟩⟩) := ⟨_, rfl⟩
  rw [← hl]
  have hlen : l.length = 76 := by rw [hl, List.length_append, msg8_zero, sum4_len]
  have KD := hid (decode_ok w1 a0 l (msg8 ⟨0, 0, 0, 0, 0, false, ⟨[], 0, []⟩⟩) ⟨0, 0, 0, 0, 0, false, ⟨[], 0, []⟩⟩ (by rw [hb1.cell (p := ⟨0, 0, none⟩) hl0]; exact H0.out) (by omega) (by omega) (by rw [hl, take_msg]) (by rw [hl, drop_msg]) (whole_ra okM_zero))
  have HB1 := hid hb1
  clear hl KE hb1
  go_wp2_with fail
  refine KD.out.mono ?_
  rintro e w2 ⟨a1, c1, a2, c2, rfl, _, hb2⟩
  have HB2 := hid hb2
  clear hb2 KD
  go_wp2
  go_ret
  exact ⟨rfl, (HB1.out.trans (HB2.out.mono HB1.out.size)).alloc (Nat.le_trans HB1.out.size HB2.out.size) _⟩
end Go.Proofs.YtkonjpcgfdcfbaaDoor
