/- The reference's Wire by its contract. -/
import Derived.Test.YtkonjpcgfdcfbaaDoorJXEi
import Derived.Test.YtkonjpcgfdcfbaaDoorJXUn0
import Derived.Test.YtkonjpcgfdcfbaaDoorJXHv
import Derived.Test.YtkonjpcgfdcfbaaDoorJXEnc
import Derived.Test.YtkonjpcgfdcfbaaDoorJXRSum
import Derived.Deep.RegionHeld
import Derived.Deep.CutBlock
import Derived.Deep.DeepCutAuto
namespace Go.Proofs.YtkonjpcgfdcfbaaDoor
open Go.RowKit
set_option maxRecDepth 100000

/-- What Wire hands back of a message with these bytes. -/
def rwRet (l : List UInt8) : Value := if 5996 < l.length then .tuple #[.string ⟨#[]⟩, .int .i64 7] else .tuple #[.string ⟨(l ++ sum4 l).toArray⟩, .int .i64 0]
theorem ret_tup {x y : Value} (h : x = y) : Ending.returned x = .returned y := by rw [h]
theorem ba_size (l : List UInt8) : (⟨l.toArray⟩ : ByteArray).size = l.length := by
  show l.toArray.size = _
  simp
theorem ba_list (l : List UInt8) : (⟨l.toArray⟩ : ByteArray).data.toList = l := rfl
theorem list_of (b : ByteArray) : ∃ l : List UInt8, b = ⟨l.toArray⟩ := ⟨b.data.toList, by cases b; simp⟩
theorem bit8_len (b : Bool) : (bit8 b).length = 8 := be8_len _
set_option maxHeartbeats 16000000 in
theorem rwire_any (w : World) (m : MsgV) (wv ov : Value) (hw : IntsAt w wv m.c.when_) (ho : OpsAt w ov m.c.ops) (hL : Light m.c) :
    Calls Tryd.prog 9 #[.agg #[.int .i64 m.frm, .int .i64 m.to_, .int .i64 m.shard, .int .i64 m.seq, .int .i64 m.time, .bool m.beat, wv, .int .i64 m.c.place, ov]] w fun e w' => e = .returned (rwRet (msg8 m)) ∧ Below w.heap.size w w' := by
  obtain ⟨x1, x2, x3, x4, x5, x6, ⟨ws, pl, os⟩⟩ := m
  simp only at hw ho hL ⊢
  have hb8 : ∀ x, (be8 x).length = 8 := be8_len
  have hbt : ∀ x, (bit8 x).length = 8 := bit8_len
  obtain ⟨a1, c1, rfl⟩ := hw.len
  obtain ⟨a2, c2, rfl⟩ := ho.len
  obtain ⟨n1, hn1⟩ : ∃ n, n = ws.length := ⟨_, rfl⟩
  obtain ⟨n2, hn2⟩ : ∃ n, n = os.length := ⟨_, rfl⟩
  rw [← hn1] at hw ⊢
  rw [← hn2] at ho ⊢
  have HN1 := hid hn1
  have HN2 := hid hn2
  have hl1 : n1 ≤ 20 := by rw [hn1]; exact hL.when_
  have hl2 : n2 ≤ 20 := by rw [hn2]; exact hL.ops
  have HE := hid hL.each
  clear hn1 hn2 hL
  obtain ⟨wB, hwB⟩ : ∃ wB, wB = w.alloc (.cells #[.int .i64 x1, .int .i64 x2, .int .i64 x3, .int .i64 x4, .int .i64 x5, .bool x6, .slice a1 n1 c1, .int .i64 pl, .slice a2 n2 c2] 27) := ⟨_, rfl⟩
  have HB : Hid (Below w.heap.size w wB) := by show Below _ _ _; rw [hwB]; exact below_alloc w _
  have G1 : Hid (wB.heap[w.heap.size]? = some (.cells #[.int .i64 x1, .int .i64 x2, .int .i64 x3, .int .i64 x4, .int .i64 x5, .bool x6, .slice a1 n1 c1, .int .i64 pl, .slice a2 n2 c2] 27 (0, 0))) := by show wB.heap[w.heap.size]? = _; rw [hwB]; exact heap_new _ _
  have hsB : w.heap.size < wB.heap.size := lt_of_heap G1.out
  have HW := hid (hw.mono HB.out (Nat.le_refl _))
  have HO := hid (ho.mono HB.out (Nat.le_refl _))
  have K22 : Hid (∀ (u : World) (x : Int), Below wB.heap.size wB u → Calls Tryd.prog 22 #[.int .i64 x] u fun e w' => e = .returned (.string ⟨(be8 x).toArray⟩) ∧ Below wB.heap.size wB w') := fun u x hu => by
    refine (eight_any x u).mono ?_
    rintro e w' ⟨rfl, hb⟩
    exact ⟨rfl, hu.trans (hb.mono hu.size)⟩
  have K23 : Hid (∀ (u : World) (x : Bool), Below wB.heap.size wB u → Calls Tryd.prog 23 #[.bool x] u fun e w' => e = .returned (.string ⟨(bit8 x).toArray⟩) ∧ Below wB.heap.size wB w') := fun u x hu => by
    refine (flag_any x u).mono ?_
    rintro e w' ⟨rfl, hb⟩
    exact ⟨rfl, hu.trans (hb.mono hu.size)⟩
  have BOX : Hid (∀ u, Below wB.heap.size wB u → (u.cell? ⟨w.heap.size, 0, none⟩ = some (.int .i64 x1) ∧ u.cell? ⟨w.heap.size, 1, none⟩ = some (.int .i64 x2) ∧ u.cell? ⟨w.heap.size, 2, none⟩ = some (.int .i64 x3) ∧ u.cell? ⟨w.heap.size, 3, none⟩ = some (.int .i64 x4) ∧ u.cell? ⟨w.heap.size, 4, none⟩ = some (.int .i64 x5) ∧ u.cell? ⟨w.heap.size, 5, none⟩ = some (.bool x6) ∧ u.cell? ⟨w.heap.size, 6, none⟩ = some (.slice a1 n1 c1) ∧ u.cell? ⟨w.heap.size, 7, none⟩ = some (.int .i64 pl) ∧ u.cell? ⟨w.heap.size, 8, none⟩ = some (.slice a2 n2 c2))) := fun u hu => by
    have e1 : u.heap[w.heap.size]? = _ := (hu.block _ hsB).trans G1.out
    exact ⟨(cell_of e1).trans rfl, (cell_of e1).trans rfl, (cell_of e1).trans rfl, (cell_of e1).trans rfl, (cell_of e1).trans rfl, (cell_of e1).trans rfl, (cell_of e1).trans rfl, (cell_of e1).trans rfl, (cell_of e1).trans rfl⟩
  have HC0 : Hid ((⟨(be8 x1).toArray⟩ : ByteArray) ++ ⟨(be8 x2).toArray⟩ ++ ⟨(be8 x3).toArray⟩ ++ ⟨(be8 x4).toArray⟩ ++ ⟨(be8 x5).toArray⟩ ++ ⟨(bit8 x6).toArray⟩ ++ ⟨(be8 n1).toArray⟩ = ⟨(be8 x1 ++ be8 x2 ++ be8 x3 ++ be8 x4 ++ be8 x5 ++ bit8 x6 ++ be8 n1).toArray⟩) := by
    show _ = _
    rw [ba_app, ba_app, ba_app, ba_app, ba_app, ba_app]
  have hb0 : Below wB.heap.size wB wB.drew := (Below.refl _ _).drew
  clear hw ho
  go_enter Tryd.func9, Tryd.ntmps9
  go_wp2_with fail
  rw [← hwB]
  clear hwB
  go_region_held (fun u => u.cell? ⟨w.heap.size, 0, none⟩ = some (.int .i64 x1) ∧ u.cell? ⟨w.heap.size, 1, none⟩ = some (.int .i64 x2) ∧ u.cell? ⟨w.heap.size, 2, none⟩ = some (.int .i64 x3) ∧ u.cell? ⟨w.heap.size, 3, none⟩ = some (.int .i64 x4) ∧ u.cell? ⟨w.heap.size, 4, none⟩ = some (.int .i64 x5) ∧ u.cell? ⟨w.heap.size, 5, none⟩ = some (.bool x6) ∧ u.cell? ⟨w.heap.size, 6, none⟩ = some (.slice a1 n1 c1) ∧ u.cell? ⟨w.heap.size, 7, none⟩ = some (.int .i64 pl) ∧ u.cell? ⟨w.heap.size, 8, none⟩ = some (.slice a2 n2 c2))
    ((refine BOX.out _ ?_; assumption))
    (first
      | (go_at_call 22; refine (K22.out _ _ (by assumption)).mono ?_; rintro e u1 ⟨rfl, hb1⟩)
      | (go_at_call 23; refine (K23.out _ _ (by assumption)).mono ?_; rintro e u2 ⟨rfl, hb1⟩))
  rw [HC0.out]
  obtain ⟨L0, hL0⟩ : ∃ L0, L0 = be8 x1 ++ be8 x2 ++ be8 x3 ++ be8 x4 ++ be8 x5 ++ bit8 x6 ++ be8 n1 := ⟨_, rfl⟩
  rw [← hL0]
  have hl0 : L0.length = 56 := by rw [hL0]; simp only [List.length_append, be8_len, bit8_len]
  have HL0 := hid hL0
  clear hL0 HC0 hb0
  have B1 := hid hb1
  obtain ⟨u0, hu0⟩ : ∃ u0, u0 = u1 := ⟨_, rfl⟩
  rw [← hu0] at B1 ⊢
  clear hu0 hb1
  go_wp2
  go_loopw [4, 5] (fun s i wr => ∃ (k : Nat) (acc : List UInt8), k ≤ n1 ∧ i = .int .i64 k ∧ s = .string ⟨acc.toArray⟩ ∧ acc.length ≤ 56 + 8 * k ∧ Hid (acc = L0 ++ (ws.take k).flatMap be8) ∧ Hid (Below wB.heap.size wB wr)) (fun _ i _ => n1 - (intOf i).toNat)
  case atStart => exact ⟨0, L0, Nat.zero_le _, rfl, rfl, by omega, by show L0 = L0 ++ _; simp, B1.out⟩
  case round =>
    obtain ⟨k, acc, hk, rfl, rfl, hal, HA, HR⟩ := hrel
    obtain ⟨p0, p1, p2, p3, p4, p5, p6, p7, p8⟩ := BOX.out wr HR.out
    clear hl0
    by_cases hlt : k < n1
    · obtain ⟨z, hz⟩ : ∃ z, z = ws.getD k 0 := ⟨_, rfl⟩
      obtain ⟨b, off, rfl, e0⟩ : ∃ b off, a1 = some ⟨b, off, none⟩ ∧ wr.cell? ⟨b, off + k, none⟩ = some (.int .i64 z) := by
        obtain ⟨ad, cap, hv, _, h⟩ := HW.out
        injection hv with hv _ _
        rcases h with h | ⟨b, off, h1, h2⟩
        · have := HN1.out; rw [h] at this; simp at this; omega
        · refine ⟨b, off, hv.trans h1, ?_⟩
          have e := h2 k (by rw [← HN1.out]; exact hlt)
          rw [HR.out.cell (p := ⟨b, off + k, none⟩) (lt_of_cell e), e, hz]
      have HT : Hid ((ws.take (k + 1)).flatMap be8 = (ws.take k).flatMap be8 ++ be8 z) := by
        show _ = _
        have hkl : k < ws.length := by rw [← HN1.out]; exact hlt
        rw [List.take_succ_eq_append_getElem hkl, List.flatMap_append, hz, List.getD_eq_getElem?_getD, List.getElem?_eq_getElem hkl]
        simp
      clear hz
      have hr := HR.out
      go_wp2_with (go_at_call 22; refine (K22.out _ _ (by assumption)).mono ?_; rintro e u2 ⟨rfl, hb2⟩)
      rw [ba_app]
      refine ⟨⟨k + 1, acc ++ be8 z, by omega, by go_num, rfl, by rw [List.length_append, be8_len]; omega, ?_, hb2⟩, by simp [intOf]; omega⟩
      show _ = _
      rw [HA.out, HT.out, List.append_assoc]
    · obtain rfl : k = n1 := by omega
      have HA1 : Hid (acc = L0 ++ ws.flatMap be8) := by show _ = _; rw [HA.out, List.take_of_length_le (by rw [← HN1.out]; omega)]
      have hq1 : ¬ 9223372036854775807 < acc.length + 8 := by omega
      have hq2 : ¬ 9223372036854775807 < acc.length + 8 + 8 := by omega
      have hr := HR.out
      have hb0 : Below wB.heap.size wB wr.drew := hr.drew
      clear HA hlt p0 p1 p2 p3 p4 p5 p7 p8
      go_upto_region 6 with (fail)
      clear p6
      go_region_held (fun u => u.cell? ⟨w.heap.size, 0, none⟩ = some (.int .i64 x1) ∧ u.cell? ⟨w.heap.size, 1, none⟩ = some (.int .i64 x2) ∧ u.cell? ⟨w.heap.size, 2, none⟩ = some (.int .i64 x3) ∧ u.cell? ⟨w.heap.size, 3, none⟩ = some (.int .i64 x4) ∧ u.cell? ⟨w.heap.size, 4, none⟩ = some (.int .i64 x5) ∧ u.cell? ⟨w.heap.size, 5, none⟩ = some (.bool x6) ∧ u.cell? ⟨w.heap.size, 6, none⟩ = some (.slice a1 k c1) ∧ u.cell? ⟨w.heap.size, 7, none⟩ = some (.int .i64 pl) ∧ u.cell? ⟨w.heap.size, 8, none⟩ = some (.slice a2 n2 c2))
        ((refine BOX.out _ ?_; assumption))
        ((go_at_call 22; refine (K22.out _ _ (by assumption)).mono ?_; rintro e u1 ⟨rfl, hb1⟩))
      rw [ba_app, ba_app]
      obtain ⟨L2, hL2⟩ : ∃ L2, L2 = acc ++ be8 pl ++ be8 n2 := ⟨_, rfl⟩
      rw [← hL2]
      have hl2L : L2.length ≤ 232 := by rw [hL2, List.length_append, List.length_append, be8_len, be8_len]; omega
      have HL2 : Hid (L2 = L0 ++ ws.flatMap be8 ++ be8 pl ++ be8 n2) := by show _ = _; rw [hL2, HA1.out]
      have B2 := hid hb1
      clear hL2 HA1 hb0 hr hq1 hq2 hb1 hal HR
      go_wp2
      go_loopw [4, 6] (fun s i wr => ∃ (k : Nat) (acc : List UInt8), k ≤ n2 ∧ i = .int .i64 k ∧ s = .string ⟨acc.toArray⟩ ∧ acc.length ≤ 232 + 2000 * k ∧ Hid (acc = L2 ++ (os.take k).flatMap op8) ∧ Hid (Below wB.heap.size wB wr)) (fun _ i _ => n2 - (intOf i).toNat)
      case atStart => exact ⟨0, L2, Nat.zero_le _, rfl, rfl, by omega, by show L2 = L2 ++ _; simp, B2.out⟩
      case round =>
        obtain ⟨wq, hwq⟩ : ∃ wq, wq = wr := ⟨_, rfl⟩
        subst hwq
        obtain ⟨kk, acc, hkk, rfl, rfl, hal, HA, HR⟩ := hrel
        obtain ⟨p0, p1, p2, p3, p4, p5, p6, p7, p8⟩ := BOX.out wq HR.out
        clear p0 p1 p2 p3 p4 p5 p6 p7
        by_cases hlt : kk < n2
        · obtain ⟨o, hok⟩ : ∃ o, os[kk]? = some o := ⟨_, List.getElem?_eq_getElem (by rw [← HN2.out]; exact hlt)⟩
          obtain ⟨g1, g2, g3⟩ := HE.out o (List.mem_of_getElem? hok)
          obtain ⟨b, off, dp, dc, rfl, hda, e0, e1, e2, e3, e4, e5, e6⟩ := opAt_cells (HO.out.mono HR.out (Nat.le_refl _)) hok
          have HT : Hid ((os.take (kk + 1)).flatMap op8 = (os.take kk).flatMap op8 ++ op8 o) := by
            show _ = _
            obtain ⟨hk1, hk2⟩ := List.getElem?_eq_some_iff.1 hok
            rw [List.take_succ_eq_append_getElem hk1, List.flatMap_append, hk2]
            simp
          clear hok
          obtain ⟨y1, ky, y3, tx, y5, y6, ds⟩ := o
          obtain ⟨kl, rfl⟩ := list_of ky
          obtain ⟨tl, rfl⟩ := list_of tx
          simp only at g1 g2 g3 hda e0 e1 e2 e3 e4 e5 e6
          have g1' : kl.length ≤ 60 := by rw [ba_size] at g1; exact g1
          have g2' : tl.length ≤ 200 := by rw [ba_size] at g2; exact g2
          obtain ⟨nd, hnd⟩ : ∃ nd, nd = ds.length := ⟨_, rfl⟩
          rw [← hnd] at g3 hda e6
          have HND := hid hnd
          clear g1 g2 hnd
          obtain ⟨w2, hw2⟩ : ∃ w2, w2 = wq.alloc (.cells #[.int .i64 y1, .string ⟨kl.toArray⟩, .int .i64 y3, .string ⟨tl.toArray⟩, .int .i64 y5, .bool y6, .slice dp nd dc] 52) := ⟨_, rfl⟩
          have HB2 : Hid (Below wq.heap.size wq w2) := by show Below _ _ _; rw [hw2]; exact below_alloc wq _
          have GO : Hid (w2.heap[wq.heap.size]? = some (.cells #[.int .i64 y1, .string ⟨kl.toArray⟩, .int .i64 y3, .string ⟨tl.toArray⟩, .int .i64 y5, .bool y6, .slice dp nd dc] 52 (0, 0))) := by show w2.heap[wq.heap.size]? = _; rw [hw2]; exact heap_new _ _
          have hs2 : wq.heap.size < w2.heap.size := lt_of_heap GO.out
          have HDA := hid (hda.mono HB2.out (Nat.le_refl _))
          have KO22 : Hid (∀ (u : World) (x : Int), Below w2.heap.size w2 u → Calls Tryd.prog 22 #[.int .i64 x] u fun e w' => e = .returned (.string ⟨(be8 x).toArray⟩) ∧ Below w2.heap.size w2 w') := fun u x hu => by
            refine (eight_any x u).mono ?_
            rintro e w' ⟨rfl, hb⟩
            exact ⟨rfl, hu.trans (hb.mono hu.size)⟩
          have KO23 : Hid (∀ (u : World) (x : Bool), Below w2.heap.size w2 u → Calls Tryd.prog 23 #[.bool x] u fun e w' => e = .returned (.string ⟨(bit8 x).toArray⟩) ∧ Below w2.heap.size w2 w') := fun u x hu => by
            refine (flag_any x u).mono ?_
            rintro e w' ⟨rfl, hb⟩
            exact ⟨rfl, hu.trans (hb.mono hu.size)⟩
          have OBOX : Hid (∀ u, Below w2.heap.size w2 u → (u.cell? ⟨wq.heap.size, 0, none⟩ = some (.int .i64 y1) ∧ u.cell? ⟨wq.heap.size, 1, none⟩ = some (.string ⟨kl.toArray⟩) ∧ u.cell? ⟨wq.heap.size, 2, none⟩ = some (.int .i64 y3) ∧ u.cell? ⟨wq.heap.size, 3, none⟩ = some (.string ⟨tl.toArray⟩) ∧ u.cell? ⟨wq.heap.size, 4, none⟩ = some (.int .i64 y5) ∧ u.cell? ⟨wq.heap.size, 5, none⟩ = some (.bool y6) ∧ u.cell? ⟨wq.heap.size, 6, none⟩ = some (.slice dp nd dc))) := fun u hu => by
            have e1 : u.heap[wq.heap.size]? = _ := (hu.block _ hs2).trans GO.out
            exact ⟨(cell_of e1).trans rfl, (cell_of e1).trans rfl, (cell_of e1).trans rfl, (cell_of e1).trans rfl, (cell_of e1).trans rfl, (cell_of e1).trans rfl, (cell_of e1).trans rfl⟩
          have hq1 : ¬ 9223372036854775807 < acc.length + 8 := by omega
          have hq2 : ¬ 9223372036854775807 < acc.length + 8 + 8 := by omega
          have hq3 : ¬ 9223372036854775807 < acc.length + 8 + 8 + kl.length := by omega
          have hq4 : ¬ 9223372036854775807 < acc.length + 8 + 8 + kl.length + 8 := by omega
          have hq5 : ¬ 9223372036854775807 < acc.length + 8 + 8 + kl.length + 8 + 8 := by omega
          have hq6 : ¬ 9223372036854775807 < acc.length + 8 + 8 + kl.length + 8 + 8 + tl.length := by omega
          have hq7 : ¬ 9223372036854775807 < acc.length + 8 + 8 + kl.length + 8 + 8 + tl.length + 8 := by omega
          have hq8 : ¬ 9223372036854775807 < acc.length + 8 + 8 + kl.length + 8 + 8 + tl.length + 8 + 8 := by omega
          have hq9 : ¬ 9223372036854775807 < acc.length + 8 + 8 + kl.length + 8 + 8 + tl.length + 8 + 8 + 8 := by omega
          have hb0 : Below w2.heap.size w2 w2.drew := (Below.refl _ _).drew
          go_upto_region 11 with (fail)
          rw [← hw2]
          clear hw2 e0 e1 e2 e3 e4 e5 e6 p8 hda
          go_cut [4] (fun s wx => ∃ L3 : List UInt8, s = .string ⟨L3.toArray⟩ ∧ L3.length ≤ acc.length + 316 ∧ Hid (L3 = acc ++ be8 y1 ++ be8 kl.length ++ kl ++ be8 y3 ++ be8 tl.length ++ tl ++ be8 y5 ++ bit8 y6 ++ be8 nd) ∧ Hid (Below w2.heap.size w2 wx))
          case first =>
            go_region_held (fun u => u.cell? ⟨wq.heap.size, 0, none⟩ = some (.int .i64 y1) ∧ u.cell? ⟨wq.heap.size, 1, none⟩ = some (.string ⟨kl.toArray⟩) ∧ u.cell? ⟨wq.heap.size, 2, none⟩ = some (.int .i64 y3) ∧ u.cell? ⟨wq.heap.size, 3, none⟩ = some (.string ⟨tl.toArray⟩) ∧ u.cell? ⟨wq.heap.size, 4, none⟩ = some (.int .i64 y5) ∧ u.cell? ⟨wq.heap.size, 5, none⟩ = some (.bool y6) ∧ u.cell? ⟨wq.heap.size, 6, none⟩ = some (.slice dp nd dc))
              ((refine OBOX.out _ ?_; assumption))
              (first
                | (go_at_call 22; refine (KO22.out _ _ (by assumption)).mono ?_; rintro e u1 ⟨rfl, hb1⟩)
                | (go_at_call 23; refine (KO23.out _ _ (by assumption)).mono ?_; rintro e u2 ⟨rfl, hb1⟩))
            have HC3 : Hid ((⟨acc.toArray⟩ : ByteArray) ++ ⟨(be8 y1).toArray⟩ ++ ⟨(be8 kl.length).toArray⟩ ++ ⟨kl.toArray⟩ ++ ⟨(be8 y3).toArray⟩ ++ ⟨(be8 tl.length).toArray⟩ ++ ⟨tl.toArray⟩ ++ ⟨(be8 y5).toArray⟩ ++ ⟨(bit8 y6).toArray⟩ ++ ⟨(be8 nd).toArray⟩ = ⟨(acc ++ be8 y1 ++ be8 kl.length ++ kl ++ be8 y3 ++ be8 tl.length ++ tl ++ be8 y5 ++ bit8 y6 ++ be8 nd).toArray⟩) := by
              show _ = _
              rw [ba_app, ba_app, ba_app, ba_app, ba_app, ba_app, ba_app, ba_app, ba_app]
            rw [HC3.out]
            go_wp2_with fail
            go_meet
            case rel => exact ⟨_, rfl, by simp only [List.length_append, be8_len, bit8_len]; omega, rfl, hb1⟩
          case rest =>
          obtain ⟨L3, rfl, hl3, HL3, B3⟩ := hcut
          clear hb0 hq1 hq2 hq3 hq4 hq5 hq6 hq7 hq8 hq9
          go_wp2
          go_loopw [4, 8] (fun s i wr => ∃ (k : Nat) (ac : List UInt8), k ≤ nd ∧ i = .int .i64 k ∧ s = .string ⟨ac.toArray⟩ ∧ ac.length ≤ acc.length + 316 + 24 * k ∧ Hid (ac = L3 ++ (ds.take k).flatMap dot8) ∧ Hid (Below w2.heap.size w2 wr)) (fun _ i _ => nd - (intOf i).toNat)
          case atStart => exact ⟨0, L3, Nat.zero_le _, rfl, rfl, by omega, by show L3 = L3 ++ _; simp, B3.out⟩
          case round =>
           obtain ⟨kd, ac, hkd, rfl, rfl, hcl, HC, HRD⟩ := hrel
           obtain ⟨t0, t1, t2, t3, t4, t5, t6⟩ := OBOX.out wr HRD.out
           clear t0 t1 t2 t3 t4 t5
           by_cases hltd : kd < nd
           · obtain ⟨d, hdk⟩ : ∃ d, ds[kd]? = some d := ⟨_, List.getElem?_eq_getElem (by rw [← HND.out]; exact hltd)⟩
             obtain ⟨bd, od, rfl, f0, f1, f2⟩ := dots_cells HDA.out hdk
             have HTD : Hid ((ds.take (kd + 1)).flatMap dot8 = (ds.take kd).flatMap dot8 ++ dot8 d) := by
               show _ = _
               obtain ⟨hk1, hk2⟩ := List.getElem?_eq_some_iff.1 hdk
               rw [List.take_succ_eq_append_getElem hk1, List.flatMap_append, hk2]
               simp
             clear hdk
             obtain ⟨z1, z2, z3⟩ := d
             simp only at f0 f1 f2
             have DBOX : Hid (∀ u, Below w2.heap.size w2 u → (u.cell? ⟨wq.heap.size, 6, none⟩ = some (.slice (some ⟨bd, od, none⟩) nd dc) ∧ u.cell? ⟨bd, od + kd * 3, none⟩ = some (.int .i64 z1) ∧ u.cell? ⟨bd, od + kd * 3 + 1, none⟩ = some (.int .i64 z2) ∧ u.cell? ⟨bd, od + kd * 3 + 2, none⟩ = some (.int .i64 z3))) := fun u hu =>
               ⟨(OBOX.out u hu).2.2.2.2.2.2, by rw [hu.cell (p := ⟨bd, od + kd * 3, none⟩) (lt_of_cell f0)]; exact f0, by rw [hu.cell (p := ⟨bd, od + kd * 3 + 1, none⟩) (lt_of_cell f1)]; exact f1, by rw [hu.cell (p := ⟨bd, od + kd * 3 + 2, none⟩) (lt_of_cell f2)]; exact f2⟩
             have i1 : (kd : Int) < (nd : Int) := by omega
             have hq1 : ¬ 9223372036854775807 < ac.length + 8 := by omega
             have hq2 : ¬ 9223372036854775807 < ac.length + 8 + 8 := by omega
             have hq3 : ¬ 9223372036854775807 < ac.length + 8 + 8 + 8 := by omega
             have hb0 : Below w2.heap.size w2 wr.drew := HRD.out.drew
             go_upto_region 15 with (fail)
             clear t6 f0 f1 f2
             go_region_held (fun u => u.cell? ⟨wq.heap.size, 6, none⟩ = some (.slice (some ⟨bd, od, none⟩) nd dc) ∧ u.cell? ⟨bd, od + kd * 3, none⟩ = some (.int .i64 z1) ∧ u.cell? ⟨bd, od + kd * 3 + 1, none⟩ = some (.int .i64 z2) ∧ u.cell? ⟨bd, od + kd * 3 + 2, none⟩ = some (.int .i64 z3))
               ((refine DBOX.out _ ?_; assumption))
               ((go_at_call 22; refine (KO22.out _ _ (by assumption)).mono ?_; rintro e u1 ⟨rfl, hb1⟩))
             have HCD : Hid ((⟨ac.toArray⟩ : ByteArray) ++ ⟨(be8 z1).toArray⟩ ++ ⟨(be8 z2).toArray⟩ ++ ⟨(be8 z3).toArray⟩ = ⟨(ac ++ be8 z1 ++ be8 z2 ++ be8 z3).toArray⟩) := by
               show _ = _
               rw [ba_app, ba_app, ba_app]
             rw [HCD.out]
             have B4 := hid hb1
             clear hb1 hb0 hq1 hq2 hq3
             go_wp2_with fail
             go_roundw
             case rel =>
               refine ⟨kd + 1, ac ++ be8 z1 ++ be8 z2 ++ be8 z3, by omega, by go_num, rfl, by simp only [List.length_append, be8_len]; omega, ?_, B4.out⟩
               show _ = _
               rw [HC.out, HTD.out]
               simp only [dot8, List.append_assoc]
             case measure => simp [intOf]; omega
           · obtain rfl : kd = nd := by omega
             have HCE : Hid (ac = L3 ++ ds.flatMap dot8) := by show _ = _; rw [HC.out, List.take_of_length_le (by rw [← HND.out]; omega)]
             have BN : Hid (Below wB.heap.size wB wr) := HR.out.trans ((HB2.out.trans (HRD.out.mono HB2.out.size)).mono HR.out.size)
             go_wp2_with fail
             refine ⟨⟨kk + 1, ac, by omega, by go_num, rfl, by omega, ?_, BN.out⟩, by simp [intOf]; omega⟩
             show _ = _
             rw [HCE.out, HL3.out, HT.out, HA.out]
             simp only [op8, txt8, List.append_assoc, HND.out, ba_size]
        · obtain rfl : kk = n2 := by omega
          have HM : Hid (acc = msg8 ⟨x1, x2, x3, x4, x5, x6, ⟨ws, pl, os⟩⟩) := by
            show _ = _
            rw [HA.out, List.take_of_length_le (by rw [← HN2.out]; omega), HL2.out, HL0.out]
            simp only [msg8, com8, List.append_assoc, HN1.out, HN2.out]
          have BF := hid (HB.out.trans (HR.out.mono HB.out.size))
          by_cases h6 : 5996 < acc.length
          · have HF : Hid (rwRet (msg8 ⟨x1, x2, x3, x4, x5, x6, ⟨ws, pl, os⟩⟩) = .tuple #[.string ⟨#[]⟩, .int .i64 7]) := by show _ = _; rw [← HM.out]; exact if_pos h6
            go_wp2
            go_ret2
            exact ⟨ret_tup HF.out.symm, BF.out⟩
          · have HF : Hid (rwRet (msg8 ⟨x1, x2, x3, x4, x5, x6, ⟨ws, pl, os⟩⟩) = .tuple #[.string ⟨(acc ++ sum4 acc).toArray⟩, .int .i64 0]) := by show _ = _; rw [← HM.out]; exact if_neg h6
            have K14 := hid (fun W => rsum_any W acc (by omega))
            have H4 : Hid (sum4 acc = [oct ((sumN acc : Nat) / 16777216 : Int) 0, oct ((sumN acc : Nat) / 65536 : Int) 0, oct ((sumN acc : Nat) / 256 : Int) 0, oct (sumN acc : Nat) 0]) := by
              show sum4 acc = _
              rw [oct_sum1]
              have e1 := oct_sum (sumN acc) 16777216
              have e2 := oct_sum (sumN acc) 65536
              have e3 := oct_sum (sumN acc) 256
              simp only [Int.cast_ofNat_Int] at e1 e2 e3
              rw [e1, e2, e3]
              rfl
            have hn0 := sumN_lt acc
            go_wp2_with fail
            refine (K14.out _).mono ?_
            rintro e w2 ⟨rfl, h21⟩
            subst h21
            obtain ⟨n, hn⟩ : ∃ n, n = sumN acc := ⟨_, rfl⟩
            rw [← hn] at H4 hn0 ⊢
            clear hn
            have HCT : Hid (((((⟨acc.toArray⟩ : ByteArray) ++ ⟨#[oct ((n : Int) / 16777216) 0]⟩) ++ ⟨#[oct ((n : Int) / 65536) 0]⟩) ++ ⟨#[oct ((n : Int) / 256) 0]⟩) ++ ⟨#[oct (n : Int) 0]⟩ = ⟨(acc ++ sum4 acc).toArray⟩) := by
              show _ = _
              rw [H4.out]
              show (((((⟨acc.toArray⟩ : ByteArray) ++ ⟨[oct ((n : Int) / 16777216) 0].toArray⟩) ++ ⟨[oct ((n : Int) / 65536) 0].toArray⟩) ++ ⟨[oct ((n : Int) / 256) 0].toArray⟩) ++ ⟨[oct (n : Int) 0].toArray⟩) = _
              rw [ba_app, ba_app, ba_app, ba_app]
              simp
            have KB : Hid (∀ (u : World) (x : Int), Below w.heap.size w u → Calls Tryd.prog 15 #[.int .i64 x] u fun e w' => e = .returned (.string ⟨#[oct x 0]⟩) ∧ Below w.heap.size w w') := fun u x hu => by
              refine (byte_any x u).mono ?_
              rintro e w' ⟨rfl, hb⟩
              exact ⟨rfl, hu.trans (hb.mono hu.size)⟩
            have hb0 := BF.out
            go_wp2_with (go_at_call 15; refine (KB.out _ _ (by assumption)).mono ?_; rintro e u ⟨rfl, hbu⟩)
            go_ret2
            exact ⟨ret_tup (by rw [HF.out, ← HCT.out]; rfl), hbu⟩
end Go.Proofs.YtkonjpcgfdcfbaaDoor
