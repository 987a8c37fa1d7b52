/- The writer of texts; The writer of ops; The writer of ops: what comes ahead of its dots; The writer of commits; The writer of messages. -/
import Derived.Test.YtkonjpcgfdcfbaaDoorJXWn
import Derived.Lib.AppendStr
namespace Go.Proofs.YtkonjpcgfdcfbaaDoor
open Go.RowKit Go.Lib
set_option maxRecDepth 100000

theorem Ws.grow {a6 : Addr} {p : Nat} {w0 w w2 : World} {bs cs : List UInt8} {v v' : Value} (h : Ws a6 p w0 w bs v) (hl : bs.length + cs.length ≤ 5996) (hn : w2.ownsRow (p + 1) 5 1 v' (bs.length + cs.length) (cellsB bs ++ cellsB cs)) (hg : w.grownBy w2 v.ownBlock) :
    (w2.cell? ⟨p, 0, none⟩ = some v ∧ w2.frozen? ⟨p, 0, none⟩ = false) ∧ Ws a6 p w0 (w2.setCell ⟨p, 0, none⟩ v') (bs ++ cs) v' ∧ Wk p w (w2.setCell ⟨p, 0, none⟩ v') := by
  have hp := lt_of_heap h.box
  have hlow : ∀ i, i < p + 1 → w2.heap[i]? = w.heap[i]? := fun i hi => hg.block i (by omega) fun e => by
    have := (h.row.lt i e.symm).1
    omega
  have hb : w2.heap[p]? = some (.cells #[v] 55 (0, 0)) := by rw [hlow p (by omega)]; exact h.box
  refine ⟨⟨(cell_of hb).trans rfl, free_of hb⟩, ⟨?_, heap_set hb _, ?_, ?_, h.lt, by rw [List.length_append]; exact hl⟩, .grow h.row hg v'⟩
  · exact (h.below.trans ⟨hg.os, hg.tape, hg.output, hg.size, fun k hk => hlow k (by omega)⟩).setCell (p := ⟨p, 0, none⟩) (Nat.le_refl _) _
  · have : cellsB (bs ++ cs) = cellsB bs ++ cellsB cs := by unfold cellsB; rw [List.map_append]
    rw [this, List.length_append]
    exact ownsRow_setCell_below hn (Nat.lt_succ_self _) _
  · rw [World.cell?_of_block (w := w2) (Below.heap_setCell _ _ _ _ (by have := h.lt; show 7 ≠ p; omega)), World.cell?_of_block (w := w) (hlow 7 (by have := h.lt; omega))]
    exact h.err
theorem txt8_len (s : ByteArray) : (txt8 s).length = 8 + s.size := by unfold txt8; rw [List.length_append, be8_len, Array.length_toList]; rfl

set_option maxHeartbeats 1000000 in
theorem wtext_any (w : World) (a6 : Addr) (p : Nat) (w0 : World) (bs : List UInt8) (v : Value) (s : ByteArray) (h : Ws a6 p w0 w bs v) (hs : s.size ≤ 1000000) :
    Calls Tryd.prog 55 #[.pointer (some ⟨p, 0, none⟩), .string s] w (WrPost a6 p w0 w bs (txt8 s)) := by
  obtain ⟨i5, hi, hz0, hz1, hz2⟩ := info_parts Tryd.info5
  have K := hid (wnumber_any w a6 p w0 bs v s.size h)
  have HL := hid (txt8_len s)
  go_enter Tryd.func55, Tryd.ntmps55
  go_wp2_with fail
  refine K.out.mono ?_
  rintro e w1 (⟨h1, rfl, ⟨v1, h2⟩, hk1⟩ | ⟨h1, rfl, h2⟩)
  · rw [be8_len] at h1
    by_cases hn : (bs ++ be8 s.size).length + s.size ≤ 5996
    · have K2 := hid (need_ok w1 a6 p w0 _ v1 s.size h2 hn)
      obtain ⟨ad, cp, rfl⟩ := row_shape h2.row
      have HA : Hid (bs ++ txt8 s = (bs ++ be8 s.size) ++ s.data.toList) := by show bs ++ txt8 s = _; unfold txt8; rw [List.append_assoc]
      have HN : Hid (bs.length + (txt8 s).length ≤ 5996) := by show _ ≤ 5996; rw [txt8_len]; rw [List.length_append, be8_len] at hn; omega
      have hdl : s.data.toList.length = s.size := by rw [Array.length_toList]; rfl
      obtain ⟨cs, hcs⟩ : ∃ cs, cs = bs ++ be8 s.size := ⟨_, rfl⟩
      rw [← hcs] at h2 hn HA
      clear hcs
      have hc : w1.cell? ⟨p, 0, none⟩ = some (.slice ad cs.length cp) := (cell_of h2.box).trans rfl
      have H2 := hid h2
      have HK1 := hid hk1
      have hm : cs.length + s.size ≤ maxLen := by unfold maxLen; omega
      have hb : p + 1 ≤ w1.heap.size := lt_of_heap h2.box
      clear h2 hk1
      go_wp2_with (first
        | (go_at_call 43; refine K2.out.mono ?_; rintro e w2 ⟨rfl, rfl⟩)
        | (refine wpList_append_own_string _ rfl _ _ 53 9 rfl (p + 1) 5 i5 Tryd.underlying53 Tryd.underlying9 hi hz0 hz1 hz2 (.slice ad cs.length cp) _ _ rfl H2.out.row s rfl hm (by omega) hb ?_; intro v' w9 hrow hgr _; obtain ⟨av, cv, hv9⟩ := row_shape hrow; subst hv9; obtain ⟨⟨c9, z9⟩, h9, k9⟩ := H2.out.grow (cs := s.data.toList) (by rw [hdl]; exact hn) (by rw [hdl]; exact hrow) hgr; have HI9 := hid h9; have HK9 := hid k9; clear hrow hgr h9 k9))
      go_end0
      exact .inl ⟨HN.out, rfl, ⟨_, by rw [HA.out]; exact HI9.out⟩, HK1.out.trans HK9.out⟩
    · have K2 := hid (need_bad w1 a6 p w0 _ v1 s.size h2 (by omega))
      have H2 := hid h2
      go_wp2_with (go_at_call 43; refine K2.out.mono ?_; rintro e w2 ⟨rfl, rfl⟩)
      exact ⟨rfl, .inr ⟨by rw [HL.out]; rw [List.length_append, be8_len] at hn; omega, rfl, ⟨v1, _, H2.out⟩, hk1⟩⟩
  · go_wp2
    exact ⟨rfl, .inr ⟨by rw [HL.out]; rw [be8_len] at h1; omega, rfl, h2⟩⟩
end Go.Proofs.YtkonjpcgfdcfbaaDoor
namespace Go.Proofs.YtkonjpcgfdcfbaaDoor
open Go.RowKit
set_option maxRecDepth 100000

theorem WrPost.ok {a6 : Addr} {p : Nat} {w0 w w' : World} {bs piece : List UInt8} {e : Ending} (h : WrPost a6 p w0 w bs piece e w') (hl : bs.length + piece.length ≤ 5996) : e = .returned (.tuple #[]) ∧ (∃ v, Ws a6 p w0 w' (bs ++ piece) v) ∧ Wk p w w' := by
  rcases h with ⟨_, h⟩ | ⟨h, _⟩
  · exact h
  · omega
theorem WrPost.bad {a6 : Addr} {p : Nat} {w0 w w' : World} {bs piece : List UInt8} {e : Ending} (h : WrPost a6 p w0 w bs piece e w') (hl : 5996 < bs.length + piece.length) : e = thrown (.iface 131 (.pointer (some a6))) ∧ (∃ v bs', Ws a6 p w0 w' bs' v) ∧ Wk p w w' := by
  rcases h with ⟨h, _⟩ | ⟨_, h⟩
  · omega
  · exact h
end Go.Proofs.YtkonjpcgfdcfbaaDoor
namespace Go.Proofs.YtkonjpcgfdcfbaaDoor
open Go.RowKit
set_option maxRecDepth 100000

theorem far {T b7 tot fl cs x : Nat} (h1 : T = b7 + tot) (h2 : cs = b7 + fl) (h3 : fl + 24 ≤ tot) (hx : x ≤ 24) (h : 5996 < cs + x) : 5996 < T := by omega
theorem meas1 {n j : Nat} (h : j < n) : n - (intOf (.int .i64 ((j : Int) + 1))).toNat < n - (intOf (.int .i64 (j : Int))).toNat := by simp [intOf]; omega
theorem dot24 (d : D3) : (dot8 d).length = 24 := by unfold dot8; rw [List.length_append, List.length_append, be8_len, be8_len, be8_len]
theorem flat24 : ∀ ds : List D3, (ds.flatMap dot8).length = 24 * ds.length
  | [] => rfl
  | d :: ds => by rw [List.flatMap_cons, List.length_append, dot24, flat24 ds, List.length_cons]; omega
theorem DotsAt.at_ {w : World} {dp : Option Addr} {n dc : Nat} {ds : List D3} (h : DotsAt w (.slice dp n dc) ds) {j : Nat} {d : D3} (hj : ds[j]? = some d) : ∃ b off, dp = some ⟨b, off, none⟩ ∧ w.cell? ⟨b, off + j * 3, none⟩ = some (.int .i64 d.p) ∧ w.cell? ⟨b, off + j * 3 + 1, none⟩ = some (.int .i64 d.t) ∧ w.cell? ⟨b, off + j * 3 + 2, none⟩ = some (.int .i64 d.a) := by
  obtain ⟨ad, cap, he, _, _, h⟩ := h
  injection he with h1 h2 h3
  rcases h with h | ⟨b, off, rfl, h⟩
  · have : ds = [] := by simpa using h
    rw [this] at hj
    simp at hj
  · have hr : (ds.map D3.cells)[j]? = some d.cells := by rw [List.getElem?_map, hj]; rfl
    have hc := (h j _ hr).2
    exact ⟨b, off, h1, hc 0 _ rfl, hc 1 _ rfl, hc 2 _ rfl⟩
set_option maxHeartbeats 8000000 in
theorem wop_any (w : World) (a6 : Addr) (p : Nat) (w0 : World) (bs : List UInt8) (v : Value) (o : OpV) (dp : Option Addr) (dc : Nat) (h : Ws a6 p w0 w bs v) (hd : DotsAt w0 (.slice dp o.dots.length dc) o.dots) (hp0 : w0.heap.size ≤ p) (hdn : o.dots.length ≤ 1000000) (hk : o.key.size ≤ 1000000) (ht : o.text.size ≤ 1000000) :
    Calls Tryd.prog 44 #[.pointer (some ⟨p, 0, none⟩), .agg #[.int .i64 o.at_, .string o.key, .int .i64 o.kind, .string o.text, .int .i64 o.n, .bool o.rem, .slice dp o.dots.length dc]] w (WrPost a6 p w0 w bs (op8 o)) := by
  have hp := lt_of_heap h.box
  have G0 := hid (heap_new w (.cells #[.int .i64 o.at_, .string o.key, .int .i64 o.kind, .string o.text, .int .i64 o.n, .bool o.rem, .slice dp o.dots.length dc] 52))
  have H0 := hid (h.moved (below_alloc w (.cells #[.int .i64 o.at_, .string o.key, .int .i64 o.kind, .string o.text, .int .i64 o.n, .bool o.rem, .slice dp o.dots.length dc] 52)))
  obtain ⟨wb, hwb⟩ : ∃ wb, wb = w.alloc (.cells #[.int .i64 o.at_, .string o.key, .int .i64 o.kind, .string o.text, .int .i64 o.n, .bool o.rem, .slice dp o.dots.length dc] 52) := ⟨_, rfl⟩
  rw [← hwb] at G0 H0
  have HK0 : Hid (Wk p w wb) := by show Wk _ _ _; rw [hwb]; exact Wk.of (below_alloc _ _)
  have HWB := hid hwb
  have d0 := (cell_of (j := 0) G0.out).trans rfl
  have K1 := hid (wnumber_any wb a6 p w0 bs _ o.at_ H0.out)
  go_enter Tryd.func44, Tryd.ntmps44
  go_wp2_with fail
  rw [← HWB.out]
  refine K1.out.mono ?_
  rintro e w1 (⟨f1, rfl, ⟨v1, h1⟩, k1⟩ | ⟨f1, rfl, h1⟩)
  · have G1 := hid (k1.heap G0.out (by omega) (by decide))
    have HK1 := hid (HK0.out.trans k1)
    obtain ⟨b1, e1⟩ : ∃ b1, b1 = bs ++ be8 o.at_ := ⟨_, rfl⟩
    rw [← e1] at h1
    have H1 := hid h1
    have E1 := hid e1
    clear h1 e1 k1 d0
    have d1 := (cell_of (j := 1) G1.out).trans rfl
    have K2 := hid (wtext_any w1 a6 p w0 b1 _ o.key H1.out hk)
    go_wp2_with fail
    refine K2.out.mono ?_
    rintro e w2 (⟨f2, rfl, ⟨v2, h2⟩, k2⟩ | ⟨f2, rfl, h2⟩)
    · have G2 := hid (k2.heap G1.out (by omega) (by decide))
      have HK2 := hid (HK1.out.trans k2)
      obtain ⟨b2, e2⟩ : ∃ b2, b2 = b1 ++ txt8 o.key := ⟨_, rfl⟩
      rw [← e2] at h2
      have H2 := hid h2
      have E2 := hid e2
      clear h2 e2 k2 d1
      have d2 := (cell_of (j := 2) G2.out).trans rfl
      have K3 := hid (wnumber_any w2 a6 p w0 b2 _ o.kind H2.out)
      go_wp2_with fail
      refine K3.out.mono ?_
      rintro e w3 (⟨f3, rfl, ⟨v3, h3⟩, k3⟩ | ⟨f3, rfl, h3⟩)
      · have G3 := hid (k3.heap G2.out (by omega) (by decide))
        have HK3 := hid (HK2.out.trans k3)
        obtain ⟨b3, e3⟩ : ∃ b3, b3 = b2 ++ be8 o.kind := ⟨_, rfl⟩
        rw [← e3] at h3
        have H3 := hid h3
        have E3 := hid e3
        clear h3 e3 k3 d2
        have d3 := (cell_of (j := 3) G3.out).trans rfl
        have K4 := hid (wtext_any w3 a6 p w0 b3 _ o.text H3.out ht)
        go_wp2_with fail
        refine K4.out.mono ?_
        rintro e w4 (⟨f4, rfl, ⟨v4, h4⟩, k4⟩ | ⟨f4, rfl, h4⟩)
        · have G4 := hid (k4.heap G3.out (by omega) (by decide))
          have HK4 := hid (HK3.out.trans k4)
          obtain ⟨b4, e4⟩ : ∃ b4, b4 = b3 ++ txt8 o.text := ⟨_, rfl⟩
          rw [← e4] at h4
          have H4 := hid h4
          have E4 := hid e4
          clear h4 e4 k4 d3
          have d4 := (cell_of (j := 4) G4.out).trans rfl
          have K5 := hid (wnumber_any w4 a6 p w0 b4 _ o.n H4.out)
          go_wp2_with fail
          refine K5.out.mono ?_
          rintro e w5 (⟨f5, rfl, ⟨v5, h5⟩, k5⟩ | ⟨f5, rfl, h5⟩)
          · have G5 := hid (k5.heap G4.out (by omega) (by decide))
            have HK5 := hid (HK4.out.trans k5)
            obtain ⟨b5, e5⟩ : ∃ b5, b5 = b4 ++ be8 o.n := ⟨_, rfl⟩
            rw [← e5] at h5
            have H5 := hid h5
            have E5 := hid e5
            clear h5 e5 k5 d4
            have d5 := (cell_of (j := 5) G5.out).trans rfl
            have K6 := hid (wtruth_any w5 a6 p w0 b5 _ o.rem H5.out)
            go_wp2_with fail
            refine K6.out.mono ?_
            rintro e w6 (⟨f6, rfl, ⟨v6, h6⟩, k6⟩ | ⟨f6, rfl, h6⟩)
            · have G6 := hid (k6.heap G5.out (by omega) (by decide))
              have HK6 := hid (HK5.out.trans k6)
              obtain ⟨b6, e6⟩ : ∃ b6, b6 = b5 ++ bit8 o.rem := ⟨_, rfl⟩
              rw [← e6] at h6
              have H6 := hid h6
              have E6 := hid e6
              clear h6 e6 k6 d5
              have d6 := (cell_of (j := 6) G6.out).trans rfl
              have K7 := hid (wnumber_any w6 a6 p w0 b6 _ (o.dots.length : Int) H6.out)
              go_wp2_with fail
              refine K7.out.mono ?_
              rintro e w7 (⟨f7, rfl, ⟨v7, h7⟩, k7⟩ | ⟨f7, rfl, h7⟩)
              · have G7 := hid (k7.heap G6.out (by omega) (by decide))
                have HK7 := hid (HK6.out.trans k7)
                obtain ⟨b7, e7⟩ : ∃ b7, b7 = b6 ++ be8 o.dots.length := ⟨_, rfl⟩
                rw [← e7] at h7
                have H7 := hid h7
                have E7 := hid e7
                clear h7 e7 k7 d6
                have HE : Hid (bs ++ op8 o = b7 ++ o.dots.flatMap dot8) := by
                  show bs ++ op8 o = _
                  rw [E7.out, E6.out, E5.out, E4.out, E3.out, E2.out, E1.out]
                  unfold op8
                  simp only [List.append_assoc]
                have d6 := (cell_of (j := 6) G7.out).trans rfl
                go_wp2
                go_loopw [38] (fun i wr => ∃ (j : Nat) (v' : Value), j ≤ o.dots.length ∧ i = .int .i64 j ∧ Ws a6 p w0 wr (b7 ++ (o.dots.take j).flatMap dot8) v' ∧ Wk p w wr) (fun i _ => o.dots.length - (intOf i).toNat)
                case atStart => exact ⟨0, v7, Nat.zero_le _, rfl, by rw [List.take_zero, List.flatMap_nil, List.append_nil]; exact H7.out, HK7.out⟩
                case round =>
                  obtain ⟨j, v', hj, rfl, hI, hwk⟩ := hrel
                  by_cases hlt : j < o.dots.length
                  · obtain ⟨d, hdj⟩ : ∃ d, o.dots[j]? = some d := ⟨_, List.getElem?_eq_getElem hlt⟩
                    have HT : Hid ((o.dots.take (j + 1)).flatMap dot8 = (o.dots.take j).flatMap dot8 ++ dot8 d) := by
                      show (o.dots.take (j + 1)).flatMap dot8 = _
                      rw [List.take_add_one, hdj, List.flatMap_append]
                      simp
                    have HLEN : Hid (((o.dots.take j).flatMap dot8).length + 24 ≤ (o.dots.flatMap dot8).length) := by
                      show _ ≤ _
                      rw [flat24, flat24, List.length_take]
                      omega
                    obtain ⟨b0, off, hdp, c0, c1, c2⟩ := (hd.mono hI.below hp0).at_ hdj
                    obtain rfl := hdp
                    have HE2 : Hid (bs.length + (op8 o).length = b7.length + (o.dots.flatMap dot8).length) := by
                      show _ = _
                      rw [← List.length_append, ← List.length_append, HE.out]
                    have HLT := hid hlt
                    obtain ⟨cs, hcs⟩ : ∃ cs, cs = b7 ++ (o.dots.take j).flatMap dot8 := ⟨_, rfl⟩
                    rw [← hcs] at hI
                    have HCS := hid hcs
                    have HCL : Hid (cs.length = b7.length + ((o.dots.take j).flatMap dot8).length) := by
                      show _ = _
                      rw [hcs, List.length_append]
                    have hpr := lt_of_heap hI.box
                    have B0 := hid (heap_new wr (.cells #[.int .i64 d.p, .int .i64 d.t, .int .i64 d.a] 62))
                    have J0 := hid (hI.moved (below_alloc wr (.cells #[.int .i64 d.p, .int .i64 d.t, .int .i64 d.a] 62)))
                    have Q0 : Hid (Wk p w (wr.alloc (.cells #[.int .i64 d.p, .int .i64 d.t, .int .i64 d.a] 62))) := hwk.trans (.of (below_alloc _ _))
                    have hne : wr.heap.size ≠ p := by omega
                    clear hcs hI hwk
                    have KK1 := hid (wnumber_any _ a6 p w0 cs _ d.p J0.out)
                    go_wp2_with fail
                    refine KK1.out.mono ?_
                    rintro e u1 (⟨g1, rfl, ⟨y1, j1⟩, q1⟩ | ⟨g1, rfl, j1⟩)
                    · have B1 := hid (q1.heap B0.out hne (by decide))
                      have Q1 := hid (Q0.out.trans q1)
                      have t1 := (cell_of (j := 1) B1.out).trans rfl
                      have KK2 := hid (wnumber_any _ a6 p w0 _ _ d.t j1)
                      clear q1 j1
                      go_wp2_with fail
                      refine KK2.out.mono ?_
                      rintro e u2 (⟨g2, rfl, ⟨y2, j2⟩, q2⟩ | ⟨g2, rfl, j2⟩)
                      · have B2 := hid (q2.heap B1.out hne (by decide))
                        have Q2 := hid (Q1.out.trans q2)
                        have t2 := (cell_of (j := 2) B2.out).trans rfl
                        have KK3 := hid (wnumber_any _ a6 p w0 _ _ d.a j2)
                        clear q2 j2
                        go_wp2_with fail
                        refine KK3.out.mono ?_
                        rintro e u3 (⟨g3, rfl, ⟨y3, j3⟩, q3⟩ | ⟨g3, rfl, j3⟩)
                        · have Q3 := hid (Q2.out.trans q3)
                          have J3 : Hid (Ws a6 p w0 u3 (b7 ++ (o.dots.take (j + 1)).flatMap dot8) y3) := by
                            show Ws _ _ _ _ _ _
                            rw [HT.out, ← List.append_assoc, ← HCS.out]
                            unfold dot8
                            simpa only [List.append_assoc] using j3
                          clear q3 j3
                          go_wp2
                          exact ⟨⟨j + 1, y3, Nat.succ_le_of_lt HLT.out, by go_num, J3.out, Q3.out⟩, meas1 HLT.out⟩
                        · go_wp2
                          exact ⟨rfl, .inr ⟨far (x := 24) HE2.out HCL.out HLEN.out (by decide) (Nat.lt_of_lt_of_eq g3 (by rw [List.length_append, List.length_append, be8_len, be8_len, be8_len])), rfl, j3.1, Q2.out.trans j3.2⟩⟩
                      · go_wp2
                        exact ⟨rfl, .inr ⟨far (x := 16) HE2.out HCL.out HLEN.out (by decide) (Nat.lt_of_lt_of_eq g2 (by rw [List.length_append, be8_len, be8_len])), rfl, j2.1, Q1.out.trans j2.2⟩⟩
                    · go_wp2
                      exact ⟨rfl, .inr ⟨far (x := 8) HE2.out HCL.out HLEN.out (by decide) (Nat.lt_of_lt_of_eq g1 (by rw [be8_len])), rfl, j1.1, Q0.out.trans j1.2⟩⟩
                  · obtain rfl : j = o.dots.length := by omega
                    have HI := hid hI
                    have HWK := hid hwk
                    clear hI hwk
                    go_wp2
                    go_end0
                    have hi := HI.out
                    rw [List.take_length, ← HE.out] at hi
                    exact .inl ⟨by have := hi.len; rw [List.length_append] at this; exact this, rfl, ⟨v', hi⟩, HWK.out⟩
              · go_wp2
                exact ⟨rfl, .inr ⟨by have g1 := congrArg List.length E1.out; have g2 := congrArg List.length E2.out; have g3 := congrArg List.length E3.out; have g4 := congrArg List.length E4.out; have g5 := congrArg List.length E5.out; have g6 := congrArg List.length E6.out; (try simp only [List.length_append] at *); unfold op8; simp only [List.length_append]; omega, rfl, h7.1, HK6.out.trans h7.2⟩⟩
            · go_wp2
              exact ⟨rfl, .inr ⟨by have g1 := congrArg List.length E1.out; have g2 := congrArg List.length E2.out; have g3 := congrArg List.length E3.out; have g4 := congrArg List.length E4.out; have g5 := congrArg List.length E5.out; (try simp only [List.length_append] at *); unfold op8; simp only [List.length_append]; omega, rfl, h6.1, HK5.out.trans h6.2⟩⟩
          · go_wp2
            exact ⟨rfl, .inr ⟨by have g1 := congrArg List.length E1.out; have g2 := congrArg List.length E2.out; have g3 := congrArg List.length E3.out; have g4 := congrArg List.length E4.out; (try simp only [List.length_append] at *); unfold op8; simp only [List.length_append]; omega, rfl, h5.1, HK4.out.trans h5.2⟩⟩
        · go_wp2
          exact ⟨rfl, .inr ⟨by have g1 := congrArg List.length E1.out; have g2 := congrArg List.length E2.out; have g3 := congrArg List.length E3.out; (try simp only [List.length_append] at *); unfold op8; simp only [List.length_append]; omega, rfl, h4.1, HK3.out.trans h4.2⟩⟩
      · go_wp2
        exact ⟨rfl, .inr ⟨by have g1 := congrArg List.length E1.out; have g2 := congrArg List.length E2.out; (try simp only [List.length_append] at *); unfold op8; simp only [List.length_append]; omega, rfl, h3.1, HK2.out.trans h3.2⟩⟩
    · go_wp2
      exact ⟨rfl, .inr ⟨by have g1 := congrArg List.length E1.out; (try simp only [List.length_append] at *); unfold op8; simp only [List.length_append]; omega, rfl, h2.1, HK1.out.trans h2.2⟩⟩
  · go_wp2
    exact ⟨rfl, .inr ⟨by  (try simp only [List.length_append] at *); unfold op8; simp only [List.length_append]; omega, rfl, h1.1, HK0.out.trans h1.2⟩⟩
end Go.Proofs.YtkonjpcgfdcfbaaDoor
namespace Go.Proofs.YtkonjpcgfdcfbaaDoor
open Go.RowKit
set_option maxRecDepth 100000

theorem flat_next {α : Type} (e : α → List UInt8) {l : List α} {j : Nat} {x : α} (h : l[j]? = some x) : (l.take (j + 1)).flatMap e = (l.take j).flatMap e ++ e x := by
  rw [List.take_add_one, h, List.flatMap_append]
  simp
theorem flat_le {α : Type} (e : α → List UInt8) {l : List α} {j : Nat} {x : α} (h : l[j]? = some x) : ((l.take j).flatMap e).length + (e x).length ≤ (l.flatMap e).length := by
  have h1 : l.flatMap e = (l.take (j + 1)).flatMap e ++ (l.drop (j + 1)).flatMap e := by rw [← List.flatMap_append, List.take_append_drop]
  rw [h1, flat_next e h, List.length_append, List.length_append]
  omega
theorem com8_len (c : ComV) : (com8 c).length = 24 + (c.when_.flatMap be8).length + (c.ops.flatMap op8).length := by
  unfold com8
  simp only [List.length_append, be8_len]
  omega
theorem far1 {T W O fl b1 bs : Nat} (h1 : T = bs + (24 + W + O)) (h2 : b1 = bs + 8) (h3 : fl + 8 ≤ W) (h : 5996 < b1 + fl + 8) : 5996 < T := by omega
theorem far2 {T W O fl b3 bs x : Nat} (h1 : T = bs + (24 + W + O)) (h2 : b3 = bs + 24 + W) (h3 : fl + x ≤ O) (h : 5996 < b3 + fl + x) : 5996 < T := by omega

set_option maxHeartbeats 8000000 in
theorem wcommit_any (w : World) (a6 : Addr) (p : Nat) (w0 : World) (bs : List UInt8) (v : Value) (c : ComV) (wp op : Option Addr) (wc oc : Nat) (h : Ws a6 p w0 w bs v) (hw : IntsAt w0 (.slice wp c.when_.length wc) c.when_) (ho : OpsAt w0 (.slice op c.ops.length oc) c.ops) (hp0 : w0.heap.size ≤ p) (hwn : c.when_.length ≤ 1000000) (hon : c.ops.length ≤ 1000000)
    (hob : ∀ o ∈ c.ops, o.dots.length ≤ 1000000 ∧ o.key.size ≤ 1000000 ∧ o.text.size ≤ 1000000) :
    Calls Tryd.prog 35 #[.pointer (some ⟨p, 0, none⟩), .agg #[.slice wp c.when_.length wc, .int .i64 c.place, .slice op c.ops.length oc]] w (WrPost a6 p w0 w bs (com8 c)) := by
  have hp := lt_of_heap h.box
  have G0 := hid (heap_new w (.cells #[.slice wp c.when_.length wc, .int .i64 c.place, .slice op c.ops.length oc] 25))
  have H0 := hid (h.moved (below_alloc w (.cells #[.slice wp c.when_.length wc, .int .i64 c.place, .slice op c.ops.length oc] 25)))
  have HK0 : Hid (Wk p w (w.alloc (.cells #[.slice wp c.when_.length wc, .int .i64 c.place, .slice op c.ops.length oc] 25))) := Wk.of (below_alloc _ _)
  have HTT : Hid (bs.length + (com8 c).length = bs.length + (24 + (c.when_.flatMap be8).length + (c.ops.flatMap op8).length)) := by show _ = _; rw [com8_len]
  have hne : w.heap.size ≠ p := by omega
  have K1 := hid (wnumber_any _ a6 p w0 bs _ (c.when_.length : Int) H0.out)
  go_enter Tryd.func35, Tryd.ntmps35
  go_wp2_with fail
  refine K1.out.mono ?_
  rintro e w1 (⟨f1, rfl, ⟨v1, h1⟩, k1⟩ | ⟨f1, rfl, h1⟩)
  · have G1 := hid (k1.heap G0.out hne (by decide))
    have HK1 := hid (HK0.out.trans k1)
    have H1 := hid h1
    have d0 := (cell_of (j := 0) G1.out).trans rfl
    clear k1 h1
    go_wp2
    go_loopw [16] (fun i wr => ∃ (j : Nat) (v' : Value), j ≤ c.when_.length ∧ i = .int .i64 j ∧ Ws a6 p w0 wr ((bs ++ be8 c.when_.length) ++ (c.when_.take j).flatMap be8) v' ∧ Wk p w wr ∧ wr.heap[w.heap.size]? = some (.cells #[.slice wp c.when_.length wc, .int .i64 c.place, .slice op c.ops.length oc] 25 (0, 0))) (fun i _ => c.when_.length - (intOf i).toNat)
    case atStart => exact ⟨0, v1, Nat.zero_le _, rfl, by rw [List.take_zero, List.flatMap_nil, List.append_nil]; exact H1.out, HK1.out, G1.out⟩
    case round =>
      obtain ⟨j, v', hj, rfl, hI, hwk, hbx⟩ := hrel
      by_cases hlt : j < c.when_.length
      · obtain ⟨x, hx⟩ : ∃ x, c.when_[j]? = some x := ⟨_, List.getElem?_eq_getElem hlt⟩
        have HN := hid (flat_next be8 hx)
        have HLE := hid (flat_le be8 hx)
        have HLT := hid hlt
        obtain ⟨ad, cap, he, _, hc⟩ := hw.mono hI.below hp0
        injection he with he1 he2 he3
        clear he2 he3
        obtain ⟨b0, off, rfl, hcc⟩ := hc.resolve_left (fun e => by rw [e] at hlt; exact absurd hlt (Nat.not_lt_zero _))
        obtain rfl := he1
        have c0 := hcc j hlt
        rw [List.getD_eq_getElem?_getD, hx] at c0
        simp only [Option.getD_some] at c0
        have KK := hid (wnumber_any _ a6 p w0 _ _ x hI)
        have HW := hid hwk
        have HBX := hid hbx
        have HB1 : Hid ((bs ++ be8 c.when_.length).length = bs.length + 8) := by show _ = _; rw [List.length_append, be8_len]
        clear hI hwk hbx hc hcc
        go_wp2_with fail
        refine KK.out.mono ?_
        rintro e u1 (⟨g1, rfl, ⟨y1, j1⟩, q1⟩ | ⟨g1, rfl, j1⟩)
        · have B1 := hid (q1.heap HBX.out hne (by decide))
          have Q1 := hid (HW.out.trans q1)
          have J1 : Hid (Ws a6 p w0 u1 ((bs ++ be8 c.when_.length) ++ (c.when_.take (j + 1)).flatMap be8) y1) := by
            show Ws _ _ _ _ _ _
            rw [HN.out, ← List.append_assoc]
            exact j1
          clear q1 j1
          go_wp2
          exact ⟨⟨j + 1, y1, Nat.succ_le_of_lt HLT.out, by go_num, J1.out, Q1.out, B1.out⟩, meas1 HLT.out⟩
        · go_wp2
          exact ⟨rfl, .inr ⟨far1 HTT.out HB1.out (by have := HLE.out; rw [be8_len] at this; exact this) (Nat.lt_of_lt_of_eq g1 (by rw [List.length_append, be8_len])), rfl, j1.1, HW.out.trans j1.2⟩⟩
      · obtain rfl : j = c.when_.length := by omega
        rw [List.take_length] at hI
        have HW := hid hwk
        have HBX := hid hbx
        have d1 := (cell_of (j := 1) hbx).trans rfl
        have K3 := hid (wnumber_any _ a6 p w0 _ _ c.place hI)
        have HB2 : Hid (((bs ++ be8 c.when_.length) ++ c.when_.flatMap be8).length = bs.length + 8 + (c.when_.flatMap be8).length) := by show _ = _; rw [List.length_append, List.length_append, be8_len]
        clear hI hwk hbx
        go_wp2_with fail
        refine K3.out.mono ?_
        rintro e w3 (⟨f3, rfl, ⟨v3, h3⟩, k3⟩ | ⟨f3, rfl, h3⟩)
        · have G3 := hid (k3.heap HBX.out hne (by decide))
          have HK3 := hid (HW.out.trans k3)
          have d2 := (cell_of (j := 2) G3.out).trans rfl
          have K4 := hid (wnumber_any _ a6 p w0 _ _ (c.ops.length : Int) h3)
          clear k3 h3
          go_wp2_with fail
          refine K4.out.mono ?_
          rintro e w4 (⟨f4, rfl, ⟨v4, h4⟩, k4⟩ | ⟨f4, rfl, h4⟩)
          · have G4 := hid (k4.heap G3.out hne (by decide))
            have HK4 := hid (HK3.out.trans k4)
            have d3 := (cell_of (j := 2) G4.out).trans rfl
            obtain ⟨b3, eb3⟩ : ∃ b3, b3 = (((bs ++ be8 c.when_.length) ++ c.when_.flatMap be8) ++ be8 c.place) ++ be8 c.ops.length := ⟨_, rfl⟩
            rw [← eb3] at h4
            have H4 := hid h4
            have HB3 : Hid (b3.length = bs.length + 24 + (c.when_.flatMap be8).length) := by
              show _ = _
              rw [eb3, List.length_append, List.length_append, HB2.out, be8_len, be8_len]
              omega
            have HE : Hid (bs ++ com8 c = b3 ++ c.ops.flatMap op8) := by
              show _ = _
              rw [eb3]
              unfold com8
              simp only [List.append_assoc]
            clear h4 k4 eb3 d0 d1 d2
            go_wp2
            go_loopw [36] (fun i wr => ∃ (j : Nat) (v' : Value), j ≤ c.ops.length ∧ i = .int .i64 j ∧ Ws a6 p w0 wr (b3 ++ (c.ops.take j).flatMap op8) v' ∧ Wk p w wr) (fun i _ => c.ops.length - (intOf i).toNat)
            case atStart => exact ⟨0, v4, Nat.zero_le _, rfl, by rw [List.take_zero, List.flatMap_nil, List.append_nil]; exact H4.out, HK4.out⟩
            case round =>
              obtain ⟨j, v', hj, rfl, hI, hwk⟩ := hrel
              by_cases hlt : j < c.ops.length
              · obtain ⟨o, hoj⟩ : ∃ o, c.ops[j]? = some o := ⟨_, List.getElem?_eq_getElem hlt⟩
                obtain ⟨hb1, hb2, hb3⟩ := hob o (List.mem_of_getElem? hoj)
                have HN := hid (flat_next op8 hoj)
                have HLE := hid (flat_le op8 hoj)
                have HLT := hid hlt
                obtain ⟨ad, cap, he, _, _, hs⟩ := ho.shape
                injection he with he1 he2 he3
                clear he2 he3
                obtain ⟨b0, off, rfl, hss⟩ := hs.resolve_left (fun e => by rw [e] at hlt; exact absurd hlt (Nat.not_lt_zero _))
                obtain rfl := he1
                obtain ⟨dp, dc, hdd, z0, z1, z2, z3, z4, z5, z6⟩ := hss j o hoj
                have up : ∀ {a : Addr} {u : Value}, w0.cell? a = some u → wr.cell? a = some u := fun {a u} h => by rw [hI.below.cell (Nat.lt_of_lt_of_le (lt_of_cell h) hp0)]; exact h
                replace z0 := up z0
                replace z1 := up z1
                replace z2 := up z2
                replace z3 := up z3
                replace z4 := up z4
                replace z5 := up z5
                replace z6 := up z6
                have J0 := hid (hI.moved (below_alloc wr (.cells #[.int .i64 o.at_, .string o.key, .int .i64 o.kind, .string o.text, .int .i64 o.n, .bool o.rem, .slice dp o.dots.length dc] 52)))
                have Q0 : Hid (Wk p w (wr.alloc (.cells #[.int .i64 o.at_, .string o.key, .int .i64 o.kind, .string o.text, .int .i64 o.n, .bool o.rem, .slice dp o.dots.length dc] 52))) := hwk.trans (.of (below_alloc _ _))
                have KK := hid (wop_any _ a6 p w0 _ _ o dp dc J0.out hdd hp0 hb1 hb2 hb3)
                clear hI hwk hs hss hdd up
                go_wp2_with fail
                refine KK.out.mono ?_
                rintro e u1 (⟨g1, rfl, ⟨y1, j1⟩, q1⟩ | ⟨g1, rfl, j1⟩)
                · have Q1 := hid (Q0.out.trans q1)
                  have J1 : Hid (Ws a6 p w0 u1 (b3 ++ (c.ops.take (j + 1)).flatMap op8) y1) := by
                    show Ws _ _ _ _ _ _
                    rw [HN.out, ← List.append_assoc]
                    exact j1
                  clear q1 j1
                  go_wp2
                  exact ⟨⟨j + 1, y1, Nat.succ_le_of_lt HLT.out, by go_num, J1.out, Q1.out⟩, meas1 HLT.out⟩
                · go_wp2
                  exact ⟨rfl, .inr ⟨far2 HTT.out HB3.out HLE.out (Nat.lt_of_lt_of_eq g1 (by rw [List.length_append])), rfl, j1.1, Q0.out.trans j1.2⟩⟩
              · obtain rfl : j = c.ops.length := by omega
                have HI := hid hI
                have HWK := hid hwk
                clear hI hwk
                go_wp2
                go_end0
                have hi := HI.out
                rw [List.take_length, ← HE.out] at hi
                exact .inl ⟨by have := hi.len; rw [List.length_append] at this; exact this, rfl, ⟨v', hi⟩, HWK.out⟩
          · go_wp2
            exact ⟨rfl, .inr ⟨by rw [HTT.out]; rw [List.length_append, HB2.out, be8_len, be8_len] at f4; omega, rfl, h4.1, HK3.out.trans h4.2⟩⟩
        · go_wp2
          exact ⟨rfl, .inr ⟨by rw [HTT.out]; rw [HB2.out, be8_len] at f3; omega, rfl, h3.1, HW.out.trans h3.2⟩⟩
  · go_wp2
    exact ⟨rfl, .inr ⟨by rw [HTT.out]; rw [be8_len] at f1; omega, rfl, h1.1, HK0.out.trans h1.2⟩⟩
end Go.Proofs.YtkonjpcgfdcfbaaDoor
namespace Go.Proofs.YtkonjpcgfdcfbaaDoor
open Go.RowKit
set_option maxRecDepth 100000

set_option maxHeartbeats 8000000 in
theorem wmessage_any (w : World) (a6 : Addr) (p : Nat) (w0 : World) (bs : List UInt8) (v : Value) (m : MsgV) (wp op : Option Addr) (wc oc : Nat) (h : Ws a6 p w0 w bs v) (hw : IntsAt w0 (.slice wp m.c.when_.length wc) m.c.when_) (ho : OpsAt w0 (.slice op m.c.ops.length oc) m.c.ops) (hp0 : w0.heap.size ≤ p) (hwn : m.c.when_.length ≤ 1000000) (hon : m.c.ops.length ≤ 1000000)
    (hob : ∀ o ∈ m.c.ops, o.dots.length ≤ 1000000 ∧ o.key.size ≤ 1000000 ∧ o.text.size ≤ 1000000) :
    Calls Tryd.prog 19 #[.pointer (some ⟨p, 0, none⟩), .agg #[.int .i64 m.frm, .int .i64 m.to_, .int .i64 m.shard, .int .i64 m.seq, .int .i64 m.time, .bool m.beat, .slice wp m.c.when_.length wc, .int .i64 m.c.place, .slice op m.c.ops.length oc]] w (WrPost a6 p w0 w bs (msg8 m)) := by
  have hp := lt_of_heap h.box
  have G0 := hid (heap_new w (.cells #[.int .i64 m.frm, .int .i64 m.to_, .int .i64 m.shard, .int .i64 m.seq, .int .i64 m.time, .bool m.beat, .slice wp m.c.when_.length wc, .int .i64 m.c.place, .slice op m.c.ops.length oc] 34))
  have H0 := hid (h.moved (below_alloc w (.cells #[.int .i64 m.frm, .int .i64 m.to_, .int .i64 m.shard, .int .i64 m.seq, .int .i64 m.time, .bool m.beat, .slice wp m.c.when_.length wc, .int .i64 m.c.place, .slice op m.c.ops.length oc] 34)))
  obtain ⟨wb, hwb⟩ : ∃ wb, wb = w.alloc (.cells #[.int .i64 m.frm, .int .i64 m.to_, .int .i64 m.shard, .int .i64 m.seq, .int .i64 m.time, .bool m.beat, .slice wp m.c.when_.length wc, .int .i64 m.c.place, .slice op m.c.ops.length oc] 34) := ⟨_, rfl⟩
  rw [← hwb] at G0 H0
  have HK0 : Hid (Wk p w wb) := by show Wk _ _ _; rw [hwb]; exact Wk.of (below_alloc _ _)
  have HWB := hid hwb
  have d0_0 := (cell_of (j := 0) G0.out).trans rfl
  have K1 := hid (wnumber_any wb a6 p w0 bs _ m.frm H0.out)
  go_enter Tryd.func19, Tryd.ntmps19
  go_wp2_with fail
  rw [← HWB.out]
  refine K1.out.mono ?_
  rintro e w1 (⟨f1, rfl, ⟨v1, h1⟩, k1⟩ | ⟨f1, rfl, h1⟩)
  · have G1 := hid (k1.heap G0.out (by omega) (by decide))
    have HK1 := hid (HK0.out.trans k1)
    obtain ⟨b1, e1⟩ : ∃ b1, b1 = bs ++ be8 m.frm := ⟨_, rfl⟩
    rw [← e1] at h1
    have H1 := hid h1
    have E1 := hid e1
    clear h1 e1 k1 d0_0
    have d1_1 := (cell_of (j := 1) G1.out).trans rfl
    have K2 := hid (wnumber_any w1 a6 p w0 b1 _ m.to_ H1.out)
    go_wp2_with fail
    refine K2.out.mono ?_
    rintro e w2 (⟨f2, rfl, ⟨v2, h2⟩, k2⟩ | ⟨f2, rfl, h2⟩)
    · have G2 := hid (k2.heap G1.out (by omega) (by decide))
      have HK2 := hid (HK1.out.trans k2)
      obtain ⟨b2, e2⟩ : ∃ b2, b2 = b1 ++ be8 m.to_ := ⟨_, rfl⟩
      rw [← e2] at h2
      have H2 := hid h2
      have E2 := hid e2
      clear h2 e2 k2 d1_1
      have d2_2 := (cell_of (j := 2) G2.out).trans rfl
      have K3 := hid (wnumber_any w2 a6 p w0 b2 _ m.shard H2.out)
      go_wp2_with fail
      refine K3.out.mono ?_
      rintro e w3 (⟨f3, rfl, ⟨v3, h3⟩, k3⟩ | ⟨f3, rfl, h3⟩)
      · have G3 := hid (k3.heap G2.out (by omega) (by decide))
        have HK3 := hid (HK2.out.trans k3)
        obtain ⟨b3, e3⟩ : ∃ b3, b3 = b2 ++ be8 m.shard := ⟨_, rfl⟩
        rw [← e3] at h3
        have H3 := hid h3
        have E3 := hid e3
        clear h3 e3 k3 d2_2
        have d3_3 := (cell_of (j := 3) G3.out).trans rfl
        have K4 := hid (wnumber_any w3 a6 p w0 b3 _ m.seq H3.out)
        go_wp2_with fail
        refine K4.out.mono ?_
        rintro e w4 (⟨f4, rfl, ⟨v4, h4⟩, k4⟩ | ⟨f4, rfl, h4⟩)
        · have G4 := hid (k4.heap G3.out (by omega) (by decide))
          have HK4 := hid (HK3.out.trans k4)
          obtain ⟨b4, e4⟩ : ∃ b4, b4 = b3 ++ be8 m.seq := ⟨_, rfl⟩
          rw [← e4] at h4
          have H4 := hid h4
          have E4 := hid e4
          clear h4 e4 k4 d3_3
          have d4_4 := (cell_of (j := 4) G4.out).trans rfl
          have K5 := hid (wnumber_any w4 a6 p w0 b4 _ m.time H4.out)
          go_wp2_with fail
          refine K5.out.mono ?_
          rintro e w5 (⟨f5, rfl, ⟨v5, h5⟩, k5⟩ | ⟨f5, rfl, h5⟩)
          · have G5 := hid (k5.heap G4.out (by omega) (by decide))
            have HK5 := hid (HK4.out.trans k5)
            obtain ⟨b5, e5⟩ : ∃ b5, b5 = b4 ++ be8 m.time := ⟨_, rfl⟩
            rw [← e5] at h5
            have H5 := hid h5
            have E5 := hid e5
            clear h5 e5 k5 d4_4
            have d5_5 := (cell_of (j := 5) G5.out).trans rfl
            have K6 := hid (wtruth_any w5 a6 p w0 b5 _ m.beat H5.out)
            go_wp2_with fail
            refine K6.out.mono ?_
            rintro e w6 (⟨f6, rfl, ⟨v6, h6⟩, k6⟩ | ⟨f6, rfl, h6⟩)
            · have G6 := hid (k6.heap G5.out (by omega) (by decide))
              have HK6 := hid (HK5.out.trans k6)
              obtain ⟨b6, e6⟩ : ∃ b6, b6 = b5 ++ bit8 m.beat := ⟨_, rfl⟩
              rw [← e6] at h6
              have H6 := hid h6
              have E6 := hid e6
              clear h6 e6 k6 d5_5
              have d6_6 := (cell_of (j := 6) G6.out).trans rfl
              have d6_7 := (cell_of (j := 7) G6.out).trans rfl
              have d6_8 := (cell_of (j := 8) G6.out).trans rfl
              have K7 := hid (wcommit_any w6 a6 p w0 b6 _ m.c wp op wc oc H6.out hw ho hp0 hwn hon hob)
              go_wp2_with fail
              refine K7.out.mono ?_
              rintro e w7 (⟨f7, rfl, ⟨v7, h7⟩, k7⟩ | ⟨f7, rfl, h7⟩)
              · have HK := hid (HK6.out.trans k7)
                have HE : Hid (bs ++ msg8 m = b6 ++ com8 m.c) := by
                  show _ = _
                  rw [E6.out, E5.out, E4.out, E3.out, E2.out, E1.out]
                  unfold msg8
                  simp only [List.append_assoc]
                rw [← HE.out] at h7
                have H7 := hid h7
                clear h7 k7
                go_wp2
                go_end0
                exact .inl ⟨by have := H7.out.len; rw [List.length_append] at this; exact this, rfl, ⟨v7, H7.out⟩, HK.out⟩
              · go_wp2
                exact ⟨rfl, .inr ⟨by have g1 := congrArg List.length E1.out; have g2 := congrArg List.length E2.out; have g3 := congrArg List.length E3.out; have g4 := congrArg List.length E4.out; have g5 := congrArg List.length E5.out; have g6 := congrArg List.length E6.out; (try simp only [List.length_append] at *); unfold msg8; simp only [List.length_append]; omega, rfl, h7.1, HK6.out.trans h7.2⟩⟩
            · go_wp2
              exact ⟨rfl, .inr ⟨by have g1 := congrArg List.length E1.out; have g2 := congrArg List.length E2.out; have g3 := congrArg List.length E3.out; have g4 := congrArg List.length E4.out; have g5 := congrArg List.length E5.out; (try simp only [List.length_append] at *); unfold msg8; simp only [List.length_append]; omega, rfl, h6.1, HK5.out.trans h6.2⟩⟩
          · go_wp2
            exact ⟨rfl, .inr ⟨by have g1 := congrArg List.length E1.out; have g2 := congrArg List.length E2.out; have g3 := congrArg List.length E3.out; have g4 := congrArg List.length E4.out; (try simp only [List.length_append] at *); unfold msg8; simp only [List.length_append]; omega, rfl, h5.1, HK4.out.trans h5.2⟩⟩
        · go_wp2
          exact ⟨rfl, .inr ⟨by have g1 := congrArg List.length E1.out; have g2 := congrArg List.length E2.out; have g3 := congrArg List.length E3.out; (try simp only [List.length_append] at *); unfold msg8; simp only [List.length_append]; omega, rfl, h4.1, HK3.out.trans h4.2⟩⟩
      · go_wp2
        exact ⟨rfl, .inr ⟨by have g1 := congrArg List.length E1.out; have g2 := congrArg List.length E2.out; (try simp only [List.length_append] at *); unfold msg8; simp only [List.length_append]; omega, rfl, h3.1, HK2.out.trans h3.2⟩⟩
    · go_wp2
      exact ⟨rfl, .inr ⟨by have g1 := congrArg List.length E1.out; (try simp only [List.length_append] at *); unfold msg8; simp only [List.length_append]; omega, rfl, h2.1, HK1.out.trans h2.2⟩⟩
  · go_wp2
    exact ⟨rfl, .inr ⟨by  (try simp only [List.length_append] at *); unfold msg8; simp only [List.length_append]; omega, rfl, h1.1, HK0.out.trans h1.2⟩⟩
end Go.Proofs.YtkonjpcgfdcfbaaDoor
