/- StreamSends: the walk. -/
import Derived.Test.YtcojglkjbbgoaaaDoorJUV0
import Derived.Test.YtcojglkjbbgoaaaDoorJHM
namespace Go.Proofs.YtcojglkjbbgoaaaDoor
open Go.RowKit Go.Maps
set_option maxRecDepth 100000

theorem Duo.box_prog {w : World} {f t s : Int} {g g2 : Nat} {seq time : Int} {v : Value} {l : List Raw} {ms : List MsgV} {seq2 time2 : Int} {v2 : Value} {L : List Raw} {ms2 : List MsgV} {wr w' : World} (h : Duo w f t s g g2 seq time v l ms seq2 time2 v2 L ms2 wr) {bx : Nat} {cs : Array Value} {T : TypeId} (hX : wr.heap[bx]? = some (.cells cs T (0, 0))) (h1 : T ≠ 86) (h2 : T ≠ 37) (ho : OnlyS g v wr w') : w'.heap[bx]? = some (.cells cs T (0, 0)) := by
  rw [ho.block bx (lt_of_heap hX) (ne_type hX h.snd.box h1) fun e => by
    obtain ⟨ds, hd⟩ := own_type h.snd.row e
    exact ne_type hX hd h2 rfl]
  exact hX
theorem Duo.box_ref {w : World} {f t s : Int} {g g2 : Nat} {seq time : Int} {v : Value} {l : List Raw} {ms : List MsgV} {seq2 time2 : Int} {v2 : Value} {L : List Raw} {ms2 : List MsgV} {wr w' : World} (h : Duo w f t s g g2 seq time v l ms seq2 time2 v2 L ms2 wr) {bx : Nat} {cs : Array Value} {T : TypeId} (hX : wr.heap[bx]? = some (.cells cs T (0, 0))) (h1 : T ≠ 52) (h2 : T ≠ 58) (ho : OnlyS g2 v2 wr w') : w'.heap[bx]? = some (.cells cs T (0, 0)) := by
  rw [ho.block bx (lt_of_heap hX) (ne_type hX h.ref.box h1) fun e => by
    obtain ⟨ds, hd⟩ := own_type h.ref.row e
    exact ne_type hX hd h2 rfl]
  exact hX
theorem coded_errV (A : Nat → Addr) (B : Nat) (w : World) (hS : Sents A B w) (k : Nat) (hk : k ≤ 12) : Calls Tryd.prog 16 #[V.errV A k, .int .i64 (k : Nat)] w fun e w' => e = .returned (.bool true) ∧ Below w.heap.size w w' := by
  cases k with
  | zero =>
    refine (coded_nil w).mono ?_
    rintro e w' ⟨rfl, rfl⟩
    exact ⟨rfl, Below.refl _ _⟩
  | succ k => exact coded_sent A B w k _ hS (by omega) (by simp)
theorem ouB_none (f t s seq time : Int) (ms : List MsgV) (nt : Int) : (ouB f t s seq time ms nt).er.2 = none := by
  unfold ouB
  split
  · rfl
  · split
    · rfl
    · rfl
theorem way_v {A : Nat → Addr} {B : Nat} {w : World} (hS : Sents A B w) {f t s we : Int} (h : we = wayE f t s) (hp : 0 < we) : ∃ k : Nat, k < 12 ∧ we = k + 1 ∧ ∀ u, Below B w u → wayV u (wayE f t s) (.iface 162 (.pointer (some (A k)))) := by
  have h23 : we = 2 ∨ we = 3 := by
    unfold wayE at h
    split at h
    · exact .inl h
    · split at h
      · exact .inr h
      · omega
  rw [← h]
  rcases h23 with e | e
  · exact ⟨1, by omega, by omega, fun u hu => .inl ⟨e, (hS.below hu).cell 1 (by omega)⟩⟩
  · exact ⟨2, by omega, by omega, fun u hu => .inr ⟨e, (hS.below hu).cell 2 (by omega)⟩⟩
set_option maxHeartbeats 4000000 in
theorem sends_in (A : Nat → Addr) (B : Nat) (w : World) (hS : Sents A B w) (f t s : Int) (a : Option Addr) (n c : Nat) (xs : List ActV) (h : ActsAt w (.slice a n c) xs) (hn : n = xs.length) :
    Calls Tryd.prog 4 #[.int .i64 f, .int .i64 t, .int .i64 s, .slice a n c] w fun e w' => e = .returned (.bool true) ∧ Below w.heap.size w w' := by
  have HS := hid hS
  have H := hid h
  have HN := hid hn
  clear hS h hn
  go_enter Tryd.func4, Tryd.ntmps4
  go_wp2_with fail
  refine (sent_ok w).mono ?_
  rintro e w0 ⟨rfl, hb0⟩
  have B0 := hid hb0
  clear hb0
  by_cases hn40 : 40 < n
  · have hn' : (40 : Int) < (n : Int) := by omega
    go_wp2_with fail
    go_ret
    exact ⟨rfl, B0.out⟩
  have hn' : ¬ (40 : Int) < (n : Int) := by omega
  obtain ⟨we, hwe⟩ : ∃ we, we = wayE f t s := ⟨_, rfl⟩
  have HWE := hid hwe
  clear hwe
  by_cases hwp : 0 < we
  · obtain ⟨k, hk, hwk, hv⟩ := way_v HS.out HWE.out hwp
    have b0 := B0.out.mono HS.out.size
    have KN := hid (newSender_bad f t s w0 162 _ (hv w0 b0))
    have HV := hid hv
    clear hv b0
    go_wp2_with fail
    refine KN.out.mono ?_
    rintro e w1 ⟨rfl, hb1⟩
    have B1 := hid (B0.out.trans (hb1.mono B0.out.size))
    have KR := hid (newReceiver_bad f t s w1 162 _ (HV.out w1 (B1.out.mono HS.out.size)))
    clear hb1
    go_wp2_with fail
    refine KR.out.mono ?_
    rintro e w2 ⟨rfl, hb2⟩
    have B2 := hid (B1.out.trans (hb2.mono B1.out.size))
    have KW := hid (wayError_any f t s w2)
    rw [← HWE.out] at KW
    clear hb2
    go_wp2_with fail
    refine KW.out.mono ?_
    rintro e w2' ⟨rfl, hw2'⟩
    subst hw2'
    have K16 : Hid (∀ u, Below w.heap.size w u → Calls Tryd.prog 16 #[.iface 162 (.pointer (some (A k))), .int .i64 we] u fun e w' => e = .returned (.bool true) ∧ Below w.heap.size w w') := (show ∀ u, _ → _ from fun u hu => by
      refine (coded_sent A B u k we (HS.out.below (hu.mono HS.out.size)) hk hwk).mono ?_
      rintro e w' ⟨rfl, hb⟩
      exact ⟨rfl, hu.trans (hb.mono hu.size)⟩)
    have b2 := B2.out
    clear hwk hk
    go_wp2_with (go_at_call 16; refine (K16.out _ (by with_reducible assumption)).mono ?_; rintro e u1 ⟨rfl, hb1⟩)
    go_ret
    exact ⟨rfl, hb1⟩
  have hway : WayOk f t s := wayE_ok (by have := wayE_pos (f := f) (t := t) (s := s); have := HWE.out; omega)
  have KN := hid (newSender_ok f t s w0 hway)
  go_wp2_with fail
  refine KN.out.mono ?_
  rintro e w1 ⟨g, hg, rfl, hsb, hb1⟩
  have KR := hid (newReceiver_raw f t s w1 hway)
  go_wp2_with fail
  refine KR.out.mono ?_
  rintro e w2 ⟨gr, mb, hgr, hmb, hgm, rfl, hrc, hb2⟩
  have KW := hid (wayError_any f t s w2)
  rw [← HWE.out] at KW
  go_wp2_with fail
  refine KW.out.mono ?_
  rintro e w2' ⟨rfl, hw2'⟩
  subst hw2'
  have ST0 : Hid (Sst w f t s g w2'.heap.size 0 0 0 (.slice none 0 0) [] [] (.slice none 0 0) [] (w2'.alloc (.cells #[.int .i64 f, .int .i64 t, .int .i64 s, .int .i64 0, .int .i64 0, .slice none 0 0] 52))) := by
    show Sst _ _ _ _ _ _ _ _ _ _ _ _ _ _ _
    have hs1 := B0.out.size
    have hs2 := hb1.size
    have hs3 := hb2.size
    have hbb := (B0.out.trans (hb1.mono hs1)).trans (hb2.mono (Nat.le_trans hs1 hs2))
    have hgl : g < w1.heap.size := lt_of_heap hsb
    refine ⟨⟨hbb.alloc (by omega) _, ⟨?_, World.ownsRow_nil _ _ _ _⟩, ⟨heap_new _ _, World.ownsRow_nil _ _ _ _⟩, by omega, by omega, trivial, trivial⟩, (fun m hm => by simp at hm), Runs.nil _, by simp, by simp⟩
    rw [Below.heap_alloc _ _ _ (by omega), hb2.block g hgl]
    exact hsb
  clear hg hsb hb1 hgr hmb hgm hrc hb2 KN KR KW hway
  go_wp2_with fail
  generalize hw3 : World.alloc _ _ = w3
  have ST1 : Hid (Sst w f t s g w2'.heap.size 0 0 0 (.slice none 0 0) [] [] (.slice none 0 0) [] w3) := (show Sst _ _ _ _ _ _ _ _ _ _ _ _ _ _ _ from by rw [← hw3]; exact ST0.out)
  clear hw3 ST0
  obtain ⟨g2, hg2⟩ : ∃ g2, g2 = w2'.heap.size := ⟨_, rfl⟩
  rw [← hg2] at ST1 ⊢
  clear hg2
  go_loopw [16] (fun iv wr => ∃ i : Nat, i ≤ n ∧ iv = .int .i64 i ∧ Hid (∃ (seq time : Int) (v : Value) (l : List Raw) (ms : List MsgV) (v2 : Value) (L : List Raw), Sst w f t s g g2 i seq time v l ms v2 L wr)) (fun iv _ => n - (intOf iv).toNat)
  case atStart => exact ⟨0, Nat.zero_le _, rfl, ⟨_, _, _, _, _, _, _, ST1.out⟩⟩
  case round =>
    obtain ⟨i, hin, rfl, HST⟩ := hrel
    by_cases hlt : i < n
    · obtain ⟨seq, time, v, l, ms, v2, L, hst⟩ := HST.out
      have ST := hid hst
      clear hst HST ST1
      obtain ⟨x, hx⟩ : ∃ x, xs[i]? = some x := ⟨_, List.getElem?_eq_getElem (by rw [← HN.out]; exact hlt)⟩
      obtain ⟨b, o, a1, n1, c1, a2, n2, c2, rfl, hact⟩ : ∃ b o a1 n1 c1 a2 n2 c2, a = some ⟨b, o, none⟩ ∧ ActAt w b (o + i * 5) x a1 n1 c1 a2 n2 c2 := by
        obtain ⟨a', c', hv, hcs⟩ := H.out
        injection hv with hv1 hv2 hv3
        rcases hcs with hcs | ⟨b, o, hab, hcs⟩
        · subst hcs; simp at hx
        · obtain ⟨a1, n1, c1, a2, n2, c2, hq⟩ := hcs i x hx
          exact ⟨b, o, a1, n1, c1, a2, n2, c2, hv1.trans hab, hq⟩
      have ACT := hid hact
      obtain ⟨e0, e1, e2, e3, e4, _, _⟩ := hact.mono ST.out.duo.below
      have hi1 : (i : Int) < (n : Int) := by omega
      obtain ⟨kd, cv, kn⟩ := x
      simp only at e0 e1 e2 e3 e4
      obtain ⟨pl, hpl⟩ : ∃ pl, pl = cv.place := ⟨_, rfl⟩
      rw [← hpl] at e2
      have HPL := hid hpl
      clear hx
      obtain ⟨wx, hwx⟩ : ∃ wx, wx = wr.alloc (.cells #[.string kd, .slice a1 n1 c1, .int .i64 pl, .slice a2 n2 c2, .int .i64 kn] 54) := ⟨_, rfl⟩
      have bwx : Below wr.heap.size wr wx := by rw [hwx]; exact below_alloc _ _
      have BX0 : wx.heap[wr.heap.size]? = some (.cells #[.string kd, .slice a1 n1 c1, .int .i64 pl, .slice a2 n2 c2, .int .i64 kn] 54 (0, 0)) := by rw [hwx]; exact heap_new _ _
      have hbx0 := ST.out.duo.below.trans (bwx.mono ST.out.duo.below.size)
      have KH := hid (heavy_any wx cv _ _ (ACT.out.ints.mono hbx0 (Nat.le_refl _)) (ACT.out.ops.mono hbx0 (Nat.le_refl _)))
      rw [← hpl] at KH
      have BW0 := hid bwx
      have HX0 := hid BX0
      clear hact hpl bwx BX0 hbx0
      go_wp2_with fail
      rw [← hwx]
      clear hwx
      refine KH.out.mono ?_
      rintro e wA ⟨he, hbA⟩
      have STA := hid (ST.out.moved (BW0.out.trans (hbA.mono BW0.out.size)))
      obtain ⟨bx, hbx⟩ : ∃ bx, bx = wr.heap.size := ⟨_, rfl⟩
      have BX : Hid (wA.heap[bx]? = some (.cells #[.string kd, .slice a1 n1 c1, .int .i64 pl, .slice a2 n2 c2, .int .i64 kn] 54 (0, 0))) := (show wA.heap[bx]? = _ from by rw [hbx, hbA.block _ (lt_of_heap HX0.out)]; exact HX0.out)
      rw [← hbx]
      clear hbx hbA KH e0 e1 e2 e3 e4 ST BW0 HX0
      rcases he with rfl | ⟨rfl, hlight⟩
      · go_wp2_with fail
        go_ret
        exact ⟨rfl, STA.out.duo.below⟩
      have HLT := hid hlight
      have f0 : wA.cell? ⟨bx, 0, none⟩ = some (.string kd) := (cell_of BX.out).trans rfl
      have f1 : wA.cell? ⟨bx, 1, none⟩ = some (.slice a1 n1 c1) := (cell_of BX.out).trans rfl
      have f2 : wA.cell? ⟨bx, 2, none⟩ = some (.int .i64 pl) := (cell_of BX.out).trans rfl
      have f3 : wA.cell? ⟨bx, 3, none⟩ = some (.slice a2 n2 c2) := (cell_of BX.out).trans rfl
      have f4 : wA.cell? ⟨bx, 4, none⟩ = some (.int .i64 kn) := (cell_of BX.out).trans rfl
      have hlen : Hid (l.length ≤ 1000 ∧ L.length ≤ 1000 ∧ 0 ≤ seq ∧ seq ≤ 1000) := (show _ ∧ _ from by
        have h1 := STA.out.len
        have h2 := STA.out.few
        have h3 := f2_len STA.out.duo.own
        have h4 := f2_len STA.out.duo.at_
        omega)
      clear hlight
      cases q1 : (kd.toList == ([99, 111, 109, 109, 105, 116] : List UInt8)) with
      | true =>
        obtain ⟨oo, hoo⟩ : ∃ oo, oo = ouC f t s seq time ms cv := ⟨_, rfl⟩
        have HOK : Hid (OuOk i oo) := (show OuOk i oo from by rw [hoo]; exact STA.out.ouC cv HLT.out)
        have K19 := hid (own_any wA cv _ _ (ACT.out.ints.mono STA.out.duo.below (Nat.le_refl _)) (ACT.out.ops.mono STA.out.duo.below (Nat.le_refl _)) HLT.out)
        unfold OwRet at K19
        rw [← HPL.out] at K19
        go_wp2_with fail
        refine K19.out.mono ?_
        rintro e wO ⟨z1, d1, z2, d2, rfl, hcom, hbO⟩
        obtain ⟨n3, hn3⟩ : ∃ n3, n3 = cv.when_.length := ⟨_, rfl⟩
        obtain ⟨n4, hn4⟩ : ∃ n4, n4 = cv.ops.length := ⟨_, rfl⟩
        rw [← hn3, ← hn4] at hcom ⊢
        have HDO := hid (STA.out.duo.moved hbO)
        have BXO : Hid (wO.heap[bx]? = some (.cells #[.string kd, .slice a1 n1 c1, .int .i64 pl, .slice a2 n2 c2, .int .i64 kn] 54 (0, 0))) := (show wO.heap[bx]? = _ from by rw [hbO.block bx (lt_of_heap BX.out)]; exact BX.out)
        have KP := hid (prog_commit A B w HS.out f t s g g2 seq time v l ms seq time v2 L ms wO HDO.out hlen.out.1 hlen.out.2.2.1 hlen.out.2.2.2 cv z1 z2 n3 d1 n4 d2 (hcom.base (Nat.zero_le _)) HLT.out)
        rw [← hoo, ← HPL.out] at KP
        clear hcom hbO hn3 hn4 K19 f0 f1 f2 f3 f4
        unfold PrO at KP
        go_wp2_with fail
        refine KP.out.mono ?_
        rintro e w1 ⟨r, ev, vC, lC, rfl, herr, hown, hd1, ho1⟩
        have BX1 : Hid (w1.heap[bx]? = some (.cells #[.string kd, .slice a1 n1 c1, .int .i64 pl, .slice a2 n2 c2, .int .i64 kn] 54 (0, 0))) := hid (HDO.out.box_prog BXO.out (by decide) (by decide) ho1)
        have HD1 := hid hd1
        have HERR := hid herr
        have HOWN := hid hown
        clear herr hown hd1 ho1 KP
        obtain ⟨y1, y2, y3, y4, y5, y6, ya1, yn1, yc1, yp, ya2, yn2, yc2⟩ := r
        unfold Raw.cells
        simp only
        obtain ⟨wB, hwB⟩ : ∃ wB, wB = w1.alloc (.cells #[.int .i64 y1, .int .i64 y2, .int .i64 y3, .int .i64 y4, .int .i64 y5, .bool y6, .slice ya1 yn1 yc1, .int .i64 yp, .slice ya2 yn2 yc2] 37) := ⟨_, rfl⟩
        have bB : Below w1.heap.size w1 wB := by rw [hwB]; exact below_alloc _ _
        obtain ⟨px, hpx⟩ : ∃ px, px = w1.heap.size := ⟨_, rfl⟩
        have PX : Hid (wB.heap[px]? = some (.cells #[.int .i64 y1, .int .i64 y2, .int .i64 y3, .int .i64 y4, .int .i64 y5, .bool y6, .slice ya1 yn1 yc1, .int .i64 yp, .slice ya2 yn2 yc2] 37 (0, 0))) := (show wB.heap[px]? = _ from by rw [hwB, hpx]; exact heap_new _ _)
        have HD2 := hid (HD1.out.moved bB)
        have BX2 : Hid (wB.heap[bx]? = some (.cells #[.string kd, .slice a1 n1 c1, .int .i64 pl, .slice a2 n2 c2, .int .i64 kn] 54 (0, 0))) := (show wB.heap[bx]? = _ from by rw [bB.block bx (lt_of_heap BX1.out)]; exact BX1.out)
        have HERR2 := hid (errAt_below HERR.out bB)
        have HOWN2 := hid (HOWN.out.kept (Keeps.bel bB))
        have KR := hid (ref_commit A w f t s g g2 oo.seq oo.time vC lC oo.ms seq time v2 L ms wB HD2.out hlen.out.2.1 hlen.out.2.2.1 hlen.out.2.2.2 cv a1 a2 n1 c1 n2 c2 ACT.out.ints ACT.out.ops HLT.out)
        rw [← hoo, ← HPL.out] at KR
        obtain ⟨fc, hfc⟩ : ∃ fc : Int, fc = (oo.er.1 : Nat) := ⟨_, rfl⟩
        obtain ⟨fa, hfa⟩ : ∃ fa : Int, fa = V.faultAt oo.er.2 := ⟨_, rfl⟩
        rw [← hfc, ← hfa] at KR
        have HFC := hid hfc
        have HFA := hid hfa
        clear hfc hfa
        unfold RfO at KR
        have m0 : w1.cell? ⟨bx, 0, none⟩ = some (.string kd) := (cell_of BX1.out).trans rfl
        have f1 : wB.cell? ⟨bx, 1, none⟩ = some (.slice a1 n1 c1) := (cell_of BX2.out).trans rfl
        have f2 : wB.cell? ⟨bx, 2, none⟩ = some (.int .i64 pl) := (cell_of BX2.out).trans rfl
        have f3 : wB.cell? ⟨bx, 3, none⟩ = some (.slice a2 n2 c2) := (cell_of BX2.out).trans rfl
        have f4 : wB.cell? ⟨bx, 4, none⟩ = some (.int .i64 kn) := (cell_of BX2.out).trans rfl
        clear bB m0
        go_upto_region 23 with (fail)
        rw [← hwB, ← hpx]
        clear hwB hpx
        go_wp2_with fail
        refine KR.out.mono ?_
        rintro e w2 ⟨q, v2C, LC, rfl, hq, hd3, herr3, hk3, ho3⟩
        have HD3 := hid hd3
        have PX3 : Hid (w2.heap[px]? = some (.cells #[.int .i64 y1, .int .i64 y2, .int .i64 y3, .int .i64 y4, .int .i64 y5, .bool y6, .slice ya1 yn1 yc1, .int .i64 yp, .slice ya2 yn2 yc2] 37 (0, 0))) := hid (HD2.out.box_ref PX.out (by decide) (by decide) ho3)
        have HERR3 := hid (herr3 _ HERR2.out)
        have HOWN3 := hid (HOWN2.out.kept hk3)
        have HQ := hid hq
        clear hq hd3 herr3 hk3 ho3 KR f1 f2 f3 f4 BX1 BX2 HD2 PX HERR2 HOWN2 HERR HOWN HD1
        obtain ⟨q1, q2, q3, q4, q5, q6, qa1, qn1, qc1, qp, qa2, qn2, qc2⟩ := q
        unfold Raw.cells
        simp only
        obtain ⟨qx, hqx⟩ : ∃ qx, qx = w2.heap.size := ⟨_, rfl⟩
        obtain ⟨wC, hwC⟩ : ∃ wC, wC = (w2.alloc (.cells #[.int .i64 q1, .int .i64 q2, .int .i64 q3, .int .i64 q4, .int .i64 q5, .bool q6, .slice qa1 qn1 qc1, .int .i64 qp, .slice qa2 qn2 qc2] 58)).alloc (.cells #[.int .i64 fc, .int .i64 fa] 60) := ⟨_, rfl⟩
        have bC : Below w2.heap.size w2 wC := by rw [hwC]; exact below2 _ _ _
        have QX : Hid (wC.heap[qx]? = some (.cells #[.int .i64 q1, .int .i64 q2, .int .i64 q3, .int .i64 q4, .int .i64 q5, .bool q6, .slice qa1 qn1 qc1, .int .i64 qp, .slice qa2 qn2 qc2] 58 (0, 0))) := (show wC.heap[qx]? = _ from by rw [hwC, hqx]; exact heap_old (heap_new _ _) _)
        have PXC : Hid (wC.heap[px]? = some (.cells #[.int .i64 y1, .int .i64 y2, .int .i64 y3, .int .i64 y4, .int .i64 y5, .bool y6, .slice ya1 yn1 yc1, .int .i64 yp, .slice ya2 yn2 yc2] 37 (0, 0))) := (show wC.heap[px]? = _ from by rw [bC.block px (lt_of_heap PX3.out)]; exact PX3.out)
        have STC : Hid (Sst w f t s g g2 (i + 1) oo.seq oo.time vC lC oo.ms v2C LC wC) := hid (Sst.ou (HD3.out.moved bC) HOK.out)
        have HERRC := hid (errAt_below HERR3.out bC)
        have HOWNC := hid (HOWN3.out.kept (Keeps.bel bC))
        have FX : Hid (wC.heap[qx + 1]? = some (.cells #[.int .i64 fc, .int .i64 fa] 60 (0, 0))) := (show wC.heap[qx + 1]? = _ from by rw [hwC, hqx]; exact heap_new2 _ _ _)
        go_upto_region 24 with (fail)
        rw [← hwC, ← hqx]
        clear hwC hqx bC HERR3 HOWN3 PX3 HD3
        obtain ⟨seqC, hseqC⟩ : ∃ seqC, seqC = oo.seq := ⟨_, rfl⟩
        obtain ⟨timeC, htimeC⟩ : ∃ timeC, timeC = oo.time := ⟨_, rfl⟩
        obtain ⟨msC, hmsC⟩ : ∃ msC, msC = oo.ms := ⟨_, rfl⟩
        rw [← hseqC, ← htimeC, ← hmsC] at STC
        clear hseqC htimeC hmsC hoo
        have HELD : Hid (∀ u, Below wC.heap.size wC u → u.cell? ⟨px, 0, none⟩ = some (.int .i64 y1) ∧ u.cell? ⟨px, 1, none⟩ = some (.int .i64 y2) ∧ u.cell? ⟨px, 2, none⟩ = some (.int .i64 y3) ∧ u.cell? ⟨px, 3, none⟩ = some (.int .i64 y4) ∧ u.cell? ⟨px, 4, none⟩ = some (.int .i64 y5) ∧ u.cell? ⟨px, 5, none⟩ = some (.bool y6) ∧ u.cell? ⟨px, 6, none⟩ = some (.slice ya1 yn1 yc1) ∧ u.cell? ⟨px, 7, none⟩ = some (.int .i64 yp) ∧ u.cell? ⟨px, 8, none⟩ = some (.slice ya2 yn2 yc2) ∧ u.cell? ⟨qx, 0, none⟩ = some (.int .i64 q1) ∧ u.cell? ⟨qx, 1, none⟩ = some (.int .i64 q2) ∧ u.cell? ⟨qx, 2, none⟩ = some (.int .i64 q3) ∧ u.cell? ⟨qx, 3, none⟩ = some (.int .i64 q4) ∧ u.cell? ⟨qx, 4, none⟩ = some (.int .i64 q5) ∧ u.cell? ⟨qx, 5, none⟩ = some (.bool q6) ∧ u.cell? ⟨qx, 6, none⟩ = some (.slice qa1 qn1 qc1) ∧ u.cell? ⟨qx, 7, none⟩ = some (.int .i64 qp) ∧ u.cell? ⟨qx, 8, none⟩ = some (.slice qa2 qn2 qc2) ∧ u.cell? ⟨qx + 1, 0, none⟩ = some (.int .i64 fc) ∧ u.cell? ⟨qx + 1, 1, none⟩ = some (.int .i64 fa)) := (show ∀ u, _ → _ from fun u hu => by
          have e1 := (hu.block px (lt_of_heap PXC.out)).trans PXC.out
          have e2 := (hu.block qx (lt_of_heap QX.out)).trans QX.out
          have e3 := (hu.block (qx + 1) (lt_of_heap FX.out)).trans FX.out
          exact ⟨(cell_of e1).trans rfl, (cell_of e1).trans rfl, (cell_of e1).trans rfl, (cell_of e1).trans rfl, (cell_of e1).trans rfl, (cell_of e1).trans rfl, (cell_of e1).trans rfl, (cell_of e1).trans rfl, (cell_of e1).trans rfl, (cell_of e2).trans rfl, (cell_of e2).trans rfl, (cell_of e2).trans rfl, (cell_of e2).trans rfl, (cell_of e2).trans rfl, (cell_of e2).trans rfl, (cell_of e2).trans rfl, (cell_of e2).trans rfl, (cell_of e2).trans rfl, (cell_of e3).trans rfl, (cell_of e3).trans rfl⟩)
        have KE : Hid (∀ u, Below wC.heap.size wC u → Calls Tryd.prog 21 #[ev, .agg #[.int .i64 fc, .int .i64 fa]] u fun e w' => e = .returned (.bool true) ∧ Below wC.heap.size wC w') := (show ∀ u, _ → _ from fun u hu => by
          have hwu := STC.out.duo.below.trans (hu.mono STC.out.duo.below.size)
          have hc := faulted_err A B u (HS.out.below (hwu.mono HS.out.size)) ev oo.er (errAt_below HERRC.out hu) HOK.out.e12 HOK.out.ez
          rw [← HFC.out, ← HFA.out] at hc
          refine hc.mono ?_
          rintro e w' ⟨rfl, hb⟩
          exact ⟨rfl, hu.trans (hb.mono hu.size)⟩)
        have KB : Hid (∀ u, Below wC.heap.size wC u → Calls Tryd.prog 23 #[.agg #[.int .i64 y1, .int .i64 y2, .int .i64 y3, .int .i64 y4, .int .i64 y5, .bool y6, .slice ya1 yn1 yc1, .int .i64 yp, .slice ya2 yn2 yc2]] u fun e w' => e = .returned (.agg #[.int .i64 y1, .int .i64 y2, .int .i64 y3, .int .i64 y4, .int .i64 y5, .bool y6, .slice ya1 yn1 yc1, .int .i64 yp, .slice ya2 yn2 yc2]) ∧ Below wC.heap.size wC w') := (show ∀ u, _ → _ from fun u hu => by
          refine (backWire_any u _ _ _ _ _ _ _ _ _ _ _ _ _).mono ?_
          rintro e w' ⟨rfl, hb⟩
          exact ⟨rfl, hu.trans (hb.mono hu.size)⟩)
        have KS : Hid (∀ u, Below wC.heap.size wC u → Calls Tryd.prog 22 #[.agg #[.int .i64 y1, .int .i64 y2, .int .i64 y3, .int .i64 y4, .int .i64 y5, .bool y6, .slice ya1 yn1 yc1, .int .i64 yp, .slice ya2 yn2 yc2], .agg #[.int .i64 q1, .int .i64 q2, .int .i64 q3, .int .i64 q4, .int .i64 q5, .bool q6, .slice qa1 qn1 qc1, .int .i64 qp, .slice qa2 qn2 qc2]] u fun e w' => e = .returned (.bool true) ∧ Below wC.heap.size wC w') := (show ∀ u, _ → _ from fun u hu => by
          have hwu := STC.out.duo.below.trans (hu.mono STC.out.duo.below.size)
          refine (sameRaw u ⟨y1, y2, y3, y4, y5, y6, ya1, yn1, yc1, yp, ya2, yn2, yc2⟩ ⟨q1, q2, q3, q4, q5, q6, qa1, qn1, qc1, qp, qa2, qn2, qc2⟩ oo.m (HOWNC.out.kept (Keeps.bel hu)).at_ (HQ.out.mono hwu (Nat.le_refl _)) HOK.out.lm.small).mono ?_
          rintro e w' ⟨rfl, hb⟩
          exact ⟨rfl, hu.trans (hb.mono hu.size)⟩)
        have hb0 : Below wC.heap.size wC wC.drew := (Below.refl _ _).drew
        go_region_held (fun u => u.cell? ⟨px, 0, none⟩ = some (.int .i64 y1) ∧ u.cell? ⟨px, 1, none⟩ = some (.int .i64 y2) ∧ u.cell? ⟨px, 2, none⟩ = some (.int .i64 y3) ∧ u.cell? ⟨px, 3, none⟩ = some (.int .i64 y4) ∧ u.cell? ⟨px, 4, none⟩ = some (.int .i64 y5) ∧ u.cell? ⟨px, 5, none⟩ = some (.bool y6) ∧ u.cell? ⟨px, 6, none⟩ = some (.slice ya1 yn1 yc1) ∧ u.cell? ⟨px, 7, none⟩ = some (.int .i64 yp) ∧ u.cell? ⟨px, 8, none⟩ = some (.slice ya2 yn2 yc2) ∧ u.cell? ⟨qx, 0, none⟩ = some (.int .i64 q1) ∧ u.cell? ⟨qx, 1, none⟩ = some (.int .i64 q2) ∧ u.cell? ⟨qx, 2, none⟩ = some (.int .i64 q3) ∧ u.cell? ⟨qx, 3, none⟩ = some (.int .i64 q4) ∧ u.cell? ⟨qx, 4, none⟩ = some (.int .i64 q5) ∧ u.cell? ⟨qx, 5, none⟩ = some (.bool q6) ∧ u.cell? ⟨qx, 6, none⟩ = some (.slice qa1 qn1 qc1) ∧ u.cell? ⟨qx, 7, none⟩ = some (.int .i64 qp) ∧ u.cell? ⟨qx, 8, none⟩ = some (.slice qa2 qn2 qc2) ∧ u.cell? ⟨qx + 1, 0, none⟩ = some (.int .i64 fc) ∧ u.cell? ⟨qx + 1, 1, none⟩ = some (.int .i64 fa)) ((refine HELD.out _ ?_; with_reducible assumption))
          (first
            | (go_at_call 21; refine (KE.out _ (by with_reducible assumption)).mono ?_; rintro e u1 ⟨rfl, hb1⟩)
            | (go_at_call 23; refine (KB.out _ (by with_reducible assumption)).mono ?_; rintro e u2 ⟨rfl, hb2⟩)
            | (go_at_call 22; refine (KS.out _ (by with_reducible assumption)).mono ?_; rintro e u3 ⟨rfl, hb3⟩))
        have STD := hid (STC.out.moved hb3)
        clear hb0 hb1 hb2 hb3 KE KB KS HELD STC HERRC HOWNC PXC QX HQ HFC HOK STA BX BXO HDO hlen
        have hlC : Hid (lC.length ≤ 1000 ∧ LC.length ≤ 1000 ∧ msC.length ≤ 1000) := (show _ ∧ _ from by
          have h1 := STD.out.len
          have h2 := STD.out.few
          have h3 := f2_len STD.out.duo.own
          have h4 := f2_len STD.out.duo.at_
          omega)
        obtain ⟨av, cw, hv2⟩ := row_shape STD.out.duo.ref.row
        subst hv2
        obtain ⟨nL, hnL⟩ : ∃ nL, nL = LC.length := ⟨_, rfl⟩
        rw [← hnL] at STD
        have c5 : u3.cell? ⟨g2, 5, none⟩ = some (.slice av nL cw) := (cell_of STD.out.duo.ref.box).trans rfl
        have HNL := hid hnL
        clear hnL
        have K14 : Hid (∀ u, Below u3.heap.size u3 u → Calls Tryd.prog 14 #[.pointer (some ⟨g, 0, none⟩)] u fun e w' => ∃ xa xk xc, e = .returned (.slice xa xk xc) ∧ Hid (∃ rs, w'.ownsRow 0 37 9 (.slice xa xk xc) rs.length (raws rs) ∧ F2 (RawAt w') rs msC) ∧ Below u3.heap.size u3 w') := (show ∀ u, _ → _ from fun u hu => by
          have hd := STD.out.duo.moved hu
          refine (again_raw u g f t s seqC timeC vC lC msC hd.snd hlC.out.1 hd.own STD.out.light).mono ?_
          rintro e w' ⟨v1, rs, rfl, hown, hf, hb⟩
          have hrl := f2_len hf
          rw [← hrl] at hown
          obtain ⟨z1, z2, rfl⟩ := row_shape hown
          exact ⟨z1, _, z2, rfl, ⟨rs, owns_base hown (Nat.zero_le _), f2_mono (fun _ _ q => q.at_) hf⟩, hu.trans (hb.mono hu.size)⟩)
        have K27 : Hid (∀ u xa xk xc, Below u3.heap.size u3 u → (∃ rs, u.ownsRow 0 37 9 (.slice xa xk xc) rs.length (raws rs) ∧ F2 (RawAt u) rs msC) → Calls Tryd.prog 27 #[.slice xa xk xc] u fun e w' => ∃ ya yk yc, e = .returned (.slice ya yk yc) ∧ Hid (MsgsAt w' (.slice ya yk yc) msC) ∧ Below u3.heap.size u3 w') := (show ∀ (u : World) (xa : Option Addr) (xk xc : Nat), _ → _ → _ from fun u xa xk xc hu hr => by
          obtain ⟨rs, hy1, hy2⟩ := hr
          have hlr := f2_len hy2
          refine (backWires_raw u 0 _ rs hy1 (by have := hlC.out.2.2; omega)).mono ?_
          rintro e w' ⟨v1, rfl, hown, hb⟩
          have hmm := msgs_of_row hown rfl (f2_mono (fun _ _ hq => hq.mono hb (Nat.le_refl _)) hy2)
          obtain ⟨z1, z2, rfl⟩ := row_shape hown
          exact ⟨z1, _, z2, rfl, hmm, hu.trans (hb.mono hu.size)⟩)
        have K26 : Hid (∀ u ya yk yc, Below u3.heap.size u3 u → MsgsAt u (.slice ya yk yc) msC → Calls Tryd.prog 26 #[.slice ya yk yc, .slice av nL cw] u fun e w' => e = .returned (.bool true) ∧ Below u3.heap.size u3 w') := (show ∀ (u : World) (ya : Option Addr) (yk yc : Nat), _ → _ → _ from fun u ya yk yc hu hm => by
          have hd := STD.out.duo.moved hu
          refine (sameMessages_same u _ _ msC hm (msgs_of_row hd.ref.row rfl (f2_mono (fun _ _ q => q.mono hd.below (Nat.le_refl _)) hd.at_)) (fun m hm => (STD.out.light m hm).small) hlC.out.2.2).mono ?_
          rintro e w' ⟨rfl, hb⟩
          exact ⟨rfl, hu.trans (hb.mono hu.size)⟩)
        have HELD5 : Hid (∀ u, Below u3.heap.size u3 u → u.cell? ⟨g2, 5, none⟩ = some (.slice av nL cw)) := (show ∀ u, _ → _ from fun u hu => by rw [hu.cell (p := ⟨g2, 5, none⟩) (lt_of_cell c5)]; exact c5)
        have hbz : Below u3.heap.size u3 u3.drew := (Below.refl _ _).drew
        go_upto_region 31 with (fail)
        go_region_held (fun u => u.cell? ⟨g2, 5, none⟩ = some (.slice av nL cw)) ((refine HELD5.out _ ?_; with_reducible assumption))
          (first
            | (go_at_call 14; refine (K14.out _ (by with_reducible assumption)).mono ?_; rintro e u6 ⟨xa, xk, xc, rfl, HRS, hb6⟩)
            | (go_at_call 27; refine (K27.out _ _ _ _ (by with_reducible assumption) HRS.out).mono ?_; rintro e u7 ⟨ya, yk, yc, rfl, HMS, hb7⟩)
            | (go_at_call 26; refine (K26.out _ _ _ _ (by with_reducible assumption) HMS.out).mono ?_; rintro e u8 ⟨rfl, hb8⟩))
        have BF := hid hb8
        go_wp2_with fail
        exact ⟨⟨i + 1, by omega, by go_num, ⟨_, _, _, _, _, _, _, STD.out.moved BF.out⟩⟩, by simp [intOf]; omega⟩

      | false =>
      cases q2 : (kd.toList == ([98, 101, 97, 116] : List UInt8)) with
      | true =>
        obtain ⟨oo, hoo⟩ : ∃ oo, oo = ouB f t s seq time ms kn := ⟨_, rfl⟩
        have HOK : Hid (OuOk i oo) := (show OuOk i oo from by rw [hoo]; exact STA.out.ouB kn)
        obtain ⟨wO, hwO⟩ : ∃ wO, wO = wA := ⟨_, rfl⟩
        have HDO : Hid (Duo w f t s g g2 seq time v l ms seq time v2 L ms wO) := (show Duo _ _ _ _ _ _ _ _ _ _ _ _ _ _ _ _ _ from by rw [hwO]; exact STA.out.duo)
        have BXO : Hid (wO.heap[bx]? = some (.cells #[.string kd, .slice a1 n1 c1, .int .i64 pl, .slice a2 n2 c2, .int .i64 kn] 54 (0, 0))) := (show wO.heap[bx]? = _ from by rw [hwO]; exact BX.out)
        have KP := hid (prog_beat A B w HS.out f t s g g2 seq time v l ms seq time v2 L ms wO HDO.out hlen.out.1 hlen.out.2.2.1 hlen.out.2.2.2 kn)
        rw [← hoo] at KP
        unfold PrO at KP
        go_wp2_with fail
        rw [← hwO]
        clear hwO f0 f1 f2 f3 f4
        refine KP.out.mono ?_
        rintro e w1 ⟨r, ev, vC, lC, rfl, herr, hown, hd1, ho1⟩
        have BX1 : Hid (w1.heap[bx]? = some (.cells #[.string kd, .slice a1 n1 c1, .int .i64 pl, .slice a2 n2 c2, .int .i64 kn] 54 (0, 0))) := hid (HDO.out.box_prog BXO.out (by decide) (by decide) ho1)
        have HD1 := hid hd1
        have HERR := hid herr
        have HOWN := hid hown
        clear herr hown hd1 ho1 KP
        obtain ⟨y1, y2, y3, y4, y5, y6, ya1, yn1, yc1, yp, ya2, yn2, yc2⟩ := r
        unfold Raw.cells
        simp only
        obtain ⟨wB, hwB⟩ : ∃ wB, wB = w1.alloc (.cells #[.int .i64 y1, .int .i64 y2, .int .i64 y3, .int .i64 y4, .int .i64 y5, .bool y6, .slice ya1 yn1 yc1, .int .i64 yp, .slice ya2 yn2 yc2] 37) := ⟨_, rfl⟩
        have bB : Below w1.heap.size w1 wB := by rw [hwB]; exact below_alloc _ _
        obtain ⟨px, hpx⟩ : ∃ px, px = w1.heap.size := ⟨_, rfl⟩
        have PX : Hid (wB.heap[px]? = some (.cells #[.int .i64 y1, .int .i64 y2, .int .i64 y3, .int .i64 y4, .int .i64 y5, .bool y6, .slice ya1 yn1 yc1, .int .i64 yp, .slice ya2 yn2 yc2] 37 (0, 0))) := (show wB.heap[px]? = _ from by rw [hwB, hpx]; exact heap_new _ _)
        have HD2 := hid (HD1.out.moved bB)
        have BX2 : Hid (wB.heap[bx]? = some (.cells #[.string kd, .slice a1 n1 c1, .int .i64 pl, .slice a2 n2 c2, .int .i64 kn] 54 (0, 0))) := (show wB.heap[bx]? = _ from by rw [bB.block bx (lt_of_heap BX1.out)]; exact BX1.out)
        have HERR2 := hid (errAt_below HERR.out bB)
        have HOWN2 := hid (HOWN.out.kept (Keeps.bel bB))
        have KR := hid (ref_beat A w f t s g g2 oo.seq oo.time vC lC oo.ms seq time v2 L ms wB HD2.out hlen.out.2.1 hlen.out.2.2.1 hlen.out.2.2.2 kn)
        rw [← hoo] at KR
        obtain ⟨fc, hfc⟩ : ∃ fc : Int, fc = (oo.er.1 : Nat) := ⟨_, rfl⟩
        rw [← hfc] at KR
        have HFC := hid hfc
        have HNO : Hid (oo.er.2 = none) := (show oo.er.2 = none from by rw [hoo]; exact ouB_none _ _ _ _ _ _ _)
        clear hfc
        unfold RfO at KR
        have m0 : w1.cell? ⟨bx, 0, none⟩ = some (.string kd) := (cell_of BX1.out).trans rfl
        have f1 : wB.cell? ⟨bx, 1, none⟩ = some (.slice a1 n1 c1) := (cell_of BX2.out).trans rfl
        have f2 : wB.cell? ⟨bx, 2, none⟩ = some (.int .i64 pl) := (cell_of BX2.out).trans rfl
        have f3 : wB.cell? ⟨bx, 3, none⟩ = some (.slice a2 n2 c2) := (cell_of BX2.out).trans rfl
        have f4 : wB.cell? ⟨bx, 4, none⟩ = some (.int .i64 kn) := (cell_of BX2.out).trans rfl
        clear bB m0
        go_upto_region 28 with (fail)
        rw [← hwB, ← hpx]
        clear hwB hpx
        go_wp2_with fail
        refine KR.out.mono ?_
        rintro e w2 ⟨q, v2C, LC, rfl, hq, hd3, herr3, hk3, ho3⟩
        have HD3 := hid hd3
        have PX3 : Hid (w2.heap[px]? = some (.cells #[.int .i64 y1, .int .i64 y2, .int .i64 y3, .int .i64 y4, .int .i64 y5, .bool y6, .slice ya1 yn1 yc1, .int .i64 yp, .slice ya2 yn2 yc2] 37 (0, 0))) := hid (HD2.out.box_ref PX.out (by decide) (by decide) ho3)
        have HERR3 := hid (herr3 _ HERR2.out)
        have HOWN3 := hid (HOWN2.out.kept hk3)
        have HQ := hid hq
        clear hq hd3 herr3 hk3 ho3 KR f1 f2 f3 f4 BX1 BX2 HD2 PX HERR2 HOWN2 HERR HOWN HD1
        obtain ⟨q1, q2, q3, q4, q5, q6, qa1, qn1, qc1, qp, qa2, qn2, qc2⟩ := q
        unfold Raw.cells
        simp only
        obtain ⟨qx, hqx⟩ : ∃ qx, qx = w2.heap.size := ⟨_, rfl⟩
        obtain ⟨wC, hwC⟩ : ∃ wC, wC = w2.alloc (.cells #[.int .i64 q1, .int .i64 q2, .int .i64 q3, .int .i64 q4, .int .i64 q5, .bool q6, .slice qa1 qn1 qc1, .int .i64 qp, .slice qa2 qn2 qc2] 58) := ⟨_, rfl⟩
        have bC : Below w2.heap.size w2 wC := by rw [hwC]; exact below_alloc _ _
        have QX : Hid (wC.heap[qx]? = some (.cells #[.int .i64 q1, .int .i64 q2, .int .i64 q3, .int .i64 q4, .int .i64 q5, .bool q6, .slice qa1 qn1 qc1, .int .i64 qp, .slice qa2 qn2 qc2] 58 (0, 0))) := (show wC.heap[qx]? = _ from by rw [hwC, hqx]; exact heap_new _ _)
        have PXC : Hid (wC.heap[px]? = some (.cells #[.int .i64 y1, .int .i64 y2, .int .i64 y3, .int .i64 y4, .int .i64 y5, .bool y6, .slice ya1 yn1 yc1, .int .i64 yp, .slice ya2 yn2 yc2] 37 (0, 0))) := (show wC.heap[px]? = _ from by rw [bC.block px (lt_of_heap PX3.out)]; exact PX3.out)
        have STC : Hid (Sst w f t s g g2 (i + 1) oo.seq oo.time vC lC oo.ms v2C LC wC) := hid (Sst.ou (HD3.out.moved bC) HOK.out)
        have HERRC := hid (errAt_below HERR3.out bC)
        have HOWNC := hid (HOWN3.out.kept (Keeps.bel bC))
        go_upto_region 29 with (fail)
        rw [← hwC, ← hqx]
        clear hwC hqx bC HERR3 HOWN3 PX3 HD3
        obtain ⟨seqC, hseqC⟩ : ∃ seqC, seqC = oo.seq := ⟨_, rfl⟩
        obtain ⟨timeC, htimeC⟩ : ∃ timeC, timeC = oo.time := ⟨_, rfl⟩
        obtain ⟨msC, hmsC⟩ : ∃ msC, msC = oo.ms := ⟨_, rfl⟩
        rw [← hseqC, ← htimeC, ← hmsC] at STC
        clear hseqC htimeC hmsC hoo
        have HELD : Hid (∀ u, Below wC.heap.size wC u → u.cell? ⟨px, 0, none⟩ = some (.int .i64 y1) ∧ u.cell? ⟨px, 1, none⟩ = some (.int .i64 y2) ∧ u.cell? ⟨px, 2, none⟩ = some (.int .i64 y3) ∧ u.cell? ⟨px, 3, none⟩ = some (.int .i64 y4) ∧ u.cell? ⟨px, 4, none⟩ = some (.int .i64 y5) ∧ u.cell? ⟨px, 5, none⟩ = some (.bool y6) ∧ u.cell? ⟨px, 6, none⟩ = some (.slice ya1 yn1 yc1) ∧ u.cell? ⟨px, 7, none⟩ = some (.int .i64 yp) ∧ u.cell? ⟨px, 8, none⟩ = some (.slice ya2 yn2 yc2) ∧ u.cell? ⟨qx, 0, none⟩ = some (.int .i64 q1) ∧ u.cell? ⟨qx, 1, none⟩ = some (.int .i64 q2) ∧ u.cell? ⟨qx, 2, none⟩ = some (.int .i64 q3) ∧ u.cell? ⟨qx, 3, none⟩ = some (.int .i64 q4) ∧ u.cell? ⟨qx, 4, none⟩ = some (.int .i64 q5) ∧ u.cell? ⟨qx, 5, none⟩ = some (.bool q6) ∧ u.cell? ⟨qx, 6, none⟩ = some (.slice qa1 qn1 qc1) ∧ u.cell? ⟨qx, 7, none⟩ = some (.int .i64 qp) ∧ u.cell? ⟨qx, 8, none⟩ = some (.slice qa2 qn2 qc2)) := (show ∀ u, _ → _ from fun u hu => by
          have e1 := (hu.block px (lt_of_heap PXC.out)).trans PXC.out
          have e2 := (hu.block qx (lt_of_heap QX.out)).trans QX.out
          skip
          exact ⟨(cell_of e1).trans rfl, (cell_of e1).trans rfl, (cell_of e1).trans rfl, (cell_of e1).trans rfl, (cell_of e1).trans rfl, (cell_of e1).trans rfl, (cell_of e1).trans rfl, (cell_of e1).trans rfl, (cell_of e1).trans rfl, (cell_of e2).trans rfl, (cell_of e2).trans rfl, (cell_of e2).trans rfl, (cell_of e2).trans rfl, (cell_of e2).trans rfl, (cell_of e2).trans rfl, (cell_of e2).trans rfl, (cell_of e2).trans rfl, (cell_of e2).trans rfl⟩)
        have KE : Hid (∀ u, Below wC.heap.size wC u → Calls Tryd.prog 16 #[ev, .int .i64 fc] u fun e w' => e = .returned (.bool true) ∧ Below wC.heap.size wC w') := (show ∀ u, _ → _ from fun u hu => by
          have hwu := STC.out.duo.below.trans (hu.mono STC.out.duo.below.size)
          have hev : ev = V.errV A oo.er.1 := by
            have h1 := HERRC.out
            unfold V.ErrAt at h1
            rw [HNO.out] at h1
            exact h1
          rw [hev, HFC.out]
          refine (coded_errV A B u (HS.out.below (hwu.mono HS.out.size)) oo.er.1 HOK.out.e12).mono ?_
          rintro e w' ⟨rfl, hb⟩
          exact ⟨rfl, hu.trans (hb.mono hu.size)⟩)
        have KB : Hid (∀ u, Below wC.heap.size wC u → Calls Tryd.prog 23 #[.agg #[.int .i64 y1, .int .i64 y2, .int .i64 y3, .int .i64 y4, .int .i64 y5, .bool y6, .slice ya1 yn1 yc1, .int .i64 yp, .slice ya2 yn2 yc2]] u fun e w' => e = .returned (.agg #[.int .i64 y1, .int .i64 y2, .int .i64 y3, .int .i64 y4, .int .i64 y5, .bool y6, .slice ya1 yn1 yc1, .int .i64 yp, .slice ya2 yn2 yc2]) ∧ Below wC.heap.size wC w') := (show ∀ u, _ → _ from fun u hu => by
          refine (backWire_any u _ _ _ _ _ _ _ _ _ _ _ _ _).mono ?_
          rintro e w' ⟨rfl, hb⟩
          exact ⟨rfl, hu.trans (hb.mono hu.size)⟩)
        have KS : Hid (∀ u, Below wC.heap.size wC u → Calls Tryd.prog 22 #[.agg #[.int .i64 y1, .int .i64 y2, .int .i64 y3, .int .i64 y4, .int .i64 y5, .bool y6, .slice ya1 yn1 yc1, .int .i64 yp, .slice ya2 yn2 yc2], .agg #[.int .i64 q1, .int .i64 q2, .int .i64 q3, .int .i64 q4, .int .i64 q5, .bool q6, .slice qa1 qn1 qc1, .int .i64 qp, .slice qa2 qn2 qc2]] u fun e w' => e = .returned (.bool true) ∧ Below wC.heap.size wC w') := (show ∀ u, _ → _ from fun u hu => by
          have hwu := STC.out.duo.below.trans (hu.mono STC.out.duo.below.size)
          refine (sameRaw u ⟨y1, y2, y3, y4, y5, y6, ya1, yn1, yc1, yp, ya2, yn2, yc2⟩ ⟨q1, q2, q3, q4, q5, q6, qa1, qn1, qc1, qp, qa2, qn2, qc2⟩ oo.m (HOWNC.out.kept (Keeps.bel hu)).at_ (HQ.out.mono hwu (Nat.le_refl _)) HOK.out.lm.small).mono ?_
          rintro e w' ⟨rfl, hb⟩
          exact ⟨rfl, hu.trans (hb.mono hu.size)⟩)
        have hb0 : Below wC.heap.size wC wC.drew := (Below.refl _ _).drew
        go_region_held (fun u => u.cell? ⟨px, 0, none⟩ = some (.int .i64 y1) ∧ u.cell? ⟨px, 1, none⟩ = some (.int .i64 y2) ∧ u.cell? ⟨px, 2, none⟩ = some (.int .i64 y3) ∧ u.cell? ⟨px, 3, none⟩ = some (.int .i64 y4) ∧ u.cell? ⟨px, 4, none⟩ = some (.int .i64 y5) ∧ u.cell? ⟨px, 5, none⟩ = some (.bool y6) ∧ u.cell? ⟨px, 6, none⟩ = some (.slice ya1 yn1 yc1) ∧ u.cell? ⟨px, 7, none⟩ = some (.int .i64 yp) ∧ u.cell? ⟨px, 8, none⟩ = some (.slice ya2 yn2 yc2) ∧ u.cell? ⟨qx, 0, none⟩ = some (.int .i64 q1) ∧ u.cell? ⟨qx, 1, none⟩ = some (.int .i64 q2) ∧ u.cell? ⟨qx, 2, none⟩ = some (.int .i64 q3) ∧ u.cell? ⟨qx, 3, none⟩ = some (.int .i64 q4) ∧ u.cell? ⟨qx, 4, none⟩ = some (.int .i64 q5) ∧ u.cell? ⟨qx, 5, none⟩ = some (.bool q6) ∧ u.cell? ⟨qx, 6, none⟩ = some (.slice qa1 qn1 qc1) ∧ u.cell? ⟨qx, 7, none⟩ = some (.int .i64 qp) ∧ u.cell? ⟨qx, 8, none⟩ = some (.slice qa2 qn2 qc2)) ((refine HELD.out _ ?_; with_reducible assumption))
          (first
            | (go_at_call 16; refine (KE.out _ (by with_reducible assumption)).mono ?_; rintro e u1 ⟨rfl, hb1⟩)
            | (go_at_call 23; refine (KB.out _ (by with_reducible assumption)).mono ?_; rintro e u2 ⟨rfl, hb2⟩)
            | (go_at_call 22; refine (KS.out _ (by with_reducible assumption)).mono ?_; rintro e u3 ⟨rfl, hb3⟩))
        have STD := hid (STC.out.moved hb3)
        clear hb0 hb1 hb2 hb3 KE KB KS HELD STC HERRC HOWNC PXC QX HQ HFC HOK STA BX BXO HDO hlen
        have hlC : Hid (lC.length ≤ 1000 ∧ LC.length ≤ 1000 ∧ msC.length ≤ 1000) := (show _ ∧ _ from by
          have h1 := STD.out.len
          have h2 := STD.out.few
          have h3 := f2_len STD.out.duo.own
          have h4 := f2_len STD.out.duo.at_
          omega)
        obtain ⟨av, cw, hv2⟩ := row_shape STD.out.duo.ref.row
        subst hv2
        obtain ⟨nL, hnL⟩ : ∃ nL, nL = LC.length := ⟨_, rfl⟩
        rw [← hnL] at STD
        have c5 : u3.cell? ⟨g2, 5, none⟩ = some (.slice av nL cw) := (cell_of STD.out.duo.ref.box).trans rfl
        have HNL := hid hnL
        clear hnL
        have K14 : Hid (∀ u, Below u3.heap.size u3 u → Calls Tryd.prog 14 #[.pointer (some ⟨g, 0, none⟩)] u fun e w' => ∃ xa xk xc, e = .returned (.slice xa xk xc) ∧ Hid (∃ rs, w'.ownsRow 0 37 9 (.slice xa xk xc) rs.length (raws rs) ∧ F2 (RawAt w') rs msC) ∧ Below u3.heap.size u3 w') := (show ∀ u, _ → _ from fun u hu => by
          have hd := STD.out.duo.moved hu
          refine (again_raw u g f t s seqC timeC vC lC msC hd.snd hlC.out.1 hd.own STD.out.light).mono ?_
          rintro e w' ⟨v1, rs, rfl, hown, hf, hb⟩
          have hrl := f2_len hf
          rw [← hrl] at hown
          obtain ⟨z1, z2, rfl⟩ := row_shape hown
          exact ⟨z1, _, z2, rfl, ⟨rs, owns_base hown (Nat.zero_le _), f2_mono (fun _ _ q => q.at_) hf⟩, hu.trans (hb.mono hu.size)⟩)
        have K27 : Hid (∀ u xa xk xc, Below u3.heap.size u3 u → (∃ rs, u.ownsRow 0 37 9 (.slice xa xk xc) rs.length (raws rs) ∧ F2 (RawAt u) rs msC) → Calls Tryd.prog 27 #[.slice xa xk xc] u fun e w' => ∃ ya yk yc, e = .returned (.slice ya yk yc) ∧ Hid (MsgsAt w' (.slice ya yk yc) msC) ∧ Below u3.heap.size u3 w') := (show ∀ (u : World) (xa : Option Addr) (xk xc : Nat), _ → _ → _ from fun u xa xk xc hu hr => by
          obtain ⟨rs, hy1, hy2⟩ := hr
          have hlr := f2_len hy2
          refine (backWires_raw u 0 _ rs hy1 (by have := hlC.out.2.2; omega)).mono ?_
          rintro e w' ⟨v1, rfl, hown, hb⟩
          have hmm := msgs_of_row hown rfl (f2_mono (fun _ _ hq => hq.mono hb (Nat.le_refl _)) hy2)
          obtain ⟨z1, z2, rfl⟩ := row_shape hown
          exact ⟨z1, _, z2, rfl, hmm, hu.trans (hb.mono hu.size)⟩)
        have K26 : Hid (∀ u ya yk yc, Below u3.heap.size u3 u → MsgsAt u (.slice ya yk yc) msC → Calls Tryd.prog 26 #[.slice ya yk yc, .slice av nL cw] u fun e w' => e = .returned (.bool true) ∧ Below u3.heap.size u3 w') := (show ∀ (u : World) (ya : Option Addr) (yk yc : Nat), _ → _ → _ from fun u ya yk yc hu hm => by
          have hd := STD.out.duo.moved hu
          refine (sameMessages_same u _ _ msC hm (msgs_of_row hd.ref.row rfl (f2_mono (fun _ _ q => q.mono hd.below (Nat.le_refl _)) hd.at_)) (fun m hm => (STD.out.light m hm).small) hlC.out.2.2).mono ?_
          rintro e w' ⟨rfl, hb⟩
          exact ⟨rfl, hu.trans (hb.mono hu.size)⟩)
        have HELD5 : Hid (∀ u, Below u3.heap.size u3 u → u.cell? ⟨g2, 5, none⟩ = some (.slice av nL cw)) := (show ∀ u, _ → _ from fun u hu => by rw [hu.cell (p := ⟨g2, 5, none⟩) (lt_of_cell c5)]; exact c5)
        have hbz : Below u3.heap.size u3 u3.drew := (Below.refl _ _).drew
        go_upto_region 31 with (fail)
        go_region_held (fun u => u.cell? ⟨g2, 5, none⟩ = some (.slice av nL cw)) ((refine HELD5.out _ ?_; with_reducible assumption))
          (first
            | (go_at_call 14; refine (K14.out _ (by with_reducible assumption)).mono ?_; rintro e u6 ⟨xa, xk, xc, rfl, HRS, hb6⟩)
            | (go_at_call 27; refine (K27.out _ _ _ _ (by with_reducible assumption) HRS.out).mono ?_; rintro e u7 ⟨ya, yk, yc, rfl, HMS, hb7⟩)
            | (go_at_call 26; refine (K26.out _ _ _ _ (by with_reducible assumption) HMS.out).mono ?_; rintro e u8 ⟨rfl, hb8⟩))
        have BF := hid hb8
        go_wp2_with fail
        exact ⟨⟨i + 1, by omega, by go_num, ⟨_, _, _, _, _, _, _, STD.out.moved BF.out⟩⟩, by simp [intOf]; omega⟩

      | false =>
        obtain ⟨en, hen⟩ : ∃ en : Int, en = (ackE seq kn : Nat) := ⟨_, rfl⟩
        obtain ⟨ev, hev⟩ : ∃ ev, ev = V.errV A (ackE seq kn) := ⟨_, rfl⟩
        have hx0 : wA.drew.heap[bx]? = some (.cells #[.string kd, .slice a1 n1 c1, .int .i64 pl, .slice a2 n2 c2, .int .i64 kn] 54 (0, 0)) := BX.out
        have hd0 : Duo w f t s g g2 seq time v l ms seq time v2 L ms wA.drew := STA.out.duo.moved (Below.refl _ _).drew
        have K12 : Hid (∀ u, Duo w f t s g g2 seq time v l ms seq time v2 L ms u → u.heap[bx]? = some (.cells #[.string kd, .slice a1 n1 c1, .int .i64 pl, .slice a2 n2 c2, .int .i64 kn] 54 (0, 0)) → Calls Tryd.prog 12 #[.pointer (some ⟨g, 0, none⟩), .int .i64 kn] u fun e w' => ∃ v' l', e = .returned ev ∧ Duo w f t s g g2 seq time v' l' (ackM seq ms kn) seq time v2 L ms w' ∧ w'.heap[bx]? = some (.cells #[.string kd, .slice a1 n1 c1, .int .i64 pl, .slice a2 n2 c2, .int .i64 kn] 54 (0, 0))) := (show ∀ u, _ → _ → _ from fun u hd hx => by
          refine (prog_acked A B w HS.out f t s g g2 seq time v l ms seq time v2 L ms u hd hlen.out.1 hlen.out.2.2.1 hlen.out.2.2.2 STA.out.len kn).mono ?_
          rintro e w' ⟨v', l', rfl, hd', ho'⟩
          exact ⟨v', l', by rw [hev], hd', hd.box_prog hx (by decide) (by decide) ho'⟩)
        have K25 : Hid (∀ u v' l', Duo w f t s g g2 seq time v' l' (ackM seq ms kn) seq time v2 L ms u → u.heap[bx]? = some (.cells #[.string kd, .slice a1 n1 c1, .int .i64 pl, .slice a2 n2 c2, .int .i64 kn] 54 (0, 0)) → Calls Tryd.prog 25 #[.pointer (some ⟨g2, 0, none⟩), .int .i64 kn] u fun e w' => ∃ v2' L', e = .returned (.int .i64 en) ∧ Duo w f t s g g2 seq time v' l' (ackM seq ms kn) seq time v2' L' (ackM seq ms kn) w' ∧ w'.heap[bx]? = some (.cells #[.string kd, .slice a1 n1 c1, .int .i64 pl, .slice a2 n2 c2, .int .i64 kn] 54 (0, 0))) := (show ∀ (u : World) (v' : Value) (l' : List Raw), _ → _ → _ from fun u v' l' hd hx => by
          refine (ref_acked w f t s g g2 seq time v' l' (ackM seq ms kn) seq time v2 L ms u hd hlen.out.2.1 STA.out.runs kn).mono ?_
          rintro e w' ⟨v2', L', rfl, hd', ho'⟩
          exact ⟨v2', L', by rw [hen], hd', hd.box_ref hx (by decide) (by decide) ho'⟩)
        have K16 : Hid (∀ u v' l' v2' L', Duo w f t s g g2 seq time v' l' (ackM seq ms kn) seq time v2' L' (ackM seq ms kn) u → u.heap[bx]? = some (.cells #[.string kd, .slice a1 n1 c1, .int .i64 pl, .slice a2 n2 c2, .int .i64 kn] 54 (0, 0)) → Calls Tryd.prog 16 #[ev, .int .i64 en] u fun e w' => e = .returned (.bool true) ∧ Duo w f t s g g2 seq time v' l' (ackM seq ms kn) seq time v2' L' (ackM seq ms kn) w' ∧ w'.heap[bx]? = some (.cells #[.string kd, .slice a1 n1 c1, .int .i64 pl, .slice a2 n2 c2, .int .i64 kn] 54 (0, 0))) := (show ∀ (u : World) (v' : Value) (l' : List Raw) (v2' : Value) (L' : List Raw), _ → _ → _ from fun u v' l' v2' L' hd hx => by
          rw [hev, hen]
          refine (coded_errV A B u (HS.out.below (hd.below.mono HS.out.size)) (ackE seq kn) (by unfold ackE; split <;> omega)).mono ?_
          rintro e w' ⟨rfl, hb⟩
          exact ⟨rfl, hd.moved hb, by rw [hb.block bx (lt_of_heap hx)]; exact hx⟩)
        have HELD : Hid (∀ u : World, u.heap[bx]? = some (.cells #[.string kd, .slice a1 n1 c1, .int .i64 pl, .slice a2 n2 c2, .int .i64 kn] 54 (0, 0)) → u.cell? ⟨bx, 4, none⟩ = some (.int .i64 kn)) := (show ∀ u : World, _ → _ from fun u hu => (cell_of hu).trans rfl)
        clear hev hen
        go_upto_region 19 with (fail)
        go_region_held (fun u => u.cell? ⟨bx, 4, none⟩ = some (.int .i64 kn)) ((refine HELD.out _ ?_; with_reducible assumption))
          (first
            | (go_at_call 12; refine (K12.out _ (by with_reducible assumption) (by with_reducible assumption)).mono ?_; rintro e u1 ⟨vC, lC, rfl, hd1, hx1⟩)
            | (go_at_call 25; refine (K25.out _ _ _ (by with_reducible assumption) (by with_reducible assumption)).mono ?_; rintro e u2 ⟨v2C, LC, rfl, hd2, hx2⟩)
            | (go_at_call 16; refine (K16.out _ _ _ _ _ (by with_reducible assumption) (by with_reducible assumption)).mono ?_; rintro e u3 ⟨rfl, hd3, hx3⟩))
        have STC0 := hid (STA.out.acked hd3)
        obtain ⟨msC, hmsC⟩ : ∃ msC, msC = ackM seq ms kn := ⟨_, rfl⟩
        obtain ⟨seqC, hseqC⟩ : ∃ seqC, seqC = seq := ⟨_, rfl⟩
        obtain ⟨timeC, htimeC⟩ : ∃ timeC, timeC = time := ⟨_, rfl⟩
        have STC : Hid (Sst w f t s g g2 (i + 1) seqC timeC vC lC msC v2C LC u3) := (show Sst _ _ _ _ _ _ _ _ _ _ _ _ _ _ _ from by rw [hmsC, hseqC, htimeC]; exact STC0.out)
        clear hmsC hseqC htimeC STC0 hd0 hd1 hd2 hd3 hx0 hx1 hx2 hx3 K12 K25 K16 HELD STA BX f0 f1 f2 f3 f4 hlen
        have hlC : Hid (lC.length ≤ 1000 ∧ LC.length ≤ 1000 ∧ msC.length ≤ 1000) := (show _ ∧ _ from by
          have h1 := STC.out.len
          have h2 := STC.out.few
          have h3 := f2_len STC.out.duo.own
          have h4 := f2_len STC.out.duo.at_
          omega)
        obtain ⟨av, cw, hv2⟩ := row_shape STC.out.duo.ref.row
        subst hv2
        obtain ⟨nL, hnL⟩ : ∃ nL, nL = LC.length := ⟨_, rfl⟩
        rw [← hnL] at STC
        have c5 : u3.cell? ⟨g2, 5, none⟩ = some (.slice av nL cw) := (cell_of STC.out.duo.ref.box).trans rfl
        have HNL := hid hnL
        clear hnL
        have K14 : Hid (∀ u, Below u3.heap.size u3 u → Calls Tryd.prog 14 #[.pointer (some ⟨g, 0, none⟩)] u fun e w' => ∃ xa xk xc, e = .returned (.slice xa xk xc) ∧ Hid (∃ rs, w'.ownsRow 0 37 9 (.slice xa xk xc) rs.length (raws rs) ∧ F2 (RawAt w') rs msC) ∧ Below u3.heap.size u3 w') := (show ∀ u, _ → _ from fun u hu => by
          have hd := STC.out.duo.moved hu
          refine (again_raw u g f t s seqC timeC vC lC msC hd.snd hlC.out.1 hd.own STC.out.light).mono ?_
          rintro e w' ⟨v1, rs, rfl, hown, hf, hb⟩
          have hrl := f2_len hf
          rw [← hrl] at hown
          obtain ⟨z1, z2, rfl⟩ := row_shape hown
          exact ⟨z1, _, z2, rfl, ⟨rs, owns_base hown (Nat.zero_le _), f2_mono (fun _ _ q => q.at_) hf⟩, hu.trans (hb.mono hu.size)⟩)
        have K27 : Hid (∀ u xa xk xc, Below u3.heap.size u3 u → (∃ rs, u.ownsRow 0 37 9 (.slice xa xk xc) rs.length (raws rs) ∧ F2 (RawAt u) rs msC) → Calls Tryd.prog 27 #[.slice xa xk xc] u fun e w' => ∃ ya yk yc, e = .returned (.slice ya yk yc) ∧ Hid (MsgsAt w' (.slice ya yk yc) msC) ∧ Below u3.heap.size u3 w') := (show ∀ (u : World) (xa : Option Addr) (xk xc : Nat), _ → _ → _ from fun u xa xk xc hu hr => by
          obtain ⟨rs, hy1, hy2⟩ := hr
          have hlr := f2_len hy2
          refine (backWires_raw u 0 _ rs hy1 (by have := hlC.out.2.2; omega)).mono ?_
          rintro e w' ⟨v1, rfl, hown, hb⟩
          have hmm := msgs_of_row hown rfl (f2_mono (fun _ _ hq => hq.mono hb (Nat.le_refl _)) hy2)
          obtain ⟨z1, z2, rfl⟩ := row_shape hown
          exact ⟨z1, _, z2, rfl, hmm, hu.trans (hb.mono hu.size)⟩)
        have K26 : Hid (∀ u ya yk yc, Below u3.heap.size u3 u → MsgsAt u (.slice ya yk yc) msC → Calls Tryd.prog 26 #[.slice ya yk yc, .slice av nL cw] u fun e w' => e = .returned (.bool true) ∧ Below u3.heap.size u3 w') := (show ∀ (u : World) (ya : Option Addr) (yk yc : Nat), _ → _ → _ from fun u ya yk yc hu hm => by
          have hd := STC.out.duo.moved hu
          refine (sameMessages_same u _ _ msC hm (msgs_of_row hd.ref.row rfl (f2_mono (fun _ _ q => q.mono hd.below (Nat.le_refl _)) hd.at_)) (fun m hm => (STC.out.light m hm).small) hlC.out.2.2).mono ?_
          rintro e w' ⟨rfl, hb⟩
          exact ⟨rfl, hu.trans (hb.mono hu.size)⟩)
        have HELD5 : Hid (∀ u, Below u3.heap.size u3 u → u.cell? ⟨g2, 5, none⟩ = some (.slice av nL cw)) := (show ∀ u, _ → _ from fun u hu => by rw [hu.cell (p := ⟨g2, 5, none⟩) (lt_of_cell c5)]; exact c5)
        have hbz : Below u3.heap.size u3 u3.drew := (Below.refl _ _).drew
        go_upto_region 31 with (fail)
        go_region_held (fun u => u.cell? ⟨g2, 5, none⟩ = some (.slice av nL cw)) ((refine HELD5.out _ ?_; with_reducible assumption))
          (first
            | (go_at_call 14; refine (K14.out _ (by with_reducible assumption)).mono ?_; rintro e u6 ⟨xa, xk, xc, rfl, HRS, hb6⟩)
            | (go_at_call 27; refine (K27.out _ _ _ _ (by with_reducible assumption) HRS.out).mono ?_; rintro e u7 ⟨ya, yk, yc, rfl, HMS, hb7⟩)
            | (go_at_call 26; refine (K26.out _ _ _ _ (by with_reducible assumption) HMS.out).mono ?_; rintro e u8 ⟨rfl, hb8⟩))
        have BF := hid hb8
        go_wp2_with fail
        exact ⟨⟨i + 1, by omega, by go_num, ⟨_, _, _, _, _, _, _, STC.out.moved BF.out⟩⟩, by simp [intOf]; omega⟩
    · obtain rfl : i = n := by omega
      obtain ⟨seq, time, v, l, ms, v2, L, hst⟩ := HST.out
      have BF := hid hst.duo.below
      clear hst HST
      go_wp2_with fail
      go_ret
      exact ⟨rfl, BF.out⟩
theorem sends_walk (A : Nat → Addr) (B : Nat) (w : World) (hS : Sents A B w) (f t s : Int) (v : Value) (xs : List ActV) (h : ActsAt w v xs) :
    Calls Tryd.prog 4 #[.int .i64 f, .int .i64 t, .int .i64 s, v] w fun e w' => e = .returned (.bool true) ∧ Below w.heap.size w w' := by
  have h' := h
  obtain ⟨a, c, rfl, _⟩ := h
  exact sends_in A B w hS f t s a _ c xs h' rfl
end Go.Proofs.YtcojglkjbbgoaaaDoor
