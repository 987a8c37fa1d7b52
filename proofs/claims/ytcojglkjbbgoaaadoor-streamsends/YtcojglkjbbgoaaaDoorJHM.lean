/- StreamHears: the walk. -/
import Derived.Test.YtcojglkjbbgoaaaDoorJHI
import Derived.Deep.RegionHeld
namespace Go.Proofs.YtcojglkjbbgoaaaDoor
open Go.RowKit Go.Maps
set_option maxRecDepth 100000

/-- WireOf, of cells. -/
theorem wireOf_raw (w : World) (r : Raw) (m : MsgV) (h : RawAt w r m) (hL : Light m.c) : Calls Tryd.prog 29 #[.agg r.cells.toArray] w fun e w' => ∃ r' : Raw, e = .returned (.agg r'.cells.toArray) ∧ RawOwn w.heap.size w' r' m ∧ Below w.heap.size w w' := by
  obtain ⟨y1, y2, y3, y4, y5, y6, a1, n1, c1, p, a2, n2, c2⟩ := r
  obtain ⟨⟨e1, e2, e3, e4, e5, e6, ep⟩, hw, ho⟩ := h
  simp only at e1 e2 e3 e4 e5 e6 ep hw ho
  subst e1 e2 e3 e4 e5 e6 ep
  refine (wireOf_any w m _ _ hw ho hL).mono ?_
  rintro e w' ⟨b1, d1, b2, d2, rfl, hown, hb⟩
  exact ⟨⟨m.frm, m.to_, m.shard, m.seq, m.time, m.beat, b1, m.c.when_.length, d1, m.c.place, b2, m.c.ops.length, d2⟩, rfl, ⟨⟨rfl, rfl, rfl, rfl, rfl, rfl, rfl⟩, hown⟩, hb⟩
theorem P1.below {w : World} {f t s : Int} {g mb g2 i q : Nat} {seq time : Int} {M : Int → Option Raw} {N : Int → Option MsgV} {v : Value} {L : List Raw} {m : MsgV} {wr : World} {c : Nat} {xv : Value} {w1 : World} (hp : P1 g mb q f t s seq time M m wr c xv w1) (h : Str w f t s g mb g2 i q seq time M N v L wr) : Below w.heap.size w w1 := by
  rcases hp with ⟨_, _, hb⟩ | ⟨_, hn⟩
  · exact h.below.trans (hb.mono h.below.size)
  · obtain ⟨_, _, _, _, _, _, _, _, ho, _⟩ := hn
    have hs := h.below.size
    have h1 := h.g0
    have h2 := h.m0
    exact ⟨ho.os.trans h.below.os, ho.tape.trans h.below.tape, ho.output.trans h.below.output, Nat.le_trans hs ho.size, fun k hk => by rw [ho.block k (by omega) (by omega) (by omega)]; exact h.below.block k hk⟩
theorem str_start {w w1 w2 : World} {f t s : Int} {g mb : Nat} (h1 : Below w.heap.size w w1) (hg : w1.heap.size ≤ g) (hm : w1.heap.size ≤ mb) (hne : g ≠ mb) (hr : RcvM w2 g mb 0 f t s 0 0 (fun _ => none)) (h2 : Below w1.heap.size w1 w2) : Str w f t s g mb w2.heap.size 0 0 0 0 (fun _ => none) (fun _ => none) (.slice none 0 0) [] (w2.alloc (.cells #[.int .i64 f, .int .i64 t, .int .i64 s, .int .i64 0, .int .i64 0, .slice none 0 0] 76)) := by
  have hs1 := h1.size
  have hs2 := h2.size
  have hgl := lt_of_heap hr.box
  have hml := hr.mlt
  have hb := h1.trans (h2.mono hs1)
  refine ⟨hb.alloc (by omega) _, hr.below (below_alloc _ _), ⟨heap_new _ _, World.ownsRow_nil _ _ _ _⟩, by omega, by omega, by omega, hne, by omega, by omega, (fun b h => by cases h), ⟨(fun k r h => by cases h), fun k _ => rfl⟩, ⟨(fun r h => by cases h), (fun k m h => by cases h), by simp⟩, (fun k m h => by cases h), rfl, Int.le_refl _, by simp, Nat.le_refl _⟩
set_option maxHeartbeats 4000000 in
theorem hears_in (A : Nat → Addr) (B : Nat) (w : World) (hS : Sents A B w) (f t s : Int) (a : Option Addr) (n c : Nat) (ms : List MsgV) (h : MsgsAt w (.slice a n c) ms) (hn : n = ms.length) (h64 : ∀ m ∈ ms, n64 m.seq) :
    Calls Tryd.prog 6 #[.int .i64 f, .int .i64 t, .int .i64 s, .slice a n c] w fun e w' => e = .returned (.bool true) ∧ Below w.heap.size w w' := by
  have H := hid h
  have H64 := hid h64
  have HS := hid hS
  have HN := hid hn
  clear h h64 hS hn
  go_enter Tryd.func6, Tryd.ntmps6
  go_wp2_with fail
  refine (sent_ok w).mono ?_
  rintro e w0 ⟨rfl, hb0⟩
  have B0 := hid hb0
  clear hb0
  go_wp2_with fail
  refine (fit_any w0 _ ms 60 (H.out.mono B0.out (Nat.le_refl _)) (by omega)).mono ?_
  rintro e w1 ⟨he, hb1⟩
  have B1 := hid (B0.out.trans (hb1.mono B0.out.size))
  clear hb1
  rcases he with rfl | ⟨rfl, hl60, hlight⟩
  · go_wp2_with fail
    go_ret
    exact ⟨rfl, B1.out⟩
  have HL := hid hlight
  have hn60 : n ≤ 60 := by have := HN.out; omega
  clear hl60 hlight
  have KW := hid (wayError_any f t s w1)
  obtain ⟨we, hwe⟩ : ∃ we, we = wayE f t s := ⟨_, rfl⟩
  rw [← hwe] at KW
  have HWE := hid hwe
  clear hwe
  go_wp2_with fail
  refine KW.out.mono ?_
  rintro e w1' ⟨rfl, hw1'⟩
  subst hw1'
  by_cases hwp : 0 < we
  · go_wp2_with fail
    go_ret
    exact ⟨rfl, B1.out⟩
  have hway : WayOk f t s := wayE_ok (by have := wayE_pos (f := f) (t := t) (s := s); have := HWE.out; omega)
  have KR := hid (newReceiver_raw f t s w1' hway)
  clear KW HWE hway
  go_wp2_with fail
  refine KR.out.mono ?_
  rintro e w2 ⟨g, mb, hg, hmb, hgm, rfl, hrc, hb2⟩
  have ST0 := hid (str_start B1.out hg hmb hgm hrc hb2)
  clear hg hmb hgm hrc hb2 KR
  go_wp2_with fail
  generalize hw3 : World.alloc _ _ = w3
  have ST1 : Hid (Str w f t s g mb w2.heap.size 0 0 0 0 (fun _ => none) (fun _ => none) (.slice none 0 0) [] w3) := (show Str _ _ _ _ _ _ _ _ _ _ _ _ _ _ _ _ from by rw [← hw3]; exact ST0.out)
  clear hw3 ST0
  obtain ⟨g2, hg2⟩ : ∃ g2, g2 = w2.heap.size := ⟨_, rfl⟩
  rw [← hg2] at ST1 ⊢
  clear hg2
  go_loopw [13] (fun iv wr => ∃ i : Nat, i ≤ n ∧ iv = .int .i64 i ∧ Hid (∃ (q : Nat) (seq time : Int) (M : Int → Option Raw) (N : Int → Option MsgV) (v : Value) (L : List Raw), Str w f t s g mb g2 i q seq time M N v L wr)) (fun iv _ => n - (intOf iv).toNat)
  case atStart => exact ⟨0, Nat.zero_le _, rfl, ⟨_, _, _, _, _, _, _, ST1.out⟩⟩
  case round =>
    obtain ⟨i, hin, rfl, HST⟩ := hrel
    by_cases hlt : i < n
    · obtain ⟨q, seq, time, M, N, v, L, hst⟩ := HST.out
      have ST := hid hst
      clear hst HST ST1
      obtain ⟨m, hm⟩ : ∃ m, ms[i]? = some m := ⟨_, List.getElem?_eq_getElem (by rw [← HN.out]; exact hlt)⟩
      obtain ⟨r, b, o, rfl, hra, hrc⟩ := H.out.at_ hm
      have HMm := hid (List.mem_of_getElem? hm)
      have HRA := hid hra
      have HRC : Hid (∀ u, Below w.heap.size w u → ∀ (j : Nat) (x : Value), r.cells[j]? = some x → u.cell? ⟨b, o + i * 9 + j, none⟩ = some x) := (show ∀ u, _ → _ from fun u hu j x hx => by have e := hrc j x hx; rw [hu.cell (p := ⟨b, o + i * 9 + j, none⟩) (lt_of_cell e)]; exact e)
      have KO := hid (wireOf_raw wr r m (HRA.out.mono ST.out.below (Nat.le_refl _)) (HL.out m HMm.out))
      obtain ⟨x1, x2, x3, x4, x5, x6, a1, n1, c1, p, a2, n2, c2⟩ := r
      unfold Raw.cells at KO
      simp only at KO
      have e0 : wr.cell? ⟨b, o + i * 9, none⟩ = some (.int .i64 x1) := HRC.out wr ST.out.below 0 _ rfl
      have e1 := HRC.out wr ST.out.below 1 (.int .i64 x2) rfl
      have e2 := HRC.out wr ST.out.below 2 (.int .i64 x3) rfl
      have e3 := HRC.out wr ST.out.below 3 (.int .i64 x4) rfl
      have e4 := HRC.out wr ST.out.below 4 (.int .i64 x5) rfl
      have e5 := HRC.out wr ST.out.below 5 (.bool x6) rfl
      have e6 := HRC.out wr ST.out.below 6 (.slice a1 n1 c1) rfl
      have e7 := HRC.out wr ST.out.below 7 (.int .i64 p) rfl
      have e8 := HRC.out wr ST.out.below 8 (.slice a2 n2 c2) rfl
      have hi1 : (i : Int) < (n : Int) := by omega
      clear hra hrc hm
      go_wp2_with fail
      refine KO.out.mono ?_
      rintro e wA ⟨r', rfl, hrow', hbA⟩
      have STA := hid (ST.out.moved hbA)
      have KH := hid (prog_hear A B w HS.out f t s g mb g2 i q seq time M N v L wA STA.out (by omega) r' m hrow'.at_ (HL.out m HMm.out) (H64.out m HMm.out))
      obtain ⟨ev, hev⟩ : ∃ ev, ev = (errOf A (clsOf f t s seq N m)).1 := ⟨_, rfl⟩
      rw [← hev] at KH
      have HEV := hid hev
      clear hrow' hbA hev e0 e1 e2 e3 e4 e5 e6 e7 e8 KO
      go_wp2_with fail
      refine KH.out.mono ?_
      rintro e wB ⟨xv, rfl, hp1⟩
      have PP := hid hp1
      have BB := hid (hp1.below STA.out)
      have KR := hid (ref_hear A w f t s g mb g2 i q seq time M N v L wA STA.out (by omega) m (HL.out m HMm.out) xv wB PP.out ⟨x1, x2, x3, x4, x5, x6, a1, n1, c1, p, a2, n2, c2⟩ HRA.out)
      obtain ⟨en, hen⟩ : ∃ en, en = (errOf A (clsOf f t s seq N m)).2 := ⟨_, rfl⟩
      rw [← hen] at KR
      have HEN := hid hen
      unfold Raw.cells at KR
      simp only at KR
      have e0 : wB.cell? ⟨b, o + i * 9, none⟩ = some (.int .i64 x1) := HRC.out wB BB.out 0 _ rfl
      have e1 := HRC.out wB BB.out 1 (.int .i64 x2) rfl
      have e2 := HRC.out wB BB.out 2 (.int .i64 x3) rfl
      have e3 := HRC.out wB BB.out 3 (.int .i64 x4) rfl
      have e4 := HRC.out wB BB.out 4 (.int .i64 x5) rfl
      have e5 := HRC.out wB BB.out 5 (.bool x6) rfl
      have e6 := HRC.out wB BB.out 6 (.slice a1 n1 c1) rfl
      have e7 := HRC.out wB BB.out 7 (.int .i64 p) rfl
      have e8 := HRC.out wB BB.out 8 (.slice a2 n2 c2) rfl
      clear hp1 hen KH
      go_wp2_with fail
      refine KR.out.mono ?_
      rintro e wC ⟨yv, out, rfl, hmid⟩
      have MID := hid hmid
      obtain ⟨q', seq', time', M', N', v', L', hst'⟩ := hmid.str
      have STC := hid hst'
      clear hmid hst' KR e0 e1 e2 e3 e4 e5 e6 e7 e8
      have K16 : Hid (∀ u, Below wC.heap.size wC u → Calls Tryd.prog 16 #[ev, .int .i64 en] u fun e w' => e = .returned (.bool true) ∧ Below wC.heap.size wC w') := (show ∀ u, _ → _ from fun u hu => by
        have hwu := STC.out.below.trans (hu.mono STC.out.below.size)
        have hc := coded_cls A B (clsOf f t s seq N m) u (HS.out.below (hwu.mono HS.out.size))
        rw [← HEV.out, ← HEN.out] at hc
        refine hc.mono ?_
        rintro e w' ⟨rfl, hb⟩
        exact ⟨rfl, hu.trans (hb.mono hu.size)⟩)
      have K27 : Hid (∀ u, Below wC.heap.size wC u → Calls Tryd.prog 27 #[xv] u fun e w' => ∃ a1 k1 c1, e = .returned (.slice a1 k1 c1) ∧ Hid (MsgsAt w' (.slice a1 k1 c1) out) ∧ Below wC.heap.size wC w') := (show ∀ u, _ → _ from fun u hu => by
        obtain ⟨base, rs, hy1, hy2⟩ := MID.out.y
        have hlr := f2_len hy2
        have hle := MID.out.len
        rw [← hlr] at hy1
        refine (backWires_raw u base xv rs (owns_at hy1 fun k _ h2 => hu.block k h2) (by omega)).mono ?_
        rintro e w' ⟨v1, rfl, hown, hb⟩
        have hb' := hu.trans (hb.mono hu.size)
        have hmm := msgs_of_row hown rfl (f2_mono (fun _ _ hq => hq.mono hb' (Nat.le_refl _)) hy2)
        obtain ⟨z1, z2, rfl⟩ := row_shape hown
        exact ⟨z1, _, z2, rfl, hmm, hb'⟩)
      have K26 : Hid (∀ u a1 k1 c1, Below wC.heap.size wC u → MsgsAt u (.slice a1 k1 c1) out → Calls Tryd.prog 26 #[.slice a1 k1 c1, yv] u fun e w' => e = .returned (.bool true) ∧ Below wC.heap.size wC w') := (show ∀ (u : World) (a1 : Option Addr) (k1 c1 : Nat), _ → _ → _ from fun u a1 k1 c1 hu hm => by
        refine (sameMessages_same u _ _ out hm (MID.out.x.mono hu (Nat.le_refl _)) MID.out.small MID.out.len).mono ?_
        rintro e w' ⟨rfl, hb⟩
        exact ⟨rfl, hu.trans (hb.mono hu.size)⟩)
      have K13 : Hid (∀ u, Below wC.heap.size wC u → Calls Tryd.prog 13 #[.pointer (some ⟨g, 0, none⟩)] u fun e w' => e = .returned (.int .i64 seq') ∧ Below wC.heap.size wC w') := (show ∀ u, _ → _ from fun u hu => by
        refine (rseq_raw u g mb q' f t s seq' time' M' (STC.out.rcv.below hu)).mono ?_
        rintro e w' ⟨rfl, rfl⟩
        exact ⟨rfl, hu⟩)
      have K31 : Hid (∀ u, Below wC.heap.size wC u → Calls Tryd.prog 31 #[.pointer (some ⟨g, 0, none⟩)] u fun e w' => e = .returned (.int .i64 time') ∧ Below wC.heap.size wC w') := (show ∀ u, _ → _ from fun u hu => by
        refine (rtime_raw u g mb q' f t s seq' time' M' (STC.out.rcv.below hu)).mono ?_
        rintro e w' ⟨rfl, rfl⟩
        exact ⟨rfl, hu⟩)
      have HELD : Hid (∀ u, Below wC.heap.size wC u → u.cell? ⟨g2, 3, none⟩ = some (.int .i64 seq') ∧ u.cell? ⟨g2, 4, none⟩ = some (.int .i64 time')) := (show ∀ u, _ → _ from fun u hu => by
        have hq := (hu.block _ (lt_of_heap STC.out.ref.box)).trans STC.out.ref.box
        exact ⟨(cell_of hq).trans rfl, (cell_of hq).trans rfl⟩)
      have hb0 : Below wC.heap.size wC wC.drew := (Below.refl _ _).drew
      have b1 : (seq' != seq') = false := by simp
      have b2 : (time' != time') = false := by simp
      clear MID PP BB HEV HEN HRA HRC STA ST
      go_upto_region 13 with (fail)
      go_region_held (fun u => u.cell? ⟨g2, 3, none⟩ = some (.int .i64 seq') ∧ u.cell? ⟨g2, 4, none⟩ = some (.int .i64 time')) ((refine HELD.out _ ?_; with_reducible assumption))
        (first
          | (go_at_call 16; refine (K16.out _ (by with_reducible assumption)).mono ?_; rintro e u1 ⟨rfl, hb1⟩)
          | (go_at_call 27; refine (K27.out _ (by with_reducible assumption)).mono ?_; rintro e u2 ⟨ya, yk, yc, rfl, HMS, hb2⟩)
          | (go_at_call 26; refine (K26.out _ _ _ _ (by with_reducible assumption) HMS.out).mono ?_; rintro e u3 ⟨rfl, hb3⟩)
          | (go_at_call 13; refine (K13.out _ (by with_reducible assumption)).mono ?_; rintro e u4 ⟨rfl, hb4⟩)
          | (go_at_call 31; refine (K31.out _ (by with_reducible assumption)).mono ?_; rintro e u5 ⟨rfl, hb5⟩))
      have BF := hid hb5
      go_wp2_with fail
      exact ⟨⟨i + 1, by omega, by go_num, ⟨_, _, _, _, _, _, _, STC.out.moved BF.out⟩⟩, by simp [intOf]; omega⟩
    · obtain rfl : i = n := by omega
      obtain ⟨q, seq, time, M, N, v, L, hst⟩ := HST.out
      have BF := hid hst.below
      clear hst HST
      go_wp2_with fail
      go_ret
      exact ⟨rfl, BF.out⟩
theorem hears_walk (A : Nat → Addr) (B : Nat) (w : World) (hS : Sents A B w) (f t s : Int) (v : Value) (ms : List MsgV) (h : MsgsAt w v ms) (h64 : ∀ m ∈ ms, n64 m.seq) :
    Calls Tryd.prog 6 #[.int .i64 f, .int .i64 t, .int .i64 s, v] w fun e w' => e = .returned (.bool true) ∧ Below w.heap.size w w' := by
  have h' := h
  obtain ⟨_, a, c, rfl, _⟩ := h
  exact hears_in A B w hS f t s a _ c ms h' rfl h64
end Go.Proofs.YtcojglkjbbgoaaaDoor
