/- The reference's Unwire. -/
import Derived.Test.YtkonjpcgfdcfbaaDoorJXUn0
import Derived.Deep.CutBlock
import Derived.Deep.DeepCutAuto
namespace Go.Proofs.YtkonjpcgfdcfbaaDoor
open Go.RowKit
set_option maxRecDepth 100000

theorem rmany_le {b : Nat} {w : World} {q : Option (List UInt8)} (h : Rq b w (gl (q.bind cntP))) : gv 0 (q.bind cntP) ≤ 6000 := by
  cases hq : q.bind cntP with
  | none => exact Nat.zero_le _
  | some y =>
    obtain ⟨n, l⟩ := y
    rw [hq] at h
    cases q with
    | none => cases hq
    | some l0 =>
      have := (cnt_some hq).2
      exact Nat.le_trans this h.2
theorem Un.start {wA : World} {t : List UInt8} (ht : t.length ≤ 6000) {z : List Value} (hz : z.length = 9) {wz : World} (hw : wz = ((wA.alloc (.cells #[.string ⟨t.toArray⟩, .bool false] 71)).alloc (.cells z.toArray 27)).setCells (wA.heap.size + 1) 0 [.int .i64 0, .int .i64 0, .int .i64 0, .int .i64 0, .int .i64 0, .bool false, .slice none 0 0, .int .i64 0, .slice none 0 0])
    (hc : ∀ j (hj : j < ([.int .i64 0, .int .i64 0, .int .i64 0, .int .i64 0, .int .i64 0, .bool false, .slice none 0 0, .int .i64 0, .slice none 0 0] : List Value).length), wz.cell? ⟨wA.heap.size + 1, j, none⟩ = some ([.int .i64 0, .int .i64 0, .int .i64 0, .int .i64 0, .int .i64 0, .bool false, .slice none 0 0, .int .i64 0, .slice none 0 0] : List Value)[j]) : Un wA ⟨0, 0, 0, 0, 0, false, ⟨[], 0, []⟩⟩ (.slice none 0 0) (.slice none 0 0) (some t) wz := by
  subst hw
  have hs : (wA.alloc (.cells #[.string ⟨t.toArray⟩, .bool false] 71)).heap.size = wA.heap.size + 1 := by simp
  have hb := box_sets (w1 := wA.alloc (.cells #[.string ⟨t.toArray⟩, .bool false] 71)) (z := z) (t := 27) (cs := [.int .i64 0, .int .i64 0, .int .i64 0, .int .i64 0, .int .i64 0, .bool false, .slice none 0 0, .int .i64 0, .slice none 0 0]) (by rw [hz]; rfl) (by rw [hs]; exact hc)
  rw [hs] at hb
  refine ⟨⟨?_, ht⟩, ?_, hb, World.ownsRow_nil _ _ _ _, [], World.ownsRow_nil _ _ _ _, trivial⟩
  · rw [setCells_other _ _ _ _ _ (by omega), Below.heap_alloc _ _ _ (by rw [hs]; omega)]
    exact heap_new _ _
  · exact below_setCells (by omega) _ _ (((Below.refl _ _).alloc (Nat.le_refl _) _).alloc (by rw [hs]; omega) _)
theorem whole_of {t : List UInt8} {q6 qE : Option (List UInt8)} {x1 x2 x3 x4 x5 : Int} {x6 : Bool} {c : ComV} (h6 : msgP t = q6.bind (msF x1 x2 x3 x4 x5 x6)) (hc : q6.bind comP = qE.bind fun l => some (c, l)) : wholeP t = qE.bind fun l => if l = [] then some ⟨x1, x2, x3, x4, x5, x6, c⟩ else none := by
  have e : msgP t = (q6.bind comP).bind fun y => some (⟨x1, x2, x3, x4, x5, x6, y.1⟩, y.2) := by rw [h6]; cases q6 <;> rfl
  unfold wholeP
  rw [e, hc]
  cases qE <;> rfl
theorem bad_cell {b : Nat} {w : World} {q : Option (List UInt8)} (h : Rq b w q) : w.cell? ⟨b, 1, none⟩ = some (.bool q.isNone) := by
  obtain ⟨l, h1, _⟩ := h.box
  rw [cell_of h1]; rfl
/-- How Unwire ends. -/
def UnPost (w : World) (p : Option MsgV) (e : Ending) (w' : World) : Prop :=
  (∃ m a1 c1 a2 c2, p = some m ∧ e = .returned (.tuple #[.agg #[.int .i64 m.frm, .int .i64 m.to_, .int .i64 m.shard, .int .i64 m.seq, .int .i64 m.time, .bool m.beat, .slice a1 m.c.when_.length c1, .int .i64 m.c.place, .slice a2 m.c.ops.length c2], .int .i64 0]) ∧ ComOwn w.heap.size w' (.slice a1 m.c.when_.length c1) (.slice a2 m.c.ops.length c2) m.c ∧ Below w.heap.size w w') ∨
  (p = none ∧ e = .returned (.tuple #[.agg #[.int .i64 0, .int .i64 0, .int .i64 0, .int .i64 0, .int .i64 0, .bool false, .slice none 0 0, .int .i64 0, .slice none 0 0], .int .i64 1]) ∧ Below w.heap.size w w')
theorem On.start2 {b : Nat} {wr wz : World} {q : Option (List UInt8)} (hr : Rq b wr q) (hb : b < wr.heap.size) (z : List Value) (o : OpV) (ho : o.dots = []) (hz : (opCells o (.slice none 0 0)).length = z.length) (hw : wz = (wr.alloc (.cells z.toArray 52)).setCells wr.heap.size 0 (opCells o (.slice none 0 0))) (hc : ∀ j (hj : j < (opCells o (.slice none 0 0)).length), wz.cell? ⟨wr.heap.size, j, none⟩ = some (opCells o (.slice none 0 0))[j]) : On b wr o (.slice none 0 0) q wz := by
  subst hw
  exact On.start hr hb z o ho hz hc
theorem Dn.start2 {b : Nat} {w1 wz : World} {q : Option (List UInt8)} (hr : Rq b w1 q) (hb : b < w1.heap.size) (z cs : List Value) (hz : cs.length = z.length) (hw : wz = (w1.alloc (.cells z.toArray 62)).setCells w1.heap.size 0 cs) (hc : ∀ j (hj : j < cs.length), wz.cell? ⟨w1.heap.size, j, none⟩ = some cs[j]) : Dn b w1 cs q wz := by
  subst hw
  exact Dn.start hr hb z cs hz hc
theorem On.cell6 {b : Nat} {wr wk w : World} {o : OpV} {dv : Value} {q q1 : Option (List UInt8)} {cs : List Value} (h : On b wr o dv q wk) (hd : Dn b wk cs q1 w) : w.cell? ⟨wr.heap.size, 6, none⟩ = some dv := by
  have hsz := h.size
  have hlt := h.lt
  rw [World.cell?_of_block (w := wk) (hd.aside.block _ (by show wr.heap.size < _; omega) (by show wr.heap.size ≠ _; omega)), cell_of h.box]
  rfl
theorem On.rowAt {b : Nat} {wr wk w : World} {o : OpV} {dv : Value} {q q1 : Option (List UInt8)} {cs : List Value} (h : On b wr o dv q wk) (hd : Dn b wk cs q1 w) : w.ownsRow (wr.heap.size + 1) 62 3 dv o.dots.length (o.dots.flatMap D3.cells) :=
  owns_at h.row fun g h1 h2 => hd.aside.block g h2 (by have := h.lt; omega)
theorem dots3_one (x y z : Int) : ∀ u ∈ ([.int .i64 x, .int .i64 y, .int .i64 z] : List Value), u.oneCell' = true := dots_one ⟨x, y, z⟩

set_option maxHeartbeats 16000000 in
theorem unwire_main (w : World) (l t : List UInt8) (h6 : ¬ 6000 < l.length) (h4 : ¬ l.length < 4) (ht : t = l.take (l.length - 4)) (hs : sum4 t = l.drop (l.length - 4)) :
    Calls Tryd.prog 16 #[.string ⟨l.toArray⟩] w (UnPost w (wholeP t)) := by
  obtain ⟨i3, hi3, hx0, hx1, hx2⟩ := info_parts Tryd.info3
  obtain ⟨i52, hi52, hy0, hy1, hy2⟩ := info_parts Tryd.info52
  obtain ⟨i62, hi62, hz0, hz1, hz2⟩ := info_parts Tryd.info62
  have HT := hid ht
  have hl : t.length ≤ 6000 := by rw [ht, List.length_take]; omega
  have HL := hid hl
  have K := hid (fun W => rsum_any W t (by omega))
  have H4 : Hid (sum4 t = [oct ((sumN t : Nat) / 16777216 : Int) 0, oct ((sumN t : Nat) / 65536 : Int) 0, oct ((sumN t : Nat) / 256 : Int) 0, oct (sumN t : Nat) 0]) := by
    show sum4 t = _
    rw [oct_sum1]
    have e1 := oct_sum (sumN t) 16777216
    have e2 := oct_sum (sumN t) 65536
    have e3 := oct_sum (sumN t) 256
    simp only [Int.cast_ofNat_Int] at e1 e2 e3
    rw [e1, e2, e3]
    rfl
  have HS := hid hs
  have hn0 := sumN_lt t
  have i1 : (0 : Int) ≤ (l.length : Int) - 4 := by omega
  have i2 : (l.length : Int) - 4 ≤ (l.length : Int) := by omega
  have i4 : (4 : Int) ≤ (l.length : Int) := by omega
  have i5 : 4 ≤ l.length := by omega
  have i6 : IntKind.i64.wrap ((l.length : Int) - 4) = (l.length : Int) - 4 := by rw [wr_i64, i64_of (by unfold In64; omega)]
  have i7 : ((l.length : Int) - 4).toNat = l.length - 4 := by omega
  clear ht hs hl
  obtain ⟨wb, hw1⟩ : ∃ w1, w1 = (w.alloc (.cells #[.int .i64 0, .int .i64 0, .int .i64 0, .int .i64 0, .int .i64 0, .bool false, .slice none 0 0, .int .i64 0, .slice none 0 0] 27)) := ⟨_, rfl⟩
  have HW1 := hid hw1
  go_enter Tryd.func16, Tryd.ntmps16
  go_wp2_with fail
  rw [ext_take, ← HT.out, ← hw1]
  clear hw1
  refine (K.out _).mono ?_
  rintro e w2 ⟨rfl, h21⟩
  subst h21
  obtain ⟨n, hn⟩ : ∃ n, n = sumN t := ⟨_, rfl⟩
  rw [← hn] at H4 hn0 ⊢
  clear hn
  have hcat : (((⟨#[oct ((n : Int) / 16777216) 0]⟩ : ByteArray) ++ ⟨#[oct ((n : Int) / 65536) 0]⟩) ++ ⟨#[oct ((n : Int) / 256) 0]⟩) ++ ⟨#[oct (n : Int) 0]⟩ = ⟨(sum4 t).toArray⟩ := by rw [H4.out]; rfl
  have hext : (⟨l.toArray⟩ : ByteArray).extract (l.length - 4) l.length = ⟨(sum4 t).toArray⟩ := by rw [ext_drop, HS.out]
  have KB : Hid (∀ (u : World) (x : Int), Below w2.heap.size w2 u → Calls Tryd.prog 15 #[.int .i64 x] u fun e w' => e = .returned (.string ⟨#[oct x 0]⟩) ∧ Below w2.heap.size w2 w') := fun u x hu => by
    refine (byte_any x u).mono ?_
    rintro e w' ⟨rfl, hb⟩
    exact ⟨rfl, hu.trans (hb.mono hu.size)⟩
  have hb0 : Below w2.heap.size w2 w2.drew := (Below.refl _ _).drew
  go_wp2_with fail
  go_region_held (fun _ => True) ((trivial)) ((go_at_call 15; refine (KB.out _ _ (by assumption)).mono ?_; rintro e wA ⟨rfl, hbu⟩))
  have hsz : w2.heap.size = w.heap.size + 1 := by rw [HW1.out]; simp
  have HH : Hid (wA.heap[w.heap.size]? = some (.cells #[.int .i64 0, .int .i64 0, .int .i64 0, .int .i64 0, .int .i64 0, .bool false, .slice none 0 0, .int .i64 0, .slice none 0 0] 27 (0, 0))) := by
    show wA.heap[w.heap.size]? = _
    rw [hbu.block _ (by omega), HW1.out]
    exact heap_new _ _
  have HB : Hid (Below w.heap.size w wA) := (show Below w.heap.size w w2 by rw [HW1.out]; exact below_alloc _ _).trans (hbu.mono (by omega))
  have hRA := lt_of_heap HH.out
  obtain ⟨wz, STORE, HZ⟩ := store_row (wr := (wA.alloc (.cells #[.string ⟨t.toArray⟩, .bool false] 71)).alloc (.cells #[.int .i64 0, .int .i64 0, .int .i64 0, .int .i64 0, .int .i64 0, .bool false, .slice none 0 0, .int .i64 0, .slice none 0 0] 27)) (g := wA.heap.size + 1) (t := 27) (cs := #[.int .i64 0, .int .i64 0, .int .i64 0, .int .i64 0, .int .i64 0, .bool false, .slice none 0 0, .int .i64 0, .slice none 0 0]) (by have := heap_new (wA.alloc (.cells #[.string ⟨t.toArray⟩, .bool false] 71)) (.cells #[.int .i64 0, .int .i64 0, .int .i64 0, .int .i64 0, .int .i64 0, .bool false, .slice none 0 0, .int .i64 0, .slice none 0 0] 27); rwa [World.size_alloc] at this) [.int .i64 0, .int .i64 0, .int .i64 0, .int .i64 0, .int .i64 0, .bool false, .slice none 0 0, .int .i64 0, .slice none 0 0] rfl rfl 27 9 rfl Tryd.sizeOf27
  obtain ⟨q0, hq0⟩ : ∃ q, q = some t := ⟨_, rfl⟩
  have U0 := hid (Un.start (z := [.int .i64 0, .int .i64 0, .int .i64 0, .int .i64 0, .int .i64 0, .bool false, .slice none 0 0, .int .i64 0, .slice none 0 0]) HL.out rfl HZ.out.2 HZ.out.1)
  rw [← hq0] at U0
  have T0 : Shut (msgP t = q0.bind fun l => (numP l).bind fun y => msA y.1 y.2) := ⟨by rw [hq0]; rfl⟩
  clear hbu hsz HZ hq0 hcat hext KB hb0 H4 i1 i2 i4 i5 i6 i7 hn0 K HS HT HL HW1
  go_wp2_with (refine STORE _ _ _ _ _ (.tmp 7) (.tmp 56) rfl rfl rfl rfl ?_)
  have K1 := hid (rnum_any _ _ _ U0.out.rq)
  go_wp2_with fail
  refine K1.out.mono ?_
  rintro e w1 ⟨he, hr, ha, hsz⟩
  subst he
  obtain ⟨x1, hx⟩ : ∃ xz, xz = gv 0 (q0.bind numP) := ⟨_, rfl⟩
  obtain ⟨q1, hq⟩ : ∃ qz, qz = gl (q0.bind numP) := ⟨_, rfl⟩
  rw [← hq] at hr
  rw [← hx]
  have T1 : Shut (msgP t = q1.bind (msA x1)) := ⟨by rw [hx, hq]; exact stepQ 0 T0.out⟩
  have I1 := hid (U0.out.call hr ha)
  clear hx hq hr ha hsz K1
  have c1 := I1.out.cell 0 _ rfl
  have z1 := I1.out.free 0
  have U1 := hid (I1.out.set 0 (.int .i64 x1) (m' := ⟨x1, 0, 0, 0, 0, false, ⟨[], 0, []⟩⟩) rfl rfl rfl)
  clear U0 I1 T0
  have K2 := hid (rnum_any _ _ _ U1.out.rq)
  go_wp2_with fail
  refine K2.out.mono ?_
  rintro e w2 ⟨he, hr, ha, hsz⟩
  subst he
  obtain ⟨x2, hx⟩ : ∃ xz, xz = gv 0 (q1.bind numP) := ⟨_, rfl⟩
  obtain ⟨q2, hq⟩ : ∃ qz, qz = gl (q1.bind numP) := ⟨_, rfl⟩
  rw [← hq] at hr
  rw [← hx]
  have T2 : Shut (msgP t = q2.bind (msB x1 x2)) := ⟨by rw [hx, hq]; exact stepQ 0 T1.out⟩
  have I2 := hid (U1.out.call hr ha)
  clear hx hq hr ha hsz K2
  have c2 := I2.out.cell 1 _ rfl
  have z2 := I2.out.free 1
  have U2 := hid (I2.out.set 1 (.int .i64 x2) (m' := ⟨x1, x2, 0, 0, 0, false, ⟨[], 0, []⟩⟩) rfl rfl rfl)
  clear U1 I2 T1
  clear c1 z1
  have K3 := hid (rnum_any _ _ _ U2.out.rq)
  go_wp2_with fail
  refine K3.out.mono ?_
  rintro e w3 ⟨he, hr, ha, hsz⟩
  subst he
  obtain ⟨x3, hx⟩ : ∃ xz, xz = gv 0 (q2.bind numP) := ⟨_, rfl⟩
  obtain ⟨q3, hq⟩ : ∃ qz, qz = gl (q2.bind numP) := ⟨_, rfl⟩
  rw [← hq] at hr
  rw [← hx]
  have T3 : Shut (msgP t = q3.bind (msC x1 x2 x3)) := ⟨by rw [hx, hq]; exact stepQ 0 T2.out⟩
  have I3 := hid (U2.out.call hr ha)
  clear hx hq hr ha hsz K3
  have c3 := I3.out.cell 2 _ rfl
  have z3 := I3.out.free 2
  have U3 := hid (I3.out.set 2 (.int .i64 x3) (m' := ⟨x1, x2, x3, 0, 0, false, ⟨[], 0, []⟩⟩) rfl rfl rfl)
  clear U2 I3 T2
  clear c2 z2
  have K4 := hid (rnum_any _ _ _ U3.out.rq)
  go_wp2_with fail
  refine K4.out.mono ?_
  rintro e w4 ⟨he, hr, ha, hsz⟩
  subst he
  obtain ⟨x4, hx⟩ : ∃ xz, xz = gv 0 (q3.bind numP) := ⟨_, rfl⟩
  obtain ⟨q4, hq⟩ : ∃ qz, qz = gl (q3.bind numP) := ⟨_, rfl⟩
  rw [← hq] at hr
  rw [← hx]
  have T4 : Shut (msgP t = q4.bind (msD x1 x2 x3 x4)) := ⟨by rw [hx, hq]; exact stepQ 0 T3.out⟩
  have I4 := hid (U3.out.call hr ha)
  clear hx hq hr ha hsz K4
  have c4 := I4.out.cell 3 _ rfl
  have z4 := I4.out.free 3
  have U4 := hid (I4.out.set 3 (.int .i64 x4) (m' := ⟨x1, x2, x3, x4, 0, false, ⟨[], 0, []⟩⟩) rfl rfl rfl)
  clear U3 I4 T3
  clear c3 z3
  have K5 := hid (rnum_any _ _ _ U4.out.rq)
  go_wp2_with fail
  refine K5.out.mono ?_
  rintro e w5 ⟨he, hr, ha, hsz⟩
  subst he
  obtain ⟨x5, hx⟩ : ∃ xz, xz = gv 0 (q4.bind numP) := ⟨_, rfl⟩
  obtain ⟨q5, hq⟩ : ∃ qz, qz = gl (q4.bind numP) := ⟨_, rfl⟩
  rw [← hq] at hr
  rw [← hx]
  have T5 : Shut (msgP t = q5.bind (msE x1 x2 x3 x4 x5)) := ⟨by rw [hx, hq]; exact stepQ 0 T4.out⟩
  have I5 := hid (U4.out.call hr ha)
  clear hx hq hr ha hsz K5
  have c5 := I5.out.cell 4 _ rfl
  have z5 := I5.out.free 4
  have U5 := hid (I5.out.set 4 (.int .i64 x5) (m' := ⟨x1, x2, x3, x4, x5, false, ⟨[], 0, []⟩⟩) rfl rfl rfl)
  clear U4 I5 T4
  clear c4 z4
  have K6 := hid (rflag_any _ _ _ U5.out.rq)
  go_wp2_with fail
  refine K6.out.mono ?_
  rintro e w6 ⟨he, hr, ha, hsz⟩
  subst he
  obtain ⟨x6, hx⟩ : ∃ xz, xz = gv false (q5.bind bitP) := ⟨_, rfl⟩
  obtain ⟨q6, hq⟩ : ∃ qz, qz = gl (q5.bind bitP) := ⟨_, rfl⟩
  rw [← hq] at hr
  rw [← hx]
  have T6 : Shut (msgP t = q6.bind (msF x1 x2 x3 x4 x5 x6)) := ⟨by rw [hx, hq]; exact stepQ false T5.out⟩
  have I6 := hid (U5.out.call hr ha)
  clear hx hq hr ha hsz K6
  have c6 := I6.out.cell 5 _ rfl
  have z6 := I6.out.free 5
  have U6 := hid (I6.out.set 5 (.bool x6) (m' := ⟨x1, x2, x3, x4, x5, x6, ⟨[], 0, []⟩⟩) rfl rfl rfl)
  clear U5 I6 T5 c5 z5
  obtain ⟨T, hTT⟩ : ∃ T, T = q6.bind comP := ⟨_, rfl⟩
  have C0 : Shut (T = q6.bind fun l => (cntP l).bind fun y => cmZ y.1 y.2) := ⟨hTT⟩
  have HTT := shut hTT
  clear hTT
  have K7 := hid (rmany_any _ _ _ U6.out.rq)
  go_wp2_with fail
  refine K7.out.mono ?_
  rintro e w7 ⟨he, hr, ha, hsz⟩
  subst he
  have hle7 := rmany_le hr
  obtain ⟨x7, hx⟩ : ∃ xz, xz = gv 0 (q6.bind cntP) := ⟨_, rfl⟩
  obtain ⟨q7, hq⟩ : ∃ qz, qz = gl (q6.bind cntP) := ⟨_, rfl⟩
  rw [← hq] at hr
  rw [← hx] at hle7 ⊢
  have C1 : Shut (T = q7.bind (cmZ x7)) := ⟨by rw [hx, hq]; exact stepQ 0 C0.out⟩
  have I7 := hid (U6.out.call hr ha)
  clear hx hq hr ha hsz K7
  have C2 : Shut (T = q7.bind fun l => (appP [] (manyP numP x7 l)).bind fun y => cmA y.1 y.2) := ⟨many_first C1.out⟩
  clear U6 C0 C1 c6 z6
  go_upto_block 0 with (fail)
  go_cut [9] (fun i wx => ∃ (ws : List Int) (wv : Value) (q : Option (List UInt8)), Shut (T = q.bind (cmA ws)) ∧ Un wA ⟨x1, x2, x3, x4, x5, x6, ⟨ws, 0, []⟩⟩ wv (.slice none 0 0) q wx)
  case first =>
   go_wp2_with fail
   go_loopw [9] (fun i wr => ∃ (k : Nat) (ws : List Int) (wv : Value) (q : Option (List UInt8)), k ≤ x7 ∧ i = .int .i64 k ∧ ws.length = k ∧ Shut (T = q.bind fun l => (appP ws (manyP numP (x7 - k) l)).bind fun y => cmA y.1 y.2) ∧ Un wA ⟨x1, x2, x3, x4, x5, x6, ⟨ws, 0, []⟩⟩ wv (.slice none 0 0) q wr) (fun i _ => x7 - (intOf i).toNat)
   case atStart => exact ⟨0, [], _, q7, Nat.zero_le _, rfl, rfl, C2, I7.out⟩
   case round =>
    obtain ⟨k, ws, wv, q, hk, rfl, hdl, HM, hI⟩ := hrel
    have HI := hid hI
    have HDL := hid hdl
    clear hI hdl
    by_cases hgo : k < x7 ∧ q.isNone = false
    · obtain ⟨hlt, hnb⟩ := hgo
      obtain ⟨lk, hqk⟩ : ∃ lk, q = some lk := Option.isSome_iff_exists.1 (by rw [← Option.not_isNone, hnb]; rfl)
      have cb : wr.cell? ⟨wA.heap.size, 1, none⟩ = some (.bool false) := by rw [bad_cell HI.out.rq, hnb]
      have NX : Shut (T = (some lk).bind fun l => (numP l).bind fun y => (appP (ws ++ [y.1]) (manyP numP (x7 - (k + 1)) y.2)).bind fun y => cmA y.1 y.2) := ⟨many_next (by rw [← hqk]; exact HM.out) (by omega)⟩
      rw [hqk] at HI
      clear hqk hnb HM
      have K8 := hid (rnum_any _ _ _ HI.out.rq)
      go_wp2_with fail
      refine K8.out.mono ?_
      rintro e w8 ⟨he, hr, ha, hsz⟩
      subst he
      obtain ⟨x8, hx⟩ : ∃ xz, xz = gv 0 ((some lk).bind numP) := ⟨_, rfl⟩
      obtain ⟨q8, hq⟩ : ∃ qz, qz = gl ((some lk).bind numP) := ⟨_, rfl⟩
      rw [← hq] at hr
      rw [← hx]
      have N8 : Shut (T = q8.bind fun l => (appP (ws ++ [x8]) (manyP numP (x7 - (k + 1)) l)).bind fun y => cmA y.1 y.2) := ⟨by rw [hx, hq]; exact stepQ (G := fun x l => (appP (ws ++ [x]) (manyP numP (x7 - (k + 1)) l)).bind fun y => cmA y.1 y.2) 0 NX.out⟩
      have I8 := hid (HI.out.call hr ha)
      clear hx hq hr ha hsz K8
      have c8 := I8.out.cell 6 wv rfl
      go_wp2_with (at_builtin; refine wpList_append_own _ rfl _ _ 22 rfl (wA.heap.size + 2) 3 i3 _ 1 8 Tryd.underlying22 hi3 hx0 hx1 hx2 rfl (by decide) _ _ _ rfl (I8.out.own.1.alloc _) ⟨w8.heap.size, 0, none⟩ 1 1 [.int .i64 x8] rfl rfl (cells3_new _ _ _) (one_int _) ?ho2 ?ho3 ?ho4 ?_; (case ho2 => show ws.length + 1 ≤ _; rw [HDL.out]; unfold maxLen; omega); (case ho3 => show (ws.length + 1) * 8 ≤ _; rw [HDL.out]; omega); (case ho4 => have := I8.out.size; simp; omega); intro v9 w9 hown9 hgr9 _; obtain ⟨a9, cc9, rfl⟩ := row_shape hown9; obtain ⟨⟨c9, z9⟩, h9⟩ := I8.out.whenMore hown9 hgr9; have HI9 := hid h9; clear hown9 hgr9 h9)
      refine ⟨⟨k + 1, ws ++ [x8], _, q8, by omega, by go_num, by rw [List.length_append, HDL.out]; rfl, N8, HI9.out⟩, by simp [intOf]; omega⟩
    · have D0 : Shut (T = q.bind (cmA ws)) := ⟨many_zero2 HM.out (by
        by_cases hlt : k < x7
        · refine .inr ?_
          cases q with
          | none => rfl
          | some l => exact absurd ⟨hlt, rfl⟩ hgo
        · exact .inl (by omega))⟩
      have hbad : k < x7 → q.isNone = true := fun hlt => by
        cases q with
        | none => rfl
        | some l => exact absurd ⟨hlt, rfl⟩ hgo
      have cb := bad_cell HI.out.rq
      have hkx : k ≤ 6000 := by omega
      clear hgo HM C2
      by_cases hlt : k < x7
      case' pos => rw [hbad hlt] at cb
      all_goals
        clear hbad
        go_wp2_with fail
        go_meet
        case rel => exact ⟨ws, wv, q, D0, HI.out⟩
  case rest =>
        obtain ⟨ws, wv, q, D0, hI⟩ := hcut
        have HI := hid hI
        clear hI C2 I7
        have K10 := hid (rnum_any _ _ _ HI.out.rq)
        go_wp2_with fail
        refine K10.out.mono ?_
        rintro e w10 ⟨he, hr, ha, hsz⟩
        subst he
        obtain ⟨x10, hx⟩ : ∃ xz, xz = gv 0 (q.bind numP) := ⟨_, rfl⟩
        obtain ⟨q10, hq⟩ : ∃ qz, qz = gl (q.bind numP) := ⟨_, rfl⟩
        rw [← hq] at hr
        rw [← hx]
        have D1 : Shut (T = q10.bind (cmB ws x10)) := ⟨by rw [hx, hq]; exact stepQ 0 D0.out⟩
        have I10 := hid (HI.out.call hr ha)
        clear hx hq hr ha hsz K10
        have c10 := I10.out.cell 7 _ rfl
        have z10 := I10.out.free 7
        have U10 := hid (I10.out.set 7 (.int .i64 x10) (m' := ⟨x1, x2, x3, x4, x5, x6, ⟨ws, x10, []⟩⟩) rfl rfl rfl)
        have K11 := hid (rmany_any _ _ _ U10.out.rq)
        go_wp2_with fail
        refine K11.out.mono ?_
        rintro e w11 ⟨he, hr, ha, hsz⟩
        subst he
        have hle11 := rmany_le hr
        obtain ⟨x11, hx⟩ : ∃ xz, xz = gv 0 (q10.bind cntP) := ⟨_, rfl⟩
        obtain ⟨q11, hq⟩ : ∃ qz, qz = gl (q10.bind cntP) := ⟨_, rfl⟩
        rw [← hq] at hr
        rw [← hx] at hle11 ⊢
        have D2 : Shut (T = q11.bind (cmC ws x10 x11)) := ⟨by rw [hx, hq]; exact stepQ 0 D1.out⟩
        have I11 := hid (U10.out.call hr ha)
        clear hx hq hr ha hsz K11
        have D3 : Shut (T = q11.bind fun l => (appP [] (manyP opP x11 l)).bind fun y => some ((⟨ws, x10, y.1⟩ : ComV), y.2)) := ⟨many_first (G := fun y l => some ((⟨ws, x10, y⟩ : ComV), l)) D2.out⟩
        clear D0 D1 D2 U10 I10 c10 z10 HI
        go_upto_block 2 with (fail)
        go_cut [11] (fun i wx => ∃ (os : List OpV) (ov : Value) (q : Option (List UInt8)), Shut (T = q.bind fun l => some (⟨ws, x10, os⟩, l)) ∧ Un wA ⟨x1, x2, x3, x4, x5, x6, ⟨ws, x10, os⟩⟩ wv ov q wx)
        case first =>
         go_wp2_with fail
         go_loopw [11] (fun i wr => ∃ (k : Nat) (os : List OpV) (ov : Value) (q : Option (List UInt8)), k ≤ x11 ∧ i = .int .i64 k ∧ os.length = k ∧ Shut (T = q.bind fun l => (appP os (manyP opP (x11 - k) l)).bind fun y => some ((⟨ws, x10, y.1⟩ : ComV), y.2)) ∧ Un wA ⟨x1, x2, x3, x4, x5, x6, ⟨ws, x10, os⟩⟩ wv ov q wr) (fun i _ => x11 - (intOf i).toNat)
         case atStart => exact ⟨0, [], _, q11, Nat.zero_le _, rfl, rfl, D3, I11.out⟩
         case round =>
          obtain ⟨wq, hwq⟩ : ∃ wq, wq = wr := ⟨_, rfl⟩
          subst hwq
          obtain ⟨kk, os, ov, qo, hkk, rfl, hol, HMO, hIO⟩ := hrel
          have HIO := hid hIO
          have HOL := hid hol
          clear hIO hol D3 I11
          by_cases hgo : kk < x11 ∧ qo.isNone = false
          · obtain ⟨hlo, hnb⟩ := hgo
            obtain ⟨lo, hqk⟩ : ∃ lk, qo = some lk := Option.isSome_iff_exists.1 (by rw [← Option.not_isNone, hnb]; rfl)
            have cb : wq.cell? ⟨wA.heap.size, 1, none⟩ = some (.bool false) := by rw [bad_cell HIO.out.rq, hnb]
            have NXO : Shut (T = (opP lo).bind fun y => (appP (os ++ [y.1]) (manyP opP (x11 - (kk + 1)) y.2)).bind fun y => some ((⟨ws, x10, y.1⟩ : ComV), y.2)) := ⟨many_next (G := fun y l => some ((⟨ws, x10, y⟩ : ComV), l)) (by rw [← hqk]; exact HMO.out) (by omega)⟩
            obtain ⟨TO, hTO⟩ : ∃ T, T = opP lo := ⟨_, rfl⟩
            have O0 : Shut (TO = qo.bind fun l => (numP l).bind fun y => opZ y.1 y.2) := ⟨by rw [hqk, hTO]; rfl⟩
            rw [← hTO] at NXO
            have hws := HIO.out.size
            have hblt : wA.heap.size < wq.heap.size := by omega
            obtain ⟨wo, STORE2, HZ2⟩ := store_row (heap_new wq (.cells #[.int .i64 0, .string ByteArray.empty, .int .i64 0, .string ByteArray.empty, .int .i64 0, .bool false, .slice none 0 0] 52)) [.int .i64 0, .string ⟨#[]⟩, .int .i64 0, .string ⟨#[]⟩, .int .i64 0, .bool false, .slice none 0 0] rfl rfl 52 7 rfl Tryd.sizeOf52
            have O1 := hid (On.start2 HIO.out.rq hblt [.int .i64 0, .string ByteArray.empty, .int .i64 0, .string ByteArray.empty, .int .i64 0, .bool false, .slice none 0 0] ⟨0, ⟨#[]⟩, 0, ⟨#[]⟩, 0, false, []⟩ rfl rfl HZ2.out.2 HZ2.out.1)
            clear HZ2 hTO hqk hnb HMO
            go_wp2_with (refine STORE2 _ _ _ _ _ (.tmp 12) (.tmp 117) rfl rfl rfl rfl ?_)
            have K12 := hid (rnum_any _ _ _ O1.out.rq)
            go_wp2_with fail
            refine K12.out.mono ?_
            rintro e w12 ⟨he, hr, ha, hsz⟩
            subst he
            obtain ⟨x12, hx⟩ : ∃ xz, xz = gv 0 (qo.bind numP) := ⟨_, rfl⟩
            obtain ⟨q12, hq⟩ : ∃ qz, qz = gl (qo.bind numP) := ⟨_, rfl⟩
            rw [← hq] at hr
            rw [← hx]
            have P12 : Shut (TO = q12.bind (opZ x12)) := ⟨by rw [hx, hq]; exact stepQ 0 O0.out⟩
            have I12 := hid (O1.out.call hr ha)
            clear hx hq hr ha hsz K12
            have c12 := I12.out.cell 0 _ rfl
            have z12 := I12.out.free 0
            have V12 := hid (I12.out.set 0 (.int .i64 x12) (o' := ⟨x12, ⟨#[]⟩, 0, ⟨#[]⟩, 0, false, []⟩) rfl rfl)
            clear O1 I12 O0
            have K13 := hid (rtext_any _ _ _ V12.out.rq)
            go_wp2_with fail
            refine K13.out.mono ?_
            rintro e w13 ⟨he, hr, ha, hsz⟩
            subst he
            obtain ⟨x13, hx⟩ : ∃ xz, xz = gv ⟨#[]⟩ (q12.bind txtP) := ⟨_, rfl⟩
            obtain ⟨q13, hq⟩ : ∃ qz, qz = gl (q12.bind txtP) := ⟨_, rfl⟩
            rw [← hq] at hr
            rw [← hx]
            have P13 : Shut (TO = q13.bind (opA x12 x13)) := ⟨by rw [hx, hq]; exact stepQ ⟨#[]⟩ P12.out⟩
            have I13 := hid (V12.out.call hr ha)
            clear hx hq hr ha hsz K13
            have c13 := I13.out.cell 1 _ rfl
            have z13 := I13.out.free 1
            have V13 := hid (I13.out.set 1 (.string x13) (o' := ⟨x12, x13, 0, ⟨#[]⟩, 0, false, []⟩) rfl rfl)
            clear V12 I13 P12
            clear c12 z12
            have K14 := hid (rnum_any _ _ _ V13.out.rq)
            go_wp2_with fail
            refine K14.out.mono ?_
            rintro e w14 ⟨he, hr, ha, hsz⟩
            subst he
            obtain ⟨x14, hx⟩ : ∃ xz, xz = gv 0 (q13.bind numP) := ⟨_, rfl⟩
            obtain ⟨q14, hq⟩ : ∃ qz, qz = gl (q13.bind numP) := ⟨_, rfl⟩
            rw [← hq] at hr
            rw [← hx]
            have P14 : Shut (TO = q14.bind (opB x12 x13 x14)) := ⟨by rw [hx, hq]; exact stepQ 0 P13.out⟩
            have I14 := hid (V13.out.call hr ha)
            clear hx hq hr ha hsz K14
            have c14 := I14.out.cell 2 _ rfl
            have z14 := I14.out.free 2
            have V14 := hid (I14.out.set 2 (.int .i64 x14) (o' := ⟨x12, x13, x14, ⟨#[]⟩, 0, false, []⟩) rfl rfl)
            clear V13 I14 P13
            clear c13 z13
            have K15 := hid (rtext_any _ _ _ V14.out.rq)
            go_wp2_with fail
            refine K15.out.mono ?_
            rintro e w15 ⟨he, hr, ha, hsz⟩
            subst he
            obtain ⟨x15, hx⟩ : ∃ xz, xz = gv ⟨#[]⟩ (q14.bind txtP) := ⟨_, rfl⟩
            obtain ⟨q15, hq⟩ : ∃ qz, qz = gl (q14.bind txtP) := ⟨_, rfl⟩
            rw [← hq] at hr
            rw [← hx]
            have P15 : Shut (TO = q15.bind (opC x12 x13 x14 x15)) := ⟨by rw [hx, hq]; exact stepQ ⟨#[]⟩ P14.out⟩
            have I15 := hid (V14.out.call hr ha)
            clear hx hq hr ha hsz K15
            have c15 := I15.out.cell 3 _ rfl
            have z15 := I15.out.free 3
            have V15 := hid (I15.out.set 3 (.string x15) (o' := ⟨x12, x13, x14, x15, 0, false, []⟩) rfl rfl)
            clear V14 I15 P14
            clear c14 z14
            have K16 := hid (rnum_any _ _ _ V15.out.rq)
            go_wp2_with fail
            refine K16.out.mono ?_
            rintro e w16 ⟨he, hr, ha, hsz⟩
            subst he
            obtain ⟨x16, hx⟩ : ∃ xz, xz = gv 0 (q15.bind numP) := ⟨_, rfl⟩
            obtain ⟨q16, hq⟩ : ∃ qz, qz = gl (q15.bind numP) := ⟨_, rfl⟩
            rw [← hq] at hr
            rw [← hx]
            have P16 : Shut (TO = q16.bind (opD x12 x13 x14 x15 x16)) := ⟨by rw [hx, hq]; exact stepQ 0 P15.out⟩
            have I16 := hid (V15.out.call hr ha)
            clear hx hq hr ha hsz K16
            have c16 := I16.out.cell 4 _ rfl
            have z16 := I16.out.free 4
            have V16 := hid (I16.out.set 4 (.int .i64 x16) (o' := ⟨x12, x13, x14, x15, x16, false, []⟩) rfl rfl)
            clear V15 I16 P15
            clear c15 z15
            have K17 := hid (rflag_any _ _ _ V16.out.rq)
            go_wp2_with fail
            refine K17.out.mono ?_
            rintro e w17 ⟨he, hr, ha, hsz⟩
            subst he
            obtain ⟨x17, hx⟩ : ∃ xz, xz = gv false (q16.bind bitP) := ⟨_, rfl⟩
            obtain ⟨q17, hq⟩ : ∃ qz, qz = gl (q16.bind bitP) := ⟨_, rfl⟩
            rw [← hq] at hr
            rw [← hx]
            have P17 : Shut (TO = q17.bind (opE x12 x13 x14 x15 x16 x17)) := ⟨by rw [hx, hq]; exact stepQ false P16.out⟩
            have I17 := hid (V16.out.call hr ha)
            clear hx hq hr ha hsz K17
            have c17 := I17.out.cell 5 _ rfl
            have z17 := I17.out.free 5
            have V17 := hid (I17.out.set 5 (.bool x17) (o' := ⟨x12, x13, x14, x15, x16, x17, []⟩) rfl rfl)
            clear V16 I17 P16
            clear c16 z16
            have K18 := hid (rmany_any _ _ _ V17.out.rq)
            go_wp2_with fail
            refine K18.out.mono ?_
            rintro e w18 ⟨he, hr, ha, hsz⟩
            subst he
            have hle18 := rmany_le hr
            obtain ⟨x18, hx⟩ : ∃ xz, xz = gv 0 (q17.bind cntP) := ⟨_, rfl⟩
            obtain ⟨q18, hq⟩ : ∃ qz, qz = gl (q17.bind cntP) := ⟨_, rfl⟩
            rw [← hq] at hr
            rw [← hx] at hle18 ⊢
            have P18 : Shut (TO = q18.bind (opF x12 x13 x14 x15 x16 x17 x18)) := ⟨by rw [hx, hq]; exact stepQ 0 P17.out⟩
            have I18 := hid (V17.out.call hr ha)
            clear hx hq hr ha hsz K18
            have R0 : Shut (TO = q18.bind fun l => (appP [] (manyP dotP x18 l)).bind fun y => some ((⟨x12, x13, x14, x15, x16, x17, y.1⟩ : OpV), y.2)) := ⟨many_first (G := fun y l => some ((⟨x12, x13, x14, x15, x16, x17, y⟩ : OpV), l)) P18.out⟩
            clear P17 P18 V17 c17 z17 cb
            go_upto_block 4 with (fail)
            go_cut [14] (fun i wx => ∃ (ds : List D3) (dv : Value) (q : Option (List UInt8)), Shut (TO = q.bind fun l => some (⟨x12, x13, x14, x15, x16, x17, ds⟩, l)) ∧ On wA.heap.size wq ⟨x12, x13, x14, x15, x16, x17, ds⟩ dv q wx)
            case first =>
             go_wp2_with fail
             go_loopw [14] (fun i wd => ∃ (k : Nat) (ds : List D3) (dv : Value) (q : Option (List UInt8)), k ≤ x18 ∧ i = .int .i64 k ∧ ds.length = k ∧ Shut (TO = q.bind fun l => (appP ds (manyP dotP (x18 - k) l)).bind fun y => some ((⟨x12, x13, x14, x15, x16, x17, y.1⟩ : OpV), y.2)) ∧ On wA.heap.size wq ⟨x12, x13, x14, x15, x16, x17, ds⟩ dv q wd) (fun i _ => x18 - (intOf i).toNat)
             case atStart => exact ⟨0, [], _, q18, Nat.zero_le _, rfl, rfl, R0, I18.out⟩
             case round =>
              obtain ⟨wd, hwd⟩ : ∃ wd, wd = wr := ⟨_, rfl⟩
              subst hwd
              obtain ⟨kd, ds, dv, qd, hkd, rfl, hdl, HMD, hID⟩ := hrel
              have HID := hid hID
              have HDL := hid hdl
              clear hID hdl R0 I18
              by_cases hgo : kd < x18 ∧ qd.isNone = false
              · obtain ⟨hld, hnb⟩ := hgo
                obtain ⟨ld, hqk⟩ : ∃ lk, qd = some lk := Option.isSome_iff_exists.1 (by rw [← Option.not_isNone, hnb]; rfl)
                have cb : wd.cell? ⟨wA.heap.size, 1, none⟩ = some (.bool false) := by rw [bad_cell HID.out.rq, hnb]
                have NXD : Shut (TO = (dotP ld).bind fun y => (appP (ds ++ [y.1]) (manyP dotP (x18 - (kd + 1)) y.2)).bind fun y => some ((⟨x12, x13, x14, x15, x16, x17, y.1⟩ : OpV), y.2)) := ⟨many_next (G := fun y l => some ((⟨x12, x13, x14, x15, x16, x17, y⟩ : OpV), l)) (by rw [← hqk]; exact HMD.out) (by omega)⟩
                obtain ⟨TD, hTD⟩ : ∃ T, T = dotP ld := ⟨_, rfl⟩
                have B0 : Shut (TD = qd.bind fun l => (numP l).bind fun y => dtA y.1 y.2) := ⟨by rw [hqk, hTD]; rfl⟩
                rw [← hTD] at NXD
                have hwd := HID.out.size
                have hblt2 : wA.heap.size < wd.heap.size := by omega
                obtain ⟨wp, STORE3, HZ3⟩ := store_row (heap_new wd (.cells #[.int .i64 0, .int .i64 0, .int .i64 0] 62)) [.int .i64 0, .int .i64 0, .int .i64 0] rfl rfl 62 3 rfl Tryd.sizeOf62
                have B1 := hid (Dn.start2 HID.out.rq hblt2 [.int .i64 0, .int .i64 0, .int .i64 0] [.int .i64 0, .int .i64 0, .int .i64 0] rfl HZ3.out.2 HZ3.out.1)
                clear HZ3 hTD hqk hnb HMD
                go_wp2_with (refine STORE3 _ _ _ _ _ (.tmp 15) (.tmp 150) rfl rfl rfl rfl ?_)
                have K20 := hid (rnum_any _ _ _ B1.out.rq)
                go_wp2_with fail
                refine K20.out.mono ?_
                rintro e w20 ⟨he, hr, ha, hsz⟩
                subst he
                obtain ⟨x20, hx⟩ : ∃ xz, xz = gv 0 (qd.bind numP) := ⟨_, rfl⟩
                obtain ⟨q20, hq⟩ : ∃ qz, qz = gl (qd.bind numP) := ⟨_, rfl⟩
                rw [← hq] at hr
                rw [← hx]
                have C20 : Shut (TD = q20.bind (dtA x20)) := ⟨by rw [hx, hq]; exact stepQ 0 B0.out⟩
                have I20 := hid (B1.out.call hr ha)
                clear hx hq hr ha hsz K20
                have c20 := I20.out.cell 0 _ rfl
                have z20 := I20.out.free 0
                have W20 := hid (I20.out.set 0 (.int .i64 x20))
                clear B1 I20 B0
                have K21 := hid (rnum_any _ _ _ W20.out.rq)
                go_wp2_with fail
                refine K21.out.mono ?_
                rintro e w21 ⟨he, hr, ha, hsz⟩
                subst he
                obtain ⟨x21, hx⟩ : ∃ xz, xz = gv 0 (q20.bind numP) := ⟨_, rfl⟩
                obtain ⟨q21, hq⟩ : ∃ qz, qz = gl (q20.bind numP) := ⟨_, rfl⟩
                rw [← hq] at hr
                rw [← hx]
                have C21 : Shut (TD = q21.bind (dtB x20 x21)) := ⟨by rw [hx, hq]; exact stepQ 0 C20.out⟩
                have I21 := hid (W20.out.call hr ha)
                clear hx hq hr ha hsz K21
                have c21 := I21.out.cell 1 _ rfl
                have z21 := I21.out.free 1
                have W21 := hid (I21.out.set 1 (.int .i64 x21))
                clear W20 I21 C20
                clear c20 z20
                have K22 := hid (rnum_any _ _ _ W21.out.rq)
                go_wp2_with fail
                refine K22.out.mono ?_
                rintro e w22 ⟨he, hr, ha, hsz⟩
                subst he
                obtain ⟨x22, hx⟩ : ∃ xz, xz = gv 0 (q21.bind numP) := ⟨_, rfl⟩
                obtain ⟨q22, hq⟩ : ∃ qz, qz = gl (q21.bind numP) := ⟨_, rfl⟩
                rw [← hq] at hr
                rw [← hx]
                have C22 : Shut (TD = q22.bind fun l => some (⟨x20, x21, x22⟩, l)) := ⟨by rw [hx, hq]; exact stepQ (G := fun x l => some ((⟨x20, x21, x⟩ : D3), l)) 0 C21.out⟩
                have I22 := hid (W21.out.call hr ha)
                clear hx hq hr ha hsz K22
                have c22 := I22.out.cell 2 _ rfl
                have z22 := I22.out.free 2
                have W22 := hid (I22.out.set 2 (.int .i64 x22))
                clear W21 I22 C21
                clear c21 z21
                clear cb
                have e0 := W22.out.cell 0 (.int .i64 x20) rfl
                have e1 := W22.out.cell 1 (.int .i64 x21) rfl
                have e2 := W22.out.cell 2 (.int .i64 x22) rfl
                have e6 := HID.out.cell6 W22.out
                have erow := hid (HID.out.rowAt W22.out)
                have NX9 : Shut (TO = q22.bind fun l => (appP (ds ++ [⟨x20, x21, x22⟩]) (manyP dotP (x18 - (kd + 1)) l)).bind fun y => some ((⟨x12, x13, x14, x15, x16, x17, y.1⟩ : OpV), y.2)) := ⟨next_of (F := fun x l => (appP (ds ++ [x]) (manyP dotP (x18 - (kd + 1)) l)).bind fun y => some ((⟨x12, x13, x14, x15, x16, x17, y.1⟩ : OpV), y.2)) NXD.out C22.out⟩
                have hse : wq.heap.size + 1 ≤ (w22.setCell ⟨wd.heap.size, 2, none⟩ (.int .i64 x22)).heap.size := by have := W22.out.aside.size; omega
                go_wp2_with (at_builtin; refine wpList_append_own _ rfl _ _ 50 rfl (wq.heap.size + 1) 62 i62 _ 3 24 Tryd.underlying50 hi62 hz0 hz1 hz2 rfl (by decide) _ _ _ rfl (erow.out.alloc _) ⟨w22.heap.size, 0, none⟩ 1 1 [.int .i64 x20, .int .i64 x21, .int .i64 x22] rfl rfl (by have := cells3_new (w22.setCell ⟨wd.heap.size, 2, none⟩ (.int .i64 x22)) 62 [.int .i64 x20, .int .i64 x21, .int .i64 x22]; rwa [size_set] at this) (dots3_one _ _ _) ?ho2 ?ho3 ?ho4 ?_; (case ho2 => show ds.length + 1 ≤ _; rw [HDL.out]; unfold maxLen; omega); (case ho3 => show (ds.length + 1) * 24 ≤ _; rw [HDL.out]; omega); (case ho4 => simp at hse ⊢; omega); intro v9 w9 hown9 hgr9 _; obtain ⟨a9, cc9, rfl⟩ := row_shape hown9; obtain ⟨⟨c9, z9⟩, h9⟩ := HID.out.more (d := ⟨x20, x21, x22⟩) W22.out hown9 hgr9; have HI9 := hid h9; clear hown9 hgr9 h9)
                refine ⟨⟨kd + 1, ds ++ [⟨x20, x21, x22⟩], _, q22, by omega, by go_num, by rw [List.length_append, HDL.out]; rfl, NX9, HI9.out⟩, by simp [intOf]; omega⟩
              · have P0 : Shut (TO = qd.bind fun l => some (⟨x12, x13, x14, x15, x16, x17, ds⟩, l)) := ⟨many_zero2 (G := fun y l => some ((⟨x12, x13, x14, x15, x16, x17, y⟩ : OpV), l)) HMD.out (by
                  by_cases hlt : kd < x18
                  · refine .inr ?_
                    cases qd with
                    | none => rfl
                    | some l => exact absurd ⟨hlt, rfl⟩ hgo
                  · exact .inl (by omega))⟩
                have hbad : kd < x18 → qd.isNone = true := fun hlt => by
                  cases qd with
                  | none => rfl
                  | some l => exact absurd ⟨hlt, rfl⟩ hgo
                have cb := bad_cell HID.out.rq
                clear hgo HMD
                by_cases hlt : kd < x18
                case' pos => rw [hbad hlt] at cb
                all_goals
                  clear hbad
                  go_wp2_with fail
                  go_meet
                  case rel => exact ⟨ds, dv, qd, P0, HID.out⟩
            case rest =>
                  obtain ⟨ds, dv, qd, P0, hID⟩ := hcut
                  have HID := hid hID
                  clear hID R0 I18
                  obtain ⟨wd, hwd⟩ : ∃ wd, wd = wc := ⟨_, rfl⟩
                  subst hwd
                  have NXE : Shut (T = qd.bind fun l => (appP (os ++ [⟨x12, x13, x14, x15, x16, x17, ds⟩]) (manyP opP (x11 - (kk + 1)) l)).bind fun y => some ((⟨ws, x10, y.1⟩ : ComV), y.2)) := ⟨next_of (F := fun x l => (appP (os ++ [x]) (manyP opP (x11 - (kk + 1)) l)).bind fun y => some ((⟨ws, x10, y.1⟩ : ComV), y.2)) NXO.out P0.out⟩
                  have UE := hid (HIO.out.call HID.out.rq HID.out.aside)
                  have e8 := UE.out.cell 8 ov rfl
                  have f0 := HID.out.cell 0 _ rfl
                  have f1 := HID.out.cell 1 _ rfl
                  have f2 := HID.out.cell 2 _ rfl
                  have f3 := HID.out.cell 3 _ rfl
                  have f4 := HID.out.cell 4 _ rfl
                  have f5 := HID.out.cell 5 _ rfl
                  have f6 := HID.out.cell 6 _ rfl
                  have hws2 := HID.out.size
                  obtain ⟨rows, hrow, hrows⟩ := UE.out.own.2
                  have HROW := hid hrow
                  have HROWS := hid hrows
                  obtain ⟨da, dc, rfl⟩ := row_shape HID.out.row
                  have HOO : Hid (OpOwn (wA.heap.size + 2) wd (opCells ⟨x12, x13, x14, x15, x16, x17, ds⟩ (.slice da ds.length dc)) ⟨x12, x13, x14, x15, x16, x17, ds⟩) := ⟨_, rfl, owns_base HID.out.row (by omega)⟩
                  clear hrow hrows P0 NXO
                  go_wp2_with (at_builtin; refine wpList_append_own _ rfl _ _ 23 rfl (wA.heap.size + 2) 52 i52 _ 7 88 Tryd.underlying23 hi52 hy0 hy1 hy2 rfl (by decide) _ _ _ rfl (HROW.out.alloc _) ⟨wd.heap.size, 0, none⟩ 1 1 (opCells ⟨x12, x13, x14, x15, x16, x17, ds⟩ (.slice da ds.length dc)) rfl rfl (cells3_new _ _ _) (one7 ⟨x12, x13, x14, x15, x16, x17, ds⟩ _ _ _) ?ho2 ?ho3 ?ho4 ?_; (case ho2 => show os.length + 1 ≤ _; rw [HOL.out]; unfold maxLen; omega); (case ho3 => show (os.length + 1) * 88 ≤ _; rw [HOL.out]; omega); (case ho4 => simp; omega); intro v9 w9 hown9 hgr9 _; obtain ⟨a9, cc9, rfl⟩ := row_shape hown9; obtain ⟨⟨c9, z9⟩, h9⟩ := UE.out.opMore HOO.out HROW.out HROWS.out hown9 hgr9; have HI9 := hid h9; clear hown9 hgr9 h9)
                  refine ⟨⟨kk + 1, os ++ [⟨x12, x13, x14, x15, x16, x17, ds⟩], _, qd, by omega, by go_num, by rw [List.length_append, HOL.out]; rfl, NXE, HI9.out⟩, by simp [intOf]; omega⟩
          · have E0 : Shut (T = qo.bind fun l => some (⟨ws, x10, os⟩, l)) := ⟨many_zero2 (G := fun y l => some ((⟨ws, x10, y⟩ : ComV), l)) HMO.out (by
              by_cases hlt : kk < x11
              · refine .inr ?_
                cases qo with
                | none => rfl
                | some l => exact absurd ⟨hlt, rfl⟩ hgo
              · exact .inl (by omega))⟩
            have hbad : kk < x11 → qo.isNone = true := fun hlt => by
              cases qo with
              | none => rfl
              | some l => exact absurd ⟨hlt, rfl⟩ hgo
            have cb := bad_cell HIO.out.rq
            clear hgo HMO
            by_cases hlt : kk < x11
            case' pos => rw [hbad hlt] at cb
            all_goals
              clear hbad
              go_wp2_with fail
              go_meet
              case rel => exact ⟨os, ov, qo, E0, HIO.out⟩
        case rest =>
            obtain ⟨os, ov, qo, E0, hIO⟩ := hcut
            have HIO := hid hIO
            clear hIO D3 I11
            obtain ⟨wr, hwr⟩ : ∃ wr, wr = wc := ⟨_, rfl⟩
            subst hwr
            have FIN : Shut (wholeP t = qo.bind fun l => if l = [] then some ⟨x1, x2, x3, x4, x5, x6, ⟨ws, x10, os⟩⟩ else none) := ⟨whole_of T6.out (by rw [← HTT.out]; exact E0.out)⟩
            have cb := bad_cell HIO.out.rq
            have HWR : Hid (wr.heap[w.heap.size]? = some (.cells #[.int .i64 0, .int .i64 0, .int .i64 0, .int .i64 0, .int .i64 0, .bool false, .slice none 0 0, .int .i64 0, .slice none 0 0] 27 (0, 0))) := by
              show wr.heap[w.heap.size]? = _
              rw [HIO.out.below.block _ hRA]
              exact HH.out
            have HBR : Hid (Below w.heap.size w wr) := HB.out.trans (HIO.out.below.mono (Nat.le_of_lt hRA))
            clear E0 HTT T6
            cases qo with
              | none =>
                have cb : wr.cell? ⟨wA.heap.size, 1, none⟩ = some (.bool true) := cb
                obtain ⟨w4, STORE4, HZ4⟩ := store_row HWR.out [.int .i64 0, .int .i64 0, .int .i64 0, .int .i64 0, .int .i64 0, .bool false, .slice none 0 0, .int .i64 0, .slice none 0 0] rfl rfl 27 9 rfl Tryd.sizeOf27
                go_wp2_with (refine STORE4 _ _ _ _ _ (.tmp 2) (.tmp 185) rfl rfl rfl rfl ?_)
                refine bodyPost_ret (ret_cell_tmp (k := 9) Tryd.results16 Tryd.isAgg27 Tryd.sizeOf27 _ _ w.heap.size [.int .i64 0, .int .i64 0, .int .i64 0, .int .i64 0, .int .i64 0, .bool false, .slice none 0 0, .int .i64 0, .slice none 0 0] _ rfl rfl rfl HZ4.out.1) rfl (.inr ⟨FIN.out, rfl, by rw [HZ4.out.2]; exact below_setCells (Nat.le_refl _) _ _ HBR.out⟩)
              | some le =>
                have cb : wr.cell? ⟨wA.heap.size, 1, none⟩ = some (.bool false) := cb
                have cs : wr.cell? ⟨wA.heap.size, 0, none⟩ = some (.string ⟨le.toArray⟩) := by rw [cell_of HIO.out.rq.1]; rfl
                by_cases hle : le = []
                · subst hle
                  have FIN2 : Shut (wholeP t = some ⟨x1, x2, x3, x4, x5, x6, ⟨ws, x10, os⟩⟩) := ⟨by rw [FIN.out]; simp⟩
                  have f0 := HIO.out.cell 0 _ rfl
                  have f1 := HIO.out.cell 1 _ rfl
                  have f2 := HIO.out.cell 2 _ rfl
                  have f3 := HIO.out.cell 3 _ rfl
                  have f4 := HIO.out.cell 4 _ rfl
                  have f5 := HIO.out.cell 5 _ rfl
                  have f6 := HIO.out.cell 6 _ rfl
                  have f7 := HIO.out.cell 7 _ rfl
                  have f8 := HIO.out.cell 8 _ rfl
                  have HOW := hid HIO.out.own
                  obtain ⟨wa, wc, rfl⟩ := row_shape HIO.out.own.1
                  obtain ⟨rows, hrow, hrows⟩ := HIO.out.own.2
                  obtain ⟨oa, oc, rfl⟩ := row_shape hrow
                  clear hrow hrows
                  obtain ⟨w4, STORE4, HZ4⟩ := store_row HWR.out [.int .i64 x1, .int .i64 x2, .int .i64 x3, .int .i64 x4, .int .i64 x5, .bool x6, .slice wa ws.length wc, .int .i64 x10, .slice oa os.length oc] rfl rfl 27 9 rfl Tryd.sizeOf27
                  go_wp2_with (refine STORE4 _ _ _ _ _ (.tmp 2) (.tmp 186) rfl rfl rfl rfl ?_)
                  refine bodyPost_ret (ret_cell_tmp (k := 9) Tryd.results16 Tryd.isAgg27 Tryd.sizeOf27 _ _ w.heap.size [.int .i64 x1, .int .i64 x2, .int .i64 x3, .int .i64 x4, .int .i64 x5, .bool x6, .slice wa ws.length wc, .int .i64 x10, .slice oa os.length oc] _ rfl rfl rfl HZ4.out.1) rfl (.inl ⟨_, wa, wc, oa, oc, FIN2.out, rfl, ?_, by rw [HZ4.out.2]; exact below_setCells (Nat.le_refl _) _ _ HBR.out⟩)
                  rw [HZ4.out.2]
                  exact (HOW.out.at fun g h1 _ => setCells_other _ _ _ _ _ (by omega)).base (by omega)
                · have hne : (le == []) = false := beq_eq_false_iff_ne.2 hle
                  have FIN : Shut (wholeP t = none) := ⟨by rw [FIN.out]; simp [hle]⟩
                  clear hle
                  obtain ⟨w4, STORE4, HZ4⟩ := store_row HWR.out [.int .i64 0, .int .i64 0, .int .i64 0, .int .i64 0, .int .i64 0, .bool false, .slice none 0 0, .int .i64 0, .slice none 0 0] rfl rfl 27 9 rfl Tryd.sizeOf27
                  go_wp2_with (refine STORE4 _ _ _ _ _ (.tmp 2) (.tmp 185) rfl rfl rfl rfl ?_)
                  refine bodyPost_ret (ret_cell_tmp (k := 9) Tryd.results16 Tryd.isAgg27 Tryd.sizeOf27 _ _ w.heap.size [.int .i64 0, .int .i64 0, .int .i64 0, .int .i64 0, .int .i64 0, .bool false, .slice none 0 0, .int .i64 0, .slice none 0 0] _ rfl rfl rfl HZ4.out.1) rfl (.inr ⟨FIN.out, rfl, by rw [HZ4.out.2]; exact below_setCells (Nat.le_refl _) _ _ HBR.out⟩)
end Go.Proofs.YtkonjpcgfdcfbaaDoor
