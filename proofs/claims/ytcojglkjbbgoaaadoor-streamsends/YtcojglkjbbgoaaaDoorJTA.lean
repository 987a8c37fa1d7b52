/- The sender's Again, any messages. -/
import Derived.Test.YtcojglkjbbgoaaaDoorJTK
import Derived.Test.YtcojglkjbbgoaaaDoorJHG
import Derived.Test.YtcojglkjbbgoaaaDoorJSAck
namespace Go.Proofs.YtcojglkjbbgoaaaDoor
open Go.RowKit
set_option maxRecDepth 100000

theorem f2_snoc {α β : Type} {R : α → β → Prop} {l : List α} {m : List β} {a : α} {b : β} (h : F2 R l m) (hr : R a b) : F2 R (l ++ [a]) (m ++ [b]) := f2_append h hr
/-- What Again leaves: copies of all. -/
def AgRet (w : World) (ms : List MsgV) (e : Ending) (w' : World) : Prop := ∃ (v' : Value) (rs : List Raw), e = .returned v' ∧ w'.ownsRow w.heap.size 37 9 v' ms.length (raws rs) ∧ F2 (RawOwn w.heap.size w') rs ms ∧ Below w.heap.size w w'
set_option maxHeartbeats 4000000 in
theorem againFirst_raw (w : World) (g : Nat) (f t s seq time : Int) (v : Value) (l : List Raw) (ms : List MsgV) (N : Int) (hN : (l.length : Int) ≤ N) (h : SndR w g f t s seq time v l) (hl : l.length ≤ 1000) (hm : F2 (RawOwn 0 w) l ms) (hL : ∀ m ∈ ms, Light m.c) :
    Calls Tryd.prog 41 #[.pointer (some ⟨g, 0, none⟩), .int .i64 N] w (AgRet w ms) := by
  obtain ⟨i37, hi, hz0, hz1, hz2⟩ := info_parts Tryd.info37
  have H := hid h
  have HF := hid hm
  have HLL := hid hL
  obtain ⟨av, cv, rfl, hcv⟩ := row_room h.row
  have c5 : w.cell? ⟨g, 5, none⟩ = some (.slice av l.length cv) := (cell_of h.box).trans rfl
  obtain ⟨n, hn⟩ : ∃ n, n = l.length := ⟨_, rfl⟩
  rw [← hn] at c5 hl hN hcv
  have HN := hid hn
  have HM : Hid (n = ms.length) := hn.trans (f2_len hm)
  clear h hn hm hL
  have hn0 : (0 : Int) ≤ (n : Int) := by omega
  have hx1 : max N 0 = N := by omega
  have hx2 : min N (n : Int) = (n : Int) := by omega
  go_enter Tryd.func41, Tryd.ntmps41
  go_upto_region 4 with (fail)
  go_region_held (fun u => u.cell? ⟨g, 5, none⟩ = some (.slice av n cv)) (go_keep) (fail)
  go_wp2
  go_loopw [5, 24] (fun x i wr => ∃ (k : Nat) (xv : Value) (rs : List Raw), k ≤ n ∧ i = .int .i64 k ∧ x = xv ∧ Hid (wr.ownsRow w.heap.size 37 9 xv k (raws rs)) ∧ Hid (F2 (RawOwn w.heap.size wr) rs (ms.take k)) ∧ Hid (Below w.heap.size w wr)) (fun _ i _ => n - (intOf i).toNat)
  case atStart => exact ⟨0, _, [], Nat.zero_le _, rfl, rfl, World.ownsRow_nil _ _ _ _, trivial, (Below.refl _ _).drew⟩
  case round =>
    obtain ⟨k, xv, rs, hk, rfl, rfl, HX, HRS, HR⟩ := hrel
    by_cases hlt : k < n
    · obtain ⟨r, hr⟩ : ∃ r, l[k]? = some r := ⟨_, List.getElem?_eq_getElem (by rw [← HN.out]; exact hlt)⟩
      obtain ⟨m, hmk⟩ : ∃ m, ms[k]? = some m := ⟨_, List.getElem?_eq_getElem (by rw [← HM.out]; exact hlt)⟩
      obtain ⟨b, rfl, _, hcell⟩ := row_raw H.out.row rfl hr
      have hrm : RawOwn 0 w r m := by
        obtain ⟨r', h1, h2⟩ := f2_get HF.out k m hmk
        rw [hr] at h1
        obtain rfl := Option.some.inj h1
        exact h2
      have HT : Hid (ms.take (k + 1) = ms.take k ++ [m]) := by
        show _ = _
        obtain ⟨hk1, hk2⟩ := List.getElem?_eq_some_iff.1 hmk
        rw [List.take_succ_eq_append_getElem hk1, hk2]
      have HAT := hid (hrm.at_.mono HR.out (Nat.le_refl _))
      have HLM := hid (HLL.out m (List.mem_of_getElem? hmk))
      obtain ⟨x1, x2, x3, x4, x5, x6, a1, n1, c1, p, a2, n2, c2⟩ := r
      have up : ∀ j u, (Raw.cells ⟨x1, x2, x3, x4, x5, x6, a1, n1, c1, p, a2, n2, c2⟩)[j]? = some u → wr.cell? ⟨b, k * 9 + j, none⟩ = some u := fun j u hu => by
        have e := hcell j u hu
        rw [HR.out.cell (p := ⟨b, k * 9 + j, none⟩) (lt_of_cell e)]; exact e
      have e0 : wr.cell? ⟨b, k * 9, none⟩ = some (.int .i64 x1) := up 0 _ rfl
      have e1 := up 1 (.int .i64 x2) rfl
      have e2 := up 2 (.int .i64 x3) rfl
      have e3 := up 3 (.int .i64 x4) rfl
      have e4 := up 4 (.int .i64 x5) rfl
      have e5 := up 5 (.bool x6) rfl
      have e6 := up 6 (.slice a1 n1 c1) rfl
      have e7 := up 7 (.int .i64 p) rfl
      have e8 := up 8 (.slice a2 n2 c2) rfl
      obtain ⟨xa, xc, hxv⟩ := row_shape HX.out
      subst hxv
      have hi1 : (k : Int) < (n : Int) := by omega
      clear up hcell hr hmk hrm
      obtain ⟨w5, hw5⟩ : ∃ w5, w5 = wr.alloc (.cells #[.int .i64 x1, .int .i64 x2, .int .i64 x3, .int .i64 x4, .int .i64 x5, .bool x6, .slice a1 n1 c1, .int .i64 p, .slice a2 n2 c2] 37) := ⟨_, rfl⟩
      have hb5 : Below wr.heap.size wr w5 := by rw [hw5]; exact below_alloc _ _
      have KC := hid (copy_raw w5 ⟨x1, x2, x3, x4, x5, x6, a1, n1, c1, p, a2, n2, c2⟩ m (HAT.out.mono hb5 (Nat.le_refl _)) HLM.out)
      unfold Raw.cells at KC
      simp only at KC
      go_wp2_with fail
      rw [← hw5]
      refine KC.out.mono ?_
      rintro e w8 ⟨⟨y1, y2, y3, y4, y5, y6, b1, k1, d1, pp, b2, k2, d2⟩, rfl, how, hb8⟩
      have hbr : Below wr.heap.size wr w8 := hb5.trans (hb8.mono hb5.size)
      have X8 := hid (owns_at HX.out fun q _ h2 => hbr.block q h2)
      have B8 := hid (HR.out.trans (hbr.mono HR.out.size))
      have RS8 := hid (f2_mono (fun _ _ hq => (⟨hq.nums, hq.own.at fun q _ h2 => hbr.block q h2⟩ : RawOwn _ _ _ _)) HRS.out)
      have OW8 := hid (how.base (Nat.le_trans HR.out.size hb5.size))
      clear hw5 KC hb5 hb8 hbr e0 e1 e2 e3 e4 e5 e6 e7 e8 how
      unfold Raw.cells
      simp only
      go_wp2_with (at_builtin; refine wpList_append_own _ rfl _ _ 32 rfl w.heap.size 37 i37 _ 9 104 Tryd.underlying32 hi hz0 hz1 hz2 rfl (by decide) _ _ _ rfl (X8.out.alloc _) ⟨w8.heap.size, 0, none⟩ 1 1 [.int .i64 y1, .int .i64 y2, .int .i64 y3, .int .i64 y4, .int .i64 y5, .bool y6, .slice b1 k1 d1, .int .i64 pp, .slice b2 k2 d2] rfl rfl (cells3_new _ _ _) (oneR ⟨y1, y2, y3, y4, y5, y6, b1, k1, d1, pp, b2, k2, d2⟩) ?hm2 ?hm3 ?hm4 ?_; (case hm2 => unfold maxLen; omega); (case hm3 => omega); (case hm4 => have := B8.out.size; simp; omega); intro v9 w9 hown9 hgr9 _; have B9 : Hid (Below w.heap.size w w9) := (show Below _ _ _ from ⟨hgr9.os.trans B8.out.os, hgr9.tape.trans B8.out.tape, hgr9.output.trans B8.out.output, by have := hgr9.size; have := B8.out.size; simp at *; omega, fun q hq => by rw [hgr9.block q (by have := B8.out.size; simp; omega) (fun e => by have := (X8.out.lt q e.symm).1; omega), Below.heap_alloc _ _ _ (by have := B8.out.size; omega)]; exact B8.out.block q hq⟩); have KP : Hid (Keeps w8 w9) := (show Keeps _ _ from fun tt htt bb cc hcc => grown_ne X8.out hgr9 bb cc tt (by rcases htt with e | e | e <;> (rw [e]; decide)) hcc); have X9 := hid hown9; clear hown9 hgr9)
      refine ⟨⟨k + 1, _, rs ++ [⟨y1, y2, y3, y4, y5, y6, b1, k1, d1, pp, b2, k2, d2⟩], by omega, by go_num, rfl, ?_, ?_, B9.out⟩, by simp [intOf]; omega⟩
      · show World.ownsRow _ _ _ _ _ _ _
        rw [raws_snoc]
        exact X9.out
      · show F2 _ _ _
        rw [HT.out]
        exact f2_snoc (f2_mono (fun _ _ hq => hq.kept KP.out) RS8.out) (OW8.out.kept KP.out)
    · obtain rfl : k = n := by omega
      have HT : Hid (ms.take k = ms) := List.take_of_length_le (by rw [← HM.out]; omega)
      rw [HT.out] at HRS
      go_wp2
      go_ret
      exact ⟨_, rs, rfl, by rw [← HM.out]; exact HX.out, HRS.out, HR.out⟩
theorem again_raw (w : World) (g : Nat) (f t s seq time : Int) (v : Value) (l : List Raw) (ms : List MsgV) (h : SndR w g f t s seq time v l) (hl : l.length ≤ 1000) (hm : F2 (RawOwn 0 w) l ms) (hL : ∀ m ∈ ms, Light m.c) :
    Calls Tryd.prog 14 #[.pointer (some ⟨g, 0, none⟩)] w (AgRet w ms) := by
  have K := hid (againFirst_raw w g f t s seq time v l ms 9223372036854775807 (by omega) h hl hm hL)
  clear h hm hL
  go_enter Tryd.func14, Tryd.ntmps14
  go_wp2_with fail
  refine K.out.mono ?_
  rintro e w' ⟨v', rs, rfl, hr, hf, hb⟩
  obtain ⟨xa, xc, rfl⟩ := row_shape hr
  have R := hid hr
  have F := hid hf
  have B := hid hb
  clear hr hf hb
  go_wp2
  go_ret
  exact ⟨_, rs, rfl, R.out, F.out, B.out⟩
end Go.Proofs.YtcojglkjbbgoaaaDoor
