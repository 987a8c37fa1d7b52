/- The reference's Same.. of the same; BackWire. -/
import Derived.Test.YtcojglkjbbgoaaaDoorJHR
import Derived.Deep.Cut
import Derived.Deep.RegionHeld
namespace Go.Proofs.YtcojglkjbbgoaaaDoor
open Go.RowKit
set_option maxRecDepth 100000

set_option maxHeartbeats 1000000 in
theorem sameInts_n (w : World) (b1 o1 c1 b2 o2 c2 n : Nat) (zs : List Int) (hl : n ≤ 1000000)
    (h1 : ∀ t, t < n → w.cell? ⟨b1, o1 + t, none⟩ = some (.int .i64 (zs.getD t 0)))
    (h2 : ∀ t, t < n → w.cell? ⟨b2, o2 + t, none⟩ = some (.int .i64 (zs.getD t 0))) :
    Calls Tryd.prog 57 #[.slice (some ⟨b1, o1, none⟩) n c1, .slice (some ⟨b2, o2, none⟩) n c2] w fun e w' => e = .returned (.bool true) ∧ ∃ q, w' = w.drewN q := by
  have H1 := hid h1
  have H2 := hid h2
  clear h1 h2
  go_enter Tryd.func57, Tryd.ntmps57
  go_wp2
  go_loopw [5] (fun i wr => ∃ k q : Nat, k ≤ n ∧ i = .int .i64 k ∧ wr = w.drewN q) (fun i _ => n - (intOf i).toNat)
  case atStart => exact ⟨0, 0, Nat.zero_le _, rfl, rfl⟩
  case round =>
    obtain ⟨k, q, hk, rfl, rfl⟩ := hrel
    by_cases hlt : k < n
    · have e1 := H1.out k hlt
      have e2 := H2.out k hlt
      obtain ⟨z, hz⟩ : ∃ z, z = zs.getD k 0 := ⟨_, rfl⟩
      rw [← hz] at e1 e2
      clear hz
      have hi : (k : Int) < (n : Int) := by omega
      go_wp2
      go_quiet (fail)
      go_wp2
      go_roundw
      case rel => exact ⟨k + 1, _, by omega, by go_num, rfl⟩
      case measure => simp [intOf]; omega
    · obtain rfl : k = n := by omega
      go_wp2
      go_ret
      exact ⟨rfl, _, rfl⟩
theorem sameInts_nil (w : World) (a1 a2 : Option Addr) (c1 c2 : Nat) :
    Calls Tryd.prog 57 #[.slice a1 0 c1, .slice a2 0 c2] w fun e w' => e = .returned (.bool true) ∧ w' = w := by
  go_enter Tryd.func57, Tryd.ntmps57
  go_wp2
  refine wp_loop_rounds 1 ?_
  rw [rounds_succ]
  go_wp2
  go_ret
  exact ⟨rfl, rfl⟩
theorem sameInts_same (w : World) (v1 v2 : Value) (zs : List Int) (h1 : IntsAt w v1 zs) (h2 : IntsAt w v2 zs) (hl : zs.length ≤ 1000000) :
    Calls Tryd.prog 57 #[v1, v2] w fun e w' => e = .returned (.bool true) ∧ ∃ q, w' = w.drewN q := by
  obtain ⟨a1, c1, rfl, _, h1⟩ := h1
  obtain ⟨a2, c2, rfl, _, h2⟩ := h2
  rcases h1 with rfl | ⟨b1, o1, rfl, h1⟩
  · refine (sameInts_nil w a1 a2 c1 c2).mono ?_
    rintro e w' ⟨rfl, rfl⟩
    exact ⟨rfl, 0, rfl⟩
  · rcases h2 with rfl | ⟨b2, o2, rfl, h2⟩
    · refine (sameInts_nil w _ a2 c1 c2).mono ?_
      rintro e w' ⟨rfl, rfl⟩
      exact ⟨rfl, 0, rfl⟩
    · exact sameInts_n w b1 o1 c1 b2 o2 c2 zs.length zs hl h1 h2
set_option maxHeartbeats 1000000 in
theorem sameDots_same (w : World) (v v' : Value) (ds : List D3) (h : DotsAt w v ds) (h' : DotsAt w v' ds) (hl : ds.length ≤ 1000000) :
    Calls Tryd.prog 76 #[v, v'] w fun e w' => e = .returned (.bool true) ∧ ∃ q, w' = w.drewN q := by
  obtain ⟨a1, c1, rfl⟩ := h.len
  obtain ⟨a2, c2, rfl⟩ := h'.len
  have H1 := hid h
  have H2 := hid h'
  obtain ⟨n, hn⟩ : ∃ n, n = ds.length := ⟨_, rfl⟩
  rw [← hn] at hl H1 H2 ⊢
  have HN := hid hn
  have bn : ((n : Int) != (n : Int)) = false := by simp
  clear hn h h'
  go_enter Tryd.func76, Tryd.ntmps76
  go_wp2
  go_loopw [5] (fun i wr => ∃ k : Nat, k ≤ n ∧ i = .int .i64 k ∧ Hid (∃ q, wr = w.drewN q)) (fun i _ => n - (intOf i).toNat)
  case atStart => exact ⟨0, Nat.zero_le _, rfl, 0, rfl⟩
  case round =>
    obtain ⟨k, hk, rfl, HQ⟩ := hrel
    by_cases hlt : k < n
    · have hn := HN.out
      obtain ⟨d, hd⟩ : ∃ d, ds[k]? = some d := ⟨_, List.getElem?_eq_getElem (by omega)⟩
      obtain ⟨b1, o1, rfl, p1, p2, p3⟩ := dots_cells H1.out hd
      obtain ⟨b2, o2, rfl, q1, q2, q3⟩ := dots_cells H2.out hd
      have up : ∀ {a : Addr} {v : Value}, w.cell? a = some v → wr.cell? a = some v := fun {a v} h => by obtain ⟨q, hq⟩ := HQ.out; rw [hq]; exact h
      have e1 := up p1
      have e2 := up p2
      have e3 := up p3
      have f1 := up q1
      have f2 := up q2
      have f3 := up q3
      clear hd
      obtain ⟨x, y, z⟩ := d
      simp only at e1 e2 e3 f1 f2 f3
      clear hn p1 p2 p3 q1 q2 q3 up
      go_upto_region 6 with (fail)
      go_quiet (fail)
      go_wp2
      go_roundw
      case rel => exact ⟨k + 1, by omega, by go_num, by obtain ⟨q, hq⟩ := HQ.out; exact ⟨_, by rw [hq]; exact World.drewN_drewN _ _ _⟩⟩
      case measure => simp [intOf]; omega
    · obtain rfl : k = n := by omega
      go_wp2
      go_ret
      exact ⟨rfl, HQ.out⟩
set_option maxHeartbeats 1000000 in
theorem sameOp_same (w : World) (o : OpV) (dv dv' : Value) (h : DotsAt w dv o.dots) (h' : DotsAt w dv' o.dots) (hl : o.dots.length ≤ 1000000) :
    Calls Tryd.prog 58 #[.agg #[.int .i64 o.at_, .string o.key, .int .i64 o.kind, .string o.text, .int .i64 o.n, .bool o.rem, dv], .agg #[.int .i64 o.at_, .string o.key, .int .i64 o.kind, .string o.text, .int .i64 o.n, .bool o.rem, dv']] w fun e w' => e = .returned (.bool true) ∧ Below w.heap.size w w' := by
  have hb := below2 w (.cells #[.int .i64 o.at_, .string o.key, .int .i64 o.kind, .string o.text, .int .i64 o.n, .bool o.rem, dv] 99) (.cells #[.int .i64 o.at_, .string o.key, .int .i64 o.kind, .string o.text, .int .i64 o.n, .bool o.rem, dv'] 99)
  have K := hid (sameDots_same _ dv dv' o.dots (h.mono hb (Nat.le_refl _)) (h'.mono hb (Nat.le_refl _)) hl)
  obtain ⟨a1, c1, rfl⟩ := h.len
  obtain ⟨a2, c2, rfl⟩ := h'.len
  have HB := hid hb
  clear h h' hb
  obtain ⟨x1, x2, x3, x4, x5, x6, ds⟩ := o
  simp only at K HB hl ⊢
  go_enter Tryd.func58, Tryd.ntmps58
  go_wp2_with fail
  refine K.out.mono ?_
  rintro e w2 ⟨rfl, q, rfl⟩
  clear K
  go_wp2
  go_ret
  exact ⟨rfl, below_draws HB.out q⟩
set_option maxHeartbeats 4000000 in
theorem sameCommit_same (w : World) (c : ComV) (wv ov wv' ov' : Value) (hw : IntsAt w wv c.when_) (ho : OpsAt w ov c.ops) (hw' : IntsAt w wv' c.when_) (ho' : OpsAt w ov' c.ops) (hl : c.when_.length ≤ 1000000) (hm : c.ops.length ≤ 1000000) (hd : ∀ o ∈ c.ops, o.dots.length ≤ 1000000) :
    Calls Tryd.prog 47 #[.agg #[wv, .int .i64 c.place, ov], .agg #[wv', .int .i64 c.place, ov']] w fun e w' => e = .returned (.bool true) ∧ Below w.heap.size w w' := by
  obtain ⟨wB, hwB⟩ : ∃ wB, wB = (w.alloc (.cells #[wv, .int .i64 c.place, ov] 35)).alloc (.cells #[wv', .int .i64 c.place, ov'] 35) := ⟨_, rfl⟩
  have hb : Below w.heap.size w wB := by rw [hwB]; exact below2 w _ _
  have hsB : wB.heap.size = w.heap.size + 2 := by rw [hwB]; simp
  have H1 : wB.heap[w.heap.size]? = some (.cells #[wv, .int .i64 c.place, ov] 35 (0, 0)) := by rw [hwB]; exact heap_old (heap_new _ _) _
  have H2 : wB.heap[w.heap.size + 1]? = some (.cells #[wv', .int .i64 c.place, ov'] 35 (0, 0)) := by
    rw [hwB]
    have := heap_new (w.alloc (.cells #[wv, .int .i64 c.place, ov] 35)) (.cells #[wv', .int .i64 c.place, ov'] 35)
    rwa [World.size_alloc] at this
  have K := hid (sameInts_same wB wv wv' c.when_ (hw.mono hb (Nat.le_refl _)) (hw'.mono hb (Nat.le_refl _)) hl)
  have HO := hid (ho.mono hb (Nat.le_refl _))
  have HO' := hid (ho'.mono hb (Nat.le_refl _))
  have HB := hid hb
  have HD := hid hd
  obtain ⟨a1, c1, rfl⟩ := hw.len
  obtain ⟨a1', c1', rfl⟩ := hw'.len
  obtain ⟨a2, c2, rfl⟩ := ho.len
  obtain ⟨a2', c2', rfl⟩ := ho'.len
  obtain ⟨n, hn⟩ : ∃ n, n = c.ops.length := ⟨_, rfl⟩
  obtain ⟨m1, hm1⟩ : ∃ n, n = c.when_.length := ⟨_, rfl⟩
  rw [← hn] at H1 H2 hwB hm HO HO' ⊢
  rw [← hm1] at H1 H2 hwB K ⊢
  have HN := hid hn
  have bn : ((n : Int) != (n : Int)) = false := by simp
  have G1 := hid H1
  have G2 := hid H2
  clear hn hm1 hb hw ho hw' ho' hl hd H1 H2
  go_enter Tryd.func47, Tryd.ntmps47
  go_wp2_with fail
  rw [← hwB]
  refine K.out.mono ?_
  rintro e w2 ⟨rfl, qq, hw2⟩
  have HS2 : Hid (Below wB.heap.size wB w2) := by show Below _ _ _; rw [hw2]; exact below_draws (Below.refl _ _) qq
  clear hw2 hwB K
  have p0 : w2.cell? ⟨w.heap.size, 2, none⟩ = some (.slice a2 n c2) := by rw [HS2.out.cell (p := ⟨w.heap.size, 2, none⟩) (by show w.heap.size < _; omega), cell_of G1.out]; rfl
  have p1 : w2.cell? ⟨w.heap.size + 1, 2, none⟩ = some (.slice a2' n c2') := by rw [HS2.out.cell (p := ⟨w.heap.size + 1, 2, none⟩) (by show w.heap.size + 1 < _; omega), cell_of G2.out]; rfl
  have p2 : w2.cell? ⟨w.heap.size, 1, none⟩ = some (.int .i64 c.place) := by rw [HS2.out.cell (p := ⟨w.heap.size, 1, none⟩) (by show w.heap.size < _; omega), cell_of G1.out]; rfl
  have p3 : w2.cell? ⟨w.heap.size + 1, 1, none⟩ = some (.int .i64 c.place) := by rw [HS2.out.cell (p := ⟨w.heap.size + 1, 1, none⟩) (by show w.heap.size + 1 < _; omega), cell_of G2.out]; rfl
  go_wp2
  go_loopw [5] (fun i wr => ∃ k : Nat, k ≤ n ∧ i = .int .i64 k ∧ Hid (Below wB.heap.size wB wr)) (fun i _ => n - (intOf i).toNat)
  case atStart => exact ⟨0, Nat.zero_le _, rfl, HS2.out⟩
  case round =>
    obtain ⟨k, hk, rfl, HR⟩ := hrel
    have r0 : wr.cell? ⟨w.heap.size, 2, none⟩ = some (.slice a2 n c2) := by rw [HR.out.cell (p := ⟨w.heap.size, 2, none⟩) (by show w.heap.size < _; omega), cell_of G1.out]; rfl
    clear p0 p1 p2 p3
    by_cases hlt : k < n
    · obtain ⟨o, hok⟩ : ∃ o, c.ops[k]? = some o := ⟨_, List.getElem?_eq_getElem (by have := HN.out; omega)⟩
      have HDO := hid (HD.out o (List.mem_of_getElem? hok))
      obtain ⟨b, off, dp, dc, rfl, hda, e0, e1, e2, e3, e4, e5, e6⟩ := opAt_cells HO.out hok
      obtain ⟨b', off', dp', dc', rfl, hda', f0, f1, f2, f3, f4, f5, f6⟩ := opAt_cells HO'.out hok
      have r1 : wr.cell? ⟨w.heap.size + 1, 2, none⟩ = some (.slice (some ⟨b', off', none⟩) n c2') := by rw [HR.out.cell (p := ⟨w.heap.size + 1, 2, none⟩) (by show w.heap.size + 1 < _; omega), cell_of G2.out]; rfl
      have up : ∀ {u : World} {p : Addr} {v : Value}, Below wr.heap.size wr u → wB.cell? p = some v → u.cell? p = some v := fun {u p v} hu h => by
        have hlt := lt_of_cell h
        rw [hu.cell (p := p) (by have := HR.out.size; omega), HR.out.cell (p := p) hlt]
        exact h
      have KO : Hid (∀ u, Below wr.heap.size wr u → Calls Tryd.prog 58 #[.agg #[.int .i64 o.at_, .string o.key, .int .i64 o.kind, .string o.text, .int .i64 o.n, .bool o.rem, .slice dp o.dots.length dc], .agg #[.int .i64 o.at_, .string o.key, .int .i64 o.kind, .string o.text, .int .i64 o.n, .bool o.rem, .slice dp' o.dots.length dc']] u fun e w' => e = .returned (.bool true) ∧ Below wr.heap.size wr w') := fun u hu => by
        have hub : Below wB.heap.size wB u := HR.out.trans (hu.mono HR.out.size)
        refine (sameOp_same u o _ _ (hda.mono hub (Nat.le_refl _)) (hda'.mono hub (Nat.le_refl _)) HDO.out).mono ?_
        rintro e w' ⟨rfl, hb⟩
        exact ⟨rfl, hu.trans (hb.mono hu.size)⟩
      have hb0 : Below wr.heap.size wr wr.drew := (Below.refl _ _).drew
      have HELD : Hid (∀ u, Below wr.heap.size wr u → (u.cell? ⟨w.heap.size, 2, none⟩ = some (.slice (some ⟨b, off, none⟩) n c2) ∧ u.cell? ⟨w.heap.size + 1, 2, none⟩ = some (.slice (some ⟨b', off', none⟩) n c2') ∧
          u.cell? ⟨b, off + k * 7, none⟩ = some (.int .i64 o.at_) ∧ u.cell? ⟨b, off + k * 7 + 1, none⟩ = some (.string o.key) ∧ u.cell? ⟨b, off + k * 7 + 2, none⟩ = some (.int .i64 o.kind) ∧ u.cell? ⟨b, off + k * 7 + 3, none⟩ = some (.string o.text) ∧ u.cell? ⟨b, off + k * 7 + 4, none⟩ = some (.int .i64 o.n) ∧ u.cell? ⟨b, off + k * 7 + 5, none⟩ = some (.bool o.rem) ∧ u.cell? ⟨b, off + k * 7 + 6, none⟩ = some (.slice dp o.dots.length dc) ∧
          u.cell? ⟨b', off' + k * 7, none⟩ = some (.int .i64 o.at_) ∧ u.cell? ⟨b', off' + k * 7 + 1, none⟩ = some (.string o.key) ∧ u.cell? ⟨b', off' + k * 7 + 2, none⟩ = some (.int .i64 o.kind) ∧ u.cell? ⟨b', off' + k * 7 + 3, none⟩ = some (.string o.text) ∧ u.cell? ⟨b', off' + k * 7 + 4, none⟩ = some (.int .i64 o.n) ∧ u.cell? ⟨b', off' + k * 7 + 5, none⟩ = some (.bool o.rem) ∧ u.cell? ⟨b', off' + k * 7 + 6, none⟩ = some (.slice dp' o.dots.length dc'))) := fun u hu =>
        ⟨by rw [hu.cell (p := ⟨w.heap.size, 2, none⟩) (lt_of_cell r0)]; exact r0, by rw [hu.cell (p := ⟨w.heap.size + 1, 2, none⟩) (lt_of_cell r1)]; exact r1, up hu e0, up hu e1, up hu e2, up hu e3, up hu e4, up hu e5, up hu e6, up hu f0, up hu f1, up hu f2, up hu f3, up hu f4, up hu f5, up hu f6⟩
      have i1 : (k : Int) < (n : Int) := by omega
      clear up hda hda' hok e0 e1 e2 e3 e4 e5 e6 f0 f1 f2 f3 f4 f5 f6
      obtain ⟨y1, y2, y3, y4, y5, y6, ds⟩ := o
      simp only at KO HELD
      obtain ⟨nd, hnd⟩ : ∃ nd, nd = ds.length := ⟨_, rfl⟩
      rw [← hnd] at KO HELD
      clear hnd HDO
      go_upto_region 6 with (fail)
      go_region_held (fun u => u.cell? ⟨w.heap.size, 2, none⟩ = some (.slice (some ⟨b, off, none⟩) n c2) ∧ u.cell? ⟨w.heap.size + 1, 2, none⟩ = some (.slice (some ⟨b', off', none⟩) n c2') ∧
          u.cell? ⟨b, off + k * 7, none⟩ = some (.int .i64 y1) ∧ u.cell? ⟨b, off + k * 7 + 1, none⟩ = some (.string y2) ∧ u.cell? ⟨b, off + k * 7 + 2, none⟩ = some (.int .i64 y3) ∧ u.cell? ⟨b, off + k * 7 + 3, none⟩ = some (.string y4) ∧ u.cell? ⟨b, off + k * 7 + 4, none⟩ = some (.int .i64 y5) ∧ u.cell? ⟨b, off + k * 7 + 5, none⟩ = some (.bool y6) ∧ u.cell? ⟨b, off + k * 7 + 6, none⟩ = some (.slice dp nd dc) ∧
          u.cell? ⟨b', off' + k * 7, none⟩ = some (.int .i64 y1) ∧ u.cell? ⟨b', off' + k * 7 + 1, none⟩ = some (.string y2) ∧ u.cell? ⟨b', off' + k * 7 + 2, none⟩ = some (.int .i64 y3) ∧ u.cell? ⟨b', off' + k * 7 + 3, none⟩ = some (.string y4) ∧ u.cell? ⟨b', off' + k * 7 + 4, none⟩ = some (.int .i64 y5) ∧ u.cell? ⟨b', off' + k * 7 + 5, none⟩ = some (.bool y6) ∧ u.cell? ⟨b', off' + k * 7 + 6, none⟩ = some (.slice dp' nd dc'))
        ((refine HELD.out _ ?_; assumption))
        ((go_at_call 58; refine (KO.out _ (by assumption)).mono ?_; rintro e u1 ⟨rfl, hb1⟩))
      have HB1 := hid hb1
      clear hb1
      go_wp2
      go_roundw
      case rel => exact ⟨k + 1, by omega, by go_num, HR.out.trans (HB1.out.mono HR.out.size)⟩
      case measure => simp [intOf]; omega
    · obtain rfl : k = n := by omega
      go_wp2
      go_ret
      exact ⟨rfl, HB.out.trans (HR.out.mono HB.out.size)⟩
set_option maxHeartbeats 2000000 in
theorem sameMessage_same (w : World) (m : MsgV) (wv ov wv' ov' : Value) (hw : IntsAt w wv m.c.when_) (ho : OpsAt w ov m.c.ops) (hw' : IntsAt w wv' m.c.when_) (ho' : OpsAt w ov' m.c.ops) (hl : m.c.when_.length ≤ 1000000) (hm : m.c.ops.length ≤ 1000000) (hd : ∀ o ∈ m.c.ops, o.dots.length ≤ 1000000) :
    Calls Tryd.prog 22 #[.agg #[.int .i64 m.frm, .int .i64 m.to_, .int .i64 m.shard, .int .i64 m.seq, .int .i64 m.time, .bool m.beat, wv, .int .i64 m.c.place, ov], .agg #[.int .i64 m.frm, .int .i64 m.to_, .int .i64 m.shard, .int .i64 m.seq, .int .i64 m.time, .bool m.beat, wv', .int .i64 m.c.place, ov']] w fun e w' => e = .returned (.bool true) ∧ Below w.heap.size w w' := by
  have hb := below2 w (.cells #[.int .i64 m.frm, .int .i64 m.to_, .int .i64 m.shard, .int .i64 m.seq, .int .i64 m.time, .bool m.beat, wv, .int .i64 m.c.place, ov] 58) (.cells #[.int .i64 m.frm, .int .i64 m.to_, .int .i64 m.shard, .int .i64 m.seq, .int .i64 m.time, .bool m.beat, wv', .int .i64 m.c.place, ov'] 58)
  have K := hid (sameCommit_same _ m.c wv ov wv' ov' (hw.mono hb (Nat.le_refl _)) (ho.mono hb (Nat.le_refl _)) (hw'.mono hb (Nat.le_refl _)) (ho'.mono hb (Nat.le_refl _)) hl hm hd)
  obtain ⟨a1, c1, rfl⟩ := hw.len
  obtain ⟨a1', c1', rfl⟩ := hw'.len
  obtain ⟨a2, c2, rfl⟩ := ho.len
  obtain ⟨a2', c2', rfl⟩ := ho'.len
  obtain ⟨n, hn⟩ : ∃ n, n = m.c.ops.length := ⟨_, rfl⟩
  obtain ⟨m1, hm1⟩ : ∃ n, n = m.c.when_.length := ⟨_, rfl⟩
  rw [← hn, ← hm1] at K hb ⊢
  have HB := hid hb
  clear hn hm1 hb hw ho hw' ho' hl hd hm
  obtain ⟨x1, x2, x3, x4, x5, x6, ⟨ws, p, os⟩⟩ := m
  simp only at K HB ⊢
  go_enter Tryd.func22, Tryd.ntmps22
  go_wp2_with fail
  refine K.out.mono ?_
  rintro e w2 ⟨rfl, hb2⟩
  clear K
  go_wp2
  go_ret
  exact ⟨rfl, HB.out.trans (hb2.mono HB.out.size)⟩
set_option maxHeartbeats 2000000 in
theorem backWire_any (w : World) (x1 x2 x3 x4 x5 p : Int) (x6 : Bool) (a1 a2 : Option Addr) (n1 c1 n2 c2 : Nat) :
    Calls Tryd.prog 23 #[.agg #[.int .i64 x1, .int .i64 x2, .int .i64 x3, .int .i64 x4, .int .i64 x5, .bool x6, .slice a1 n1 c1, .int .i64 p, .slice a2 n2 c2]] w fun e w' => e = .returned (.agg #[.int .i64 x1, .int .i64 x2, .int .i64 x3, .int .i64 x4, .int .i64 x5, .bool x6, .slice a1 n1 c1, .int .i64 p, .slice a2 n2 c2]) ∧ Below w.heap.size w w' := by
  go_enter Tryd.func23, Tryd.ntmps23
  go_wp2_with fail
  refine bodyPost_ret (ret_cell (k := 9) Tryd.results23 Tryd.isAgg58 Tryd.sizeOf58 _ _ (w.heap.size + 1) [.int .i64 x1, .int .i64 x2, .int .i64 x3, .int .i64 x4, .int .i64 x5, .bool x6, .slice a1 n1 c1, .int .i64 p, .slice a2 n2 c2] rfl rfl (cells_heap (t := 58) _ (heap_new2 _ _ _))) rfl ⟨rfl, (below_alloc _ _).alloc (by simp) _⟩
end Go.Proofs.YtcojglkjbbgoaaaDoor
