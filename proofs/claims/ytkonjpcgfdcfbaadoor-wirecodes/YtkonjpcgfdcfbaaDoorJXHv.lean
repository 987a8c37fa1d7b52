/- The reference's SameCommit and SameMessage of the same; HeavyCommit by its contract. -/
import Derived.Test.YtkonjpcgfdcfbaaDoorJXSm
import Derived.Deep.RegionHeld
namespace Go.Proofs.YtkonjpcgfdcfbaaDoor
open Go.RowKit
set_option maxRecDepth 100000

theorem opAt_cells {w : World} {a : Option Addr} {n c : Nat} {os : List OpV} (h : OpsAt w (.slice a n c) os) {k : Nat} {o : OpV} (hk : os[k]? = some o) :
    ∃ b off dp dc, a = some ⟨b, off, none⟩ ∧ DotsAt w (.slice dp o.dots.length dc) o.dots ∧
      w.cell? ⟨b, off + k * 7, none⟩ = some (.int .i64 o.at_) ∧ w.cell? ⟨b, off + k * 7 + 1, none⟩ = some (.string o.key) ∧ w.cell? ⟨b, off + k * 7 + 2, none⟩ = some (.int .i64 o.kind) ∧ w.cell? ⟨b, off + k * 7 + 3, none⟩ = some (.string o.text) ∧
      w.cell? ⟨b, off + k * 7 + 4, none⟩ = some (.int .i64 o.n) ∧ w.cell? ⟨b, off + k * 7 + 5, none⟩ = some (.bool o.rem) ∧ w.cell? ⟨b, off + k * 7 + 6, none⟩ = some (.slice dp o.dots.length dc) := by
  obtain ⟨ad, cap, hv, _, _, hh⟩ := h.shape
  injection hv with hv _ _
  subst hv
  rcases hh with hh | ⟨b, off, rfl, hh⟩
  · rw [hh] at hk; simp at hk
  · obtain ⟨dp, dc, h1, h2⟩ := hh k o hk
    exact ⟨b, off, dp, dc, rfl, h1, h2⟩
theorem OpsAt.len {w : World} {v : Value} {os : List OpV} (h : OpsAt w v os) : ∃ ad cap, v = .slice ad os.length cap := by
  obtain ⟨ad, cap, rfl, _⟩ := h.shape
  exact ⟨ad, cap, rfl⟩
theorem IntsAt.len {w : World} {v : Value} {zs : List Int} (h : IntsAt w v zs) : ∃ ad cap, v = .slice ad zs.length cap := by
  obtain ⟨ad, cap, rfl, _⟩ := h
  exact ⟨ad, cap, rfl⟩
set_option maxHeartbeats 4000000 in
theorem sameCommit_same (w : World) (c : ComV) (wv ov wv' ov' : Value) (hw : IntsAt w wv c.when_) (ho : OpsAt w ov c.ops) (hw' : IntsAt w wv' c.when_) (ho' : OpsAt w ov' c.ops) (hl : c.when_.length ≤ 1000000) (hm : c.ops.length ≤ 1000000) (hd : ∀ o ∈ c.ops, o.dots.length ≤ 1000000) :
    Calls Tryd.prog 27 #[.agg #[wv, .int .i64 c.place, ov], .agg #[wv', .int .i64 c.place, ov']] w fun e w' => e = .returned (.bool true) ∧ Below w.heap.size w w' := by
  obtain ⟨wB, hwB⟩ : ∃ wB, wB = (w.alloc (.cells #[wv, .int .i64 c.place, ov] 25)).alloc (.cells #[wv', .int .i64 c.place, ov'] 25) := ⟨_, rfl⟩
  have hb : Below w.heap.size w wB := by rw [hwB]; exact below2 w _ _
  have hsB : wB.heap.size = w.heap.size + 2 := by rw [hwB]; simp
  have H1 : wB.heap[w.heap.size]? = some (.cells #[wv, .int .i64 c.place, ov] 25 (0, 0)) := by rw [hwB]; exact heap_old (heap_new _ _) _
  have H2 : wB.heap[w.heap.size + 1]? = some (.cells #[wv', .int .i64 c.place, ov'] 25 (0, 0)) := by
    rw [hwB]
    have := heap_new (w.alloc (.cells #[wv, .int .i64 c.place, ov] 25)) (.cells #[wv', .int .i64 c.place, ov'] 25)
    rwa [World.size_alloc] at this
  have K := hid (sameInts_same wB wv wv' c.when_ (hw.mono hb (Nat.le_refl _)) (hw'.mono hb (Nat.le_refl _)) hl)
  have HO := hid (ho.mono hb (Nat.le_refl _))
  have HO' := hid (ho'.mono hb (Nat.le_refl _))
  have HB := hid hb
  have HD := hid hd
  obtain ⟨a1, c1, rfl⟩ := hw.len
  obtain ⟨a1', c1', rfl⟩ := hw'.len
  obtain ⟨a2, c2, rfl⟩ := ho.len
  obtain ⟨a2', c2', rfl⟩ := ho'.len
  obtain ⟨n, hn⟩ : ∃ n, n = c.ops.length := ⟨_, rfl⟩
  obtain ⟨m1, hm1⟩ : ∃ n, n = c.when_.length := ⟨_, rfl⟩
  rw [← hn] at H1 H2 hwB hm HO HO' ⊢
  rw [← hm1] at H1 H2 hwB K ⊢
  have HN := hid hn
  have bn : ((n : Int) != (n : Int)) = false := by simp
  have G1 := hid H1
  have G2 := hid H2
  clear hn hm1 hb hw ho hw' ho' hl hd H1 H2
  go_enter Tryd.func27, Tryd.ntmps27
  go_wp2_with fail
  rw [← hwB]
  refine K.out.mono ?_
  rintro e w2 ⟨rfl, qq, hw2⟩
  have HS2 : Hid (Below wB.heap.size wB w2) := by show Below _ _ _; rw [hw2]; exact below_draws (Below.refl _ _) qq
  clear hw2 hwB K
  have p0 : w2.cell? ⟨w.heap.size, 2, none⟩ = some (.slice a2 n c2) := by rw [HS2.out.cell (p := ⟨w.heap.size, 2, none⟩) (by show w.heap.size < _; omega), cell_of G1.out]; rfl
  have p1 : w2.cell? ⟨w.heap.size + 1, 2, none⟩ = some (.slice a2' n c2') := by rw [HS2.out.cell (p := ⟨w.heap.size + 1, 2, none⟩) (by show w.heap.size + 1 < _; omega), cell_of G2.out]; rfl
  have p2 : w2.cell? ⟨w.heap.size, 1, none⟩ = some (.int .i64 c.place) := by rw [HS2.out.cell (p := ⟨w.heap.size, 1, none⟩) (by show w.heap.size < _; omega), cell_of G1.out]; rfl
  have p3 : w2.cell? ⟨w.heap.size + 1, 1, none⟩ = some (.int .i64 c.place) := by rw [HS2.out.cell (p := ⟨w.heap.size + 1, 1, none⟩) (by show w.heap.size + 1 < _; omega), cell_of G2.out]; rfl
  go_wp2
  go_loopw [5] (fun i wr => ∃ k : Nat, k ≤ n ∧ i = .int .i64 k ∧ Hid (Below wB.heap.size wB wr)) (fun i _ => n - (intOf i).toNat)
  case atStart => exact ⟨0, Nat.zero_le _, rfl, HS2.out⟩
  case round =>
    obtain ⟨k, hk, rfl, HR⟩ := hrel
    have r0 : wr.cell? ⟨w.heap.size, 2, none⟩ = some (.slice a2 n c2) := by rw [HR.out.cell (p := ⟨w.heap.size, 2, none⟩) (by show w.heap.size < _; omega), cell_of G1.out]; rfl
    clear p0 p1 p2 p3
    by_cases hlt : k < n
    · obtain ⟨o, hok⟩ : ∃ o, c.ops[k]? = some o := ⟨_, List.getElem?_eq_getElem (by have := HN.out; omega)⟩
      have HDO := hid (HD.out o (List.mem_of_getElem? hok))
      obtain ⟨b, off, dp, dc, rfl, hda, e0, e1, e2, e3, e4, e5, e6⟩ := opAt_cells HO.out hok
      obtain ⟨b', off', dp', dc', rfl, hda', f0, f1, f2, f3, f4, f5, f6⟩ := opAt_cells HO'.out hok
      have r1 : wr.cell? ⟨w.heap.size + 1, 2, none⟩ = some (.slice (some ⟨b', off', none⟩) n c2') := by rw [HR.out.cell (p := ⟨w.heap.size + 1, 2, none⟩) (by show w.heap.size + 1 < _; omega), cell_of G2.out]; rfl
      have up : ∀ {u : World} {p : Addr} {v : Value}, Below wr.heap.size wr u → wB.cell? p = some v → u.cell? p = some v := fun {u p v} hu h => by
        have hlt := lt_of_cell h
        rw [hu.cell (p := p) (by have := HR.out.size; omega), HR.out.cell (p := p) hlt]
        exact h
      have KO : Hid (∀ u, Below wr.heap.size wr u → Calls Tryd.prog 42 #[.agg #[.int .i64 o.at_, .string o.key, .int .i64 o.kind, .string o.text, .int .i64 o.n, .bool o.rem, .slice dp o.dots.length dc], .agg #[.int .i64 o.at_, .string o.key, .int .i64 o.kind, .string o.text, .int .i64 o.n, .bool o.rem, .slice dp' o.dots.length dc']] u fun e w' => e = .returned (.bool true) ∧ Below wr.heap.size wr w') := fun u hu => by
        have hub : Below wB.heap.size wB u := HR.out.trans (hu.mono HR.out.size)
        refine (sameOp_same u o _ _ (hda.mono hub (Nat.le_refl _)) (hda'.mono hub (Nat.le_refl _)) HDO.out).mono ?_
        rintro e w' ⟨rfl, hb⟩
        exact ⟨rfl, hu.trans (hb.mono hu.size)⟩
      have hb0 : Below wr.heap.size wr wr.drew := (Below.refl _ _).drew
      have HELD : Hid (∀ u, Below wr.heap.size wr u → (u.cell? ⟨w.heap.size, 2, none⟩ = some (.slice (some ⟨b, off, none⟩) n c2) ∧ u.cell? ⟨w.heap.size + 1, 2, none⟩ = some (.slice (some ⟨b', off', none⟩) n c2') ∧
          u.cell? ⟨b, off + k * 7, none⟩ = some (.int .i64 o.at_) ∧ u.cell? ⟨b, off + k * 7 + 1, none⟩ = some (.string o.key) ∧ u.cell? ⟨b, off + k * 7 + 2, none⟩ = some (.int .i64 o.kind) ∧ u.cell? ⟨b, off + k * 7 + 3, none⟩ = some (.string o.text) ∧ u.cell? ⟨b, off + k * 7 + 4, none⟩ = some (.int .i64 o.n) ∧ u.cell? ⟨b, off + k * 7 + 5, none⟩ = some (.bool o.rem) ∧ u.cell? ⟨b, off + k * 7 + 6, none⟩ = some (.slice dp o.dots.length dc) ∧
          u.cell? ⟨b', off' + k * 7, none⟩ = some (.int .i64 o.at_) ∧ u.cell? ⟨b', off' + k * 7 + 1, none⟩ = some (.string o.key) ∧ u.cell? ⟨b', off' + k * 7 + 2, none⟩ = some (.int .i64 o.kind) ∧ u.cell? ⟨b', off' + k * 7 + 3, none⟩ = some (.string o.text) ∧ u.cell? ⟨b', off' + k * 7 + 4, none⟩ = some (.int .i64 o.n) ∧ u.cell? ⟨b', off' + k * 7 + 5, none⟩ = some (.bool o.rem) ∧ u.cell? ⟨b', off' + k * 7 + 6, none⟩ = some (.slice dp' o.dots.length dc'))) := fun u hu =>
        ⟨by rw [hu.cell (p := ⟨w.heap.size, 2, none⟩) (lt_of_cell r0)]; exact r0, by rw [hu.cell (p := ⟨w.heap.size + 1, 2, none⟩) (lt_of_cell r1)]; exact r1, up hu e0, up hu e1, up hu e2, up hu e3, up hu e4, up hu e5, up hu e6, up hu f0, up hu f1, up hu f2, up hu f3, up hu f4, up hu f5, up hu f6⟩
      have i1 : (k : Int) < (n : Int) := by omega
      clear up hda hda' hok e0 e1 e2 e3 e4 e5 e6 f0 f1 f2 f3 f4 f5 f6
      obtain ⟨y1, y2, y3, y4, y5, y6, ds⟩ := o
      simp only at KO HELD
      obtain ⟨nd, hnd⟩ : ∃ nd, nd = ds.length := ⟨_, rfl⟩
      rw [← hnd] at KO HELD
      clear hnd HDO
      go_upto_region 6 with (fail)
      go_region_held (fun u => u.cell? ⟨w.heap.size, 2, none⟩ = some (.slice (some ⟨b, off, none⟩) n c2) ∧ u.cell? ⟨w.heap.size + 1, 2, none⟩ = some (.slice (some ⟨b', off', none⟩) n c2') ∧
          u.cell? ⟨b, off + k * 7, none⟩ = some (.int .i64 y1) ∧ u.cell? ⟨b, off + k * 7 + 1, none⟩ = some (.string y2) ∧ u.cell? ⟨b, off + k * 7 + 2, none⟩ = some (.int .i64 y3) ∧ u.cell? ⟨b, off + k * 7 + 3, none⟩ = some (.string y4) ∧ u.cell? ⟨b, off + k * 7 + 4, none⟩ = some (.int .i64 y5) ∧ u.cell? ⟨b, off + k * 7 + 5, none⟩ = some (.bool y6) ∧ u.cell? ⟨b, off + k * 7 + 6, none⟩ = some (.slice dp nd dc) ∧
          u.cell? ⟨b', off' + k * 7, none⟩ = some (.int .i64 y1) ∧ u.cell? ⟨b', off' + k * 7 + 1, none⟩ = some (.string y2) ∧ u.cell? ⟨b', off' + k * 7 + 2, none⟩ = some (.int .i64 y3) ∧ u.cell? ⟨b', off' + k * 7 + 3, none⟩ = some (.string y4) ∧ u.cell? ⟨b', off' + k * 7 + 4, none⟩ = some (.int .i64 y5) ∧ u.cell? ⟨b', off' + k * 7 + 5, none⟩ = some (.bool y6) ∧ u.cell? ⟨b', off' + k * 7 + 6, none⟩ = some (.slice dp' nd dc'))
        ((refine HELD.out _ ?_; assumption))
        ((go_at_call 42; refine (KO.out _ (by assumption)).mono ?_; rintro e u1 ⟨rfl, hb1⟩))
      have HB1 := hid hb1
      clear hb1
      go_wp2
      go_roundw
      case rel => exact ⟨k + 1, by omega, by go_num, HR.out.trans (HB1.out.mono HR.out.size)⟩
      case measure => simp [intOf]; omega
    · obtain rfl : k = n := by omega
      go_wp2
      go_ret
      exact ⟨rfl, HB.out.trans (HR.out.mono HB.out.size)⟩
set_option maxHeartbeats 2000000 in
theorem sameMessage_same (w : World) (m : MsgV) (wv ov wv' ov' : Value) (hw : IntsAt w wv m.c.when_) (ho : OpsAt w ov m.c.ops) (hw' : IntsAt w wv' m.c.when_) (ho' : OpsAt w ov' m.c.ops) (hl : m.c.when_.length ≤ 1000000) (hm : m.c.ops.length ≤ 1000000) (hd : ∀ o ∈ m.c.ops, o.dots.length ≤ 1000000) :
    Calls Tryd.prog 12 #[.agg #[.int .i64 m.frm, .int .i64 m.to_, .int .i64 m.shard, .int .i64 m.seq, .int .i64 m.time, .bool m.beat, wv, .int .i64 m.c.place, ov], .agg #[.int .i64 m.frm, .int .i64 m.to_, .int .i64 m.shard, .int .i64 m.seq, .int .i64 m.time, .bool m.beat, wv', .int .i64 m.c.place, ov']] w fun e w' => e = .returned (.bool true) ∧ Below w.heap.size w w' := by
  have hb := below2 w (.cells #[.int .i64 m.frm, .int .i64 m.to_, .int .i64 m.shard, .int .i64 m.seq, .int .i64 m.time, .bool m.beat, wv, .int .i64 m.c.place, ov] 27) (.cells #[.int .i64 m.frm, .int .i64 m.to_, .int .i64 m.shard, .int .i64 m.seq, .int .i64 m.time, .bool m.beat, wv', .int .i64 m.c.place, ov'] 27)
  have K := hid (sameCommit_same _ m.c wv ov wv' ov' (hw.mono hb (Nat.le_refl _)) (ho.mono hb (Nat.le_refl _)) (hw'.mono hb (Nat.le_refl _)) (ho'.mono hb (Nat.le_refl _)) hl hm hd)
  obtain ⟨a1, c1, rfl⟩ := hw.len
  obtain ⟨a1', c1', rfl⟩ := hw'.len
  obtain ⟨a2, c2, rfl⟩ := ho.len
  obtain ⟨a2', c2', rfl⟩ := ho'.len
  obtain ⟨n, hn⟩ : ∃ n, n = m.c.ops.length := ⟨_, rfl⟩
  obtain ⟨m1, hm1⟩ : ∃ n, n = m.c.when_.length := ⟨_, rfl⟩
  rw [← hn, ← hm1] at K hb ⊢
  have HB := hid hb
  clear hn hm1 hb hw ho hw' ho' hl hd hm
  obtain ⟨x1, x2, x3, x4, x5, x6, ⟨ws, p, os⟩⟩ := m
  simp only at K HB ⊢
  go_enter Tryd.func12, Tryd.ntmps12
  go_wp2_with fail
  refine K.out.mono ?_
  rintro e w2 ⟨rfl, hb2⟩
  clear K
  go_wp2
  go_ret
  exact ⟨rfl, HB.out.trans (hb2.mono HB.out.size)⟩
end Go.Proofs.YtkonjpcgfdcfbaaDoor
namespace Go.Proofs.YtkonjpcgfdcfbaaDoor
open Go.RowKit
set_option maxRecDepth 100000

/-- A commit that a law takes. -/
structure Light (c : ComV) : Prop where
  when_ : c.when_.length ≤ 20
  ops : c.ops.length ≤ 20
  each : ∀ o ∈ c.ops, o.key.size ≤ 60 ∧ o.text.size ≤ 200 ∧ o.dots.length ≤ 70
def lightO (o : OpV) : Prop := o.key.size ≤ 60 ∧ o.text.size ≤ 200 ∧ o.dots.length ≤ 70
def HvPost (c : ComV) (w : World) (e : Ending) (w' : World) : Prop := (e = .returned (.int .i64 1) ∨ (e = .returned (.int .i64 0) ∧ Light c)) ∧ Below w.heap.size w w'
set_option maxHeartbeats 4000000 in
theorem heavy_any (w : World) (c : ComV) (wv ov : Value) (hw : IntsAt w wv c.when_) (ho : OpsAt w ov c.ops) :
    Calls Tryd.prog 6 #[.agg #[wv, .int .i64 c.place, ov]] w (HvPost c w) := by
  obtain ⟨wB, hwB⟩ : ∃ wB, wB = w.alloc (.cells #[wv, .int .i64 c.place, ov] 25) := ⟨_, rfl⟩
  have hb : Below w.heap.size w wB := by rw [hwB]; exact below_alloc w _
  have H1 : wB.heap[w.heap.size]? = some (.cells #[wv, .int .i64 c.place, ov] 25 (0, 0)) := by rw [hwB]; exact heap_new _ _
  have HO := hid (ho.mono hb (Nat.le_refl _))
  obtain ⟨a1, c1, rfl⟩ := hw.len
  obtain ⟨a2, c2, rfl⟩ := ho.len
  obtain ⟨n, hn⟩ : ∃ n, n = c.ops.length := ⟨_, rfl⟩
  obtain ⟨m1, hm1⟩ : ∃ n, n = c.when_.length := ⟨_, rfl⟩
  rw [← hn] at H1 hwB HO ⊢
  rw [← hm1] at H1 hwB ⊢
  have HN := hid hn
  have HM := hid hm1
  have HB := hid hb
  clear hn hm1 hb hw ho
  have p0 : wB.cell? ⟨w.heap.size, 0, none⟩ = some (.slice a1 m1 c1) := (cell_of H1).trans rfl
  have p2 : wB.cell? ⟨w.heap.size, 2, none⟩ = some (.slice a2 n c2) := (cell_of H1).trans rfl
  clear H1
  by_cases h1 : 20 < m1
  · go_enter Tryd.func6, Tryd.ntmps6
    go_wp2_with fail
    go_ret
    exact ⟨.inl rfl, by have := HB.out; rwa [hwB] at this⟩
  by_cases h2 : 20 < n
  · go_enter Tryd.func6, Tryd.ntmps6
    go_wp2_with fail
    go_ret
    exact ⟨.inl rfl, by have := HB.out; rwa [hwB] at this⟩
  go_enter Tryd.func6, Tryd.ntmps6
  go_wp2_with fail
  rw [← hwB]
  clear hwB
  go_loopw [3] (fun i wr => ∃ k : Nat, k ≤ n ∧ i = .int .i64 k ∧ Hid (∀ j o, j < k → c.ops[j]? = some o → lightO o) ∧ wr = wB) (fun i _ => n - (intOf i).toNat)
  case atStart => exact ⟨0, Nat.zero_le _, rfl, fun j o h => absurd h (Nat.not_lt_zero _), rfl⟩
  case round =>
    obtain ⟨k, hk, rfl, HI, rfl⟩ := hrel
    by_cases hlt : k < n
    · obtain ⟨o, hok⟩ : ∃ o, c.ops[k]? = some o := ⟨_, List.getElem?_eq_getElem (by have := HN.out; omega)⟩
      obtain ⟨b, off, dp, dc, rfl, _, _, e1, _, e3, _, _, e6⟩ := opAt_cells HO.out hok
      have HOK := hid hok
      clear hok
      obtain ⟨s1, hs1⟩ : ∃ s, s = o.key.size := ⟨_, rfl⟩
      obtain ⟨s3, hs3⟩ : ∃ s, s = o.text.size := ⟨_, rfl⟩
      obtain ⟨s6, hs6⟩ : ∃ s, s = o.dots.length := ⟨_, rfl⟩
      rw [← hs6] at e6
      obtain ⟨ky, hky⟩ : ∃ ky, ky = o.key := ⟨_, rfl⟩
      obtain ⟨tx, htx⟩ : ∃ tx, tx = o.text := ⟨_, rfl⟩
      rw [← hky] at e1 hs1
      rw [← htx] at e3 hs3
      have HK : Hid (lightO o ↔ ky.size ≤ 60 ∧ tx.size ≤ 200 ∧ s6 ≤ 70) := by show lightO o ↔ _; unfold lightO; rw [hky, htx, hs6]
      clear hs1 hs3 hs6 hky htx
      by_cases g1 : 60 < ky.size
      · go_wp2_with fail
        go_ret
        exact ⟨.inl rfl, HB.out⟩
      by_cases g2 : 200 < tx.size
      · go_wp2_with fail
        go_ret
        exact ⟨.inl rfl, HB.out⟩
      by_cases g3 : 70 < s6
      · go_wp2_with fail
        go_ret
        exact ⟨.inl rfl, HB.out⟩
      have HL : Hid (lightO o) := HK.out.2 (by omega)
      go_wp2_with fail
      go_roundw
      case rel => exact ⟨k + 1, by omega, by go_num, fun j o' hj ho' => by
        rcases Nat.lt_succ_iff_lt_or_eq.1 hj with h | rfl
        · exact HI.out j o' h ho'
        · have := HOK.out.symm.trans ho'
          obtain rfl := Option.some.inj this
          exact HL.out, trivial⟩
      case measure => simp [intOf]; omega
    · obtain rfl : k = n := by omega
      go_wp2_with fail
      go_ret
      refine ⟨.inr ⟨rfl, by rw [← HM.out]; omega, by rw [← HN.out]; omega, fun o ho => ?_⟩, HB.out⟩
      obtain ⟨j, hj⟩ := List.getElem?_of_mem ho
      exact HI.out j o (by rw [HN.out]; exact (List.getElem?_eq_some_iff.1 hj).1) hj
end Go.Proofs.YtkonjpcgfdcfbaaDoor
