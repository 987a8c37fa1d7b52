/- The reference's Hear of a message that is new, or kept. -/
import Derived.Test.YtcojglkjbbgoaaaDoorJHW
import Derived.Deep.CutBlock
import Derived.Deep.DeepCutAuto
import Derived.Deep.RegionLaw
namespace Go.Proofs.YtcojglkjbbgoaaaDoor
open Go.RowKit Go.Maps
set_option maxRecDepth 100000

theorem Tryd.info58 : (Tryd.prog.info? 58).map (fun i => (i.zero, i.size, i.bytes)) = some (some (.agg #[.int .i64 0, .int .i64 0, .int .i64 0, .int .i64 0, .int .i64 0, .bool false, .slice none 0 0, .int .i64 0, .slice none 0 0]), 9, 104) := by kernel_rfl
/-- What the reference's Hear leaves. -/
def RgPost (w : World) (g : Nat) (f t s seq time : Int) (v : Value) (L1 : List Raw) (e : Ending) (w' : World) : Prop := ∃ (xv v' : Value) (out L' : List Raw), e = .returned (.tuple #[xv, .int .i64 0]) ∧ w'.ownsRow w.heap.size 58 9 xv out.length (raws out) ∧ Ref w' g f t s (seq + out.length) (lastX time out) v' L' ∧ Pulled seq L1 out L' ∧ OnlyS g v w w' ∧ ∀ b, v'.ownBlock = some b → v.ownBlock = some b ∨ w.heap.size ≤ b
theorem any_take {L : List Raw} {k : Nat} {q : Raw} (h : L[k]? = some q) (x : Int) : (L.take (k + 1)).any (fun q => decide (q.x4 = x)) = ((L.take k).any (fun q => decide (q.x4 = x)) || decide (q.x4 = x)) := by
  obtain ⟨h1, h2⟩ := List.getElem?_eq_some_iff.1 h
  rw [List.take_succ_eq_append_getElem h1, h2, List.any_append]
  simp
theorem src_raws {w : World} {base e n' b : Nat} {n c : Nat} {l : List Raw} (h : w.ownsRow base e 9 (.slice (some ⟨b, 0, none⟩) n c) n' (raws l)) (hl : l.length = n') (s m cap : Nat) (hm : s + m ≤ l.length) : SrcAt w (.slice (some ⟨b, s * 9, none⟩) m cap) m 9 (raws ((l.drop s).take m)) := by
  refine .inr ⟨_, cap, rfl, by rw [raws_len, List.length_take, List.length_drop]; congr 1; omega, fun j u hu => ?_⟩
  have hj : j < m * 9 := by
    have := (List.getElem?_eq_some_iff.1 hu).1
    rw [raws_len, List.length_take, List.length_drop] at this
    omega
  have hq : s + j / 9 < l.length := by omega
  have hd : ((l.drop s).take m)[j / 9]? = some l[s + j / 9] := by
    rw [List.getElem?_take, if_pos (by omega), List.getElem?_drop, List.getElem?_eq_getElem hq]
  have e := raws_at _ (j / 9) _ hd (j % 9) (by omega)
  rw [show j / 9 * 9 + j % 9 = j by omega, hu] at e
  obtain ⟨b', hb', _, hc⟩ := row_raw h hl (List.getElem?_eq_getElem hq)
  injection hb' with hb'
  injection hb' with hb' _ _
  subst hb'
  have := hc (j % 9) u e.symm
  rw [Addr.add_lit, ← this]
  congr 2
  omega
theorem src_front {w : World} {base e n' b : Nat} {n c : Nat} {l : List Raw} (h : w.ownsRow base e 9 (.slice (some ⟨b, 0, none⟩) n c) n' (raws l)) (hl : l.length = n') {m cap : Nat} (hm : m ≤ l.length) : SrcAt w (.slice (some ⟨b, 0, none⟩) m cap) m 9 (raws (l.take m)) := by
  have := src_raws h hl 0 m cap (by omega)
  rwa [Nat.zero_mul, List.drop_zero] at this
theorem src_back {w : World} {base e n' b : Nat} {n c : Nat} {l : List Raw} (h : w.ownsRow base e 9 (.slice (some ⟨b, 0, none⟩) n c) n' (raws l)) (hl : l.length = n') {s cap : Nat} (hs : s ≤ n') : SrcAt w (.slice (some ⟨b, s * 9, none⟩) (n' - s) cap) (n' - s) 9 (raws (l.drop s)) := by
  have := src_raws h hl s (n' - s) cap (by omega)
  rwa [List.take_of_length_le (by rw [List.length_drop]; omega)] at this
theorem src_zero {w : World} {n' s cap : Nat} {l : List Raw} {ad : Addr} (hl : l.length = n') (hs : n' ≤ s) : SrcAt w (.slice (some ad) (n' - s) cap) (n' - s) 9 (raws (l.drop s)) := by
  rw [List.drop_of_length_le (by omega), show n' - s = 0 by omega]
  exact .inr ⟨ad, cap, rfl, rfl, fun j u hu => by simp [raws] at hu⟩
theorem src_ite {w : World} {p : Prop} [Decidable p] {a b : Addr} {c size : Nat} : SrcAt w (.slice (if p then some a else some b) 0 c) 0 size [] := by
  split
  · exact .inr ⟨a, c, rfl, by simp, fun j u hu => by simp at hu⟩
  · exact .inr ⟨b, c, rfl, by simp, fun j u hu => by simp at hu⟩
theorem row_ad {w : World} {base e size n : Nat} {v : Value} {xs : List Value} (h : w.ownsRow base e size v n xs) (o : Obj) : (w.alloc o).drew.ownsRow base e size v n xs := h.alloc o
theorem new_ad (w : World) (cs : List Value) (t : TypeId) : ∀ j u, cs[j]? = some u → (w.alloc (.cells cs.toArray t)).drew.cell? ((⟨w.heap.size, 0, none⟩ : Addr).add j) = some u := cells3_new w t cs
theorem grown_undrew {w w' : World} {x : Option Nat} (h : w.drew.grownBy w' x) : w.grownBy w' x := ⟨h.os, h.tape, h.output, h.size, h.block⟩
theorem PullI.moved {w wr w' : World} {g : Nat} {f t s seq time : Int} {v0 : Value} {L1 : List Raw} {k : Nat} {out Lc : List Raw} {xv vv : Value} (I : PullI w g f t s seq time v0 L1 k out Lc xv vv wr) (hb : Below wr.heap.size wr w') : PullI w g f t s seq time v0 L1 k out Lc xv vv w' := by
  have hs := I.only.size
  exact ⟨I.ref.moved hb, owns_at I.row fun q _ h2 => hb.block q h2, I.apart, I.perm, I.seqs, I.scan, ⟨hb.os.trans I.only.os, hb.tape.trans I.only.tape, hb.output.trans I.only.output, Nat.le_trans hs hb.size, fun q h1 h2 h3 => (hb.block q (by omega)).trans (I.only.block q h1 h2 h3)⟩, I.vb, I.gl, I.kl⟩
theorem PullI.step {w wr : World} {g : Nat} {f t s seq time : Int} {v0 : Value} {L1 : List Raw} {k : Nat} {out Lc : List Raw} {xv vv : Value} (I : PullI w g f t s seq time v0 L1 k out Lc xv vv wr) {q : Raw} (hq : Lc[k]? = some q) (hne : q.x4 ≠ seq + ((out.length + 1 : Nat) : Int)) : PullI w g f t s seq time v0 L1 (k + 1) out Lc xv vv wr := by
  refine ⟨I.ref, I.row, I.apart, I.perm, I.seqs, fun i x hi hx => ?_, I.only, I.vb, I.gl, (List.getElem?_eq_some_iff.1 hq).1⟩
  rcases Nat.lt_succ_iff_lt_or_eq.1 hi with h | rfl
  · exact I.scan i x h hx
  · rw [hq] at hx
    obtain rfl := Option.some.inj hx
    exact hne
theorem PullI.done {w wr : World} {g : Nat} {f t s seq time : Int} {v0 : Value} {L1 : List Raw} {k : Nat} {out Lc : List Raw} {xv vv : Value} (I : PullI w g f t s seq time v0 L1 k out Lc xv vv wr) (hk : ¬ k < Lc.length) : Pulled seq L1 out Lc := by
  refine ⟨I.perm, I.seqs, fun q hq => ?_⟩
  obtain ⟨i, hi⟩ := List.getElem?_of_mem hq
  exact I.scan i q (by have := (List.getElem?_eq_some_iff.1 hi).1; omega) hi
theorem PullI.len {w wr : World} {g : Nat} {f t s seq time : Int} {v0 : Value} {L1 : List Raw} {k : Nat} {out Lc : List Raw} {xv vv : Value} (I : PullI w g f t s seq time v0 L1 k out Lc xv vv wr) : L1.length = out.length + Lc.length := by
  rw [I.perm.length_eq, List.length_append]
theorem row_cap {w : World} {base e size n : Nat} {a : Option Addr} {m c : Nat} {xs : List Value} (h : w.ownsRow base e size (.slice a m c) n xs) : n ≤ c := by
  rcases h.2 with ⟨_, h0⟩ | ⟨g, cap, cur, hv, _, _, hc, _⟩
  · omega
  · injection hv with _ _ hv
    omega
theorem putL_yes {L : List Raw} {r : Raw} (h : L.any (fun q => decide (q.x4 = r.x4)) = true) : putL L r = L := if_pos h
theorem putL_no {L : List Raw} {r : Raw} (h : L.any (fun q => decide (q.x4 = r.x4)) = false) : putL L r = L ++ [r] := if_neg (by rw [h]; decide)
theorem PullI.first {w wr : World} {g : Nat} {f t s seq time : Int} {v0 vv : Value} {L1 : List Raw} (h : Ref wr g f t s seq time vv L1) (ho : OnlyS g v0 w wr) (hb : ∀ b, vv.ownBlock = some b → v0.ownBlock = some b ∨ w.heap.size ≤ b) (hg : g < w.heap.size) : PullI w g f t s seq time v0 L1 0 [] L1 (.slice none 0 0) vv wr := by
  refine ⟨?_, World.ownsRow_nil _ _ _ _, (fun b h => by cases h), List.Perm.refl _, (fun i q h => by simp at h), (fun i q h => by omega), ho, hb, hg, Nat.zero_le _⟩
  show Ref wr g f t s (seq + ((0 : Nat) : Int)) time vv L1
  rw [show seq + ((0 : Nat) : Int) = seq by omega]
  exact h
theorem only_of {w wr : World} {g : Nat} {v : Value} (h : Below w.heap.size w wr) : OnlyS g v w wr := ⟨h.os, h.tape, h.output, h.size, fun k hk _ _ => h.block k hk⟩
theorem Ref.more {w wr w1 w9 : World} {g : Nat} {f t s seq time : Int} {v v' : Value} {L : List Raw} {r : Raw} {n : Nat} (h : Ref wr g f t s seq time v L) (hn : L.length = n) (hb : Below w.heap.size w wr) (hg : g < w.heap.size) (h1 : w1.heap = wr.heap) (hos : w1.os = wr.os ∧ w1.tape = wr.tape ∧ w1.output = wr.output) {o' : Obj} (hr : w9.ownsRow (g + 1) 58 9 v' (n + 1) (raws L ++ r.cells)) (hgr : (w1.alloc o').grownBy w9 v.ownBlock) (hat : v'.ownBlock = v.ownBlock ∨ v'.ownBlock = some (w1.alloc o').heap.size) :
    (w9.cell? ⟨g, 5, none⟩ = some v ∧ w9.frozen? ⟨g, 5, none⟩ = false) ∧ PullI w g f t s seq time v (L ++ [r]) 0 [] (L ++ [r]) (.slice none 0 0) v' (w9.setCell ⟨g, 5, none⟩ v') := by
  subst hn
  have hgv : v.ownBlock ≠ some g := fun e => by have := (h.row.lt g e).1; omega
  have hs := hb.size
  have hsz : w1.heap.size = wr.heap.size := by rw [h1]
  have keep := grown_keep hgr
  have e9 : w9.heap[g]? = _ := (keep g (by omega) hgv).trans ((by rw [h1] : w1.heap[g]? = wr.heap[g]?).trans h.box)
  refine ⟨⟨(cell_of e9).trans rfl, free_of e9⟩, PullI.first ⟨by rw [heap_set e9]; rfl, ?_⟩ ⟨?_, ?_, ?_, ?_, fun k hk hkg hkv => ?_⟩ (fun b hb' => ?_) hg⟩
  · rw [List.length_append, raws_snoc]
    exact owns_at hr fun k k1 _ => Below.heap_setCell _ _ _ _ (by show k ≠ g; omega)
  · exact hgr.os.trans (hos.1.trans hb.os)
  · exact hgr.tape.trans (hos.2.1.trans hb.tape)
  · exact hgr.output.trans (hos.2.2.trans hb.output)
  · have := hgr.size
    simp at this
    rw [size_set]
    omega
  · rw [Below.heap_setCell _ _ _ _ hkg, keep k (by omega) hkv, h1]
    exact hb.block k hk
  · rcases hat with h2 | h2
    · exact .inl (h2.symm.trans hb')
    · right
      have := Option.some.inj (h2.symm.trans hb')
      simp at this
      omega
set_option maxHeartbeats 8000000 in
theorem ref_scan (w : World) (g : Nat) (f t s seq time : Int) (v : Value) (L : List Raw) (r : Raw) (h : Ref w g f t s seq time v L) (hbe : bearsB f t s r = true) (hx : 1 ≤ r.x4) (ht : timeB r.x5 = true) (h0 : 0 ≤ seq) (h1 : seq ≤ 1000) (hk : seq < r.x4) (hk2 : r.x4 ≤ seq + 1 + 200) (hL : L.length ≤ 100) : Calls Tryd.prog 30 #[.pointer (some ⟨g, 0, none⟩), .agg r.cells.toArray] w (RgPost w g f t s seq time v (putL L r)) := by
  obtain ⟨x1, x2, x3, x4, x5, x6, a1, n1, c1, p, a2, n2, c2⟩ := r
  simp only at hx ht hk hk2
  have hxyz : x1 = f ∧ x2 = t ∧ x3 = s := by
    unfold bearsB at hbe
    simpa using hbe
  obtain ⟨rfl, rfl, rfl⟩ := hxyz
  clear hbe
  obtain ⟨wa, hwa⟩ : ∃ wa, wa = w.alloc (.cells #[.int .i64 x1, .int .i64 x2, .int .i64 x3, .int .i64 x4, .int .i64 x5, .bool x6, .slice a1 n1 c1, .int .i64 p, .slice a2 n2 c2] 58) := ⟨_, rfl⟩
  have hba : Below w.heap.size w wa := by rw [hwa]; exact below_alloc _ _
  have hX : wa.heap[w.heap.size]? = some (.cells #[.int .i64 x1, .int .i64 x2, .int .i64 x3, .int .i64 x4, .int .i64 x5, .bool x6, .slice a1 n1 c1, .int .i64 p, .slice a2 n2 c2] 58 (0, 0)) := by rw [hwa]; exact heap_new _ _
  have HR := hid (h.moved hba)
  have hG := HR.out.box
  have d0 : wa.cell? ⟨w.heap.size, 0, none⟩ = some (.int .i64 x1) := (cell_of hX).trans rfl
  have d1 : wa.cell? ⟨w.heap.size, 1, none⟩ = some (.int .i64 x2) := (cell_of hX).trans rfl
  have d2 : wa.cell? ⟨w.heap.size, 2, none⟩ = some (.int .i64 x3) := (cell_of hX).trans rfl
  have d3 : wa.cell? ⟨w.heap.size, 3, none⟩ = some (.int .i64 x4) := (cell_of hX).trans rfl
  have d4 : wa.cell? ⟨w.heap.size, 4, none⟩ = some (.int .i64 x5) := (cell_of hX).trans rfl
  have g0 : wa.cell? ⟨g, 0, none⟩ = some (.int .i64 x1) := (cell_of hG).trans rfl
  have g1 : wa.cell? ⟨g, 1, none⟩ = some (.int .i64 x2) := (cell_of hG).trans rfl
  have g2 : wa.cell? ⟨g, 2, none⟩ = some (.int .i64 x3) := (cell_of hG).trans rfl
  have g3 : wa.cell? ⟨g, 3, none⟩ = some (.int .i64 seq) := (cell_of hG).trans rfl
  have BA := hid hba
  have HXB := hid hX
  have b1 : (x1 != x1) = false := by simp
  have b2 : (x2 != x2) = false := by simp
  have b3 : (x3 != x3) = false := by simp
  unfold Raw.cells
  simp only
  obtain ⟨N, hN⟩ : ∃ N, N = L.length := ⟨_, rfl⟩
  have HN := hid hN
  have HGL := hid (lt_of_heap h.box)
  obtain ⟨vp, vc, hvs⟩ := row_shape h.row
  subst hvs
  rw [← hN] at HR hL ⊢
  have hG := HR.out.box
  have g5 : wa.cell? ⟨g, 5, none⟩ = some (.slice vp N vc) := (cell_of hG).trans rfl
  clear h hba hX hG hN
  have ht2 : ¬ x5 < 0 ∧ ¬ 1099511627776 < x5 := by
    unfold timeB at ht
    simp at ht
    omega
  obtain ⟨ht0, ht1⟩ := ht2
  have hx1 : ¬ x4 < 1 := by omega
  clear ht hx
  go_enter Tryd.func30, Tryd.ntmps30
  go_upto_region 1 with (fail)
  rw [← hwa]
  clear hwa
  go_quiet (fail)
  generalize hwq : World.drewN _ _ = wq
  have hq : ∀ a, wq.cell? a = wa.cell? a := fun a => by rw [← hwq]; rfl
  have BQ : Hid (Below w.heap.size w wq) := (show Below _ _ _ from by rw [← hwq]; exact below_draws BA.out _)
  have e3 := (hq _).trans d3
  have e4 := (hq _).trans d4
  have f3 := (hq _).trans g3
  have f5 := (hq _).trans g5
  have HWQ := hid hwq
  clear hwq hq d0 d1 d2 d3 d4 g0 g1 g2 g3 g5 b1 b2 b3
  have hk1 : ¬ x4 ≤ seq := by omega
  have hk3 : ¬ seq + 1 + 200 < x4 := by omega
  have wr1 : IntKind.i64.wrap (seq + 1) = seq + 1 := wrap_num ⟨by omega, by omega⟩
  have wr2 : IntKind.i64.wrap (seq + 1 + 200) = seq + 1 + 200 := wrap_num ⟨by omega, by omega⟩
  go_wp2_with fail
  go_region
  go_wp2_with fail
  go_region
  have f5' : wq.drew.drew.cell? ⟨g, 5, none⟩ = some (.slice vp N vc) := f5
  go_upto_region 11 with (fail)
  generalize hws : World.drew _ = ws
  have HWS : Hid (ws.heap = wa.heap ∧ Below w.heap.size w ws) := (show _ ∧ _ from by
    rw [← hws]
    exact ⟨by show wq.heap = wa.heap; rw [← HWQ.out]; rfl, BQ.out.drew.drew⟩)
  clear hws f5' f5 e3 e4 f3 BQ HWQ wr1 wr2
  have hwl : w.heap.size < wa.heap.size := lt_of_heap HXB.out
  have ROW0 : Hid (∀ (u : World), u.heap = wa.heap → u.ownsRow (g + 1) 58 9 (.slice vp N vc) N (raws L)) := (show ∀ (u : World), _ from fun u hu => by have := HR.out.row; rw [← HN.out] at this; exact owns_at this fun q _ _ => by rw [hu])
  go_loopw [6, 7] (fun y i wr => ∃ k : Nat, k ≤ N ∧ i = .int .i64 k ∧ y = .bool ((L.take k).any (fun q => decide (q.x4 = x4))) ∧ Hid (wr.heap = wa.heap ∧ Below w.heap.size w wr)) (fun _ i _ => N - (intOf i).toNat)
  case atStart => exact ⟨0, Nat.zero_le _, rfl, rfl, HWS.out⟩
  case round =>
    obtain ⟨k, hkN, rfl, rfl, HH⟩ := hrel
    have cw : ∀ (a : Addr) (u : Value), wa.cell? a = some u → wr.cell? a = some u := fun a u hu => by
      rw [World.cell?_of_block (w := wa) (a := a) (by rw [HH.out.1])]; exact hu
    have c5 : wr.cell? ⟨g, 5, none⟩ = some (.slice vp N vc) := cw _ _ ((cell_of HR.out.box).trans rfl)
    have c3 : wr.cell? ⟨w.heap.size, 3, none⟩ = some (.int .i64 x4) := cw _ _ ((cell_of HXB.out).trans rfl)
    by_cases hlt : k < N
    · obtain ⟨q, hq⟩ : ∃ q, L[k]? = some q := ⟨_, List.getElem?_eq_getElem (by rw [← HN.out]; exact hlt)⟩
      obtain ⟨b, rfl, _, hcell⟩ := row_raw HR.out.row rfl hq
      have e3 : wr.cell? ⟨b, k * 9 + 3, none⟩ = some (.int .i64 q.x4) := cw _ _ (hcell 3 _ rfl)
      have HT := hid (any_take hq x4)
      obtain ⟨z, hz⟩ : ∃ z, z = q.x4 := ⟨_, rfl⟩
      rw [← hz] at e3 HT
      obtain ⟨acc, hacc⟩ : ∃ acc, acc = (L.take k).any (fun q => decide (q.x4 = x4)) := ⟨_, rfl⟩
      rw [← hacc] at HT ⊢
      have hi1 : (k : Int) < (N : Int) := by omega
      clear hq hcell hz hacc cw
      by_cases hzz : z = x4
      · subst hzz
        have bb : (z == z) = true := by simp
        go_upto_region 13 with (fail)
        go_quiet (fail)
        go_wp2_with fail
        exact ⟨⟨k + 1, by omega, by go_num, by rw [HT.out]; simp, HH.out.1, below_draws HH.out.2 _⟩, by simp [intOf]; omega⟩
      · have bb : (z == x4) = false := beq_eq_false_iff_ne.2 hzz
        have dd : Hid (decide (z = x4) = false) := decide_eq_false hzz
        clear hzz
        go_upto_region 13 with (fail)
        go_quiet (fail)
        go_wp2_with fail
        exact ⟨⟨k + 1, by omega, by go_num, by rw [HT.out, dd.out]; simp, HH.out.1, below_draws HH.out.2 _⟩, by simp [intOf]; omega⟩
    · obtain rfl : k = N := by omega
      have HTT : Hid (L.take k = L) := List.take_of_length_le (by rw [← HN.out]; omega)
      rw [HTT.out]
      clear cw HTT
      have hglt : g < w.heap.size := HGL.out
      obtain ⟨i58, hi58, hy0, hy1, hy2⟩ := info_parts Tryd.info58
      go_upto_if 88 with (fail)
      go_cut [6, 8] (fun _ _ wc => ∃ vv, Hid (PullI w g x1 x2 x3 seq time (.slice vp k vc) (putL L ⟨x1, x2, x3, x4, x5, x6, a1, n1, c1, p, a2, n2, c2⟩) 0 [] (putL L ⟨x1, x2, x3, x4, x5, x6, a1, n1, c1, p, a2, n2, c2⟩) (.slice none 0 0) vv wc))
      case first =>
        have HRR : Hid (Ref wr g x1 x2 x3 seq time (.slice vp k vc) L) := (show Ref _ _ _ _ _ _ _ _ _ from ⟨by rw [HH.out.1]; exact HR.out.box, owns_at HR.out.row fun q _ _ => by rw [HH.out.1]⟩)
        cases hany : L.any (fun q => decide (q.x4 = x4)) with
        | true =>
          have HP := hid (putL_yes (L := L) (r := ⟨x1, x2, x3, x4, x5, x6, a1, n1, c1, p, a2, n2, c2⟩) hany)
          clear hany
          go_wp2_with fail
          go_meet
          case rel => exact ⟨_, by rw [HP.out]; exact PullI.first HRR.out (only_of HH.out.2) (fun b hb => .inl hb) hglt⟩
        | false =>
          have HP := hid (putL_no (L := L) (r := ⟨x1, x2, x3, x4, x5, x6, a1, n1, c1, p, a2, n2, c2⟩) hany)
          have XR : wr.heap[w.heap.size]? = some (.cells #[.int .i64 x1, .int .i64 x2, .int .i64 x3, .int .i64 x4, .int .i64 x5, .bool x6, .slice a1 n1 c1, .int .i64 p, .slice a2 n2 c2] 58 (0, 0)) := by rw [HH.out.1]; exact HXB.out
          have m0 : wr.cell? ⟨w.heap.size, 0, none⟩ = some (.int .i64 x1) := (cell_of XR).trans rfl
          have m1 : wr.cell? ⟨w.heap.size, 1, none⟩ = some (.int .i64 x2) := (cell_of XR).trans rfl
          have m2 : wr.cell? ⟨w.heap.size, 2, none⟩ = some (.int .i64 x3) := (cell_of XR).trans rfl
          have m4 : wr.cell? ⟨w.heap.size, 4, none⟩ = some (.int .i64 x5) := (cell_of XR).trans rfl
          have m5 : wr.cell? ⟨w.heap.size, 5, none⟩ = some (.bool x6) := (cell_of XR).trans rfl
          have m6 : wr.cell? ⟨w.heap.size, 6, none⟩ = some (.slice a1 n1 c1) := (cell_of XR).trans rfl
          have m7 : wr.cell? ⟨w.heap.size, 7, none⟩ = some (.int .i64 p) := (cell_of XR).trans rfl
          have m8 : wr.cell? ⟨w.heap.size, 8, none⟩ = some (.slice a2 n2 c2) := (cell_of XR).trans rfl
          have c5a := fun o => cell_alloc c5 o
          have hk2' : k + 1 ≤ maxLen := by unfold maxLen; omega
          have hk3' : (k + 1) * 104 ≤ 140737488355328 := by omega
          have hbs : ∀ o, g + 1 ≤ (wr.alloc o).drew.heap.size := fun o => by have := HH.out.2.size; show g + 1 ≤ (wr.alloc o).heap.size; simp; omega
          clear hany XR
          go_upto_region 16 with (fail)
          go_region_law (first
            | (refine step_append_at rfl _ _ 50 rfl (g + 1) 58 i58 _ 9 104 Tryd.underlying50 hi58 hy0 hy1 hy2 rfl (by decide) (.slice vp k vc) k (raws L) rfl (row_ad (ROW0.out wr HH.out.1) _) _ 1 1 [.int .i64 x1, .int .i64 x2, .int .i64 x3, .int .i64 x4, .int .i64 x5, .bool x6, .slice a1 n1 c1, .int .i64 p, .slice a2 n2 c2] rfl rfl (new_ad _ _ _) (oneR ⟨x1, x2, x3, x4, x5, x6, a1, n1, c1, p, a2, n2, c2⟩) hk2' hk3' (hbs _) ?_; intro v' w9 hrow hgr hat; obtain ⟨a9, cc9, hv9⟩ := row_shape hrow; subst hv9; obtain ⟨⟨c9, z9⟩, h9⟩ := HRR.out.more (r := ⟨x1, x2, x3, x4, x5, x6, a1, n1, c1, p, a2, n2, c2⟩) HN.out.symm HH.out.2 hglt rfl ⟨rfl, rfl, rfl⟩ hrow (grown_undrew hgr) hat; have N9 := hid h9; clear hrow hgr h9 hat))
          all_goals
            go_wp2_with fail
            go_meet
            case rel => exact ⟨_, by rw [HP.out]; exact N9.out⟩
      case rest =>
      obtain ⟨vv0, I0⟩ := hcut
      obtain ⟨L1, hL1⟩ : ∃ L1, L1 = putL L ⟨x1, x2, x3, x4, x5, x6, a1, n1, c1, p, a2, n2, c2⟩ := ⟨_, rfl⟩
      rw [← hL1] at I0
      have HL1 := hid hL1
      have hL1l : L1.length ≤ 101 := by
        rw [hL1]
        unfold putL
        split
        · rw [← HN.out]; omega
        · rw [List.length_append, ← HN.out]; simp; omega
      clear c5 c3 HH hL1
      go_wp2_with fail
      go_loopw [9, 10] (fun ov iv wr => ∃ (k2 : Nat) (out Lc : List Raw) (xv vv : Value), iv = .int .i64 k2 ∧ ov = xv ∧ Hid (PullI w g x1 x2 x3 seq time (.slice vp k vc) L1 k2 out Lc xv vv wr)) (fun ov iv _ => (L1.length - lenV ov) * 1000 + (500 - (intOf iv).toNat))
      case atStart => exact ⟨0, [], L1, _, vv0, rfl, rfl, I0.out⟩
      case round =>
        obtain ⟨k2, out, Lc, xv, vv, rfl, rfl, PI⟩ := hrel
        have hlen := PI.out.len
        have hkl := PI.out.kl
        obtain ⟨va, vk, hvv⟩ := row_shape PI.out.ref.row
        obtain ⟨xa, xk, hxv⟩ := row_shape PI.out.row
        subst hvv hxv
        have hcap := row_cap PI.out.ref.row
        obtain ⟨n, hn⟩ : ∃ n, n = Lc.length := ⟨_, rfl⟩
        obtain ⟨ol, hol⟩ : ∃ ol, ol = out.length := ⟨_, rfl⟩
        rw [← hn] at PI hlen hkl hcap
        rw [← hol] at PI hlen ⊢
        have HNN := hid hn
        have HOL := hid hol
        clear hn hol
        have bx := PI.out.ref.box
        have c5 : wr.cell? ⟨g, 5, none⟩ = some (.slice va n vk) := (cell_of bx).trans rfl
        have c3 : wr.cell? ⟨g, 3, none⟩ = some (.int .i64 (seq + ol)) := (cell_of bx).trans (by rw [HOL.out]; rfl)
        have wr1 : IntKind.i64.wrap (seq + ol + 1) = seq + ol + 1 := wrap_num ⟨by omega, by omega⟩
        clear bx
        by_cases hlt2 : k2 < n
        · obtain ⟨q, hq⟩ : ∃ q, Lc[k2]? = some q := ⟨_, List.getElem?_eq_getElem (by rw [← HNN.out]; exact hlt2)⟩
          obtain ⟨b, rfl, _, hcell⟩ := row_raw PI.out.ref.row rfl hq
          have e3 : wr.cell? ⟨b, k2 * 9 + 3, none⟩ = some (.int .i64 q.x4) := hcell 3 _ rfl
          have hi2 : (k2 : Int) < (n : Int) := by omega
          by_cases hnx : q.x4 = seq + ol + 1
          · have HQ := hid hq
            obtain ⟨y1, y2, y3, y4, y5, y6, b1, m1, d1, pp, b2, m2, d2⟩ := q
            simp only at hnx
            subst hnx
            have bb : ((seq + ol + 1 : Int) != seq + ol + 1) = false := by simp
            have e0 : wr.cell? ⟨b, k2 * 9, none⟩ = some (.int .i64 y1) := hcell 0 _ rfl
            have e1 : wr.cell? ⟨b, k2 * 9 + 1, none⟩ = some (.int .i64 y2) := hcell 1 _ rfl
            have e2 : wr.cell? ⟨b, k2 * 9 + 2, none⟩ = some (.int .i64 y3) := hcell 2 _ rfl
            have e4 : wr.cell? ⟨b, k2 * 9 + 4, none⟩ = some (.int .i64 y5) := hcell 4 _ rfl
            have e5 : wr.cell? ⟨b, k2 * 9 + 5, none⟩ = some (.bool y6) := hcell 5 _ rfl
            have e6 : wr.cell? ⟨b, k2 * 9 + 6, none⟩ = some (.slice b1 m1 d1) := hcell 6 _ rfl
            have e7 : wr.cell? ⟨b, k2 * 9 + 7, none⟩ = some (.int .i64 pp) := hcell 7 _ rfl
            have e8 : wr.cell? ⟨b, k2 * 9 + 8, none⟩ = some (.slice b2 m2 d2) := hcell 8 _ rfl
            clear hq hcell
            go_upto_region 22 with (fail)
            go_quiet (fail)
            go_upto_region 23 with (fail)
            generalize hwd : World.drewN _ _ = wd
            have hcd : ∀ a, wd.cell? a = wr.cell? a := fun a => by rw [← hwd]; rfl
            have PD := hid (PI.out.moved (w' := wd) (by rw [← hwd]; exact below_draws (Below.refl _ _) _))
            have c5' := (hcd _).trans c5
            have s0 := (hcd _).trans e0
            have s1 := (hcd _).trans e1
            have s2 := (hcd _).trans e2
            have s3 := (hcd _).trans e3
            have s4 := (hcd _).trans e4
            have s5 := (hcd _).trans e5
            have s6 := (hcd _).trans e6
            have s7 := (hcd _).trans e7
            have s8 := (hcd _).trans e8
            clear hwd hcd PI c5 c3 e0 e1 e2 e3 e4 e5 e6 e7 e8 bb
            obtain ⟨w1, hw1⟩ : ∃ w1, w1 = wd.alloc (.cells #[.int .i64 y1, .int .i64 y2, .int .i64 y3, .int .i64 (seq + ol + 1), .int .i64 y5, .bool y6, .slice b1 m1 d1, .int .i64 pp, .slice b2 m2 d2] 58) := ⟨_, rfl⟩
            have hb1 : Below wd.heap.size wd w1 := by rw [hw1]; exact below_alloc _ _
            have hX1 : w1.heap[wd.heap.size]? = some (.cells #[.int .i64 y1, .int .i64 y2, .int .i64 y3, .int .i64 (seq + ol + 1), .int .i64 y5, .bool y6, .slice b1 m1 d1, .int .i64 pp, .slice b2 m2 d2] 58 (0, 0)) := by rw [hw1]; exact heap_new _ _
            go_upto_region 24 with (fail)
            rw [← hw1]
            have t0 : w1.cell? ⟨wd.heap.size, 0, none⟩ = some (.int .i64 y1) := (cell_of hX1).trans rfl
            have t1 : w1.cell? ⟨wd.heap.size, 1, none⟩ = some (.int .i64 y2) := (cell_of hX1).trans rfl
            have t2 : w1.cell? ⟨wd.heap.size, 2, none⟩ = some (.int .i64 y3) := (cell_of hX1).trans rfl
            have t3 : w1.cell? ⟨wd.heap.size, 3, none⟩ = some (.int .i64 (seq + ol + 1)) := (cell_of hX1).trans rfl
            have t4 : w1.cell? ⟨wd.heap.size, 4, none⟩ = some (.int .i64 y5) := (cell_of hX1).trans rfl
            have t5 : w1.cell? ⟨wd.heap.size, 5, none⟩ = some (.bool y6) := (cell_of hX1).trans rfl
            have t6 : w1.cell? ⟨wd.heap.size, 6, none⟩ = some (.slice b1 m1 d1) := (cell_of hX1).trans rfl
            have t7 : w1.cell? ⟨wd.heap.size, 7, none⟩ = some (.int .i64 pp) := (cell_of hX1).trans rfl
            have t8 : w1.cell? ⟨wd.heap.size, 8, none⟩ = some (.slice b2 m2 d2) := (cell_of hX1).trans rfl
            have B1 := hid hb1
            have X1 := hid hX1
            have hXs : wd.heap.size < w1.heap.size := lt_of_heap hX1
            clear hw1 hb1 hX1 s0 s1 s2 s3 s4 s5 s6 s7 s8 c5'
            have XR1 : Hid (w1.ownsRow w.heap.size 58 9 (.slice xa ol xk) ol (raws out)) := (show World.ownsRow _ _ _ _ _ _ _ from by
              have hh := owns_at PD.out.row fun q _ h2 => B1.out.block q h2
              rw [← HOL.out] at hh
              exact hh)
            have hws1 : w.heap.size ≤ w1.heap.size := by have := PD.out.only.size; have := B1.out.size; omega
            go_upto_region 25 with (at_builtin; refine wpList_append_own_src rfl _ _ 50 rfl w.heap.size 58 i58 _ 9 104 Tryd.underlying50 hi58 hy0 hy1 hy2 rfl (by decide) _ _ _ rfl (XR1.out.alloc _) _ 1 [.int .i64 y1, .int .i64 y2, .int .i64 y3, .int .i64 (seq + ol + 1), .int .i64 y5, .bool y6, .slice b1 m1 d1, .int .i64 pp, .slice b2 m2 d2] rfl ?hs1 (oneR ⟨y1, y2, y3, seq + ol + 1, y5, y6, b1, m1, d1, pp, b2, m2, d2⟩) ?hm2 ?hm3 ?hm4 ?_; (case hs1 => exact .inr ⟨_, 1, rfl, rfl, cells3_new _ _ _⟩); (case hm2 => unfold maxLen; omega); (case hm3 => omega); (case hm4 => simp; omega); intro v9 w2 hown9 hgr9 _)
            obtain ⟨hG2, hrow2, hkeep2⟩ := PD.out.mid B1.out hgr9
            have hX2 : w2.heap[wd.heap.size]? = _ := (hkeep2 _ (Nat.le_refl _) hXs).trans X1.out
            have u3 : w2.cell? ⟨wd.heap.size, 3, none⟩ = some (.int .i64 (seq + ol + 1)) := (cell_of hX2).trans rfl
            have u4 : w2.cell? ⟨wd.heap.size, 4, none⟩ = some (.int .i64 y5) := (cell_of hX2).trans rfl
            have g3 : w2.cell? ⟨g, 3, none⟩ = some (.int .i64 (seq + out.length)) := (cell_of hG2).trans rfl
            have z3 : w2.frozen? ⟨g, 3, none⟩ = false := free_of hG2
            obtain ⟨a9, c9, hv9⟩ := row_shape hown9
            subst hv9
            have GR := hid hgr9
            have OW9 := hid hown9
            have RW2 := hid hrow2
            have HG2 := hid hG2
            have HX2 := hid hX2
            clear hgr9 hown9 hrow2 hkeep2 hG2 hX2 t0 t1 t2 t3 t4 t5 t6 t7 t8
            go_upto_region 26 with (fail)
            obtain ⟨w2a, hw2a⟩ : ∃ w2a, w2a = w2.setCell ⟨g, 3, none⟩ (.int .i64 (seq + ol + 1)) := ⟨_, rfl⟩
            rw [← hw2a]
            have hgX : wd.heap.size ≠ g := by have := PD.out.gl; have := PD.out.only.size; omega
            have hXa : w2a.heap[wd.heap.size]? = _ := (by rw [hw2a]; exact Below.heap_setCell _ _ _ _ hgX : w2a.heap[wd.heap.size]? = w2.heap[wd.heap.size]?).trans HX2.out
            have hGa : w2a.heap[g]? = some (.cells #[.int .i64 x1, .int .i64 x2, .int .i64 x3, .int .i64 (seq + ol + 1), .int .i64 (lastX time out), .slice (some ⟨b, 0, none⟩) n vk] 76 (0, 0)) := by rw [hw2a, heap_set HG2.out]; rfl
            have u4' : w2a.cell? ⟨wd.heap.size, 4, none⟩ = some (.int .i64 y5) := (cell_of hXa).trans rfl
            have g4 : w2a.cell? ⟨g, 4, none⟩ = some (.int .i64 (lastX time out)) := (cell_of hGa).trans rfl
            have z4 : w2a.frozen? ⟨g, 4, none⟩ = false := free_of hGa
            have HW2A := hid hw2a
            clear hw2a u3 u4 g3 z3 hXa
            go_upto_region 28 with (fail)
            obtain ⟨w3, hw3⟩ : ∃ w3, w3 = w2a.setCell ⟨g, 4, none⟩ (.int .i64 y5) := ⟨_, rfl⟩
            rw [← hw3]
            have hG3 : w3.heap[g]? = some (.cells #[.int .i64 x1, .int .i64 x2, .int .i64 x3, .int .i64 (seq + ol + 1), .int .i64 y5, .slice (some ⟨b, 0, none⟩) n vk] 76 (0, 0)) := by rw [hw3, heap_set hGa]; rfl
            have g5 : w3.cell? ⟨g, 5, none⟩ = some (.slice (some ⟨b, 0, none⟩) n vk) := (cell_of hG3).trans rfl
            have hgb : b ≠ g := by have := (PD.out.ref.row.lt b rfl).1; omega
            have hb3 : w3.heap[b]? = wd.heap[b]? := by
              rw [hw3, Below.heap_setCell _ _ _ _ hgb, HW2A.out, Below.heap_setCell _ _ _ _ hgb]
              exact RW2.out b rfl
            have R3 : Hid (w3.ownsRow (g + 1) 58 9 (.slice (some ⟨b, 0, none⟩) n vk) n (raws Lc)) := (show World.ownsRow _ _ _ _ _ _ _ from by
              have hh := PD.out.ref.row
              rw [← HNN.out] at hh
              exact owns_own hh fun b' hb' => by
                obtain rfl := Option.some.inj hb'
                exact hb3)
            have W3 : Hid (w3 = (w2.setCell ⟨g, 3, none⟩ (.int .i64 (seq + ol + 1))).setCell ⟨g, 4, none⟩ (.int .i64 y5)) := (show _ = _ from by rw [hw3, HW2A.out])
            have HG3 := hid hG3
            have hgl3 : g < w3.heap.size := lt_of_heap hG3
            have hbl3 : b < w3.heap.size := (R3.out.lt b rfl).2
            have hck : k2 ≤ vk := by omega
            clear hw3 hb3 hGa hG3 u4' g4 z4 HW2A
            go_upto_region 29 with (at_builtin; (refine wpList_append_own_src rfl _ _ 50 rfl w3.heap.size 58 i58 _ 9 104 Tryd.underlying50 hi58 hy0 hy1 hy2 rfl (by decide) (.slice none 0 0) 0 [] rfl (World.ownsRow_nil _ _ _ _) _ k2 (raws (Lc.take k2)) rfl ?hs1 (onesR _) ?hm2 ?hm3 ?hm4 ?_; (case hs1 => exact src_front R3.out HNN.out.symm (by have := HNN.out; omega)); (case hm2 => unfold maxLen; omega); (case hm3 => omega); (case hm4 => simp); intro v4 w4 hown4 hgr4 _))
            rw [Nat.zero_add, List.nil_append] at hown4
            obtain ⟨a4, c4, hv4⟩ := row_shape hown4
            subst hv4
            have OW4 := hid hown4
            have GR4 := hid hgr4
            have g54 : w4.cell? ⟨g, 5, none⟩ = some (.slice (some ⟨b, 0, none⟩) n vk) := by rw [World.cell?_of_block (w := w3) (a := ⟨g, 5, none⟩) (hgr4.block g hgl3 (fun e => by cases e))]; exact g5
            have R4 : Hid (w4.ownsRow (g + 1) 58 9 (.slice (some ⟨b, 0, none⟩) n vk) n (raws Lc)) := (show World.ownsRow _ _ _ _ _ _ _ from owns_own R3.out fun b' hb' => by
                obtain rfl := Option.some.inj hb'
                exact hgr4.block b hbl3 (fun e => by cases e))
            have hs34 : w3.heap.size ≤ w4.heap.size := hgr4.size
            clear hown4 hgr4 g5
            have wr2 : IntKind.i64.wrap ((k2 : Int) + 1) = (k2 : Int) + 1 := wrap_num ⟨by omega, by omega⟩
            have hi3 : (k2 : Int) + 1 ≤ (n : Int) := by omega
            have hln : Lc.length = n := HNN.out.symm
            have HLN := hid hln
            clear hln
            have R9 : Hid (w2.ownsRow w.heap.size 58 9 (.slice a9 (ol + 1) c9) (out.length + 1) (raws out ++ Raw.cells ⟨y1, y2, y3, seq + ol + 1, y5, y6, b1, m1, d1, pp, b2, m2, d2⟩)) := (show World.ownsRow _ _ _ _ _ _ _ from by rw [← HOL.out]; exact OW9.out)
            have X49 : Hid ((seq + (ol : Int) + 1) = seq + ((out.length + 1 : Nat) : Int)) := (show _ = _ from by rw [← HOL.out]; omega)
            by_cases hvk : vk = k2 + 1
            all_goals
              go_wp2_with (at_builtin; (refine wpList_append_own_src rfl _ _ 50 rfl w3.heap.size 58 i58 _ 9 104 Tryd.underlying50 hi58 hy0 hy1 hy2 rfl (by decide) (.slice a4 k2 c4) k2 (raws (Lc.take k2)) rfl OW4.out _ (n - (k2 + 1)) (raws (Lc.drop (k2 + 1))) rfl ?hs1 (onesR _) ?hm2 ?hm3 ?hm4 ?_; (case hs1 => first | exact src_back R4.out HLN.out (by omega) | exact src_zero HLN.out (by omega)); (case hm2 => unfold maxLen; omega); (case hm3 => omega); (case hm4 => omega); intro v5 w5 hown5 hgr5 _; obtain ⟨a5, c5, hv5⟩ := row_shape hown5; subst hv5; have hpp := PD.out.pulled (q := ⟨y1, y2, y3, seq + ol + 1, y5, y6, b1, m1, d1, pp, b2, m2, d2⟩) (xv' := .slice a9 (ol + 1) c9) HQ.out X49.out B1.out R9.out GR.out W3.out OW4.out GR4.out hown5 hgr5; clear hown5 hgr5; have k5 := hpp.1.1; have zk5 := hpp.1.2; have P5 := hid hpp.2; clear hpp))
              refine ⟨⟨0, out ++ [⟨y1, y2, y3, seq + ol + 1, y5, y6, b1, m1, d1, pp, b2, m2, d2⟩], Lc.take k2 ++ Lc.drop (k2 + 1), .slice a9 (ol + 1) c9, .slice a5 (k2 + (n - (k2 + 1))) c5, by go_num, ?_, P5⟩, ?_⟩
              · rfl
              · simp [intOf, lenV]; omega
          · have bb : (q.x4 != seq + ol + 1) = true := by simpa using hnx
            have P2 := hid (PI.out.step hq (by rw [← HOL.out]; omega))
            obtain ⟨z, hz⟩ : ∃ z, z = q.x4 := ⟨_, rfl⟩
            rw [← hz] at e3 bb
            clear hz hnx hq hcell PI
            go_upto_region 22 with (fail)
            go_quiet (fail)
            go_wp2_with fail
            exact ⟨⟨k2 + 1, out, Lc, _, _, by go_num, rfl, P2.out.moved (below_draws (Below.refl _ _) _)⟩, by simp [intOf, lenV]; omega⟩
        · have PD := hid (PI.out.done (by rw [← HNN.out]; exact hlt2))
          go_wp2_with fail
          go_ret2
          refine ⟨_, _, out, Lc, rfl, ?_, PI.out.ref, by rw [← HL1.out]; exact PD.out, PI.out.only, PI.out.vb⟩
          exact PI.out.row
end Go.Proofs.YtcojglkjbbgoaaaDoor
