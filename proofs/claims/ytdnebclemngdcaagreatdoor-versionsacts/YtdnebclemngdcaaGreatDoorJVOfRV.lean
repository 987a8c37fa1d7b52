/- The reference's ValueOf by its contract. -/
import Derived.Test.YtdnebclemngdcaaGreatDoorJVOfRP
import Derived.Test.YtdnebclemngdcaaGreatDoorJVOfRQ
import Derived.Test.YtdnebclemngdcaaGreatDoorJVOfVM
namespace Go.Proofs.YtdnebclemngdcaaGreatDoor
open Go.RowKit Go.Sort Go.Maps
set_option maxRecDepth 100000
set_option linter.unusedSectionVars false
variable [Inhabited ComV] [DecidableEq D3] [Inhabited D3] [Inhabited Dd] [Inhabited Dn] [Inhabited OpV]

theorem StrsG.setCell {w : World} {sv : Value} {ss : List Tx} {g i : Nat} {k0 : Int} (h : StrsG w sv ss) (hg : w.cell? ⟨g, 0, none⟩ = some (.int .i64 k0)) (u : Value) : StrsG (w.setCell ⟨g, i, none⟩ u) sv ss := by
  rcases h with h | ⟨b, cap, rfl, h1, h⟩
  · exact .inl h
  · refine .inr ⟨b, cap, rfl, h1, fun t ht => ?_⟩
    have hne : b ≠ g := fun e => by
      have h0 := h 0 (by omega); rw [e, hg] at h0; obtain ⟨s, hs⟩ := encStr_shape ss[0]!; rw [hs] at h0; cases h0
    rw [sc_other _ _ _ _ (fun e => hne (by injection e with e1; exact e1.symm))]; exact h t ht
theorem StrsG.setCells {w : World} {sv : Value} {ss : List Tx} {g : Nat} {k0 : Int} (h : StrsG w sv ss) (hg : w.cell? ⟨g, 0, none⟩ = some (.int .i64 k0)) (us : List Value) : StrsG (w.setCells g 0 us) sv ss := by
  rcases h with h | ⟨b, cap, rfl, h1, h⟩
  · exact .inl h
  · refine .inr ⟨b, cap, rfl, h1, fun t ht => ?_⟩
    have hne : b ≠ g := fun e => by
      have h0 := h 0 (by omega); rw [e, hg] at h0; obtain ⟨s, hs⟩ := encStr_shape ss[0]!; rw [hs] at h0; cases h0
    rw [World.cell?_setCells_out g us 0 w _ (fun e _ => absurd e hne)]; exact h t ht
theorem StrsG.shape {w : World} {sv : Value} {ss : List Tx} (h : StrsG w sv ss) : ∃ a m c, sv = .slice a m c := by
  rcases h with ⟨rfl, _⟩ | ⟨b, cap, rfl, _⟩
  · exact ⟨_, _, _, rfl⟩
  · exact ⟨_, _, _, rfl⟩
structure VBox (w2 wr : World) (x : ValV) (sv : Value) : Prop where
  box : wr.heap[w2.heap.size]? = some (.cells #[.int .i64 x.kind, .string x.text, .int .i64 x.n, sv] 41 (0, 0))
  strs : StrsG wr sv x.set
  below : Below w2.heap.size w2 wr
theorem VBox.lt {w2 wr : World} {x : ValV} {sv : Value} (h : VBox w2 wr x sv) : w2.heap.size < wr.heap.size := lt_of_heap h.box
theorem VBox.c0 {w2 wr : World} {x : ValV} {sv : Value} (h : VBox w2 wr x sv) : wr.cell? ⟨w2.heap.size, 0, none⟩ = some (.int .i64 x.kind) := by simp only [World.cell?, h.box]; rfl
theorem VBox.c1 {w2 wr : World} {x : ValV} {sv : Value} (h : VBox w2 wr x sv) : wr.cell? ⟨w2.heap.size, 1, none⟩ = some (.string x.text) := by simp only [World.cell?, h.box]; rfl
theorem VBox.c2 {w2 wr : World} {x : ValV} {sv : Value} (h : VBox w2 wr x sv) : wr.cell? ⟨w2.heap.size, 2, none⟩ = some (.int .i64 x.n) := by simp only [World.cell?, h.box]; rfl
theorem VBox.c3 {w2 wr : World} {x : ValV} {sv : Value} (h : VBox w2 wr x sv) : wr.cell? ⟨w2.heap.size, 3, none⟩ = some sv := by simp only [World.cell?, h.box]; rfl
theorem VBox.fr {w2 wr : World} {x : ValV} {sv : Value} (h : VBox w2 wr x sv) (i : Nat) : wr.frozen? ⟨w2.heap.size, i, none⟩ = false := by simp only [World.frozen?, h.box]; simp
theorem VBox.moved {w2 wr w' : World} {x : ValV} {sv : Value} (h : VBox w2 wr x sv) (hb : Below wr.heap.size wr w') : VBox w2 w' x sv :=
  ⟨by rw [hb.block _ h.lt]; exact h.box, h.strs.mono hb (Nat.le_refl _), h.below.trans (hb.mono h.below.size)⟩
theorem VBox.set0 {w2 wr : World} {x : ValV} {sv : Value} (h : VBox w2 wr x sv) (k : Int) : VBox w2 (wr.setCell ⟨w2.heap.size, 0, none⟩ (.int .i64 k)) ⟨k, x.text, x.n, x.set⟩ sv :=
  ⟨by rw [heap_set h.box]; rfl, h.strs.setCell h.c0 _, h.below.setCell (Nat.le_refl _) _⟩
theorem VBox.set1 {w2 wr : World} {x : ValV} {sv : Value} (h : VBox w2 wr x sv) (t : ByteArray) : VBox w2 (wr.setCell ⟨w2.heap.size, 1, none⟩ (.string t)) ⟨x.kind, t, x.n, x.set⟩ sv :=
  ⟨by rw [heap_set h.box]; rfl, h.strs.setCell h.c0 _, h.below.setCell (Nat.le_refl _) _⟩
theorem VBox.set2 {w2 wr : World} {x : ValV} {sv : Value} (h : VBox w2 wr x sv) (n : Int) : VBox w2 (wr.setCell ⟨w2.heap.size, 2, none⟩ (.int .i64 n)) ⟨x.kind, x.text, n, x.set⟩ sv :=
  ⟨by rw [heap_set h.box]; rfl, h.strs.setCell h.c0 _, h.below.setCell (Nat.le_refl _) _⟩
theorem VBox.set3 {w2 wr : World} {x : ValV} {sv sv' : Value} {ss : List Tx} (h : VBox w2 wr x sv) (h' : StrsG wr sv' ss) : VBox w2 (wr.setCell ⟨w2.heap.size, 3, none⟩ sv') ⟨x.kind, x.text, x.n, ss⟩ sv' :=
  ⟨by rw [heap_set h.box]; rfl, h'.setCell h.c0 _, h.below.setCell (Nat.le_refl _) _⟩
def valK (ds : List Dn) (k : Nat) : ValV :=
  if k = 0 then ⟨0, ByteArray.empty, 0, []⟩
  else if ds[0]!.o.kind = 1 then ⟨1, ds[k - 1]!.o.text, 0, []⟩
  else if ds[0]!.o.kind = 2 then ⟨2, ByteArray.empty, sumN (ds.take k), []⟩
  else ⟨3, ByteArray.empty, 0, setTo ds k⟩
theorem valK_all {key : ByteArray} {l : List ComV} {ds : List Dn} (h : IsOps key l ds) (hok : ∀ i, i < l.length → ComOk l[i]!) : valK ds ds.length = valA ds := by
  unfold valK valA
  by_cases h0 : ds = []
  · subst h0; rfl
  · rw [if_neg (fun e => h0 (List.eq_nil_of_length_eq_zero e)), if_neg h0, List.take_length, setTo_all h hok]
theorem valK_1 {ds : List Dn} (h : ds[0]!.o.kind = 1) (k : Nat) : (valK ds k).n = 0 ∧ (valK ds k).set = [] ∧ valK ds (k + 1) = ⟨1, ds[k]!.o.text, 0, []⟩ := by
  unfold valK; rw [if_pos h]; refine ⟨?_, ?_, ?_⟩
  · split <;> rfl
  · split <;> rfl
  · rw [if_neg (by omega), if_pos h]; rfl
theorem valK_2 {ds : List Dn} (h : ds[0]!.o.kind = 2) (k : Nat) : (valK ds k).text = ByteArray.empty ∧ (valK ds k).set = [] ∧ (valK ds k).n = sumN (ds.take k) ∧ valK ds (k + 1) = ⟨2, ByteArray.empty, sumN (ds.take (k + 1)), []⟩ := by
  have h1 : ¬ ds[0]!.o.kind = 1 := by omega
  unfold valK; rw [if_neg h1, if_pos h]; refine ⟨?_, ?_, ?_, ?_⟩
  · split <;> rfl
  · split <;> rfl
  · split
    · rename_i h; subst h; rfl
    · rfl
  · rw [if_neg (by omega), if_neg h1, if_pos h]
theorem valK_3 {ds : List Dn} (h : ds[0]!.o.kind = 3) (k : Nat) : (valK ds k).text = ByteArray.empty ∧ (valK ds k).n = 0 ∧ (valK ds k).set = setTo ds k ∧ valK ds (k + 1) = ⟨3, ByteArray.empty, 0, setTo ds (k + 1)⟩ := by
  have h1 : ¬ ds[0]!.o.kind = 1 := by omega
  have h2 : ¬ ds[0]!.o.kind = 2 := by omega
  unfold valK; rw [if_neg h1, if_neg h2]; refine ⟨?_, ?_, ?_, ?_⟩
  · split <;> rfl
  · split <;> rfl
  · split
    · rename_i h; subst h; rfl
    · rfl
  · rw [if_neg (by omega), if_neg h1, if_neg h2]
def ValueRet (key : ByteArray) (l : List ComV) (w : World) (e : Ending) (w' : World) : Prop := ∃ rv, e = .returned rv ∧ ValAt w' rv (valA (opsR key l)) ∧ Below w.heap.size w w'
theorem ret_value (w : World) (tmps : Array Value) (g : Nat) (a b c d : Value) (h4 : tmps[4]?.getD undef = .pointer (some ⟨g, 0, none⟩)) (hc : ∀ j (hj : j < [a, b, c, d].length), w.cell? ⟨g, j, none⟩ = some [a, b, c, d][j]) :
    (results Tryz.f25 tmps).run Tryz.prog w = .ok (.agg #[a, b, c, d]) w := by
  have hl := run_loadCellsFrom_list Tryz.prog w ⟨g, 0, none⟩ [a, b, c, d] 4 rfl (fun j v hj => by
    obtain ⟨h1, h2⟩ := List.getElem?_eq_some_iff.1 hj; rw [Addr.add_lit, Nat.zero_add, hc j h1, h2])
  simp [results, Tryz.results25, h4, asAddr, loadVar, loadCells, Tryz.isAgg41, Tryz.sizeOf41, hl, Result.andThen]
set_option maxHeartbeats 8000000 in
theorem valueOf_any (w : World) (key : ByteArray) (v : Value) (l : List ComV) (hv : ComsAt w v l) (hl : l.length ≤ 1000) (hok : ∀ i, i < l.length → listBad l i = 0) :
    Calls Tryz.prog 25 #[.string key, v] w fun e w' => ValueRet key l w e w' := by
  obtain ⟨a, n0, cp, rfl⟩ : ∃ a n cp, v = .slice a n cp := by obtain ⟨a, cp, rfl, _⟩ := hv.shape; exact ⟨_, _, _, rfl⟩
  have hC := comOk_list hok; have K55 := fun o => opsOf_any (w.alloc o) key (.slice a n0 cp) l (hv.mono (below_alloc w o) (Nat.le_refl _)) hl hC
  have hI := opsR_isOps key l; have hOk := isOps_ok hI hok; have hlen := isOps_len hI (fun c hc => by obtain ⟨i, hi, rfl⟩ := List.getElem_of_mem hc; have := (hC i hi).few; rwa [getElem!_pos l i hi] at this); have hkd := isOps_kind hI; have HALL := hid (valK_all hI hC); unfold ValueRet; obtain ⟨ds, hds⟩ : ∃ ds, ds = opsR key l := ⟨_, rfl⟩; rw [← hds] at hOk hlen hkd HALL ⊢; have HOK := hid hOk; have HKD := hid hkd; have HDS := hid hds; have hbd := hid (sumN_bd (ds := ds) hOk); clear hv hok hC hI hOk hkd hds; go_enter Tryz.func25, Tryz.ntmps25; go_wp2_with fail; refine (K55 _).mono ?_; rintro e w2 ⟨v2, xs, rfl, hdn, habs, hb⟩; rw [← HDS.out] at habs
  have hrow0 : w2.heap[w.heap.size]? = some (.cells #[.int .i64 0, .string ByteArray.empty, .int .i64 0, .slice none 0 0] 41 (0, 0)) := by
    rw [hb.block _ (by simp)]; exact (MapKept.heap_alloc w _).1
  have hs2 : w.heap.size + 1 ≤ w2.heap.size := by have := hb.size; simpa using this
  have B2 : Hid (Below w.heap.size w w2) := (below_alloc _ _).trans (hb.mono (by simp)); obtain ⟨av, cv, rfl⟩ := hdn.len; have hnl : ds.length = xs.length := by rw [← habs, List.length_map]
  obtain ⟨n, hn⟩ : ∃ n, n = xs.length := ⟨_, rfl⟩; rw [← hn] at hdn hnl ⊢; have hn12 : n ≤ 12000 := by omega
  have HR0 := hid hrow0; have HDN := hid hdn; have HAB := hid habs; have HN := hid hn; have HNL := hid hnl; clear hrow0 hb hdn habs hn hnl K55; go_wp2; obtain ⟨w3, hw3⟩ : ∃ w3, w3 = w2.alloc (.cells #[.int .i64 0, .string ⟨#[]⟩, .int .i64 0, .slice none 0 0] 41) := ⟨_, rfl⟩
  have I3 : Hid (VBox w2 w3 (valK ds 0) (.slice none 0 0)) := by
    rw [hw3]; exact ⟨(MapKept.heap_alloc w2 _).1, .inl ⟨rfl, rfl⟩, below_alloc _ _⟩
  rw [← hw3]; clear hw3
  go_loopw [7] (fun i wr => ∃ (k : Nat) (sv : Value), k ≤ n ∧ i = .int .i64 k ∧ Hid (VBox w2 wr (valK ds k) sv)) (fun i _ => n - (intOf i).toNat)
  case atStart => exact ⟨0, _, Nat.zero_le _, rfl, I3.out⟩
  case round =>
    obtain ⟨k, sv, hk, rfl, HI⟩ := hrel
    by_cases hlt : k < n
    · obtain ⟨b, off, rfl, hc⟩ := HDN.out.cell (k := k) (by have := HN.out; omega); obtain ⟨z, hz⟩ : ∃ z, z = xs[k]! := ⟨_, rfl⟩; rw [← hz] at hc
      have hzd : ds[k]! = z.abs := by
        rw [← HAB.out, getElem!_pos (xs.map Dd.abs) k (by have := HN.out; simp; omega), List.getElem_map, hz, getElem!_pos xs k (by have := HN.out; omega)]
      have hmem : ds[k]! ∈ ds := by rw [getElem!_pos ds k (by have := HNL.out; omega)]; exact List.getElem_mem _
      have hkk := HKD.out _ hmem; have hok' := HOK.out _ hmem; rw [hzd] at hkk hok'; have HZD := hid hzd; clear hz hmem hzd; obtain ⟨z1, z2, z3, z4, z5, z6, zp, zl, zc, ⟨z8, z9, z10⟩, z11, zd⟩ := z; have hk0 : z3 = ds[0]!.o.kind := hkk; have hk3 : z3 = 1 ∨ z3 = 2 ∨ z3 = 3 := hok'.kind; have hzlo : -1099511627776 ≤ z5 := hok'.lo; have hzhi : z5 ≤ 1099511627776 := hok'.hi; have up : ∀ {a : Addr} {v : Value}, w2.cell? a = some v → wr.cell? a = some v := fun {a v} h => by rw [HI.out.below.cell (lt_of_cell h)]; exact h
      have HCC := hid hc; have f0 : wr.cell? ⟨b, off + k * 11, none⟩ = some (.int .i64 z1) := up (hc 0 _ rfl); have f1 := up (hc 1 _ rfl); have f2 := up (hc 2 _ rfl); have f3 := up (hc 3 _ rfl); have f4 := up (hc 4 _ rfl); have f5 := up (hc 5 _ rfl); have f6 := up (hc 6 _ rfl); have HK0 := hid hk0; clear hc up hkk hok' hk0; go_upto_region 7 with (fail); obtain ⟨wa, hwa⟩ : ∃ wa, wa = wr.alloc (.cells #[.int .i64 z1, .string z2, .int .i64 z3, .string z4, .int .i64 z5, .bool z6, .slice zp zl zc] 76) := ⟨_, rfl⟩; rw [← hwa]; have IA : VBox w2 wa (valK ds k) sv := by rw [hwa]; exact HI.out.moved (below_alloc _ _)
      have o2 : wa.cell? ⟨wr.heap.size, 2, none⟩ = some (.int .i64 z3) := by rw [hwa]; exact (World.cell?_alloc_at _ _ _ _ rfl).trans rfl
      have o3 : wa.cell? ⟨wr.heap.size, 3, none⟩ = some (.string z4) := by rw [hwa]; exact (World.cell?_alloc_at _ _ _ _ rfl).trans rfl
      have o4 : wa.cell? ⟨wr.heap.size, 4, none⟩ = some (.int .i64 z5) := by rw [hwa]; exact (World.cell?_alloc_at _ _ _ _ rfl).trans rfl
      have hne : (⟨w2.heap.size, 0, none⟩ : Addr) ≠ ⟨wr.heap.size, 2, none⟩ := fun e => by injection e with e1 e2; cases e2
      have hnb : w2.heap.size ≠ wr.heap.size := Nat.ne_of_lt HI.out.lt; have b0 := IA.c0; have bf := IA.fr 0; clear f0 f1 f2 f3 f4 f5 f6 hwa; go_upto_region 8 with (fail); obtain ⟨wb, hwb⟩ : ∃ wb, wb = wa.setCell ⟨w2.heap.size, 0, none⟩ (.int .i64 z3) := ⟨_, rfl⟩; rw [← hwb]; have IB : VBox w2 wb ⟨z3, (valK ds k).text, (valK ds k).n, (valK ds k).set⟩ sv := by rw [hwb]; exact IA.set0 z3
      have p2 : wb.cell? ⟨wr.heap.size, 2, none⟩ = some (.int .i64 z3) := by rw [hwb, sc_other _ _ _ _ (fun e => hnb (by injection e))]; exact o2
      have p3 : wb.cell? ⟨wr.heap.size, 3, none⟩ = some (.string z4) := by rw [hwb, sc_other _ _ _ _ (fun e => hnb (by injection e))]; exact o3
      have p4 : wb.cell? ⟨wr.heap.size, 4, none⟩ = some (.int .i64 z5) := by rw [hwb, sc_other _ _ _ _ (fun e => hnb (by injection e))]; exact o4
      clear o2 o3 o4 b0 bf hwb hne IA; rcases hk3 with rfl | rfl | rfl
      · obtain ⟨e1, e2, e3⟩ := valK_1 (ds := ds) HK0.out.symm k; have b1 := IB.c1; have bf := IB.fr 1; have hI := hid (IB.set1 z4); clear IB; go_wp2; refine ⟨⟨k + 1, sv, by omega, by go_num, ?_⟩, by simp [intOf]; omega⟩; have h := hI.out; rw [e1, e2] at h; rw [e3, HZD.out]; exact h
      · obtain ⟨e1, e2, e3, e4⟩ := valK_2 (ds := ds) HK0.out.symm k; have h1 := hbd.out k (by have := HNL.out; omega)
        have hst : sumN (ds.take (k + 1)) = sumN (ds.take k) + z5 := by
          rw [sumN_take (by have := HNL.out; omega), HZD.out]; rfl
        obtain ⟨sm, hsm⟩ : ∃ sm, sm = sumN (ds.take k) := ⟨_, rfl⟩; rw [← hsm] at hst e3 h1; have b2 := IB.c2; rw [e3] at b2; have bf := IB.fr 2; have hI := hid (IB.set2 (sm + z5)); have HST := hid hst; have E1 := hid e1; have E2 := hid e2; have E4 := hid e4; have hw1 : -9223372036854775808 ≤ sm + z5 := by omega
        have hw2 : sm + z5 ≤ 9223372036854775807 := by omega
        clear IB hst e1 e2 e3 e4 hsm h1; go_wp2; refine ⟨⟨k + 1, sv, by omega, by go_num, ?_⟩, by simp [intOf]; omega⟩; have h := hI.out; rw [E1.out, E2.out] at h; rw [E4.out, HST.out]; exact h
      · obtain ⟨e1, e2, e3, e4⟩ := valK_3 (ds := ds) HK0.out.symm k
        have HDL : ∀ x ∈ xs, x.ds.length ≤ 1000 := fun x hx => by
          have h := (HOK.out x.abs (by rw [← HAB.out]; exact List.mem_map.2 ⟨x, hx, rfl⟩)).few; have h' : x.ds.length ≤ 60 := h; omega
        have K56 := live_any wb _ xs (HDN.out.mono IB.below (Nat.le_refl _)) ⟨z1, z2, 3, z4, z5, z6, zp, zl, zc, ⟨z8, z9, z10⟩, z11, zd⟩ (by have := HN.out; omega) HDL; unfold LiveRet at K56; rw [HAB.out, ← HZD.out] at K56; have upb : ∀ {a : Addr} {v : Value}, w2.cell? a = some v → wb.cell? a = some v := fun {a v} h => by rw [IB.below.cell (lt_of_cell h)]; exact h
        have q0 : wb.cell? ⟨b, off + k * 11, none⟩ = some (.int .i64 z1) := upb (HCC.out 0 _ rfl); have q1 := upb (HCC.out 1 _ rfl); have q2 := upb (HCC.out 2 _ rfl); have q3 := upb (HCC.out 3 _ rfl); have q4 := upb (HCC.out 4 _ rfl); have q5 := upb (HCC.out 5 _ rfl); have q6 := upb (HCC.out 6 _ rfl); have q7 := upb (HCC.out 7 _ rfl); have q8 := upb (HCC.out 8 _ rfl); have q9 := upb (HCC.out 9 _ rfl); have q10 := upb (HCC.out 10 _ rfl); have IBH := hid IB; have E1 := hid e1; have E2 := hid e2; have E3 := hid e3; have hss := setTo_succ (ds := ds) (k := k) (by have := HNL.out; omega); obtain ⟨r, hr⟩ : ∃ r, r = liveB ds ds[k]! := ⟨_, rfl⟩; rw [← hr] at K56 hss; have HSS := hid (e4.trans (by rw [hss] : _ = ValV.mk 3 ByteArray.empty 0 (if r = true then enterL (setTo ds k) ds[k]!.o.text.data.toList else setTo ds k)))
        have hsl : (setTo ds k).length ≤ 10000000 := by have := setTo_len ds k (by have := HNL.out; omega); omega
        clear hr hss e1 e2 e3 e4 upb IB HDL
        cases r with
        | false =>
          go_wp2_with (go_at_call 59; refine K56.mono ?_; rintro e w5 ⟨rfl, hb5⟩)
          refine ⟨⟨k + 1, sv, by omega, by go_num, ?_⟩, by simp [intOf]; omega⟩; have h := IBH.out.moved hb5; rw [E1.out, E2.out, E3.out] at h; rw [HSS.out, if_neg (by decide)]; exact h
        | true =>
          obtain ⟨sa, sm, sc, rfl⟩ := IBH.out.strs.shape
          go_wp2_with (go_at_call 59; refine K56.mono ?_; rintro e w5 ⟨rfl, hb5⟩; have s3 := (IBH.out.moved hb5).c3; have t3 : w5.cell? ⟨wr.heap.size, 3, none⟩ = some (.string z4) := by rw [hb5.cell (lt_of_cell p3)]; exact p3)
          have I5 := IBH.out.moved hb5; have hst := I5.strs; rw [show (ValV.mk 3 (valK ds k).text (valK ds k).n (valK ds k).set).set = setTo ds k from E3.out] at hst; refine (enter_any w5 _ (setTo ds k) hst z4 (by have := setTo_len ds k (by have := HNL.out; omega); omega)).mono ?_; rintro e w6 ⟨v6, rfl, hs6, hb6⟩; have I6 := I5.moved hb6; obtain ⟨a6, m6, c6, rfl⟩ := hs6.shape; have b3 := I6.c3; have bf := I6.fr 3; have hI := hid (I6.set3 hs6); clear I5 I6 hst hs6 hb6 hb5 K56; go_wp2; refine ⟨⟨k + 1, .slice a6 m6 c6, by omega, by go_num, ?_⟩, by simp [intOf]; omega⟩; have h := hI.out; have h1 : VBox w2 (w6.setCell ⟨w2.heap.size, 3, none⟩ (.slice a6 m6 c6)) ⟨3, (valK ds k).text, (valK ds k).n, enterL (setTo ds k) z4.data.toList⟩ (.slice a6 m6 c6) := h; rw [E1.out, E2.out] at h1; have hss := HSS.out; rw [HZD.out] at hss; rw [hss]; exact h1
    · obtain rfl : k = n := by omega
      have hI := HI.out; have hall : valK ds k = valA ds := by rw [← HNL.out]; exact HALL.out
      rw [hall] at hI; have c0 := hI.c0; have c1 := hI.c1; have c2 := hI.c2; have c3 := hI.c3; have hr0 : wr.heap[w.heap.size]? = some (.cells #[.int .i64 0, .string ByteArray.empty, .int .i64 0, .slice none 0 0] 41 (0, 0)) := by rw [hI.below.block _ (by omega)]; exact HR0.out
      have hg0 : wr.cell? ⟨w.heap.size, 0, none⟩ = some (.int .i64 0) := by simp only [World.cell?, hr0]; rfl
      obtain ⟨sa, sm, sc, rfl⟩ := hI.strs.shape; have HST := hid hI.strs; have HBW := hid (B2.out.trans (hI.below.mono (by omega))); obtain ⟨X1, hX1⟩ : ∃ X, X = (valA ds).kind := ⟨_, rfl⟩; obtain ⟨X2, hX2⟩ : ∃ X, X = (valA ds).text := ⟨_, rfl⟩; obtain ⟨X3, hX3⟩ : ∃ X, X = (valA ds).n := ⟨_, rfl⟩; rw [← hX1] at c0; rw [← hX2] at c1; rw [← hX3] at c2; have H1 := hid hX1; have H2 := hid hX2; have H3 := hid hX3; have R4 := hid (row4 hr0); have S4 := hid (set4 hr0 [.int .i64 X1, .string X2, .int .i64 X3, .slice sa sm sc] rfl); have HG0 := hid hg0; clear hI hall hr0 hg0 hX1 hX2 hX3 HI
      go_wp2_with (refine wpList_store_k _ rfl (.tmp 4) (.tmp 58) 41 rfl w.heap.size 0 [.int .i64 X1, .string X2, .int .i64 X3, .slice sa sm sc] rfl rfl 4 rfl Tryz.sizeOf41 rfl _ ?hW R4.out.1 R4.out.2 ?_; case hW => rfl)
      exact bodyPost_ret (ret_value _ _ w.heap.size _ _ _ _ rfl S4.out) rfl ⟨_, rfl, ⟨.slice sa sm sc, by rw [H1.out, H2.out, H3.out], (HST.out.setCells HG0.out _).strs⟩, below_setCells (Nat.le_refl _) _ _ HBW.out⟩
end Go.Proofs.YtdnebclemngdcaaGreatDoor
