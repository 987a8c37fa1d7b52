/- Of by its contract, where nothing is wrong: the walk; Dots by its contract, where nothing is wrong; Dots by its contract, where nothing is wrong: the walk; worth: a closed fact; Where ValuesSets' first loop stands. -/
import Derived.Test.YtdnebclemngdcaaGreatDoorJVTurnM
import Derived.Laws.ResultCell
namespace Go.Proofs.YtdnebclemngdcaaGreatDoor
open Go.RowKit Go.Sort Go.Maps
set_option maxRecDepth 100000
set_option linter.unusedSectionVars false
variable [Inhabited ComV] [DecidableEq D3] [Inhabited D3] [Inhabited Dd] [Inhabited Dn] [Inhabited OpV]

theorem GoodD.len {w : World} {x : Dd} (h : GoodD w x) : x.ds.length = x.dl := by
  obtain ⟨ad, cap, he, _⟩ := h; injection he with _ h2
  simpa using h2.symm
theorem dotsWf_of {w : World} {x : Dd} (h : GoodD w x) (hk : DnOk x.abs) : DotsWf x := ⟨hk.dot, hk.dots, h.len, Nat.le_trans hk.few (by decide)⟩
theorem sumN_take {ds : List Dn} {k : Nat} (h : k < ds.length) : sumN (ds.take (k + 1)) = sumN (ds.take k) + ds[k]!.o.n := by
  unfold sumN; rw [foldl_take_succ _ _ _ h]
theorem sumN_bd {ds : List Dn} (h : ∀ d ∈ ds, DnOk d) : ∀ k, k ≤ ds.length → -(1099511627776 * k) ≤ sumN (ds.take k) ∧ sumN (ds.take k) ≤ 1099511627776 * k
  | 0, _ => by simp [sumN]
  | k + 1, hk => by
    have h1 := sumN_bd h k (by omega); have h2 := h ds[k]! (by rw [getElem!_pos ds k (by omega)]; exact List.getElem_mem _); have h3 := h2.lo; have h4 := h2.hi; rw [sumN_take (by omega)]; omega

theorem ret_of (w : World) (tmps : Array Value) (g : Nat) (a b c d e : Value) (h4 : tmps.getD 4 undef = .pointer (some ⟨g, 0, none⟩)) (h5 : tmps.getD 5 undef = e) (hc : ∀ j (hj : j < [a, b, c, d].length), w.cell? ⟨g, j, none⟩ = some [a, b, c, d][j]) :
    (results Tryz.f47 tmps).run Tryz.prog w = .ok (.tuple #[.agg #[a, b, c, d], e]) w := by
  have hl := run_loadCellsFrom_list Tryz.prog w ⟨g, 0, none⟩ [a, b, c, d] 4 rfl (fun j v hj => by
    obtain ⟨h1, h2⟩ := List.getElem?_eq_some_iff.1 hj; rw [Addr.add_lit, Nat.zero_add, hc j h1, h2])
  rw [results_cell_tmp rfl]; simp [h4, h5, asAddr, loadVar, loadCells, Tryz.isAgg41, Tryz.sizeOf41, hl, Result.andThen]
theorem sc_other (w : World) (a b : Addr) (v : Value) (h : a ≠ b) : (w.setCell a v).cell? b = w.cell? b := by
  first
    | exact World.cell?_setCell_other _ _ _ _ h
    | exact World.cell?_setCell_other h
theorem sc_same (w : World) (a : Addr) (v u : Value) (h : w.cell? a = some u) : (w.setCell a v).cell? a = some v := by
  first
    | exact World.cell?_setCell_same _ _ _ h
    | exact World.cell?_setCell_same h
theorem row4 {w : World} {g : Nat} {a b c d : Value} {t : TypeId} (h : w.heap[g]? = some (.cells #[a, b, c, d] t (0, 0))) : (∀ j, j < 4 → (w.cell? ⟨g, 0 + j, none⟩).isSome = true) ∧ ∀ j, j < 4 → w.frozen? ⟨g, 0 + j, none⟩ = false := by
  refine ⟨fun j hj => ?_, fun j hj => ?_⟩
  · rcases (by omega : j = 0 ∨ j = 1 ∨ j = 2 ∨ j = 3) with rfl | rfl | rfl | rfl <;> simp [World.cell?, h]
  · simp [World.frozen?, h]
theorem set4 {w : World} {g : Nat} {a b c d : Value} {t : TypeId} (h : w.heap[g]? = some (.cells #[a, b, c, d] t (0, 0))) (vs : List Value) (hl : vs.length = 4) : ∀ j (hj : j < vs.length), (w.setCells g 0 vs).cell? ⟨g, j, none⟩ = some vs[j] := fun j hj => by
  have := World.cell?_setCells_in g vs 0 w (fun q hq => (row4 h).1 q (by omega)) j hj; rwa [Nat.zero_add] at this

set_option maxHeartbeats 4000000 in
theorem of_ok (A : Nat → Addr) (w : World) (hE : E4 A w) (h4 : 12 ≤ w.heap.size) (key : ByteArray) (hk : nameB key = true) (v : Value) (l : List ComV) (hv : ComsAt w v l) (hl : l.length ≤ 1000) (hsm : ∀ c ∈ l, SmallC c) (hok : ∀ i, i < l.length → listBad l i = 0) :
    Calls Tryz.prog 47 #[.string key, v] w fun e w' => OfRet key l w e w' := by
  obtain ⟨a, n, cp, rfl⟩ : ∃ a n cp, v = .slice a n cp := by obtain ⟨a, cp, rfl, _⟩ := hv.shape; exact ⟨_, _, _, rfl⟩
  have K41 := fun o => opsOn_ok A (w.alloc o) (hE.below (below_alloc w o) h4) (by simp; omega) key hk (.slice a n cp) l (hv.mono (below_alloc w o) (Nat.le_refl _)) hl hsm hok
  have HOK := hid hok
  have H12 : Hid (∀ c ∈ l, c.ops.length ≤ 12) := fun c hc => by
    obtain ⟨i, hi, rfl⟩ := List.getElem_of_mem hc
    have := (comOk_of (c := l[i]!) (by
      have := hok i hi; unfold listBad at this
      split at this
      · rename_i h; exact absurd this h
      · rename_i h; simpa using h)).few
    rwa [getElem!_pos l i hi] at this
  have HL := hid hl; clear hE hk hv hsm hok; go_enter Tryz.func47, Tryz.ntmps47; go_wp2_with fail; refine (K41 _).mono ?_; rintro e w2 ⟨v2, xs, rfl, hR, hI, hG, _, hb⟩; have hOk := isOps_ok hI HOK.out; have hlen := isOps_len hI H12.out; simp only [List.length_map] at hlen
  have hrow0 : w2.heap[w.heap.size]? = some (.cells #[.int .i64 0, .string ByteArray.empty, .int .i64 0, .slice none 0 0] 41 (0, 0)) := by
    rw [hb.block _ (by simp)]; exact (MapKept.heap_alloc w _).1
  have hs2 : w.heap.size + 1 ≤ w2.heap.size := by have := hb.size; simpa using this
  have B2 : Hid (Below w.heap.size w w2) := (below_alloc _ _).trans (hb.mono (by simp))
  by_cases h0 : xs = []
  · subst h0; obtain ⟨av, cv, rfl⟩ := hR.shape; have HR4 := hid (row4 hrow0); have HS4 := hid (set4 hrow0 [.int .i64 0, .string ByteArray.empty, .int .i64 0, .slice none 0 0] rfl); clear hrow0 hR hG hb
    go_wp2_with (refine wpList_store_k _ rfl (.tmp 4) (.tmp 24) 41 rfl w.heap.size 0 [.int .i64 0, .string ByteArray.empty, .int .i64 0, .slice none 0 0] rfl rfl 4 rfl Tryz.sizeOf41 rfl _ ?hW HR4.out.1 HR4.out.2 ?_; case hW => rfl)
    refine bodyPost_ret (ret_of _ _ w.heap.size _ _ _ _ _ rfl rfl HS4.out) rfl ⟨_, _, rfl, hI, ⟨_, rfl, ?_⟩, below_setCells (Nat.le_refl _) _ _ B2.out⟩; exact strs_nil _
  · have hm0 : 0 < xs.length := List.length_pos_iff.2 h0; rcases hR with ⟨_, h⟩ | ⟨g, cap, rfl, hBg, hg2, hcap, hH⟩
    · exact absurd h h0
    · have hkc := kind_cell hH hm0; obtain ⟨kd, hkd⟩ : ∃ kd, kd = xs[0]!.kind := ⟨_, rfl⟩; rw [← hkd] at hkc; have hd0 : (xs.map Dd.abs)[0]!.o.kind = kd := by rw [map_get_abs xs hm0, hkd]; rfl
      have hdn : xs.map Dd.abs ≠ [] := by simpa using h0
      have hkk : kd = 1 ∨ kd = 2 ∨ kd = 3 := by
        have := (hOk (xs.map Dd.abs)[0]! (by rw [getElem!_pos _ 0 (by simpa using hm0)]; exact List.getElem_mem _)).kind; rwa [hd0] at this
      obtain ⟨m, hm⟩ : ∃ m, m = xs.length := ⟨_, rfl⟩; rw [← hm] at hm0 hcap hlen ⊢; have hmb : m ≤ 12000 := by omega
      have hme : ((m : Int) == 0) = false := by rw [beq_eq_false_iff_ne]; omega
      have hrow1 : ∀ o, (w2.alloc o).heap[w.heap.size]? = some (.cells #[.int .i64 0, .string ByteArray.empty, .int .i64 0, .slice none 0 0] 41 (0, 0)) := fun o => by
        rw [(MapKept.heap_alloc w2 o).2 _ (by omega)]; exact hrow0
      have HR1 := hid hrow1; have HH := hid hH; have HI := hid hI; have HG := hid hG; have HOk := hid hOk; have HM := hid hm; have HD0 := hid hd0; have HDN := hid hdn; clear hkd hH hI hG hOk hm hd0 hdn hrow0 hrow1 hb h0 K41; rcases hkk with rfl | rfl | rfl
      · obtain ⟨m', rfl⟩ : ∃ m', m = m' + 1 := ⟨m - 1, by omega⟩; obtain ⟨tx, htx⟩ : ∃ tx, tx = xs[m']!.text := ⟨_, rfl⟩
        have ct : ∀ o, (w2.alloc o).cell? ⟨g, m' * 11 + 3, none⟩ = some (.string tx) := fun o => by
          have := HM.out; obtain ⟨_, _, _, c3, _⟩ := holdsK_cells HH.out (j := m') (u := xs[m']!) (by simp; omega) (by rw [getElem!_pos xs.toArray m' (by simp; omega), getElem!_pos xs m' (by omega)]; simp); rw [htx]; exact cell_alloc c3 o
        have hj1 : ((m' + 1 : Nat) : Int) - 1 = (m' : Int) := by omega
        have R4 := hid (row4 (HR1.out (.cells #[.int .i64 1, .string tx, .int .i64 0, .slice none 0 0] 41))); have S4 := hid (set4 (HR1.out (.cells #[.int .i64 1, .string tx, .int .i64 0, .slice none 0 0] 41)) [.int .i64 1, .string tx, .int .i64 0, .slice none 0 0] rfl); have HTX := hid htx; clear htx
        go_wp2_with (refine wpList_store_k _ rfl (.tmp 4) (.tmp 67) 41 rfl w.heap.size 0 [.int .i64 1, .string tx, .int .i64 0, .slice none 0 0] rfl rfl 4 rfl Tryz.sizeOf41 rfl _ ?hW R4.out.1 R4.out.2 ?_; case hW => rfl)
        refine bodyPost_ret (ret_of _ _ w.heap.size _ _ _ _ _ rfl rfl S4.out) rfl ⟨_, _, rfl, HI.out, ?_, below_setCells (Nat.le_refl _) _ _ (B2.out.alloc (by omega) _)⟩
        have e : valA (xs.map Dd.abs) = ⟨1, tx, 0, []⟩ := by
          unfold valA; rw [if_neg HDN.out, if_pos HD0.out]; have := HM.out; rw [List.length_map, ← this, Nat.add_sub_cancel, map_get_abs xs (by omega), HTX.out]; rfl
        rw [e]; exact ⟨_, rfl, strs_nil _⟩
      · obtain ⟨ds, hds⟩ : ∃ ds, ds = xs.map Dd.abs := ⟨_, rfl⟩; have HDS := hid hds; have hbd := hid (sumN_bd (ds := ds) (by rw [hds]; exact HOk.out)); have hdl : ds.length = m := by rw [hds]; have := HM.out; simp; omega
        have HDL := hid hdl; clear hds hdl; go_wp2; obtain ⟨w3, hw3⟩ : ∃ w3, w3 = w2.alloc (.cells #[.int .i64 2, .string ByteArray.empty, .int .i64 0, .slice none 0 0] 41) := ⟨_, rfl⟩
        have V3 : Hid (∀ j, j < 4 → w3.frozen? ⟨w2.heap.size, j, none⟩ = false) := fun j hj => by
          have := (row4 (w := w3) (g := w2.heap.size) (a := .int .i64 2) (b := .string ByteArray.empty) (c := .int .i64 0) (d := .slice none 0 0) (t := 41) (by rw [hw3]; exact (MapKept.heap_alloc w2 _).1)).2 j hj; rwa [Nat.zero_add] at this
        have I3 : Hid (w3.cell? ⟨w2.heap.size, 0, none⟩ = some (.int .i64 2) ∧ w3.cell? ⟨w2.heap.size, 1, none⟩ = some (.string ByteArray.empty) ∧ w3.cell? ⟨w2.heap.size, 2, none⟩ = some (.int .i64 (sumN (ds.take 0))) ∧ w3.cell? ⟨w2.heap.size, 3, none⟩ = some (.slice none 0 0)) := hid (by
          rw [hw3]; exact ⟨(World.cell?_alloc_at _ _ _ _ rfl).trans rfl, (World.cell?_alloc_at _ _ _ _ rfl).trans rfl, (World.cell?_alloc_at _ _ _ _ rfl).trans rfl, (World.cell?_alloc_at _ _ _ _ rfl).trans rfl⟩)
        have B3 : Hid (Below w2.heap.size w2 w3) := by rw [hw3]; exact below_alloc _ _
        have S3 : Hid (w2.heap.size + 1 ≤ w3.heap.size) := hid (by rw [hw3]; simp); have hw3' : w2.alloc (.cells #[.int .i64 2, .string { data := #[] }, .int .i64 0, .slice none 0 0] 41) = w3 := hw3.symm; rw [hw3']; clear hw3 hw3'
        go_loopw [49] (fun i wr => ∃ k : Nat, k ≤ m ∧ i = .int .i64 k ∧ Hid (Below w2.heap.size w2 wr) ∧ Hid (w2.heap.size + 1 ≤ wr.heap.size) ∧ Hid (∀ j, j < 4 → wr.frozen? ⟨w2.heap.size, j, none⟩ = false) ∧
          Hid (wr.cell? ⟨w2.heap.size, 0, none⟩ = some (.int .i64 2) ∧ wr.cell? ⟨w2.heap.size, 1, none⟩ = some (.string ByteArray.empty) ∧ wr.cell? ⟨w2.heap.size, 2, none⟩ = some (.int .i64 (sumN (ds.take k))) ∧ wr.cell? ⟨w2.heap.size, 3, none⟩ = some (.slice none 0 0))) (fun i _ => m - (intOf i).toNat)
        case atStart => exact ⟨0, Nat.zero_le _, rfl, B3.out, S3.out, V3.out, I3.out⟩
        case round =>
          obtain ⟨k, hk, rfl, HB, HSz, HV, HC⟩ := hrel
          by_cases hlt : k < m
          · obtain ⟨u, hu⟩ : ∃ u, u = xs[k]! := ⟨_, rfl⟩; obtain ⟨c0, c1, c2, c3, c4, c5, c6, c7, c8, c9, c10⟩ := holdsK_cells (holdsK_below HH.out HB.out hg2) (j := k) (u := u) (by have := HM.out; simp; omega) (by rw [hu]; have := HM.out; rw [getElem!_pos xs.toArray k (by simp; omega), getElem!_pos xs k (by omega)]; simp); obtain ⟨d0, d1, d2, d3⟩ := HC.out; obtain ⟨sm, hsm⟩ : ∃ sm, sm = sumN (ds.take k) := ⟨_, rfl⟩; rw [← hsm] at d2; have hb1 := hbd.out k (by have := HDL.out; omega); rw [← hsm] at hb1
            have hst : sumN (ds.take (k + 1)) = sm + u.n := by
              rw [sumN_take (by have := HDL.out; omega), hsm, HDS.out, map_get_abs xs (by have := HM.out; omega), hu]; rfl
            have hun := HOk.out u.abs (by rw [hu]; exact List.mem_map.2 ⟨_, by rw [getElem!_pos xs k (by have := HM.out; omega)]; exact List.getElem_mem _, rfl⟩); have hu1 := hun.lo; have hu2 := hun.hi; have e2 := fun o => cell_alloc d2 o
            have f2 : ∀ o, (wr.alloc o).frozen? ⟨w2.heap.size, 2, none⟩ = false := fun o => by
              have := HV.out 2 (by omega); have h2 := (MapKept.heap_alloc wr o).2 w2.heap.size (by have := HSz.out; omega); simp only [World.frozen?, h2]
              simpa only [World.frozen?] using this
            have HST := hid hst; clear hu hsm hst hun; obtain ⟨x1, x2, x3, x4, x5, x6, dp, dl, dc, ⟨x8, x9, x10⟩, x11, xd⟩ := u; simp only [Dd.abs] at c0 c1 c2 c3 c4 c5 c6 c7 c8 c9 c10 hu1 hu2; obtain ⟨hb2, hb3⟩ := hb1; go_wp2; have hsz := HSz.out; refine ⟨⟨k + 1, by omega, by go_num, ?_, ?_, ?_, ?_⟩, by simp [intOf]; omega⟩
            · exact (HB.out.alloc (by omega) _).setCell (Nat.le_refl _) _
            · exact (show w2.heap.size + 1 ≤ ((wr.alloc _).setCell _ _).heap.size by simp; omega)
            · intro j hj; rw [World.frozen?_setCell]; have := HV.out j hj; have h2 := (MapKept.heap_alloc wr (.cells #[.int .i64 x1, .string x2, .int .i64 x3, .string x4, .int .i64 x5, .bool x6, .slice dp dl dc, .int .i64 x8, .int .i64 x9, .int .i64 x10, .int .i64 x11] 131)).2 w2.heap.size (by omega); simp only [World.frozen?, h2]
              simpa only [World.frozen?] using this
            · rw [HST.out]; refine ⟨?_, ?_, ?_, ?_⟩
              · exact (sc_other _ _ _ _ (by simp)).trans (cell_alloc d0 _)
              · exact (sc_other _ _ _ _ (by simp)).trans (cell_alloc d1 _)
              · exact sc_same _ _ _ _ (e2 _)
              · exact (sc_other _ _ _ _ (by simp)).trans (cell_alloc d3 _)
          · have hkm : m = k := by omega
            subst hkm; obtain ⟨d0, d1, d2, d3⟩ := HC.out; rw [List.take_of_length_le (by have := HDL.out; omega)] at d2; obtain ⟨sm, hsm⟩ : ∃ sm, sm = sumN ds := ⟨_, rfl⟩; rw [← hsm] at d2
            have hrw : wr.heap[w.heap.size]? = some (.cells #[.int .i64 0, .string ByteArray.empty, .int .i64 0, .slice none 0 0] 41 (0, 0)) := by
              rw [HB.out.block _ (by omega)]; have := HR1.out (.cells #[] 41); rwa [(MapKept.heap_alloc w2 _).2 _ (by omega)] at this
            have R4 := hid (row4 hrw); have S4 := hid (set4 hrw [.int .i64 2, .string ByteArray.empty, .int .i64 sm, .slice none 0 0] rfl); have HSM := hid hsm; clear hsm hrw
            go_wp2_with (refine wpList_store_k _ rfl (.tmp 4) (.tmp 67) 41 rfl w.heap.size 0 [.int .i64 2, .string ByteArray.empty, .int .i64 sm, .slice none 0 0] rfl rfl 4 rfl Tryz.sizeOf41 rfl _ ?hW R4.out.1 R4.out.2 ?_; case hW => rfl)
            refine bodyPost_ret (ret_of _ _ w.heap.size _ _ _ _ _ rfl rfl S4.out) rfl ⟨_, _, rfl, HI.out, ?_, below_setCells (Nat.le_refl _) _ _ (B2.out.trans (HB.out.mono (by omega)))⟩
            have e : valA (xs.map Dd.abs) = ⟨2, ByteArray.empty, sm, []⟩ := by
              unfold valA; rw [if_neg HDN.out, if_neg (by rw [HD0.out]; decide), if_pos HD0.out, ← HDS.out, HSM.out]
            rw [e]; exact ⟨_, rfl, strs_nil _⟩
      · go_wp2_with fail; obtain ⟨w3, hw3⟩ : ∃ w3, w3 = w2.alloc (.cells #[.int .i64 3, .string ByteArray.empty, .int .i64 0, .slice none 0 0] 41) := ⟨_, rfl⟩
        have hw3' : w2.alloc (.cells #[.int .i64 3, .string { data := #[] }, .int .i64 0, .slice none 0 0] 41) = w3 := hw3.symm; have b3 : Below w2.heap.size w2 w3 := by rw [hw3]; exact below_alloc _ _
        have s3 : w3.heap.size = w2.heap.size + 1 := by rw [hw3]; simp
        have r3 : w3.heap[w2.heap.size]? = some (.cells #[.int .i64 3, .string ByteArray.empty, .int .i64 0, .slice none 0 0] 41 (0, 0)) := by rw [hw3]; exact (MapKept.heap_alloc w2 _).1
        have K43 := standing_n w3 g m cap xs HM.out.symm (by omega) (by omega) (holdsK_below HH.out b3 hg2) (fun x hx => (HG.out x hx).mono b3 (Nat.le_refl _)) (fun x hx => dotsWf_of (HG.out x hx) (HOk.out x.abs (List.mem_map.2 ⟨x, hx, rfl⟩))); have B3 := hid b3; have S3 := hid s3; have R3 := hid r3; clear hw3 b3 s3 r3; rw [hw3']; clear hw3'; refine K43.mono ?_; rintro e w4 ⟨v4, rfl, hrow4, hb4⟩; obtain ⟨fs, hfs⟩ : ∃ fs, fs = xs.filter fun x => (finalMap (xs.map Dd.abs) x.dot).isSome := ⟨_, rfl⟩
        rw [← hfs] at hrow4; have hfl : fs.length ≤ m := by rw [hfs, HM.out]; exact List.length_filter_le _ _
        have hR4 := rowD_of_owns hrow4
        have K42 : Calls Tryz.prog 77 #[v4] w4 fun e w' => TextsRet (fs.map Dd.text) w4 e w' := by
          rcases hR4 with ⟨rfl, h⟩ | ⟨g4, cap4, rfl, hBg4, hg4, hcap4, hH4⟩
          · rw [h]; exact texts_none w4
          · by_cases hf0 : fs = []
            · subst hf0; exact texts_zero w4 _ cap4
            · exact texts_n w4 g4 fs.length cap4 fs rfl (List.length_pos_iff.2 hf0) (by omega) hg4 hH4
        obtain ⟨a4, c4, rfl⟩ := hR4.shape; have HB4 := hid hb4; have HFS := hid hfs; clear hrow4 hb4 hR4 hfs K43; go_wp2_with fail; refine K42.mono ?_; rintro e w5 ⟨v5, rfl, hs5, hb5, hob5⟩; obtain ⟨s5, q5, hv5⟩ : ∃ s5 q5, v5 = .slice s5 (setA (fs.map Dd.text)).length q5 := by obtain ⟨ad, c, h, _⟩ := hs5; exact ⟨ad, c, h⟩
        subst hv5; obtain ⟨n5, hn5⟩ : ∃ n5, n5 = (setA (fs.map Dd.text)).length := ⟨_, rfl⟩; rw [← hn5] at hs5 hob5 ⊢; have hs3 := S3.out; have B35 : Below w3.heap.size w3 w5 := HB4.out.trans (hb5.mono HB4.out.size); have hr5 : w5.heap[w2.heap.size]? = some (.cells #[.int .i64 3, .string ByteArray.empty, .int .i64 0, .slice none 0 0] 41 (0, 0)) := by rw [B35.block _ (by omega)]; exact R3.out
        have hr6 : w5.heap[w.heap.size]? = some (.cells #[.int .i64 0, .string ByteArray.empty, .int .i64 0, .slice none 0 0] 41 (0, 0)) := by
          rw [B35.block _ (by omega), B3.out.block _ (by omega)]; have := HR1.out (.cells #[] 41); rwa [(MapKept.heap_alloc w2 _).2 _ (by omega)] at this
        have d0 : w5.cell? ⟨w2.heap.size, 0, none⟩ = some (.int .i64 3) := by simp [World.cell?, hr5]
        have d1 : w5.cell? ⟨w2.heap.size, 1, none⟩ = some (.string ByteArray.empty) := by simp [World.cell?, hr5]
        have d2 : w5.cell? ⟨w2.heap.size, 2, none⟩ = some (.int .i64 0) := by simp [World.cell?, hr5]
        have d3 : w5.cell? ⟨w2.heap.size, 3, none⟩ = some (.slice none 0 0) := by simp [World.cell?, hr5]
        have f3 : w5.frozen? ⟨w2.heap.size, 3, none⟩ = false := by simp [World.frozen?, hr5]
        have hne : w2.heap.size ≠ w.heap.size := by omega
        have hr7 : (w5.setCell ⟨w2.heap.size, 3, none⟩ (.slice s5 n5 q5)).heap[w.heap.size]? = some (.cells #[.int .i64 0, .string ByteArray.empty, .int .i64 0, .slice none 0 0] 41 (0, 0)) := by
          rw [Below.heap_setCell _ _ _ _ (Ne.symm hne)]; exact hr6
        have R4 := hid (row4 hr7); have S4 := hid (set4 hr7 [.int .i64 3, .string ByteArray.empty, .int .i64 0, .slice s5 n5 q5] rfl); have HS5 := hid hs5; have HB5 : Hid (Below w2.heap.size w2 w5) := B3.out.trans (B35.mono (by omega)); clear hr5 hr6 hr7 hs5 hb5 B35 K42 hn5
        go_wp2_with (refine wpList_store_k _ rfl (.tmp 4) (.tmp 67) 41 rfl w.heap.size 0 [.int .i64 3, .string ByteArray.empty, .int .i64 0, .slice s5 n5 q5] rfl rfl 4 rfl Tryz.sizeOf41 rfl _ ?hW R4.out.1 R4.out.2 ?_; case hW => rfl)
        refine bodyPost_ret (ret_of _ _ w.heap.size _ _ _ _ _ rfl rfl S4.out) rfl ⟨_, _, rfl, HI.out, ?_, below_setCells (Nat.le_refl _) _ _ ((B2.out.trans (HB5.out.mono (by omega))).setCell (by show w.heap.size ≤ w2.heap.size; omega) _)⟩
        have e : valA (xs.map Dd.abs) = ⟨3, ByteArray.empty, 0, setA (fs.map Dd.text)⟩ := by
          unfold valA; rw [if_neg HDN.out, if_neg (by rw [HD0.out]; decide), if_neg (by rw [HD0.out]; decide)]
          have : (standA (xs.map Dd.abs)).map (·.o.text) = fs.map Dd.text := by
            unfold standA; rw [HFS.out, List.filter_map, List.map_map]; rfl
          rw [this]
        rw [e]; refine ⟨_, rfl, HS5.out.keep fun k hk o => ?_⟩; have hk4 := hob5 k hk; have h34 := HB4.out.size; rw [World.cell?_setCells_out _ _ _ _ _ (fun e => by simp only at e; omega)]; exact sc_other _ _ _ _ (fun e => by injection e; omega)
end Go.Proofs.YtdnebclemngdcaaGreatDoor
namespace Go.Proofs.YtdnebclemngdcaaGreatDoor
open Go.RowKit Go.Sort Go.Maps Go.Shelf
set_option maxRecDepth 100000
set_option linter.unusedSectionVars false
variable [Inhabited ComV] [DecidableEq D3] [Inhabited D3] [Inhabited Dd] [Inhabited Dn] [Inhabited OpV]

def dotsUp (text : ByteArray) (ds : List Dn) : List D3 := ((standA ds).filter fun x => decide (x.o.text = text)).map (·.dot)
def IsDots (text : ByteArray) (ds : List Dn) (out : List D3) : Prop :=
  (ds = [] ∨ ds[0]!.o.kind ≠ 3) ∧ out = [] ∨ (ds ≠ [] ∧ ds[0]!.o.kind = 3) ∧ out.Perm (dotsUp text ds) ∧ out.Pairwise (fun a b => ltD b a = false)
def DotsRet (key text : ByteArray) (l : List ComV) (w : World) (e : Ending) (w' : World) : Prop :=
  ∃ v ds out, e = .returned (.tuple #[v, .nilIface]) ∧ IsOps key l ds ∧ IsDots text ds out ∧ DotsAt w' v out ∧ Below w.heap.size w w'
theorem dots_nil (w : World) : DotsAt w (.slice none 0 0) [] := ⟨none, 0, rfl, fun _ => rfl, Nat.le_refl _, .inl rfl⟩
theorem Tryz.info87 : (Tryz.prog.info? 87).map (fun i => (i.zero, i.size, i.bytes)) = some (some (.agg #[.int .i64 0, .int .i64 0, .int .i64 0]), 3, 24) := by kernel_rfl
theorem D3.one (d : D3) : ∀ v ∈ d.cells, v.oneCell' = true := fun v hv => by
  simp only [D3.cells, List.mem_cons, List.not_mem_nil, or_false] at hv; rcases hv with rfl | rfl | rfl <;> rfl
theorem flat3_get (xs : List D3) : ∀ (j i : Nat), j < xs.length → i < 3 → (xs.flatMap D3.cells)[j * 3 + i]? = some (xs[j]!.cells[i]!) := by
  induction xs with
  | nil => intro j i hj; simp at hj
  | cons x r ih =>
    intro j i hj hi; rw [List.flatMap_cons]
    cases j with
    | zero =>
      rw [List.getElem?_append_left (by show _ < 3; omega), Nat.zero_mul, Nat.zero_add, List.getElem?_eq_getElem (show i < x.cells.length from hi)]; show some _ = some (x.cells[i]!); rw [getElem!_pos x.cells i hi]; rfl
    | succ j =>
      rw [List.getElem?_append_right (by show 3 ≤ _; omega), show (j + 1) * 3 + i - x.cells.length = j * 3 + i by show _ - 3 = _; omega, ih j i (by simpa using hj) hi]; simp
theorem holds3_iff {w : World} {g : Nat} {d : Array D3} : HoldsK D3.cells 3 w g 0 d ↔ ∀ j, j < d.size → ∀ i, i < 3 → w.cell? ⟨g, j * 3 + i, none⟩ = some (d[j]!.cells[i]!) ∧ w.frozen? ⟨g, j * 3 + i, none⟩ = false := by
  constructor
  · intro h j hj i hi; have := h (j * 3 + i) (by rw [size_flatK]; omega); rw [get_flatK _ _ _ _ (by omega), show (j * 3 + i) / 3 = j by omega, show (j * 3 + i) % 3 = i by omega, Nat.zero_add] at this; exact this
  · intro h t ht; rw [size_flatK] at ht; rw [get_flatK _ _ _ _ ht, Nat.zero_add]; have := h (t / 3) (by omega) (t % 3) (by omega); rw [show t / 3 * 3 + t % 3 = t by omega] at this; exact this
theorem dots_of_holds {w : World} {g cap : Nat} {d : Array D3} (h : HoldsK D3.cells 3 w g 0 d) (hc : d.size ≤ cap) : DotsAt w (.slice (some ⟨g, 0, none⟩) d.size cap) d.toList := by
  refine ⟨_, cap, by simp, (fun e => by cases e), by simpa using hc, .inr ⟨g, 0, rfl, fun j r hr => ?_⟩⟩; rw [List.getElem?_map] at hr
  cases hj : d.toList[j]? with
  | none => rw [hj] at hr; cases hr
  | some x =>
    rw [hj] at hr; obtain rfl := Option.some.inj hr; obtain ⟨hl, hx⟩ := List.getElem?_eq_some_iff.1 hj; have hl' : j < d.size := by simpa using hl
    refine ⟨rfl, fun i u hu => ?_⟩; have hi : i < 3 := (List.getElem?_eq_some_iff.1 hu).1; have := (holds3_iff.1 h j hl' i hi).1; have e : d[j]! = x := by rw [getElem!_pos d j hl', ← hx]; simp
    rw [Nat.zero_add, this, e, List.getElem!_eq_getElem?_getD, hu]; rfl
theorem holds3_of_owns {w : World} {base g n cap : Nat} {ts : List D3} (h : w.ownsRow base 87 3 (.slice (some ⟨g, 0, none⟩) n cap) ts.length (ts.flatMap D3.cells)) : HoldsK D3.cells 3 w g 0 ts.toArray ∧ base ≤ g ∧ g < w.heap.size ∧ n = ts.length ∧ ts.length ≤ cap := by
  obtain ⟨_, h2⟩ := h; rcases h2 with ⟨h, _⟩ | ⟨g', cap', cur, he, hb, hh, hn, hm, hs, ht⟩
  · cases h
  · cases he; refine ⟨?_, hb, (Array.getElem?_eq_some_iff.1 hh).1, rfl, hn⟩; rw [holds3_iff]; intro j hj i hi; have hj' : j < ts.length := by simpa using hj
    have e := flat3_get ts j i hj' hi; rw [← ht, List.getElem?_take, if_pos (by omega), Array.getElem?_toList] at e; refine ⟨?_, ?_⟩
    · simp only [World.cell?, hh]; rw [e]; simp
    · simp only [World.frozen?, hh]; simp
theorem sortDots (w : World) (B g cap : Nat) (ts : List D3) (hH : HoldsK D3.cells 3 w g 0 ts.toArray) (hB : B ≤ g) (hg : g < w.heap.size) (hcap : ts.length ≤ cap) (hsz : ts.length ≤ 1000000) :
    Calls Tryz.prog 90 #[.slice (some ⟨g, 0, none⟩) ts.length cap, .func (.func 91) #[] #[]] w fun e w' => e = .returned (.tuple #[]) ∧ ∃ ys : List D3, ys.Perm ts ∧ ys.Pairwise (fun a b => ltD b a = false) ∧ DotsAt w' (.slice (some ⟨g, 0, none⟩) ts.length cap) ys ∧ Below B w w' := by
  have hcon := AnyQ.slices_SortFunc Tryz.sortDot 3 Tryz.isAgg87 Tryz.sizeOf87 D3.cells (fun _ => rfl) D3.one cmpD (by rw [ltOf_cmpD]; exact swoD) 91 #[] g 0 cap ts.toArray w (enters_of Tryz.func91 (by kernel_rfl) rfl)
    (fun _ _ _ _ x y => compareDots_any _ x y) hH hg (by simp; omega)
  change Calls Tryz.prog 90 _ _ _ at hcon
  rw [ltOf_cmpD] at hcon; simp only [List.size_toArray] at hcon; refine hcon.mono ?_; rintro e w' ⟨rfl, d', n, os, hp, hs, rfl⟩; have hp' : PermIn 0 ts.toArray.size ts.toArray d' := by simpa using hp
  have hsz' : d'.size = ts.length := by simpa using hp'.1
  have hh := holdsK_sortWorldK D3.cells 3 w g 0 n ts.toArray d' os hg hH (by simpa using hsz'); have hd := dots_of_holds hh (cap := cap) (by omega); rw [hsz'] at hd; exact ⟨rfl, d'.toList, by simpa using perm_of_permIn hp', pairwise_of_sortedIn (by rw [hsz']; exact hs), hd, below_sortWorld _ _ _ _ _ _ _ hB hg⟩
theorem sortDots_none (w : World) (p : Option Addr) (cap : Nat) : Calls Tryz.prog 90 #[.slice p 0 cap, .func (.func 91) #[] #[]] w fun e w' => e = .returned (.tuple #[]) ∧ w' = w := by
  have hn := AnyF.slices_SortFunc_none (P := Tryz.prog) (ρ := Tryz.sortDot_ren) { Tryz.sortDot with } p cap (.func (.func 91) #[] #[]) w
  change Calls Tryz.prog 90 _ _ _ at hn
  exact hn
end Go.Proofs.YtdnebclemngdcaaGreatDoor
namespace Go.Proofs.YtdnebclemngdcaaGreatDoor
open Go.RowKit Go.Sort Go.Maps
set_option maxRecDepth 100000
set_option linter.unusedSectionVars false
variable [Inhabited ComV] [DecidableEq D3] [Inhabited D3] [Inhabited Dd] [Inhabited Dn] [Inhabited OpV]

set_option maxHeartbeats 4000000 in
theorem dots_ok (A : Nat → Addr) (w : World) (hE : E4 A w) (h4 : 12 ≤ w.heap.size) (key text : ByteArray) (hk : nameB key = true) (v : Value) (l : List ComV) (hv : ComsAt w v l) (hl : l.length ≤ 1000) (hsm : ∀ c ∈ l, SmallC c) (hok : ∀ i, i < l.length → listBad l i = 0) :
    Calls Tryz.prog 61 #[.string key, .string text, v] w fun e w' => DotsRet key text l w e w' := by
  obtain ⟨a, n, cp, rfl⟩ : ∃ a n cp, v = .slice a n cp := by obtain ⟨a, cp, rfl, _⟩ := hv.shape; exact ⟨_, _, _, rfl⟩
  have K41 := opsOn_ok A w hE h4 key hk (.slice a n cp) l hv hl hsm hok; have HOK := hid hok
  have H12 : Hid (∀ c ∈ l, c.ops.length ≤ 12) := fun c hc => by
    obtain ⟨i, hi, rfl⟩ := List.getElem_of_mem hc
    have := (comOk_of (c := l[i]!) (by
      have := hok i hi; unfold listBad at this
      split at this
      · rename_i h; exact absurd this h
      · rename_i h; simpa using h)).few
    rwa [getElem!_pos l i hi] at this
  obtain ⟨i0, hi, hz0, hz1, hz2⟩ := info_parts Tryz.info87; clear hE hk hv hsm hok; go_enter Tryz.func61, Tryz.ntmps61; go_wp2_with fail; refine K41.mono ?_; rintro e w2 ⟨v2, xs, rfl, hR, hI, hG, _, hb⟩; have hOk := isOps_ok hI HOK.out; have hlen := isOps_len hI H12.out; simp only [List.length_map] at hlen; have HB := hid hb; have HI := hid hI; clear K41 hb hI
  by_cases h0 : xs = []
  · subst h0; obtain ⟨av, cv, rfl⟩ := hR.shape; clear hR hG; go_wp2
    go_ret2
    exact ⟨_, _, [], rfl, HI.out, .inl ⟨.inl rfl, rfl⟩, dots_nil _, HB.out⟩
  · have hm0 : 0 < xs.length := List.length_pos_iff.2 h0; rcases hR with ⟨_, h⟩ | ⟨g, cap, rfl, hBg, hg2, hcap, hH⟩
    · exact absurd h h0
    · have hkc := kind_cell hH hm0; obtain ⟨kd, hkd⟩ : ∃ kd, kd = xs[0]!.kind := ⟨_, rfl⟩; rw [← hkd] at hkc; have hd0 : (xs.map Dd.abs)[0]!.o.kind = kd := by rw [map_get_abs xs hm0, hkd]; rfl
      have hdn : xs.map Dd.abs ≠ [] := by simpa using h0
      obtain ⟨m, hm⟩ : ∃ m, m = xs.length := ⟨_, rfl⟩; rw [← hm] at hm0 hcap hlen ⊢; have hmb : m ≤ 12000 := by omega
      have hme : ((m : Int) == 0) = false := by rw [beq_eq_false_iff_ne]; omega
      have HM := hid hm; have HD0 := hid hd0; have HDN := hid hdn
      by_cases hk3 : kd = 3
      · subst hk3; have K43 := standing_n w2 g m cap xs hm.symm (by omega) hg2 hH hG (fun x hx => dotsWf_of (hG x hx) (hOk x.abs (List.mem_map.2 ⟨x, hx, rfl⟩))); clear hkd hH hG hOk hm hd0 hdn h0; go_wp2_with fail; refine K43.mono ?_; rintro e w4 ⟨v4, rfl, hrow4, hb4⟩; obtain ⟨fs, hfs⟩ : ∃ fs, fs = xs.filter fun x => (finalMap (xs.map Dd.abs) x.dot).isSome := ⟨_, rfl⟩
        rw [← hfs] at hrow4; have hfl : fs.length ≤ m := by rw [hfs, HM.out]; exact List.length_filter_le _ _
        have hR4 := rowD_of_owns hrow4; have HB4 := hid hb4; have HFS := hid hfs; clear hrow4 hb4 hfs K43
        have hsA : (standA (xs.map Dd.abs)) = fs.map Dd.abs := by
          unfold standA; rw [HFS.out, List.filter_map]; rfl
        have HSA := hid hsA; clear hsA
        have fin : ∀ (w5 : World) (v5 : Value) (out : List D3), out.Perm ((fs.filter fun x => decide (x.text = text)).map Dd.dot) → out.Pairwise (fun a b => ltD b a = false) → DotsAt w5 v5 out → Below w4.heap.size w4 w5 → DotsRet key text l w (.returned (.tuple #[v5, .nilIface])) w5 := fun w5 v5 out h1 h2 h3 h5 =>
          ⟨_, _, out, rfl, HI.out, .inr ⟨⟨HDN.out, HD0.out⟩, by
            unfold dotsUp; rw [HSA.out, List.filter_map, List.map_map]; exact h1, h2⟩, h3, (HB.out.trans (HB4.out.mono HB.out.size)).trans (h5.mono (Nat.le_trans HB.out.size HB4.out.size))⟩
        have FIN := hid fin; clear fin; rcases hR4 with ⟨rfl, hf⟩ | ⟨g4, cap4, rfl, hBg4, hg4, hcap4, hH4⟩
        · subst hf; go_wp2; refine wp_loop_rounds 1 ?_; rw [rounds_succ]
          go_wp2_with (go_at_call 90; refine (sortDots_none _ _ _).mono ?_; rintro e w' ⟨rfl, rfl⟩)
          go_ret2
          exact FIN.out _ _ [] (List.Perm.refl _) List.Pairwise.nil (dots_nil _) (Below.refl _ _)
        · obtain ⟨m4, hm4⟩ : ∃ m4, m4 = fs.length := ⟨_, rfl⟩; rw [← hm4] at hfl hcap4 ⊢; have HM4 := hid hm4; have HH4 := hid hH4; clear hm4 hH4; go_wp2
          go_loopw [10, 38] (fun v i wr => ∃ k : Nat, k ≤ m4 ∧ i = .int .i64 k ∧ Hid (Below w4.heap.size w4 wr) ∧ Hid (wr.ownsRow w4.heap.size 87 3 v (((fs.take k).filter fun x => decide (x.text = text)).map Dd.dot).length ((((fs.take k).filter fun x => decide (x.text = text)).map Dd.dot).flatMap D3.cells))) (fun _ i _ => m4 - (intOf i).toNat)
          case atStart => exact ⟨0, Nat.zero_le _, rfl, Below.refl _ _, World.ownsRow_nil _ _ _ _⟩
          case round =>
            obtain ⟨k, hk, rfl, HK, HR⟩ := hrel; have hsz := HK.out.size
            by_cases hlt : k < m4
            · obtain ⟨u, hu⟩ : ∃ u, u = fs[k]! := ⟨_, rfl⟩; obtain ⟨c0, c1, c2, c3, c4, c5, c6, c7, c8, c9, c10⟩ := holdsK_cells (holdsK_below HH4.out HK.out hg4) (j := k) (u := u) (by have := HM4.out; simp; omega) (by rw [hu]; have := HM4.out; rw [getElem!_pos fs.toArray k (by simp; omega), getElem!_pos fs k (by omega)]; simp)
              have hfil : ((fs.take (k + 1)).filter fun x => decide (x.text = text)).map Dd.dot = ((fs.take k).filter fun x => decide (x.text = text)).map Dd.dot ++ (if u.text = text then [u.dot] else []) := by
                rw [List.take_succ_eq_append_getElem (by have := HM4.out; omega), List.filter_append, List.map_append, hu, getElem!_pos fs k (by have := HM4.out; omega)]
                congr 1
                simp only [List.filter_cons, List.filter_nil]
                by_cases e : fs[k].text = text <;> simp [e]
              have hfl2 : (((fs.take k).filter fun x => decide (x.text = text)).map Dd.dot).length ≤ m4 := by
                rw [List.length_map]; exact Nat.le_trans (List.length_filter_le _ _) (by simp; omega)
              have HF := hid hfil; have hrow := HR.out; obtain ⟨os, hos⟩ : ∃ os, os = ((fs.take k).filter fun x => decide (x.text = text)).map Dd.dot := ⟨_, rfl⟩; rw [← hos] at hrow HF hfl2; clear hu hfil hos HR; obtain ⟨x1, x2, x3, x4, x5, x6, dp, dl, dc, ⟨x8, x9, x10⟩, x11, ds⟩ := u; simp only at c0 c1 c2 c3 c4 c5 c6 c7 c8 c9 c10
              by_cases he : x4 = text
              · subst he
                go_wp2_with (at_builtin; refine wpList_append_own _ rfl _ _ 65 rfl w4.heap.size 87 i0 _ 3 24 Tryz.underlying65 hi hz0 hz1 hz2 rfl (by decide) _ _ _ rfl ((hrow.alloc _).alloc _) ⟨wr.heap.size + 1, 0, none⟩ 1 1 [.int .i64 x8, .int .i64 x9, .int .i64 x10] rfl rfl (cells11_new _ _ _ _ (by simp)) ?ho1 ?ho2 ?ho3 ?ho4 ?_; (case ho1 => exact D3.one ⟨x8, x9, x10⟩); (case ho2 => unfold maxLen; omega); (case ho3 => omega); (case ho4 => simp; omega); intro v' w5 hown' hgrow2 hnil2)
                refine ⟨⟨k + 1, by omega, by go_num, ?_, ?_⟩, by simp [intOf]; omega⟩
                · exact ((HK.out.alloc hsz _).alloc (by simp; omega) _).grown hgrow2 (by simp; omega) (fun j hj => (hrow.lt j hj).1)
                · rw [HF.out]; simp only [if_true, List.length_append, List.length_singleton, List.flatMap_append, List.flatMap_singleton]; exact hown'
              · have hne : (x4.toList == text.toList) = false := beq_eq_false_iff_ne.2 (ne_toList he); go_wp2; refine ⟨⟨k + 1, by omega, by go_num, HK.out.alloc hsz _, ?_⟩, by simp [intOf]; omega⟩; rw [HF.out]; simp only [he, if_false, List.append_nil]; exact hrow.alloc _
            · have hkm : m4 = k := by omega
              subst hkm; have hrow := HR.out; rw [List.take_of_length_le (by have := HM4.out; omega)] at hrow; obtain ⟨ts, hts⟩ : ∃ ts, ts = (fs.filter fun x => decide (x.text = text)).map Dd.dot := ⟨_, rfl⟩; have htl : ts.length ≤ 1000000 := by rw [hts, List.length_map]; exact Nat.le_trans (List.length_filter_le _ _) (by have := HM4.out; omega)
              rw [← hts] at hrow
              by_cases ht0 : ts = []
              · subst ht0
                obtain ⟨pv, cv, rfl⟩ : ∃ pv cv, u10 = .slice pv 0 cv := by
                  obtain ⟨_, h2⟩ := hrow; rcases h2 with ⟨h, _⟩ | ⟨g', cap', cur, he, _⟩
                  · exact ⟨_, _, h⟩
                  · exact ⟨_, _, he⟩
                have hda : DotsAt wr (.slice pv 0 cv) [] := by
                  obtain ⟨_, h2⟩ := hrow; rcases h2 with ⟨h, _⟩ | ⟨g', cap', cur, he, _⟩
                  · cases h; exact dots_nil _
                  · cases he; exact ⟨_, _, rfl, (fun h => by cases h), Nat.zero_le _, .inl rfl⟩
                have HDA := hid hda; have HTS := hid hts; clear hrow hda hts HR
                go_wp2_with (go_at_call 90; refine (sortDots_none _ _ _).mono ?_; rintro e w' ⟨rfl, rfl⟩)
                go_ret2
                exact FIN.out _ _ [] (by rw [← HTS.out]) List.Pairwise.nil HDA.out HK.out
              · obtain ⟨g', n', c', rfl⟩ : ∃ g' n' c', u10 = .slice (some ⟨g', 0, none⟩) n' c' := by
                  obtain ⟨_, h2⟩ := hrow; rcases h2 with ⟨_, h⟩ | ⟨g', cap', cur, he, _⟩
                  · exact absurd (List.eq_nil_of_length_eq_zero h) ht0
                  · exact ⟨g', _, cap', he⟩
                obtain ⟨hHs, hBg', hgl, hn, hcp⟩ := holds3_of_owns hrow; have K44 := sortDots wr w4.heap.size g' c' ts hHs hBg' hgl hcp htl; rw [← hn] at K44; have HTS := hid hts; clear hrow hHs hn hts HR ht0; go_wp2_with fail; refine K44.mono ?_; rintro e w5 ⟨rfl, ys, h1, h2, h3, h5⟩; have H1 := hid h1; have H2 := hid h2; have H3 := hid h3; have H5 := hid h5; clear K44 h1 h2 h3 h5; go_wp2
                go_ret2
                exact FIN.out _ _ ys (by rw [← HTS.out]; exact H1.out) H2.out H3.out (HK.out.trans H5.out)
      · have hne : (kd != 3) = true := by simpa using hk3
        clear hkd hH hG hOk hm hd0 hdn h0; go_wp2
        go_ret2
        exact ⟨_, _, [], rfl, HI.out, .inl ⟨.inr (by rw [HD0.out]; exact hk3), rfl⟩, dots_nil _, HB.out⟩
end Go.Proofs.YtdnebclemngdcaaGreatDoor
namespace Go.Proofs.YtdnebclemngdcaaGreatDoor
open Go.RowKit Go.Sort Go.Maps
set_option maxRecDepth 100000
set_option linter.unusedSectionVars false
variable [Inhabited ComV] [DecidableEq D3] [Inhabited D3] [Inhabited Dd] [Inhabited Dn] [Inhabited OpV]

theorem isOps_eq {key : ByteArray} {l : List ComV} {ds ys : List Dn} (h : IsOps key l ds) (hy : InOrder key l ys) : ds = ofKind ys := by
  obtain ⟨zs, hz, rfl⟩ := h; rw [inOrder_unique hz hy]

end Go.Proofs.YtdnebclemngdcaaGreatDoor
namespace Go.Proofs.YtdnebclemngdcaaGreatDoor
open Go.RowKit Go.Sort Go.Maps
set_option maxRecDepth 100000
set_option linter.unusedSectionVars false
variable [Inhabited ComV] [DecidableEq D3] [Inhabited D3] [Inhabited Dd] [Inhabited Dn] [Inhabited OpV]

theorem heap_set {w : World} {b j : Nat} {cs : Array Value} {t : TypeId} (h : w.heap[b]? = some (.cells cs t (0, 0))) (v : Value) : (w.setCell ⟨b, j, none⟩ v).heap[b]? = some (.cells (cs.setIfInBounds j v) t (0, 0)) := by
  simp only [World.setCell, Array.getElem?_modify, h]; simp
theorem f2_append {α β : Type} {R : α → β → Prop} : ∀ {l : List α} {m : List β} {a : α} {b : β}, F2 R l m → R a b → F2 R (l ++ [a]) (m ++ [b])
  | [], [], _, _, _, h => ⟨h, trivial⟩
  | _ :: _, _ :: _, _, _, ⟨h1, h2⟩, h => ⟨h1, f2_append h2 h⟩
theorem own_type {w : World} {base e size : Nat} {v : Value} {n : Nat} {xs : List Value} (h : w.ownsRow base e size v n xs) {b : Nat} (hb : v.ownBlock = some b) : ∃ cs, w.heap[b]? = some (.cells cs e (0, 0)) := by
  rcases h.2 with ⟨rfl, _⟩ | ⟨g, cap, cur, rfl, _, hh, _⟩
  · cases hb
  · obtain rfl := Option.some.inj hb; exact ⟨_, hh⟩
theorem rowAt_of_owns {w : World} {base e k : Nat} {v : Value} {n : Nat} {rows : List (List Value)} (h : w.ownsRow base e k v n rows.flatten) (hn : n = rows.length) (hk : ∀ r ∈ rows, r.length = k) : RowAt k w v rows := by
  subst hn; obtain ⟨_, h2⟩ := h; rcases h2 with ⟨rfl, h0⟩ | ⟨g, cap, cur, rfl, _, hh, hc, _, hs, ht⟩
  · obtain rfl := List.eq_nil_of_length_eq_zero h0; exact ⟨_, _, rfl, fun _ => rfl, Nat.le_refl _, .inl rfl⟩
  · refine ⟨_, cap, rfl, (fun h => by cases h), hc, .inr ⟨g, 0, rfl, fun j r hr => ?_⟩⟩; have hj : j < rows.length := (List.getElem?_eq_some_iff.1 hr).1; have hrm : r ∈ rows := List.mem_of_getElem? hr; refine ⟨hk r hrm, fun i u hu => ?_⟩; have hi : i < k := by have := (List.getElem?_eq_some_iff.1 hu).1; rw [hk r hrm] at this; exact this
    have hfl : ∀ (rows : List (List Value)) (j : Nat) (r : List Value), (∀ r ∈ rows, r.length = k) → rows[j]? = some r → ∀ i u, i < k → r[i]? = some u → rows.flatten[j * k + i]? = some u := by
      intro rows
      induction rows with
      | nil => intro j r _ h; simp at h
      | cons x rest ih =>
        intro j r hk h i u hi hu; have hx := hk x (List.mem_cons_self ..); rw [List.flatten_cons]
        cases j with
        | zero =>
          simp at h; subst h; rw [List.getElem?_append_left (by omega), Nat.zero_mul, Nat.zero_add]; exact hu
        | succ j =>
          rw [List.getElem?_append_right (by rw [hx, Nat.add_mul]; omega), hx, show (j + 1) * k + i - k = j * k + i by rw [Nat.add_mul]; omega]; exact ih j r (fun r hr => hk r (List.mem_cons_of_mem _ hr)) (by simpa using h) i u hi hu
    have e := hfl rows j r hk hr i u hi hu
    have hb : j * k + i < rows.length * k := by
      have : (j + 1) * k ≤ rows.length * k := Nat.mul_le_mul_right k hj; rw [Nat.add_mul] at this; omega
    rw [← ht, List.getElem?_take, if_pos hb, Array.getElem?_toList] at e; simp only [World.cell?, hh, Nat.zero_add]; rw [e]; simp
theorem dots_of_owns {w : World} {base n : Nat} {v : Value} {ts : List D3} (h : w.ownsRow base 87 3 v n (ts.flatMap D3.cells)) (hn : n = ts.length) : DotsAt w v ts := by
  subst hn; rcases h.2 with ⟨rfl, h0⟩ | ⟨g, cap, cur, rfl, _⟩
  · obtain rfl := List.eq_nil_of_length_eq_zero h0; exact dots_nil _
  · obtain ⟨h1, _, _, _, h5⟩ := holds3_of_owns h
    simpa using dots_of_holds h1 (by simpa using h5)

theorem lt_of_heap {w : World} {b : Nat} {o : Obj} (h : w.heap[b]? = some o) : b < w.heap.size := (Array.getElem?_eq_some_iff.1 h).1
theorem owns_below {w w' : World} {base e size : Nat} {v : Value} {n : Nat} {xs : List Value} (h : w.ownsRow base e size v n xs) (hb : ∀ (b : Nat) (cs : Array Value), w.heap[b]? = some (.cells cs e (0, 0)) → w'.heap[b]? = w.heap[b]?) : w'.ownsRow base e size v n xs := by
  obtain ⟨h1, h2⟩ := h; refine ⟨h1, ?_⟩; rcases h2 with h2 | ⟨g, cap, cur, hv, hg, hh, r⟩
  · exact .inl h2
  · exact .inr ⟨g, cap, cur, hv, hg, by rw [hb g _ hh]; exact hh, r⟩
end Go.Proofs.YtdnebclemngdcaaGreatDoor
