/- Of by its contract, where nothing is wrong: the walk; Dots by its contract, where nothing is wrong; Dots by its contract, where nothing is wrong: the walk; worth: a closed fact; What ValuesSets' commits make: plain mathematics; A set of one text; SameTexts by its contract; Where ValuesSets' first loop stands; ValuesSets: the walk. -/
import Derived.Test.YtilonnkohcocoaaGreatDoorJVOf
import Derived.Laws.ResultCell
namespace Go.Proofs.YtilonnkohcocoaaGreatDoor
open Go.RowKit Go.Sort Go.Maps
set_option maxRecDepth 100000

theorem GoodD.len {w : World} {x : Dd} (h : GoodD w x) : x.ds.length = x.dl := by
  obtain ⟨ad, cap, he, _⟩ := h
  injection he with _ h2
  simpa using h2.symm
theorem dotsWf_of {w : World} {x : Dd} (h : GoodD w x) (hk : DnOk x.abs) : DotsWf x := ⟨hk.dot, hk.dots, h.len, Nat.le_trans hk.few (by decide)⟩
theorem sumN_take {ds : List Dn} {k : Nat} (h : k < ds.length) : sumN (ds.take (k + 1)) = sumN (ds.take k) + ds[k]!.o.n := by
  unfold sumN
  rw [foldl_take_succ _ _ _ h]
theorem sumN_bd {ds : List Dn} (h : ∀ d ∈ ds, DnOk d) : ∀ k, k ≤ ds.length → -(1099511627776 * k) ≤ sumN (ds.take k) ∧ sumN (ds.take k) ≤ 1099511627776 * k
  | 0, _ => by simp [sumN]
  | k + 1, hk => by
    have h1 := sumN_bd h k (by omega)
    have h2 := h ds[k]! (by rw [getElem!_pos ds k (by omega)]; exact List.getElem_mem _)
    have h3 := h2.lo
    have h4 := h2.hi
    rw [sumN_take (by omega)]
    omega

theorem ret_of (w : World) (tmps : Array Value) (g : Nat) (a b c d e : Value) (h4 : tmps.getD 4 undef = .pointer (some ⟨g, 0, none⟩)) (h5 : tmps.getD 5 undef = e) (hc : ∀ j (hj : j < [a, b, c, d].length), w.cell? ⟨g, j, none⟩ = some [a, b, c, d][j]) :
    (results Tryz.f19 tmps).run Tryz.prog w = .ok (.tuple #[.agg #[a, b, c, d], e]) w := by
  have hl := run_loadCellsFrom_list Tryz.prog w ⟨g, 0, none⟩ [a, b, c, d] 4 rfl (fun j v hj => by
    obtain ⟨h1, h2⟩ := List.getElem?_eq_some_iff.1 hj
    rw [Addr.add_lit, Nat.zero_add, hc j h1, h2])
  rw [results_cell_tmp rfl]
  simp [h4, h5, asAddr, loadVar, loadCells, Tryz.isAgg47, Tryz.sizeOf47, hl, Result.andThen]
theorem sc_other (w : World) (a b : Addr) (v : Value) (h : a ≠ b) : (w.setCell a v).cell? b = w.cell? b := by
  first
    | exact World.cell?_setCell_other _ _ _ _ h
    | exact World.cell?_setCell_other h
theorem sc_same (w : World) (a : Addr) (v u : Value) (h : w.cell? a = some u) : (w.setCell a v).cell? a = some v := by
  first
    | exact World.cell?_setCell_same _ _ _ h
    | exact World.cell?_setCell_same h
theorem row4 {w : World} {g : Nat} {a b c d : Value} {t : TypeId} (h : w.heap[g]? = some (.cells #[a, b, c, d] t (0, 0))) : (∀ j, j < 4 → (w.cell? ⟨g, 0 + j, none⟩).isSome = true) ∧ ∀ j, j < 4 → w.frozen? ⟨g, 0 + j, none⟩ = false := by
  refine ⟨fun j hj => ?_, fun j hj => ?_⟩
  · rcases (by omega : j = 0 ∨ j = 1 ∨ j = 2 ∨ j = 3) with rfl | rfl | rfl | rfl <;> simp [World.cell?, h]
  · simp [World.frozen?, h]
theorem set4 {w : World} {g : Nat} {a b c d : Value} {t : TypeId} (h : w.heap[g]? = some (.cells #[a, b, c, d] t (0, 0))) (vs : List Value) (hl : vs.length = 4) : ∀ j (hj : j < vs.length), (w.setCells g 0 vs).cell? ⟨g, j, none⟩ = some vs[j] := fun j hj => by
  have := World.cell?_setCells_in g vs 0 w (fun q hq => (row4 h).1 q (by omega)) j hj
  rwa [Nat.zero_add] at this

set_option maxHeartbeats 4000000 in
theorem of_ok (A : Nat → Addr) (w : World) (hE : E4 A w) (h4 : 4 ≤ w.heap.size) (key : ByteArray) (hk : nameB key = true) (v : Value) (l : List ComV) (hv : ComsAt w v l) (hl : l.length ≤ 1000) (hsm : ∀ c ∈ l, SmallC c) (hok : ∀ i, i < l.length → listBad l i = 0) :
    Calls Tryz.prog 19 #[.string key, v] w fun e w' => OfRet key l w e w' := by
  obtain ⟨a, n, cp, rfl⟩ : ∃ a n cp, v = .slice a n cp := by obtain ⟨a, cp, rfl, _⟩ := hv.shape; exact ⟨_, _, _, rfl⟩
  have K41 := fun o => opsOn_ok A (w.alloc o) (hE.below (below_alloc w o) h4) (by simp; omega) key hk (.slice a n cp) l (hv.mono (below_alloc w o) (Nat.le_refl _)) hl hsm hok
  have HOK := hid hok
  have H12 : Hid (∀ c ∈ l, c.ops.length ≤ 12) := fun c hc => by
    obtain ⟨i, hi, rfl⟩ := List.getElem_of_mem hc
    have := (comOk_of (c := l[i]!) (by
      have := hok i hi
      unfold listBad at this
      split at this
      · rename_i h; exact absurd this h
      · rename_i h; simpa using h)).few
    rwa [getElem!_pos l i hi] at this
  have HL := hid hl
  clear hE hk hv hsm hok
  go_enter Tryz.func19, Tryz.ntmps19
  go_wp2_with fail
  refine (K41 _).mono ?_
  rintro e w2 ⟨v2, xs, rfl, hR, hI, hG, _, hb⟩
  have hOk := isOps_ok hI HOK.out
  have hlen := isOps_len hI H12.out
  simp only [List.length_map] at hlen
  have hrow0 : w2.heap[w.heap.size]? = some (.cells #[.int .i64 0, .string ByteArray.empty, .int .i64 0, .slice none 0 0] 47 (0, 0)) := by
    rw [hb.block _ (by simp)]
    exact (MapKept.heap_alloc w _).1
  have hs2 : w.heap.size + 1 ≤ w2.heap.size := by have := hb.size; simpa using this
  have B2 : Hid (Below w.heap.size w w2) := (below_alloc _ _).trans (hb.mono (by simp))
  by_cases h0 : xs = []
  · subst h0
    obtain ⟨av, cv, rfl⟩ := hR.shape
    have HR4 := hid (row4 hrow0)
    have HS4 := hid (set4 hrow0 [.int .i64 0, .string ByteArray.empty, .int .i64 0, .slice none 0 0] rfl)
    clear hrow0 hR hG hb
    go_wp2_with (refine wpList_store_k _ rfl (.tmp 4) (.tmp 24) 47 rfl w.heap.size 0 [.int .i64 0, .string ByteArray.empty, .int .i64 0, .slice none 0 0] rfl rfl 4 rfl Tryz.sizeOf47 rfl _ ?hW HR4.out.1 HR4.out.2 ?_; case hW => rfl)
    refine bodyPost_ret (ret_of _ _ w.heap.size _ _ _ _ _ rfl rfl HS4.out) rfl ⟨_, _, rfl, hI, ⟨_, rfl, ?_⟩, below_setCells (Nat.le_refl _) _ _ B2.out⟩
    exact strs_nil _
  · have hm0 : 0 < xs.length := List.length_pos_iff.2 h0
    rcases hR with ⟨_, h⟩ | ⟨g, cap, rfl, hBg, hg2, hcap, hH⟩
    · exact absurd h h0
    · have hkc := kind_cell hH hm0
      obtain ⟨kd, hkd⟩ : ∃ kd, kd = xs[0]!.kind := ⟨_, rfl⟩
      rw [← hkd] at hkc
      have hd0 : (xs.map Dd.abs)[0]!.o.kind = kd := by rw [map_get_abs xs hm0, hkd]; rfl
      have hdn : xs.map Dd.abs ≠ [] := by simpa using h0
      have hkk : kd = 1 ∨ kd = 2 ∨ kd = 3 := by
        have := (hOk (xs.map Dd.abs)[0]! (by rw [getElem!_pos _ 0 (by simpa using hm0)]; exact List.getElem_mem _)).kind
        rwa [hd0] at this
      obtain ⟨m, hm⟩ : ∃ m, m = xs.length := ⟨_, rfl⟩
      rw [← hm] at hm0 hcap hlen ⊢
      have hmb : m ≤ 12000 := by omega
      have hme : ((m : Int) == 0) = false := by rw [beq_eq_false_iff_ne]; omega
      have hrow1 : ∀ o, (w2.alloc o).heap[w.heap.size]? = some (.cells #[.int .i64 0, .string ByteArray.empty, .int .i64 0, .slice none 0 0] 47 (0, 0)) := fun o => by
        rw [(MapKept.heap_alloc w2 o).2 _ (by omega)]; exact hrow0
      have HR1 := hid hrow1
      have HH := hid hH
      have HI := hid hI
      have HG := hid hG
      have HOk := hid hOk
      have HM := hid hm
      have HD0 := hid hd0
      have HDN := hid hdn
      clear hkd hH hI hG hOk hm hd0 hdn hrow0 hrow1 hb h0 K41
      rcases hkk with rfl | rfl | rfl
      · obtain ⟨m', rfl⟩ : ∃ m', m = m' + 1 := ⟨m - 1, by omega⟩
        obtain ⟨tx, htx⟩ : ∃ tx, tx = xs[m']!.text := ⟨_, rfl⟩
        have ct : ∀ o, (w2.alloc o).cell? ⟨g, m' * 11 + 3, none⟩ = some (.string tx) := fun o => by
          have := HM.out
          obtain ⟨_, _, _, c3, _⟩ := holdsK_cells HH.out (j := m') (u := xs[m']!) (by simp; omega) (by rw [getElem!_pos xs.toArray m' (by simp; omega), getElem!_pos xs m' (by omega)]; simp)
          rw [htx]
          exact cell_alloc c3 o
        have hj1 : ((m' + 1 : Nat) : Int) - 1 = (m' : Int) := by omega
        have R4 := hid (row4 (HR1.out (.cells #[.int .i64 1, .string tx, .int .i64 0, .slice none 0 0] 47)))
        have S4 := hid (set4 (HR1.out (.cells #[.int .i64 1, .string tx, .int .i64 0, .slice none 0 0] 47)) [.int .i64 1, .string tx, .int .i64 0, .slice none 0 0] rfl)
        have HTX := hid htx
        clear htx
        go_wp2_with (refine wpList_store_k _ rfl (.tmp 4) (.tmp 67) 47 rfl w.heap.size 0 [.int .i64 1, .string tx, .int .i64 0, .slice none 0 0] rfl rfl 4 rfl Tryz.sizeOf47 rfl _ ?hW R4.out.1 R4.out.2 ?_; case hW => rfl)
        refine bodyPost_ret (ret_of _ _ w.heap.size _ _ _ _ _ rfl rfl S4.out) rfl ⟨_, _, rfl, HI.out, ?_, below_setCells (Nat.le_refl _) _ _ (B2.out.alloc (by omega) _)⟩
        have e : valA (xs.map Dd.abs) = ⟨1, tx, 0, []⟩ := by
          unfold valA
          rw [if_neg HDN.out, if_pos HD0.out]
          have := HM.out
          rw [List.length_map, ← this, Nat.add_sub_cancel, map_get_abs xs (by omega), HTX.out]
          rfl
        rw [e]
        exact ⟨_, rfl, strs_nil _⟩
      · obtain ⟨ds, hds⟩ : ∃ ds, ds = xs.map Dd.abs := ⟨_, rfl⟩
        have HDS := hid hds
        have hbd := hid (sumN_bd (ds := ds) (by rw [hds]; exact HOk.out))
        have hdl : ds.length = m := by rw [hds]; have := HM.out; simp; omega
        have HDL := hid hdl
        clear hds hdl
        go_wp2
        obtain ⟨w3, hw3⟩ : ∃ w3, w3 = w2.alloc (.cells #[.int .i64 2, .string ByteArray.empty, .int .i64 0, .slice none 0 0] 47) := ⟨_, rfl⟩
        have V3 : Hid (∀ j, j < 4 → w3.frozen? ⟨w2.heap.size, j, none⟩ = false) := fun j hj => by
          have := (row4 (w := w3) (g := w2.heap.size) (a := .int .i64 2) (b := .string ByteArray.empty) (c := .int .i64 0) (d := .slice none 0 0) (t := 47) (by rw [hw3]; exact (MapKept.heap_alloc w2 _).1)).2 j hj
          rwa [Nat.zero_add] at this
        have I3 : Hid (w3.cell? ⟨w2.heap.size, 0, none⟩ = some (.int .i64 2) ∧ w3.cell? ⟨w2.heap.size, 1, none⟩ = some (.string ByteArray.empty) ∧ w3.cell? ⟨w2.heap.size, 2, none⟩ = some (.int .i64 (sumN (ds.take 0))) ∧ w3.cell? ⟨w2.heap.size, 3, none⟩ = some (.slice none 0 0)) := hid (by
          rw [hw3]
          exact ⟨(World.cell?_alloc_at _ _ _ _ rfl).trans rfl, (World.cell?_alloc_at _ _ _ _ rfl).trans rfl, (World.cell?_alloc_at _ _ _ _ rfl).trans rfl, (World.cell?_alloc_at _ _ _ _ rfl).trans rfl⟩)
        have B3 : Hid (Below w2.heap.size w2 w3) := by rw [hw3]; exact below_alloc _ _
        have S3 : Hid (w2.heap.size + 1 ≤ w3.heap.size) := hid (by rw [hw3]; simp)
        have hw3' : w2.alloc (.cells #[.int .i64 2, .string { data := #[] }, .int .i64 0, .slice none 0 0] 47) = w3 := hw3.symm
        rw [hw3']
        clear hw3 hw3'
        go_loopw [49] (fun i wr => ∃ k : Nat, k ≤ m ∧ i = .int .i64 k ∧ Hid (Below w2.heap.size w2 wr) ∧ Hid (w2.heap.size + 1 ≤ wr.heap.size) ∧ Hid (∀ j, j < 4 → wr.frozen? ⟨w2.heap.size, j, none⟩ = false) ∧
          Hid (wr.cell? ⟨w2.heap.size, 0, none⟩ = some (.int .i64 2) ∧ wr.cell? ⟨w2.heap.size, 1, none⟩ = some (.string ByteArray.empty) ∧ wr.cell? ⟨w2.heap.size, 2, none⟩ = some (.int .i64 (sumN (ds.take k))) ∧ wr.cell? ⟨w2.heap.size, 3, none⟩ = some (.slice none 0 0))) (fun i _ => m - (intOf i).toNat)
        case atStart => exact ⟨0, Nat.zero_le _, rfl, B3.out, S3.out, V3.out, I3.out⟩
        case round =>
          obtain ⟨k, hk, rfl, HB, HSz, HV, HC⟩ := hrel
          by_cases hlt : k < m
          · obtain ⟨u, hu⟩ : ∃ u, u = xs[k]! := ⟨_, rfl⟩
            obtain ⟨c0, c1, c2, c3, c4, c5, c6, c7, c8, c9, c10⟩ := holdsK_cells (holdsK_below HH.out HB.out hg2) (j := k) (u := u) (by have := HM.out; simp; omega) (by rw [hu]; have := HM.out; rw [getElem!_pos xs.toArray k (by simp; omega), getElem!_pos xs k (by omega)]; simp)
            obtain ⟨d0, d1, d2, d3⟩ := HC.out
            obtain ⟨sm, hsm⟩ : ∃ sm, sm = sumN (ds.take k) := ⟨_, rfl⟩
            rw [← hsm] at d2
            have hb1 := hbd.out k (by have := HDL.out; omega)
            rw [← hsm] at hb1
            have hst : sumN (ds.take (k + 1)) = sm + u.n := by
              rw [sumN_take (by have := HDL.out; omega), hsm, HDS.out, map_get_abs xs (by have := HM.out; omega), hu]
              rfl
            have hun := HOk.out u.abs (by rw [hu]; exact List.mem_map.2 ⟨_, by rw [getElem!_pos xs k (by have := HM.out; omega)]; exact List.getElem_mem _, rfl⟩)
            have hu1 := hun.lo
            have hu2 := hun.hi
            have e2 := fun o => cell_alloc d2 o
            have f2 : ∀ o, (wr.alloc o).frozen? ⟨w2.heap.size, 2, none⟩ = false := fun o => by
              have := HV.out 2 (by omega)
              have h2 := (MapKept.heap_alloc wr o).2 w2.heap.size (by have := HSz.out; omega)
              simp only [World.frozen?, h2]
              simpa only [World.frozen?] using this
            have HST := hid hst
            clear hu hsm hst hun
            obtain ⟨x1, x2, x3, x4, x5, x6, dp, dl, dc, ⟨x8, x9, x10⟩, x11, xd⟩ := u
            simp only [Dd.abs] at c0 c1 c2 c3 c4 c5 c6 c7 c8 c9 c10 hu1 hu2
            obtain ⟨hb2, hb3⟩ := hb1
            go_wp2
            have hsz := HSz.out
            refine ⟨⟨k + 1, by omega, by go_num, ?_, ?_, ?_, ?_⟩, by simp [intOf]; omega⟩
            · exact (HB.out.alloc (by omega) _).setCell (Nat.le_refl _) _
            · exact (show w2.heap.size + 1 ≤ ((wr.alloc _).setCell _ _).heap.size by simp; omega)
            · intro j hj
              rw [World.frozen?_setCell]
              have := HV.out j hj
              have h2 := (MapKept.heap_alloc wr (.cells #[.int .i64 x1, .string x2, .int .i64 x3, .string x4, .int .i64 x5, .bool x6, .slice dp dl dc, .int .i64 x8, .int .i64 x9, .int .i64 x10, .int .i64 x11] 94)).2 w2.heap.size (by omega)
              simp only [World.frozen?, h2]
              simpa only [World.frozen?] using this
            · rw [HST.out]
              refine ⟨?_, ?_, ?_, ?_⟩
              · exact (sc_other _ _ _ _ (by simp)).trans (cell_alloc d0 _)
              · exact (sc_other _ _ _ _ (by simp)).trans (cell_alloc d1 _)
              · exact sc_same _ _ _ _ (e2 _)
              · exact (sc_other _ _ _ _ (by simp)).trans (cell_alloc d3 _)
          · have hkm : m = k := by omega
            subst hkm
            obtain ⟨d0, d1, d2, d3⟩ := HC.out
            rw [List.take_of_length_le (by have := HDL.out; omega)] at d2
            obtain ⟨sm, hsm⟩ : ∃ sm, sm = sumN ds := ⟨_, rfl⟩
            rw [← hsm] at d2
            have hrw : wr.heap[w.heap.size]? = some (.cells #[.int .i64 0, .string ByteArray.empty, .int .i64 0, .slice none 0 0] 47 (0, 0)) := by
              rw [HB.out.block _ (by omega)]
              have := HR1.out (.cells #[] 47)
              rwa [(MapKept.heap_alloc w2 _).2 _ (by omega)] at this
            have R4 := hid (row4 hrw)
            have S4 := hid (set4 hrw [.int .i64 2, .string ByteArray.empty, .int .i64 sm, .slice none 0 0] rfl)
            have HSM := hid hsm
            clear hsm hrw
            go_wp2_with (refine wpList_store_k _ rfl (.tmp 4) (.tmp 67) 47 rfl w.heap.size 0 [.int .i64 2, .string ByteArray.empty, .int .i64 sm, .slice none 0 0] rfl rfl 4 rfl Tryz.sizeOf47 rfl _ ?hW R4.out.1 R4.out.2 ?_; case hW => rfl)
            refine bodyPost_ret (ret_of _ _ w.heap.size _ _ _ _ _ rfl rfl S4.out) rfl ⟨_, _, rfl, HI.out, ?_, below_setCells (Nat.le_refl _) _ _ (B2.out.trans (HB.out.mono (by omega)))⟩
            have e : valA (xs.map Dd.abs) = ⟨2, ByteArray.empty, sm, []⟩ := by
              unfold valA
              rw [if_neg HDN.out, if_neg (by rw [HD0.out]; decide), if_pos HD0.out, ← HDS.out, HSM.out]
            rw [e]
            exact ⟨_, rfl, strs_nil _⟩
      · go_wp2_with fail
        obtain ⟨w3, hw3⟩ : ∃ w3, w3 = w2.alloc (.cells #[.int .i64 3, .string ByteArray.empty, .int .i64 0, .slice none 0 0] 47) := ⟨_, rfl⟩
        have hw3' : w2.alloc (.cells #[.int .i64 3, .string { data := #[] }, .int .i64 0, .slice none 0 0] 47) = w3 := hw3.symm
        have b3 : Below w2.heap.size w2 w3 := by rw [hw3]; exact below_alloc _ _
        have s3 : w3.heap.size = w2.heap.size + 1 := by rw [hw3]; simp
        have r3 : w3.heap[w2.heap.size]? = some (.cells #[.int .i64 3, .string ByteArray.empty, .int .i64 0, .slice none 0 0] 47 (0, 0)) := by rw [hw3]; exact (MapKept.heap_alloc w2 _).1
        have K43 := standing_n w3 g m cap xs HM.out.symm (by omega) (by omega) (holdsK_below HH.out b3 hg2) (fun x hx => (HG.out x hx).mono b3 (Nat.le_refl _)) (fun x hx => dotsWf_of (HG.out x hx) (HOk.out x.abs (List.mem_map.2 ⟨x, hx, rfl⟩)))
        have B3 := hid b3
        have S3 := hid s3
        have R3 := hid r3
        clear hw3 b3 s3 r3
        rw [hw3']
        clear hw3'
        refine K43.mono ?_
        rintro e w4 ⟨v4, rfl, hrow4, hb4⟩
        obtain ⟨fs, hfs⟩ : ∃ fs, fs = xs.filter fun x => (finalMap (xs.map Dd.abs) x.dot).isSome := ⟨_, rfl⟩
        rw [← hfs] at hrow4
        have hfl : fs.length ≤ m := by rw [hfs, HM.out]; exact List.length_filter_le _ _
        have hR4 := rowD_of_owns hrow4
        have K42 : Calls Tryz.prog 51 #[v4] w4 fun e w' => TextsRet (fs.map Dd.text) w4 e w' := by
          rcases hR4 with ⟨rfl, h⟩ | ⟨g4, cap4, rfl, hBg4, hg4, hcap4, hH4⟩
          · rw [h]; exact texts_none w4
          · by_cases hf0 : fs = []
            · subst hf0
              exact texts_zero w4 _ cap4
            · exact texts_n w4 g4 fs.length cap4 fs rfl (List.length_pos_iff.2 hf0) (by omega) hg4 hH4
        obtain ⟨a4, c4, rfl⟩ := hR4.shape
        have HB4 := hid hb4
        have HFS := hid hfs
        clear hrow4 hb4 hR4 hfs K43
        go_wp2_with fail
        refine K42.mono ?_
        rintro e w5 ⟨v5, rfl, hs5, hb5, hob5⟩
        obtain ⟨s5, q5, hv5⟩ : ∃ s5 q5, v5 = .slice s5 (setA (fs.map Dd.text)).length q5 := by obtain ⟨ad, c, h, _⟩ := hs5; exact ⟨ad, c, h⟩
        subst hv5
        obtain ⟨n5, hn5⟩ : ∃ n5, n5 = (setA (fs.map Dd.text)).length := ⟨_, rfl⟩
        rw [← hn5] at hs5 hob5 ⊢
        have hs3 := S3.out
        have B35 : Below w3.heap.size w3 w5 := HB4.out.trans (hb5.mono HB4.out.size)
        have hr5 : w5.heap[w2.heap.size]? = some (.cells #[.int .i64 3, .string ByteArray.empty, .int .i64 0, .slice none 0 0] 47 (0, 0)) := by rw [B35.block _ (by omega)]; exact R3.out
        have hr6 : w5.heap[w.heap.size]? = some (.cells #[.int .i64 0, .string ByteArray.empty, .int .i64 0, .slice none 0 0] 47 (0, 0)) := by
          rw [B35.block _ (by omega), B3.out.block _ (by omega)]
          have := HR1.out (.cells #[] 47)
          rwa [(MapKept.heap_alloc w2 _).2 _ (by omega)] at this
        have d0 : w5.cell? ⟨w2.heap.size, 0, none⟩ = some (.int .i64 3) := by simp [World.cell?, hr5]
        have d1 : w5.cell? ⟨w2.heap.size, 1, none⟩ = some (.string ByteArray.empty) := by simp [World.cell?, hr5]
        have d2 : w5.cell? ⟨w2.heap.size, 2, none⟩ = some (.int .i64 0) := by simp [World.cell?, hr5]
        have d3 : w5.cell? ⟨w2.heap.size, 3, none⟩ = some (.slice none 0 0) := by simp [World.cell?, hr5]
        have f3 : w5.frozen? ⟨w2.heap.size, 3, none⟩ = false := by simp [World.frozen?, hr5]
        have hne : w2.heap.size ≠ w.heap.size := by omega
        have hr7 : (w5.setCell ⟨w2.heap.size, 3, none⟩ (.slice s5 n5 q5)).heap[w.heap.size]? = some (.cells #[.int .i64 0, .string ByteArray.empty, .int .i64 0, .slice none 0 0] 47 (0, 0)) := by
          rw [Below.heap_setCell _ _ _ _ (Ne.symm hne)]; exact hr6
        have R4 := hid (row4 hr7)
        have S4 := hid (set4 hr7 [.int .i64 3, .string ByteArray.empty, .int .i64 0, .slice s5 n5 q5] rfl)
        have HS5 := hid hs5
        have HB5 : Hid (Below w2.heap.size w2 w5) := B3.out.trans (B35.mono (by omega))
        clear hr5 hr6 hr7 hs5 hb5 B35 K42 hn5
        go_wp2_with (refine wpList_store_k _ rfl (.tmp 4) (.tmp 67) 47 rfl w.heap.size 0 [.int .i64 3, .string ByteArray.empty, .int .i64 0, .slice s5 n5 q5] rfl rfl 4 rfl Tryz.sizeOf47 rfl _ ?hW R4.out.1 R4.out.2 ?_; case hW => rfl)
        refine bodyPost_ret (ret_of _ _ w.heap.size _ _ _ _ _ rfl rfl S4.out) rfl ⟨_, _, rfl, HI.out, ?_, below_setCells (Nat.le_refl _) _ _ ((B2.out.trans (HB5.out.mono (by omega))).setCell (by show w.heap.size ≤ w2.heap.size; omega) _)⟩
        have e : valA (xs.map Dd.abs) = ⟨3, ByteArray.empty, 0, setA (fs.map Dd.text)⟩ := by
          unfold valA
          rw [if_neg HDN.out, if_neg (by rw [HD0.out]; decide), if_neg (by rw [HD0.out]; decide)]
          have : (standA (xs.map Dd.abs)).map (·.o.text) = fs.map Dd.text := by
            unfold standA
            rw [HFS.out, List.filter_map, List.map_map]
            rfl
          rw [this]
        rw [e]
        refine ⟨_, rfl, HS5.out.keep fun k hk o => ?_⟩
        have hk4 := hob5 k hk
        have h34 := HB4.out.size
        rw [World.cell?_setCells_out _ _ _ _ _ (fun e => by simp only at e; omega)]
        exact sc_other _ _ _ _ (fun e => by injection e; omega)
end Go.Proofs.YtilonnkohcocoaaGreatDoor
namespace Go.Proofs.YtilonnkohcocoaaGreatDoor
open Go.RowKit Go.Sort Go.Maps Go.Shelf
set_option maxRecDepth 100000

/-- The dots of a text, in the order in which they count. -/
def dotsUp (text : ByteArray) (ds : List Dn) : List D3 := ((standA ds).filter fun x => decide (x.o.text = text)).map (·.dot)
/-- Which dots a text has: none but in a set; rising. -/
def IsDots (text : ByteArray) (ds : List Dn) (out : List D3) : Prop :=
  (ds = [] ∨ ds[0]!.o.kind ≠ 3) ∧ out = [] ∨ (ds ≠ [] ∧ ds[0]!.o.kind = 3) ∧ out.Perm (dotsUp text ds) ∧ out.Pairwise (fun a b => ltD b a = false)
/-- What Dots hands back, where nothing is wrong. -/
def DotsRet (key text : ByteArray) (l : List ComV) (w : World) (e : Ending) (w' : World) : Prop :=
  ∃ v ds out, e = .returned (.tuple #[v, .nilIface]) ∧ IsOps key l ds ∧ IsDots text ds out ∧ DotsAt w' v out ∧ Below w.heap.size w w'
theorem dots_nil (w : World) : DotsAt w (.slice none 0 0) [] := ⟨none, 0, rfl, fun _ => rfl, Nat.le_refl _, .inl rfl⟩
theorem Tryz.info65 : (Tryz.prog.info? 65).map (fun i => (i.zero, i.size, i.bytes)) = some (some (.agg #[.int .i64 0, .int .i64 0, .int .i64 0]), 3, 24) := by kernel_rfl
theorem D3.one (d : D3) : ∀ v ∈ d.cells, v.oneCell' = true := fun v hv => by
  simp only [D3.cells, List.mem_cons, List.not_mem_nil, or_false] at hv
  rcases hv with rfl | rfl | rfl <;> rfl
theorem flat3_get (xs : List D3) : ∀ (j i : Nat), j < xs.length → i < 3 → (xs.flatMap D3.cells)[j * 3 + i]? = some (xs[j]!.cells[i]!) := by
  induction xs with
  | nil => intro j i hj; simp at hj
  | cons x r ih =>
    intro j i hj hi
    rw [List.flatMap_cons]
    cases j with
    | zero =>
      rw [List.getElem?_append_left (by show _ < 3; omega), Nat.zero_mul, Nat.zero_add, List.getElem?_eq_getElem (show i < x.cells.length from hi)]
      show some _ = some (x.cells[i]!)
      rw [getElem!_pos x.cells i hi]
      rfl
    | succ j =>
      rw [List.getElem?_append_right (by show 3 ≤ _; omega), show (j + 1) * 3 + i - x.cells.length = j * 3 + i by show _ - 3 = _; omega, ih j i (by simpa using hj) hi]
      simp
theorem holds3_iff {w : World} {g : Nat} {d : Array D3} : HoldsK D3.cells 3 w g 0 d ↔ ∀ j, j < d.size → ∀ i, i < 3 → w.cell? ⟨g, j * 3 + i, none⟩ = some (d[j]!.cells[i]!) ∧ w.frozen? ⟨g, j * 3 + i, none⟩ = false := by
  constructor
  · intro h j hj i hi
    have := h (j * 3 + i) (by rw [size_flatK]; omega)
    rw [get_flatK _ _ _ _ (by omega), show (j * 3 + i) / 3 = j by omega, show (j * 3 + i) % 3 = i by omega, Nat.zero_add] at this
    exact this
  · intro h t ht
    rw [size_flatK] at ht
    rw [get_flatK _ _ _ _ ht, Nat.zero_add]
    have := h (t / 3) (by omega) (t % 3) (by omega)
    rw [show t / 3 * 3 + t % 3 = t by omega] at this
    exact this
theorem dots_of_holds {w : World} {g cap : Nat} {d : Array D3} (h : HoldsK D3.cells 3 w g 0 d) (hc : d.size ≤ cap) : DotsAt w (.slice (some ⟨g, 0, none⟩) d.size cap) d.toList := by
  refine ⟨_, cap, by simp, (fun e => by cases e), by simpa using hc, .inr ⟨g, 0, rfl, fun j r hr => ?_⟩⟩
  rw [List.getElem?_map] at hr
  cases hj : d.toList[j]? with
  | none => rw [hj] at hr; cases hr
  | some x =>
    rw [hj] at hr
    obtain rfl := Option.some.inj hr
    obtain ⟨hl, hx⟩ := List.getElem?_eq_some_iff.1 hj
    have hl' : j < d.size := by simpa using hl
    refine ⟨rfl, fun i u hu => ?_⟩
    have hi : i < 3 := (List.getElem?_eq_some_iff.1 hu).1
    have := (holds3_iff.1 h j hl' i hi).1
    have e : d[j]! = x := by rw [getElem!_pos d j hl', ← hx]; simp
    rw [Nat.zero_add, this, e, List.getElem!_eq_getElem?_getD, hu]
    rfl
/-- A row of dots that the call owns. -/
theorem holds3_of_owns {w : World} {base g n cap : Nat} {ts : List D3} (h : w.ownsRow base 65 3 (.slice (some ⟨g, 0, none⟩) n cap) ts.length (ts.flatMap D3.cells)) : HoldsK D3.cells 3 w g 0 ts.toArray ∧ base ≤ g ∧ g < w.heap.size ∧ n = ts.length ∧ ts.length ≤ cap := by
  obtain ⟨_, h2⟩ := h
  rcases h2 with ⟨h, _⟩ | ⟨g', cap', cur, he, hb, hh, hn, hm, hs, ht⟩
  · cases h
  · cases he
    refine ⟨?_, hb, (Array.getElem?_eq_some_iff.1 hh).1, rfl, hn⟩
    rw [holds3_iff]
    intro j hj i hi
    have hj' : j < ts.length := by simpa using hj
    have e := flat3_get ts j i hj' hi
    rw [← ht, List.getElem?_take, if_pos (by omega), Array.getElem?_toList] at e
    refine ⟨?_, ?_⟩
    · simp only [World.cell?, hh]
      rw [e]
      simp
    · simp only [World.frozen?, hh]
      simp
/-- slices.SortFunc over a row of dots. -/
theorem sortDots (w : World) (B g cap : Nat) (ts : List D3) (hH : HoldsK D3.cells 3 w g 0 ts.toArray) (hB : B ≤ g) (hg : g < w.heap.size) (hcap : ts.length ≤ cap) (hsz : ts.length ≤ 1000000) :
    Calls Tryz.prog 53 #[.slice (some ⟨g, 0, none⟩) ts.length cap, .func (.func 54) #[] #[]] w fun e w' => e = .returned (.tuple #[]) ∧ ∃ ys : List D3, ys.Perm ts ∧ ys.Pairwise (fun a b => ltD b a = false) ∧ DotsAt w' (.slice (some ⟨g, 0, none⟩) ts.length cap) ys ∧ Below B w w' := by
  have hcon := AnyQ.slices_SortFunc Tryz.sortDot 3 Tryz.isAgg65 Tryz.sizeOf65 D3.cells (fun _ => rfl) D3.one cmpD (by rw [ltOf_cmpD]; exact swoD) 54 #[] g 0 cap ts.toArray w (enters_of Tryz.func54 (by kernel_rfl) rfl)
    (fun _ _ _ _ x y => compareDots_any _ x y) hH hg (by simp; omega)
  change Calls Tryz.prog 53 _ _ _ at hcon
  rw [ltOf_cmpD] at hcon
  simp only [List.size_toArray] at hcon
  refine hcon.mono ?_
  rintro e w' ⟨rfl, d', n, os, hp, hs, rfl⟩
  have hp' : PermIn 0 ts.toArray.size ts.toArray d' := by simpa using hp
  have hsz' : d'.size = ts.length := by simpa using hp'.1
  have hh := holdsK_sortWorldK D3.cells 3 w g 0 n ts.toArray d' os hg hH (by simpa using hsz')
  have hd := dots_of_holds hh (cap := cap) (by omega)
  rw [hsz'] at hd
  exact ⟨rfl, d'.toList, by simpa using perm_of_permIn hp', pairwise_of_sortedIn (by rw [hsz']; exact hs), hd, below_sortWorld _ _ _ _ _ _ _ hB hg⟩
theorem sortDots_none (w : World) (p : Option Addr) (cap : Nat) : Calls Tryz.prog 53 #[.slice p 0 cap, .func (.func 54) #[] #[]] w fun e w' => e = .returned (.tuple #[]) ∧ w' = w := by
  have hn := AnyF.slices_SortFunc_none (P := Tryz.prog) (ρ := Tryz.sortDot_ren) { Tryz.sortDot with } p cap (.func (.func 54) #[] #[]) w
  change Calls Tryz.prog 53 _ _ _ at hn
  exact hn
end Go.Proofs.YtilonnkohcocoaaGreatDoor
namespace Go.Proofs.YtilonnkohcocoaaGreatDoor
open Go.RowKit Go.Sort Go.Maps
set_option maxRecDepth 100000

set_option maxHeartbeats 4000000 in
theorem dots_ok (A : Nat → Addr) (w : World) (hE : E4 A w) (h4 : 4 ≤ w.heap.size) (key text : ByteArray) (hk : nameB key = true) (v : Value) (l : List ComV) (hv : ComsAt w v l) (hl : l.length ≤ 1000) (hsm : ∀ c ∈ l, SmallC c) (hok : ∀ i, i < l.length → listBad l i = 0) :
    Calls Tryz.prog 21 #[.string key, .string text, v] w fun e w' => DotsRet key text l w e w' := by
  obtain ⟨a, n, cp, rfl⟩ : ∃ a n cp, v = .slice a n cp := by obtain ⟨a, cp, rfl, _⟩ := hv.shape; exact ⟨_, _, _, rfl⟩
  have K41 := opsOn_ok A w hE h4 key hk (.slice a n cp) l hv hl hsm hok
  have HOK := hid hok
  have H12 : Hid (∀ c ∈ l, c.ops.length ≤ 12) := fun c hc => by
    obtain ⟨i, hi, rfl⟩ := List.getElem_of_mem hc
    have := (comOk_of (c := l[i]!) (by
      have := hok i hi
      unfold listBad at this
      split at this
      · rename_i h; exact absurd this h
      · rename_i h; simpa using h)).few
    rwa [getElem!_pos l i hi] at this
  obtain ⟨i0, hi, hz0, hz1, hz2⟩ := info_parts Tryz.info65
  clear hE hk hv hsm hok
  go_enter Tryz.func21, Tryz.ntmps21
  go_wp2_with fail
  refine K41.mono ?_
  rintro e w2 ⟨v2, xs, rfl, hR, hI, hG, _, hb⟩
  have hOk := isOps_ok hI HOK.out
  have hlen := isOps_len hI H12.out
  simp only [List.length_map] at hlen
  have HB := hid hb
  have HI := hid hI
  clear K41 hb hI
  by_cases h0 : xs = []
  · subst h0
    obtain ⟨av, cv, rfl⟩ := hR.shape
    clear hR hG
    go_wp2
    go_ret2
    exact ⟨_, _, [], rfl, HI.out, .inl ⟨.inl rfl, rfl⟩, dots_nil _, HB.out⟩
  · have hm0 : 0 < xs.length := List.length_pos_iff.2 h0
    rcases hR with ⟨_, h⟩ | ⟨g, cap, rfl, hBg, hg2, hcap, hH⟩
    · exact absurd h h0
    · have hkc := kind_cell hH hm0
      obtain ⟨kd, hkd⟩ : ∃ kd, kd = xs[0]!.kind := ⟨_, rfl⟩
      rw [← hkd] at hkc
      have hd0 : (xs.map Dd.abs)[0]!.o.kind = kd := by rw [map_get_abs xs hm0, hkd]; rfl
      have hdn : xs.map Dd.abs ≠ [] := by simpa using h0
      obtain ⟨m, hm⟩ : ∃ m, m = xs.length := ⟨_, rfl⟩
      rw [← hm] at hm0 hcap hlen ⊢
      have hmb : m ≤ 12000 := by omega
      have hme : ((m : Int) == 0) = false := by rw [beq_eq_false_iff_ne]; omega
      have HM := hid hm
      have HD0 := hid hd0
      have HDN := hid hdn
      by_cases hk3 : kd = 3
      · subst hk3
        have K43 := standing_n w2 g m cap xs hm.symm (by omega) hg2 hH hG (fun x hx => dotsWf_of (hG x hx) (hOk x.abs (List.mem_map.2 ⟨x, hx, rfl⟩)))
        clear hkd hH hG hOk hm hd0 hdn h0
        go_wp2_with fail
        refine K43.mono ?_
        rintro e w4 ⟨v4, rfl, hrow4, hb4⟩
        obtain ⟨fs, hfs⟩ : ∃ fs, fs = xs.filter fun x => (finalMap (xs.map Dd.abs) x.dot).isSome := ⟨_, rfl⟩
        rw [← hfs] at hrow4
        have hfl : fs.length ≤ m := by rw [hfs, HM.out]; exact List.length_filter_le _ _
        have hR4 := rowD_of_owns hrow4
        have HB4 := hid hb4
        have HFS := hid hfs
        clear hrow4 hb4 hfs K43
        have hsA : (standA (xs.map Dd.abs)) = fs.map Dd.abs := by
          unfold standA
          rw [HFS.out, List.filter_map]
          rfl
        have HSA := hid hsA
        clear hsA
        have fin : ∀ (w5 : World) (v5 : Value) (out : List D3), out.Perm ((fs.filter fun x => decide (x.text = text)).map Dd.dot) → out.Pairwise (fun a b => ltD b a = false) → DotsAt w5 v5 out → Below w4.heap.size w4 w5 → DotsRet key text l w (.returned (.tuple #[v5, .nilIface])) w5 := fun w5 v5 out h1 h2 h3 h5 =>
          ⟨_, _, out, rfl, HI.out, .inr ⟨⟨HDN.out, HD0.out⟩, by
            unfold dotsUp
            rw [HSA.out, List.filter_map, List.map_map]
            exact h1, h2⟩, h3, (HB.out.trans (HB4.out.mono HB.out.size)).trans (h5.mono (Nat.le_trans HB.out.size HB4.out.size))⟩
        have FIN := hid fin
        clear fin
        rcases hR4 with ⟨rfl, hf⟩ | ⟨g4, cap4, rfl, hBg4, hg4, hcap4, hH4⟩
        · subst hf
          go_wp2
          refine wp_loop_rounds 1 ?_
          rw [rounds_succ]
          go_wp2_with (go_at_call 53; refine (sortDots_none _ _ _).mono ?_; rintro e w' ⟨rfl, rfl⟩)
          go_ret2
          exact FIN.out _ _ [] (List.Perm.refl _) List.Pairwise.nil (dots_nil _) (Below.refl _ _)
        · obtain ⟨m4, hm4⟩ : ∃ m4, m4 = fs.length := ⟨_, rfl⟩
          rw [← hm4] at hfl hcap4 ⊢
          have HM4 := hid hm4
          have HH4 := hid hH4
          clear hm4 hH4
          go_wp2
          go_loopw [10, 38] (fun v i wr => ∃ k : Nat, k ≤ m4 ∧ i = .int .i64 k ∧ Hid (Below w4.heap.size w4 wr) ∧ Hid (wr.ownsRow w4.heap.size 65 3 v (((fs.take k).filter fun x => decide (x.text = text)).map Dd.dot).length ((((fs.take k).filter fun x => decide (x.text = text)).map Dd.dot).flatMap D3.cells))) (fun _ i _ => m4 - (intOf i).toNat)
          case atStart => exact ⟨0, Nat.zero_le _, rfl, Below.refl _ _, World.ownsRow_nil _ _ _ _⟩
          case round =>
            obtain ⟨k, hk, rfl, HK, HR⟩ := hrel
            have hsz := HK.out.size
            by_cases hlt : k < m4
            · obtain ⟨u, hu⟩ : ∃ u, u = fs[k]! := ⟨_, rfl⟩
              obtain ⟨c0, c1, c2, c3, c4, c5, c6, c7, c8, c9, c10⟩ := holdsK_cells (holdsK_below HH4.out HK.out hg4) (j := k) (u := u) (by have := HM4.out; simp; omega) (by rw [hu]; have := HM4.out; rw [getElem!_pos fs.toArray k (by simp; omega), getElem!_pos fs k (by omega)]; simp)
              have hfil : ((fs.take (k + 1)).filter fun x => decide (x.text = text)).map Dd.dot = ((fs.take k).filter fun x => decide (x.text = text)).map Dd.dot ++ (if u.text = text then [u.dot] else []) := by
                rw [List.take_succ_eq_append_getElem (by have := HM4.out; omega), List.filter_append, List.map_append, hu, getElem!_pos fs k (by have := HM4.out; omega)]
                congr 1
                simp only [List.filter_cons, List.filter_nil]
                by_cases e : fs[k].text = text <;> simp [e]
              have hfl2 : (((fs.take k).filter fun x => decide (x.text = text)).map Dd.dot).length ≤ m4 := by
                rw [List.length_map]
                exact Nat.le_trans (List.length_filter_le _ _) (by simp; omega)
              have HF := hid hfil
              have hrow := HR.out
              obtain ⟨os, hos⟩ : ∃ os, os = ((fs.take k).filter fun x => decide (x.text = text)).map Dd.dot := ⟨_, rfl⟩
              rw [← hos] at hrow HF hfl2
              clear hu hfil hos HR
              obtain ⟨x1, x2, x3, x4, x5, x6, dp, dl, dc, ⟨x8, x9, x10⟩, x11, ds⟩ := u
              simp only at c0 c1 c2 c3 c4 c5 c6 c7 c8 c9 c10
              by_cases he : x4 = text
              · subst he
                go_wp2_with (at_builtin; refine wpList_append_own _ rfl _ _ 22 rfl w4.heap.size 65 i0 _ 3 24 Tryz.underlying22 hi hz0 hz1 hz2 rfl (by decide) _ _ _ rfl ((hrow.alloc _).alloc _) ⟨wr.heap.size + 1, 0, none⟩ 1 1 [.int .i64 x8, .int .i64 x9, .int .i64 x10] rfl rfl (cells11_new _ _ _ _ (by simp)) ?ho1 ?ho2 ?ho3 ?ho4 ?_; (case ho1 => exact D3.one ⟨x8, x9, x10⟩); (case ho2 => unfold maxLen; omega); (case ho3 => omega); (case ho4 => simp; omega); intro v' w5 hown' hgrow2 hnil2)
                refine ⟨⟨k + 1, by omega, by go_num, ?_, ?_⟩, by simp [intOf]; omega⟩
                · exact ((HK.out.alloc hsz _).alloc (by simp; omega) _).grown hgrow2 (by simp; omega) (fun j hj => (hrow.lt j hj).1)
                · rw [HF.out]
                  simp only [if_true, List.length_append, List.length_singleton, List.flatMap_append, List.flatMap_singleton]
                  exact hown'
              · have hne : (x4.toList == text.toList) = false := beq_eq_false_iff_ne.2 (ne_toList he)
                go_wp2
                refine ⟨⟨k + 1, by omega, by go_num, HK.out.alloc hsz _, ?_⟩, by simp [intOf]; omega⟩
                rw [HF.out]
                simp only [he, if_false, List.append_nil]
                exact hrow.alloc _
            · have hkm : m4 = k := by omega
              subst hkm
              have hrow := HR.out
              rw [List.take_of_length_le (by have := HM4.out; omega)] at hrow
              obtain ⟨ts, hts⟩ : ∃ ts, ts = (fs.filter fun x => decide (x.text = text)).map Dd.dot := ⟨_, rfl⟩
              have htl : ts.length ≤ 1000000 := by rw [hts, List.length_map]; exact Nat.le_trans (List.length_filter_le _ _) (by have := HM4.out; omega)
              rw [← hts] at hrow
              by_cases ht0 : ts = []
              · subst ht0
                obtain ⟨pv, cv, rfl⟩ : ∃ pv cv, u10 = .slice pv 0 cv := by
                  obtain ⟨_, h2⟩ := hrow
                  rcases h2 with ⟨h, _⟩ | ⟨g', cap', cur, he, _⟩
                  · exact ⟨_, _, h⟩
                  · exact ⟨_, _, he⟩
                have hda : DotsAt wr (.slice pv 0 cv) [] := by
                  obtain ⟨_, h2⟩ := hrow
                  rcases h2 with ⟨h, _⟩ | ⟨g', cap', cur, he, _⟩
                  · cases h; exact dots_nil _
                  · cases he; exact ⟨_, _, rfl, (fun h => by cases h), Nat.zero_le _, .inl rfl⟩
                have HDA := hid hda
                have HTS := hid hts
                clear hrow hda hts HR
                go_wp2_with (go_at_call 53; refine (sortDots_none _ _ _).mono ?_; rintro e w' ⟨rfl, rfl⟩)
                go_ret2
                exact FIN.out _ _ [] (by rw [← HTS.out]) List.Pairwise.nil HDA.out HK.out
              · obtain ⟨g', n', c', rfl⟩ : ∃ g' n' c', u10 = .slice (some ⟨g', 0, none⟩) n' c' := by
                  obtain ⟨_, h2⟩ := hrow
                  rcases h2 with ⟨_, h⟩ | ⟨g', cap', cur, he, _⟩
                  · exact absurd (List.eq_nil_of_length_eq_zero h) ht0
                  · exact ⟨g', _, cap', he⟩
                obtain ⟨hHs, hBg', hgl, hn, hcp⟩ := holds3_of_owns hrow
                have K44 := sortDots wr w4.heap.size g' c' ts hHs hBg' hgl hcp htl
                rw [← hn] at K44
                have HTS := hid hts
                clear hrow hHs hn hts HR ht0
                go_wp2_with fail
                refine K44.mono ?_
                rintro e w5 ⟨rfl, ys, h1, h2, h3, h5⟩
                have H1 := hid h1
                have H2 := hid h2
                have H3 := hid h3
                have H5 := hid h5
                clear K44 h1 h2 h3 h5
                go_wp2
                go_ret2
                exact FIN.out _ _ ys (by rw [← HTS.out]; exact H1.out) H2.out H3.out (HK.out.trans H5.out)
      · have hne : (kd != 3) = true := by simpa using hk3
        clear hkd hH hG hOk hm hd0 hdn h0
        go_wp2
        go_ret2
        exact ⟨_, _, [], rfl, HI.out, .inl ⟨.inr (by rw [HD0.out]; exact hk3), rfl⟩, dots_nil _, HB.out⟩
end Go.Proofs.YtilonnkohcocoaaGreatDoor
namespace Go.Proofs.YtilonnkohcocoaaGreatDoor
open Go.RowKit Go.Sort Go.Maps
set_option maxRecDepth 100000

/-- The order, if it is known, is the one. -/
theorem isOps_eq {key : ByteArray} {l : List ComV} {ds ys : List Dn} (h : IsOps key l ds) (hy : InOrder key l ys) : ds = ofKind ys := by
  obtain ⟨zs, hz, rfl⟩ := h
  rw [inOrder_unique hz hy]

def worthOp : OpV := ⟨0, ⟨#[107]⟩, 1, ⟨#[120]⟩, 0, false, []⟩
def worthL : List ComV := [⟨[1], 0, [worthOp]⟩]
theorem worth_bad : ∀ i, i < worthL.length → listBad worthL i = 0 := by
  intro i hi
  obtain rfl : i = 0 := by simpa [worthL] using hi
  kernel_rfl
theorem worth_once : (onceA worthL).filter (fun x => decide (x.o.key = ⟨#[107]⟩)) = [⟨worthOp, ⟨0, 1, 0⟩, 1⟩] := by rfl
theorem worth_val {ds : List Dn} (h : IsOps ⟨#[107]⟩ worthL ds) : valA ds = ⟨1, ⟨#[120]⟩, 0, []⟩ := by
  rw [isOps_eq h (ys := [⟨worthOp, ⟨0, 1, 0⟩, 1⟩]) ⟨by rw [worth_once], List.pairwise_singleton _ _⟩]
  rfl
theorem rowAt_lit {w : World} {k : Nat} {b : Nat} {cs : List Value} {t : TypeId} {m c : Nat} (hb : w.heap[b]? = some (.cells cs.toArray t (0, 0))) (rows : List (List Value)) (hcs : cs = rows.flatten) (hk : ∀ r ∈ rows, r.length = k) (hm : m = rows.length) (hc : m ≤ c) : RowAt k w (.slice (some ⟨b, 0, none⟩) m c) rows := by
  subst hm hcs
  refine ⟨_, c, rfl, (fun h => by cases h), hc, .inr ⟨b, 0, rfl, fun j r hr => ?_⟩⟩
  have hj : j < rows.length := (List.getElem?_eq_some_iff.1 hr).1
  have hrm : r ∈ rows := List.mem_of_getElem? hr
  refine ⟨hk r hrm, fun i u hu => ?_⟩
  have hi : i < k := by have := (List.getElem?_eq_some_iff.1 hu).1; rw [hk r hrm] at this; exact this
  have hfl : ∀ (rows : List (List Value)) (j : Nat) (r : List Value), (∀ r ∈ rows, r.length = k) → rows[j]? = some r → ∀ i u, i < k → r[i]? = some u → rows.flatten[j * k + i]? = some u := by
    intro rows
    induction rows with
    | nil => intro j r _ h; simp at h
    | cons x rest ih =>
      intro j r hk h i u hi hu
      have hx := hk x (List.mem_cons_self ..)
      rw [List.flatten_cons]
      cases j with
      | zero =>
        simp at h
        subst h
        rw [List.getElem?_append_left (by omega), Nat.zero_mul, Nat.zero_add]
        exact hu
      | succ j =>
        rw [List.getElem?_append_right (by rw [hx, Nat.add_mul]; omega), hx, show (j + 1) * k + i - k = j * k + i by rw [Nat.add_mul]; omega]
        exact ih j r (fun r hr => hk r (List.mem_cons_of_mem _ hr)) (by simpa using h) i u hi hu
  have := hfl rows j r hk hr i u hi hu
  simp only [World.cell?, hb, Nat.zero_add]
  rw [List.getElem?_toArray, this]
  simp
theorem ints_lit {w : World} {b : Nat} {zs : List Int} {t : TypeId} {m c : Nat} (hb : w.heap[b]? = some (.cells (zs.map (Value.int .i64)).toArray t (0, 0))) (hm : m = zs.length) : IntsAt w (.slice (some ⟨b, 0, none⟩) m c) zs := by
  subst hm
  refine ⟨_, c, rfl, (fun h => by cases h), .inr ⟨b, 0, rfl, fun j hj => ?_⟩⟩
  simp only [World.cell?, hb, Nat.zero_add]
  rw [List.getElem?_toArray, List.getElem?_map, List.getElem?_eq_getElem hj]
  simp [List.getD_eq_getElem?_getD, List.getElem?_eq_getElem hj]

set_option maxHeartbeats 2000000 in
theorem worth_true (A : Nat → Addr) (w : World) (hE : E4 A w) (h4 : 4 ≤ w.heap.size) : Calls Tryz.prog 9 #[] w fun e w' => e = .returned (.bool true) ∧ Below w.heap.size w w' := by
  obtain ⟨w3, hw3⟩ : ∃ w3, w3 = ((w.alloc (.cells #[.int .i64 1] 3)).alloc (.cells #[.int .i64 0, .string ⟨#[107]⟩, .int .i64 1, .string ⟨#[120]⟩, .int .i64 0, .bool false, .slice none 0 0] 24)).alloc (.cells #[.slice (some ⟨w.heap.size, 0, none⟩) 1 1, .int .i64 0, .slice (some ⟨w.heap.size + 1, 0, none⟩) 1 1] 28) := ⟨_, rfl⟩
  have b3 : Below w.heap.size w w3 := by rw [hw3]; exact below3 _ _ _ _
  have r0 : w3.heap[w.heap.size]? = some (.cells #[.int .i64 1] 3 (0, 0)) := by
    rw [hw3, (MapKept.heap_alloc _ _).2 _ (by simp; omega), (MapKept.heap_alloc _ _).2 _ (by simp)]; exact (MapKept.heap_alloc w _).1
  have r1 : w3.heap[w.heap.size + 1]? = some (.cells #[.int .i64 0, .string ⟨#[107]⟩, .int .i64 1, .string ⟨#[120]⟩, .int .i64 0, .bool false, .slice none 0 0] 24 (0, 0)) := by
    have e : w.heap.size + 1 = (w.alloc (.cells #[.int .i64 1] 3)).heap.size := by simp
    rw [hw3, (MapKept.heap_alloc _ _).2 _ (by simp)]
    conv => lhs; rw [e]
    exact (MapKept.heap_alloc _ _).1
  have r2 : w3.heap[w.heap.size + 1 + 1]? = some (.cells #[.slice (some ⟨w.heap.size, 0, none⟩) 1 1, .int .i64 0, .slice (some ⟨w.heap.size + 1, 0, none⟩) 1 1] 28 (0, 0)) := by
    have e : w.heap.size + 1 + 1 = ((w.alloc (.cells #[.int .i64 1] 3)).alloc (.cells #[.int .i64 0, .string ⟨#[107]⟩, .int .i64 1, .string ⟨#[120]⟩, .int .i64 0, .bool false, .slice none 0 0] 24)).heap.size := by simp
    rw [hw3]
    conv => lhs; rw [e]
    exact (MapKept.heap_alloc _ _).1
  have hI : IntsAt w3 (.slice (some ⟨w.heap.size, 0, none⟩) 1 1) [1] := ints_lit (zs := [1]) r0 rfl
  have hO : OpsAt w3 (.slice (some ⟨w.heap.size + 1, 0, none⟩) 1 1) [worthOp] :=
    ⟨[opCells worthOp (.slice none 0 0)], rowAt_lit r1 [opCells worthOp (.slice none 0 0)] rfl (fun r hr => by rw [List.mem_singleton.1 hr]; rfl) rfl (Nat.le_refl _), ⟨⟨_, rfl, dots_nil _⟩, trivial⟩⟩
  have hC : ComsAt w3 (.slice (some ⟨w.heap.size + 1 + 1, 0, none⟩) 1 1) worthL :=
    ⟨[[.slice (some ⟨w.heap.size, 0, none⟩) 1 1, .int .i64 0, .slice (some ⟨w.heap.size + 1, 0, none⟩) 1 1]], rowAt_lit r2 [_] rfl (fun r hr => by rw [List.mem_singleton.1 hr]; rfl) rfl (Nat.le_refl _), ⟨⟨_, _, rfl, hI, hO⟩, trivial⟩⟩
  have K18 := of_ok A w3 (hE.below b3 h4) (by have := b3.size; omega) ⟨#[107]⟩ (by rfl) _ worthL hC (by decide) (fun c hc => by
    rw [List.mem_singleton.1 hc]
    exact ⟨by decide, by decide, fun o ho => by rw [List.mem_singleton.1 ho]; exact ⟨by decide, by decide⟩⟩) worth_bad
  have B3 := hid b3
  clear r0 r1 r2 hI hO hC b3
  go_enter Tryz.func9, Tryz.ntmps9
  go_wp2_with fail
  rw [← hw3]
  clear hw3
  refine K18.mono ?_
  rintro e w4 ⟨v, ds, rfl, hds, hv, hb⟩
  rw [worth_val hds] at hv
  obtain ⟨sv, rfl, ad, cap, rfl, _⟩ := hv
  have HB := hid hb
  clear K18 hds hb
  go_wp2
  go_ret
  exact ⟨rfl, (B3.out.trans (HB.out.mono B3.out.size)).alloc (Nat.le_trans B3.out.size HB.out.size) _⟩
end Go.Proofs.YtilonnkohcocoaaGreatDoor
namespace Go.Proofs.YtilonnkohcocoaaGreatDoor
open Go.RowKit Go.Sort Go.Maps
set_option maxRecDepth 100000

def sKey : ByteArray := ⟨#[115]⟩
def addOp (text : ByteArray) : OpV := ⟨0, sKey, 3, text, 0, false, []⟩
def dotI (i : Nat) : D3 := ⟨i, 1, 0⟩
def dropOp (text : ByteArray) (seen : Nat) : OpV := ⟨0, sKey, 3, text, 0, true, (List.range seen).map dotI⟩
def whenI (i : Nat) : List Int := (List.replicate 6 0).set i 1
def whenD (seen : Nat) : List Int := ((List.replicate seen (1:Int)) ++ List.replicate (6 - seen) 0).set 0 2
def comI (text : ByteArray) (i : Nat) : ComV := ⟨whenI i, i, [addOp text]⟩
def setsL (text : ByteArray) (adds seen : Nat) : List ComV := (List.range adds).map (comI text) ++ [⟨whenD seen, 0, [dropOp text seen]⟩]

theorem com_one {c : ComV} {o : OpV} (ho : c.ops = [o]) (h1 : chk c.when_ = 0) (h2 : 0 ≤ c.place) (h3 : c.place < c.when_.length) (h4 : c.when_.getD c.place.toNat 0 ≠ 0) (h5 : opErr o c.when_.length = 0) : comErr c = (0, none) := by
  unfold comErr
  rw [if_neg (by simpa using h1), if_neg (by rw [ho]; intro h; rcases h with h | h | h | h; omega; omega; exact h4 h; simp at h), if_neg (by rw [ho]; simp), ho]
  refine scan_none fun i hi => ?_
  obtain rfl : i = 0 := by simpa using hi
  unfold opBad
  rw [if_neg (by simpa using h5), if_neg (by omega)]
theorem addOp_ok (text : ByteArray) (h : text.size ≤ 60) : opErr (addOp text) 6 = 0 := by
  unfold opErr
  rw [if_neg (by simp [addOp]), if_neg (by simp [addOp]; rfl), if_neg (by simp [addOp]; rfl), if_neg (by simp [addOp, foreignB]), if_neg (by simp [addOp]; omega), if_neg (by simp [addOp])]
theorem dropOp_ok (text : ByteArray) (seen : Nat) (h : text.size ≤ 60) (hs : seen ≤ 6) : opErr (dropOp text seen) 6 = 0 := by
  unfold opErr
  rw [if_neg (by simp [dropOp]), if_neg (by simp [dropOp]; rfl), if_neg (by simp [dropOp]; rfl), if_neg (by simp [dropOp, foreignB]), if_neg (by simp [dropOp]; omega), if_neg ?_]
  simp only [dropOp, Bool.not_eq_false]
  rw [List.all_eq_true]
  intro d hd
  obtain ⟨i, hi, rfl⟩ := List.mem_map.1 hd
  have := List.mem_range.1 hi
  have h6 : (i : Int) < 6 := by omega
  have h0 : (0 : Int) ≤ (i : Int) := by omega
  show dotB 6 (dotI i) = true
  simp [dotI, dotB, h6, h0]
theorem whenI_len (i : Nat) : (whenI i).length = 6 := by simp [whenI]
theorem whenD_len {seen : Nat} (h : seen ≤ 6) : (whenD seen).length = 6 := by simp [whenD]; omega
theorem sets_len (text : ByteArray) (adds seen : Nat) : (setsL text adds seen).length = adds + 1 := by simp [setsL]
theorem sets_get (text : ByteArray) {adds seen i : Nat} (h : i < adds) : (setsL text adds seen)[i]! = comI text i := by
  rw [getElem!_pos _ i (by rw [sets_len]; omega)]
  simp [setsL, h]
theorem sets_last (text : ByteArray) (adds seen : Nat) : (setsL text adds seen)[adds]! = ⟨whenD seen, 0, [dropOp text seen]⟩ := by
  rw [getElem!_pos _ adds (by rw [sets_len]; omega)]
  simp [setsL]
theorem comI_ok (text : ByteArray) (h : text.size ≤ 60) {i : Nat} (hi : i < 6) : comErr (comI text i) = (0, none) := by
  have e : ((comI text i).when_.length : Int) = 6 := by rw [show (comI text i).when_ = whenI i from rfl, whenI_len]; rfl
  refine com_one (o := addOp text) rfl ?_ (by show (0 : Int) ≤ i; omega) (by rw [e]; show (i : Int) < 6; omega) ?_ (by rw [e]; exact addOp_ok text h)
  · show chk (whenI i) = 0
    rcases (by omega : i = 0 ∨ i = 1 ∨ i = 2 ∨ i = 3 ∨ i = 4 ∨ i = 5) with rfl | rfl | rfl | rfl | rfl | rfl <;> rfl
  · show (whenI i).getD (i : Int).toNat 0 ≠ 0
    rcases (by omega : i = 0 ∨ i = 1 ∨ i = 2 ∨ i = 3 ∨ i = 4 ∨ i = 5) with rfl | rfl | rfl | rfl | rfl | rfl <;> decide
theorem comD_ok (text : ByteArray) (h : text.size ≤ 60) {seen : Nat} (hs : seen ≤ 6) : comErr ⟨whenD seen, 0, [dropOp text seen]⟩ = (0, none) := by
  have e : ((whenD seen).length : Int) = 6 := by rw [whenD_len hs]; rfl
  refine com_one (o := dropOp text seen) rfl ?_ (Int.le_refl _) (by show (0 : Int) < (whenD seen).length; omega) ?_ (by rw [e]; exact dropOp_ok text seen h hs)
  · show chk (whenD seen) = 0
    rcases (by omega : seen = 0 ∨ seen = 1 ∨ seen = 2 ∨ seen = 3 ∨ seen = 4 ∨ seen = 5 ∨ seen = 6) with rfl | rfl | rfl | rfl | rfl | rfl | rfl <;> rfl
  · show (whenD seen).getD 0 0 ≠ 0
    rcases (by omega : seen = 0 ∨ seen = 1 ∨ seen = 2 ∨ seen = 3 ∨ seen = 4 ∨ seen = 5 ∨ seen = 6) with rfl | rfl | rfl | rfl | rfl | rfl | rfl <;> decide
theorem sets_ok (text : ByteArray) (h : text.size ≤ 60) {adds seen : Nat} (ha : adds ≤ 6) (hs : seen ≤ 6) : ∀ i, i < (setsL text adds seen).length → listBad (setsL text adds seen) i = 0 := by
  intro i hi
  rw [sets_len] at hi
  have h0 : (setsL text adds seen)[0]!.when_.length = 6 := by
    by_cases e : adds = 0
    · subst e; rw [sets_last]; exact whenD_len hs
    · rw [sets_get text (by omega)]; exact whenI_len _
  unfold listBad
  rw [h0]
  by_cases e : i < adds
  · rw [sets_get text e, comI_ok text h (by omega), if_neg (by decide), if_neg (by rw [show (comI text i).when_ = whenI i from rfl, whenI_len]; decide)]
  · obtain rfl : i = adds := by omega
    rw [sets_last, comD_ok text h hs, if_neg (by decide), if_neg (by rw [show (whenD seen).length = 6 from whenD_len hs]; decide)]
theorem sets_small (text : ByteArray) (h : text.size ≤ 60) {adds seen : Nat} (hs : seen ≤ 6) : ∀ c ∈ setsL text adds seen, SmallC c := by
  intro c hc
  rcases List.mem_append.1 hc with hc | hc
  · obtain ⟨i, _, rfl⟩ := List.mem_map.1 hc
    exact ⟨by rw [show (comI text i).when_ = whenI i from rfl, whenI_len]; decide, by show 1 ≤ 1000000; decide, fun o ho => by rw [List.mem_singleton.1 ho]; exact ⟨by show text.size ≤ _; omega, by show 0 ≤ 1000000; decide⟩⟩
  · rw [List.mem_singleton.1 hc]
    exact ⟨by rw [whenD_len hs]; decide, by show 1 ≤ 1000000; decide, fun o ho => by rw [List.mem_singleton.1 ho]; exact ⟨by show text.size ≤ _; omega, by simp [dropOp]; omega⟩⟩

/-- The ops that they make, in the order in which they count. -/
def addDnI (text : ByteArray) (i : Nat) : Dn := ⟨addOp text, ⟨i, 1, 0⟩, 1⟩
def setsDs (text : ByteArray) (adds seen : Nat) : List Dn := (List.range adds).map (addDnI text) ++ [⟨dropOp text seen, ⟨0, 2, 0⟩, sum (whenD seen)⟩]
theorem sets_once (text : ByteArray) {adds seen : Nat} (ha : adds ≤ 6) (hs : seen ≤ 6) : onceA (setsL text adds seen) = setsDs text adds seen := by
  rcases (by omega : adds = 0 ∨ adds = 1 ∨ adds = 2 ∨ adds = 3 ∨ adds = 4 ∨ adds = 5 ∨ adds = 6) with rfl | rfl | rfl | rfl | rfl | rfl | rfl <;>
  rcases (by omega : seen = 0 ∨ seen = 1 ∨ seen = 2 ∨ seen = 3 ∨ seen = 4 ∨ seen = 5 ∨ seen = 6) with rfl | rfl | rfl | rfl | rfl | rfl | rfl <;> rfl
theorem sum_whenD {seen : Nat} (hs : seen ≤ 6) : 2 ≤ sum (whenD seen) := by
  rcases (by omega : seen = 0 ∨ seen = 1 ∨ seen = 2 ∨ seen = 3 ∨ seen = 4 ∨ seen = 5 ∨ seen = 6) with rfl | rfl | rfl | rfl | rfl | rfl | rfl <;> decide
theorem setsDs_key (text : ByteArray) (adds seen : Nat) : ∀ d ∈ setsDs text adds seen, d.o.key = sKey ∧ d.o.kind = 3 ∧ d.o.text = text := by
  intro d hd
  rcases List.mem_append.1 hd with hd | hd
  · obtain ⟨i, _, rfl⟩ := List.mem_map.1 hd
    exact ⟨rfl, rfl, rfl⟩
  · rw [List.mem_singleton.1 hd]
    exact ⟨rfl, rfl, rfl⟩
theorem sets_order (text : ByteArray) {adds seen : Nat} (ha : adds ≤ 6) (hs : seen ≤ 6) : InOrder sKey (setsL text adds seen) (setsDs text adds seen) := by
  refine ⟨?_, ?_⟩
  · rw [sets_once text ha hs, List.filter_eq_self.2 fun d hd => decide_eq_true (setsDs_key text adds seen d hd).1]
  · unfold setsDs
    rw [List.pairwise_append]
    refine ⟨?_, List.pairwise_singleton _ _, ?_⟩
    · rw [List.pairwise_map]
      refine List.Pairwise.imp ?_ List.pairwise_lt_range
      intro a b h
      simp only [ltN, ltD, addDnI, decide_eq_false_iff_not, decide_eq_true_eq]
      omega
    · intro a ha b hb
      obtain ⟨i, _, rfl⟩ := List.mem_map.1 ha
      rw [List.mem_singleton.1 hb]
      have := sum_whenD hs
      refine decide_eq_false ?_
      show ¬(sum (whenD seen) < 1 ∨ sum (whenD seen) = 1 ∧ _)
      omega
theorem sets_ops (text : ByteArray) {adds seen : Nat} (ha : adds ≤ 6) (hs : seen ≤ 6) {ds : List Dn} (h : IsOps sKey (setsL text adds seen) ds) : ds = setsDs text adds seen := by
  rw [isOps_eq h (sets_order text ha hs)]
  have h0 : (setsDs text adds seen)[0]!.o.kind = 3 := by
    have hl : 0 < (setsDs text adds seen).length := by simp [setsDs]
    rw [getElem!_pos _ 0 hl]
    exact (setsDs_key text adds seen _ (List.getElem_mem hl)).2.1
  unfold ofKind
  rw [h0]
  exact List.filter_eq_self.2 fun d hd => decide_eq_true (setsDs_key text adds seen d hd).2.1

theorem range6 {P : Nat → Prop} (h : P 0 ∧ P 1 ∧ P 2 ∧ P 3 ∧ P 4 ∧ P 5 ∧ P 6) {n : Nat} (hn : n ≤ 6) : P n := by
  obtain ⟨h0, h1, h2, h3, h4, h5, h6⟩ := h
  rcases (by omega : n = 0 ∨ n = 1 ∨ n = 2 ∨ n = 3 ∨ n = 4 ∨ n = 5 ∨ n = 6) with rfl | rfl | rfl | rfl | rfl | rfl | rfl <;> assumption

/-- The adds put their texts at their dots. -/
theorem adds_map (text : ByteArray) : ∀ n : Nat, ∀ e : D3, (((List.range n).map (addDnI text)).foldl addStep fun _ => none) e = if (0 ≤ e.p ∧ e.p < n) ∧ e.t = 1 ∧ e.a = 0 then some text else none := by
  intro n
  induction n with
  | zero => intro e; simp; omega
  | succ n ih =>
    intro e
    rw [List.range_succ, List.map_append, List.foldl_append]
    simp only [List.map_cons, List.map_nil, List.foldl_cons, List.foldl_nil]
    rw [show ∀ M, addStep M (addDnI text n) = upd M ⟨n, 1, 0⟩ (some text) from fun _ => rfl]
    unfold upd
    rw [ih e]
    obtain ⟨p, t, a⟩ := e
    simp only [D3.mk.injEq]
    by_cases h1 : p = n ∧ t = 1 ∧ a = 0
    · rw [if_pos h1, if_pos (by omega)]
    · rw [if_neg h1]
      by_cases h2 : (0 ≤ p ∧ p < n) ∧ t = 1 ∧ a = 0
      · rw [if_pos h2, if_pos (by omega)]
      · rw [if_neg h2, if_neg (by omega)]
/-- The drop takes those that were seen. -/
theorem drop_map (text : ByteArray) (M : D3 → Option ByteArray) : ∀ n : Nat, (∀ i : Nat, i < n → M (dotI i) = some text) → ∀ e : D3, (((List.range n).map dotI).foldl (delStep text) M) e = if (0 ≤ e.p ∧ e.p < n) ∧ e.t = 1 ∧ e.a = 0 then none else M e := by
  intro n
  induction n with
  | zero => intro _ e; simp; omega
  | succ n ih =>
    intro hM e
    rw [List.range_succ, List.map_append, List.foldl_append]
    simp only [List.map_cons, List.map_nil, List.foldl_cons, List.foldl_nil]
    have ih' := ih fun i hi => hM i (by omega)
    have hn : (((List.range n).map dotI).foldl (delStep text) M) (dotI n) = some text := by
      rw [ih' (dotI n), if_neg (by show ¬(((0:Int) ≤ n ∧ (n:Int) < n) ∧ _); omega)]
      exact hM n (by omega)
    rw [show ∀ M : D3 → Option ByteArray, M (dotI n) = some text → delStep text M (dotI n) = upd M (dotI n) none from fun M h => by unfold delStep; rw [if_pos (by rw [h]; rfl)]]
    rotate_left
    · exact hn
    rw [upd, ih' e]
    obtain ⟨p, t, a⟩ := e
    simp only [D3.mk.injEq, dotI]
    by_cases h1 : p = n ∧ t = 1 ∧ a = 0
    · rw [if_pos h1, if_pos (by omega)]
    · rw [if_neg h1]
      by_cases h2 : (0 ≤ p ∧ p < n) ∧ t = 1 ∧ a = 0
      · rw [if_pos h2, if_pos (by omega)]
      · rw [if_neg h2, if_neg (by omega)]
theorem addDnI_rem (text : ByteArray) (n : Nat) : ∀ M, ((List.range n).map (addDnI text)).foldl remStep M = M := by
  intro M
  induction List.range n generalizing M with
  | nil => rfl
  | cons x r ih => exact ih M
theorem sets_final (text : ByteArray) {adds seen : Nat} (hs : seen ≤ adds) (e : D3) : finalMap (setsDs text adds seen) e = if ((seen : Int) ≤ e.p ∧ e.p < adds) ∧ e.t = 1 ∧ e.a = 0 then some text else none := by
  unfold finalMap setsDs
  rw [List.foldl_append, List.foldl_append, addDnI_rem]
  show ((List.range seen).map dotI).foldl (delStep text) (((List.range adds).map (addDnI text)).foldl addStep fun _ => none) e = _
  rw [drop_map text _ seen (fun i hi => by rw [adds_map, if_pos (by show ((0:Int) ≤ i ∧ (i:Int) < adds) ∧ (1:Int) = 1 ∧ (0:Int) = 0; omega)]), adds_map]
  by_cases h1 : (0 ≤ e.p ∧ e.p < seen) ∧ e.t = 1 ∧ e.a = 0
  · rw [if_pos h1, if_neg (by omega)]
  · rw [if_neg h1]
    by_cases h2 : (0 ≤ e.p ∧ e.p < adds) ∧ e.t = 1 ∧ e.a = 0
    · rw [if_pos h2, if_pos (by omega)]
    · rw [if_neg h2, if_neg (by omega)]
theorem sets_stand (text : ByteArray) {adds seen : Nat} (ha : adds ≤ 6) (hs : seen ≤ adds) : (standA (setsDs text adds seen)).length = adds - seen ∧ ∀ d ∈ standA (setsDs text adds seen), d.o.text = text := by
  refine ⟨?_, fun d hd => (setsDs_key text adds seen d (List.mem_filter.1 hd).1).2.2⟩
  have e : standA (setsDs text adds seen) = (setsDs text adds seen).filter (fun x : Dn => decide (((seen : Int) ≤ x.dot.p ∧ x.dot.p < (adds : Int)) ∧ x.dot.t = 1 ∧ x.dot.a = 0)) := by
    unfold standA
    refine List.filter_congr fun x _ => ?_
    rw [sets_final text hs]
    by_cases h : ((seen : Int) ≤ x.dot.p ∧ x.dot.p < adds) ∧ x.dot.t = 1 ∧ x.dot.a = 0
    · rw [if_pos h, decide_eq_true h]; rfl
    · rw [if_neg h, decide_eq_false h]; rfl
  rw [e]
  rcases (by omega : adds = 0 ∨ adds = 1 ∨ adds = 2 ∨ adds = 3 ∨ adds = 4 ∨ adds = 5 ∨ adds = 6) with rfl | rfl | rfl | rfl | rfl | rfl | rfl <;>
  rcases (by omega : seen = 0 ∨ seen = 1 ∨ seen = 2 ∨ seen = 3 ∨ seen = 4 ∨ seen = 5 ∨ seen = 6) with rfl | rfl | rfl | rfl | rfl | rfl | rfl <;> first | rfl | omega
theorem all_replicate {text : ByteArray} : ∀ (l : List Dn), (∀ d ∈ l, d.o.text = text) → l.map (·.o.text) = List.replicate l.length text
  | [], _ => rfl
  | x :: r, h => by
    rw [List.map_cons, all_replicate r fun d hd => h d (List.mem_cons_of_mem _ hd), h x (List.mem_cons_self ..)]
    rfl
theorem sets_dots (text : ByteArray) {adds seen : Nat} (ha : adds ≤ 6) (hs : seen ≤ adds) {out : List D3} (h : IsDots text (setsDs text adds seen) out) : out.length = adds - seen := by
  obtain ⟨h1, h2⟩ := sets_stand text ha hs
  have h0 : (setsDs text adds seen)[0]!.o.kind = 3 := by
    have hl : 0 < (setsDs text adds seen).length := by simp [setsDs]
    rw [getElem!_pos _ 0 hl]
    exact (setsDs_key text adds seen _ (List.getElem_mem hl)).2.1
  have hne : setsDs text adds seen ≠ [] := by simp [setsDs]
  rcases h with ⟨h, _⟩ | ⟨_, h, _⟩
  · rcases h with h | h
    · exact absurd h hne
    · exact absurd h0 h
  · rw [h.length_eq, dotsUp, List.length_map, List.filter_eq_self.2 fun d hd => decide_eq_true (h2 d hd), h1]
theorem sets_val (text : ByteArray) {adds seen : Nat} (ha : adds ≤ 6) (hs : seen ≤ adds) : valA (setsDs text adds seen) = ⟨3, ByteArray.empty, 0, setA (List.replicate (adds - seen) text)⟩ := by
  obtain ⟨h1, h2⟩ := sets_stand text ha hs
  have h0 : (setsDs text adds seen)[0]!.o.kind = 3 := by
    have hl : 0 < (setsDs text adds seen).length := by simp [setsDs]
    rw [getElem!_pos _ 0 hl]
    exact (setsDs_key text adds seen _ (List.getElem_mem hl)).2.1
  have hne : setsDs text adds seen ≠ [] := by simp [setsDs]
  unfold valA
  rw [if_neg hne, h0, if_neg (by decide), if_neg (by decide), all_replicate _ h2, h1]
end Go.Proofs.YtilonnkohcocoaaGreatDoor
namespace Go.Proofs.YtilonnkohcocoaaGreatDoor
open Go.RowKit Go.Sort Go.Maps
set_option maxRecDepth 100000

theorem compact_upTo_rep (x : List UInt8) (n : Nat) : ∀ m, m ≤ n → Lib.compactUpTo (List.replicate n x).toArray m = if m = 0 then [] else [x] := by
  intro m
  induction m with
  | zero => intro _; rfl
  | succ m ih =>
    intro hm
    have g : ∀ j, j < n → (List.replicate n x).toArray[j]! = x := fun j hj => by
      rw [getElem!_pos _ j (by simpa using hj)]
      simp
    rw [Lib.compactUpTo_succ, ih (by omega), if_neg (by omega : ¬ m + 1 = 0)]
    by_cases h : m = 0
    · subst h
      rw [if_pos rfl, Lib.keeps_lt_one _ 0 (by decide), if_pos rfl, g 0 (by omega)]
      rfl
    · rw [if_neg h, Lib.keeps_neg (by omega) (by rw [g m (by omega), g (m - 1) (by omega)]), if_neg (by decide)]
      rfl
theorem setA_rep (t : ByteArray) (n : Nat) : setA (List.replicate n t) = if n = 0 then [] else [t.data.toList] := by
  unfold setA
  rw [List.map_replicate]
  have hp := List.mergeSort_perm (List.replicate n t.data.toList) fun x y => decide (x ≤ y)
  rw [List.perm_replicate.1 hp]
  unfold Lib.compact
  rw [List.length_replicate, compact_upTo_rep _ _ _ (Nat.le_refl _)]
set_option maxHeartbeats 1000000 in
theorem sameTexts_one (w : World) (b1 c1 b2 c2 : Nat) (t : ByteArray) (h1 : w.cell? ⟨b1, 0, none⟩ = some (.string t)) (h2 : w.cell? ⟨b2, 0, none⟩ = some (.string t)) :
    Calls Tryz.prog 30 #[.slice (some ⟨b1, 0, none⟩) 1 c1, .slice (some ⟨b2, 0, none⟩) 1 c2] w fun e w' => e = .returned (.bool true) ∧ ∃ q, w' = w.drewN q := by
  go_enter Tryz.func30, Tryz.ntmps30
  go_wp2
  refine wp_loop_rounds 2 ?_
  rw [rounds_succ]
  go_wp2
  go_quiet (fail)
  go_wp2
  rw [rounds_succ]
  go_wp2
  go_ret
  exact ⟨rfl, _, rfl⟩
end Go.Proofs.YtilonnkohcocoaaGreatDoor
namespace Go.Proofs.YtilonnkohcocoaaGreatDoor
open Go.RowKit Go.Sort Go.Maps
set_option maxRecDepth 100000

theorem heap_set {w : World} {b j : Nat} {cs : Array Value} {t : TypeId} (h : w.heap[b]? = some (.cells cs t (0, 0))) (v : Value) : (w.setCell ⟨b, j, none⟩ v).heap[b]? = some (.cells (cs.setIfInBounds j v) t (0, 0)) := by
  simp only [World.setCell, Array.getElem?_modify, h]
  simp
/-- A commit with one op that names no dots, in two blocks of its own. -/
def ComBlk (w : World) (r : List Value) (c : ComV) : Prop := ∃ wb ob o, c.ops = [o] ∧ o.dots = [] ∧ r = [.slice (some ⟨wb, 0, none⟩) 6 6, .int .i64 c.place, .slice (some ⟨ob, 0, none⟩) 1 1] ∧ c.when_.length = 6 ∧
  w.heap[wb]? = some (.cells (c.when_.map (Value.int .i64)).toArray 3 (0, 0)) ∧ w.heap[ob]? = some (.cells (opCells o (.slice none 0 0)).toArray 24 (0, 0))
theorem ComBlk.kept {w w' : World} {r : List Value} {c : ComV} (h : ComBlk w r c) (hk : ∀ (b : Nat) (cs : Array Value), w.heap[b]? = some (.cells cs 3 (0, 0)) ∨ w.heap[b]? = some (.cells cs 24 (0, 0)) ∧ cs.getD 5 undef ≠ .bool true → w'.heap[b]? = w.heap[b]?) (ho : ∀ o, c.ops = [o] → o.rem = false) : ComBlk w' r c := by
  obtain ⟨wb, ob, o, h1, h2, h3, h4, h5, h6⟩ := h
  have h7 : (opCells o (.slice none 0 0)).toArray.getD 5 undef ≠ .bool true := by
    have := ho o h1
    simp [opCells, this]
  exact ⟨wb, ob, o, h1, h2, h3, h4, by rw [hk wb _ (.inl h5)]; exact h5, by rw [hk ob _ (.inr ⟨h6, h7⟩)]; exact h6⟩
theorem ComBlk.row {w : World} {r : List Value} {c : ComV} (h : ComBlk w r c) : ComRow w r c := by
  obtain ⟨wb, ob, o, h1, h2, rfl, h4, h5, h6⟩ := h
  refine ⟨_, _, rfl, ints_lit h5 h4.symm, ?_⟩
  rw [h1]
  exact ⟨[opCells o (.slice none 0 0)], rowAt_lit h6 [_] (by simp) (fun r hr => by rw [List.mem_singleton.1 hr]; rfl) rfl (Nat.le_refl _), ⟨⟨_, rfl, by rw [h2]; exact dots_nil _⟩, trivial⟩⟩
theorem f2_append {α β : Type} {R : α → β → Prop} : ∀ {l : List α} {m : List β} {a : α} {b : β}, F2 R l m → R a b → F2 R (l ++ [a]) (m ++ [b])
  | [], [], _, _, _, h => ⟨h, trivial⟩
  | _ :: _, _ :: _, _, _, ⟨h1, h2⟩, h => ⟨h1, f2_append h2 h⟩
theorem f2_kept {α β : Type} {R S : α → β → Prop} : ∀ {l : List α} {m : List β}, F2 R l m → (∀ a b, b ∈ m → R a b → S a b) → F2 S l m
  | [], [], _, _ => trivial
  | _ :: _, _ :: _, ⟨h1, h2⟩, h => ⟨h _ _ (List.mem_cons_self ..) h1, f2_kept h2 fun a b hb => h a b (List.mem_cons_of_mem _ hb)⟩
theorem own_type {w : World} {base e size : Nat} {v : Value} {n : Nat} {xs : List Value} (h : w.ownsRow base e size v n xs) {b : Nat} (hb : v.ownBlock = some b) : ∃ cs, w.heap[b]? = some (.cells cs e (0, 0)) := by
  rcases h.2 with ⟨rfl, _⟩ | ⟨g, cap, cur, rfl, _, hh, _⟩
  · cases hb
  · obtain rfl := Option.some.inj hb
    exact ⟨_, hh⟩
theorem rowAt_of_owns {w : World} {base e k : Nat} {v : Value} {n : Nat} {rows : List (List Value)} (h : w.ownsRow base e k v n rows.flatten) (hn : n = rows.length) (hk : ∀ r ∈ rows, r.length = k) : RowAt k w v rows := by
  subst hn
  obtain ⟨_, h2⟩ := h
  rcases h2 with ⟨rfl, h0⟩ | ⟨g, cap, cur, rfl, _, hh, hc, _, hs, ht⟩
  · obtain rfl := List.eq_nil_of_length_eq_zero h0
    exact ⟨_, _, rfl, fun _ => rfl, Nat.le_refl _, .inl rfl⟩
  · refine ⟨_, cap, rfl, (fun h => by cases h), hc, .inr ⟨g, 0, rfl, fun j r hr => ?_⟩⟩
    have hj : j < rows.length := (List.getElem?_eq_some_iff.1 hr).1
    have hrm : r ∈ rows := List.mem_of_getElem? hr
    refine ⟨hk r hrm, fun i u hu => ?_⟩
    have hi : i < k := by have := (List.getElem?_eq_some_iff.1 hu).1; rw [hk r hrm] at this; exact this
    have hfl : ∀ (rows : List (List Value)) (j : Nat) (r : List Value), (∀ r ∈ rows, r.length = k) → rows[j]? = some r → ∀ i u, i < k → r[i]? = some u → rows.flatten[j * k + i]? = some u := by
      intro rows
      induction rows with
      | nil => intro j r _ h; simp at h
      | cons x rest ih =>
        intro j r hk h i u hi hu
        have hx := hk x (List.mem_cons_self ..)
        rw [List.flatten_cons]
        cases j with
        | zero =>
          simp at h
          subst h
          rw [List.getElem?_append_left (by omega), Nat.zero_mul, Nat.zero_add]
          exact hu
        | succ j =>
          rw [List.getElem?_append_right (by rw [hx, Nat.add_mul]; omega), hx, show (j + 1) * k + i - k = j * k + i by rw [Nat.add_mul]; omega]
          exact ih j r (fun r hr => hk r (List.mem_cons_of_mem _ hr)) (by simpa using h) i u hi hu
    have e := hfl rows j r hk hr i u hi hu
    have hb : j * k + i < rows.length * k := by
      have : (j + 1) * k ≤ rows.length * k := Nat.mul_le_mul_right k hj
      rw [Nat.add_mul] at this
      omega
    rw [← ht, List.getElem?_take, if_pos hb, Array.getElem?_toList] at e
    simp only [World.cell?, hh, Nat.zero_add]
    rw [e]
    simp
theorem dots_of_owns {w : World} {base n : Nat} {v : Value} {ts : List D3} (h : w.ownsRow base 65 3 v n (ts.flatMap D3.cells)) (hn : n = ts.length) : DotsAt w v ts := by
  subst hn
  rcases h.2 with ⟨rfl, h0⟩ | ⟨g, cap, cur, rfl, _⟩
  · obtain rfl := List.eq_nil_of_length_eq_zero h0
    exact dots_nil _
  · obtain ⟨h1, _, _, _, h5⟩ := holds3_of_owns h
    simpa using dots_of_holds h1 (by simpa using h5)

/-- k commits are made, s dots are seen; the drop lies in its box. -/
structure SetsInv (w0 : World) (text : ByteArray) (k s : Nat) (lv dv : Value) (rows : List (List Value)) (w : World) : Prop where
  below : Below w0.heap.size w0 w
  size : w0.heap.size + 1 ≤ w.heap.size
  box : w.heap[w0.heap.size]? = some (.cells (opCells (dropOp text 0) dv).toArray 24 (0, 0))
  dots : w.ownsRow (w0.heap.size + 1) 65 3 dv s (((List.range s).map dotI).flatMap D3.cells)
  row : w.ownsRow (w0.heap.size + 1) 28 3 lv k rows.flatten
  coms : F2 (ComBlk w) rows ((List.range k).map (comI text))
theorem comI_rem {text : ByteArray} {k : Nat} {c : ComV} (h : c ∈ (List.range k).map (comI text)) : ∀ o, c.ops = [o] → o.rem = false := by
  obtain ⟨i, _, rfl⟩ := List.mem_map.1 h
  intro o ho
  obtain rfl : addOp text = o := by simpa [comI] using ho
  rfl
theorem lt_of_heap {w : World} {b : Nat} {o : Obj} (h : w.heap[b]? = some o) : b < w.heap.size := (Array.getElem?_eq_some_iff.1 h).1
theorem owns_below {w w' : World} {base e size : Nat} {v : Value} {n : Nat} {xs : List Value} (h : w.ownsRow base e size v n xs) (hb : ∀ (b : Nat) (cs : Array Value), w.heap[b]? = some (.cells cs e (0, 0)) → w'.heap[b]? = w.heap[b]?) : w'.ownsRow base e size v n xs := by
  obtain ⟨h1, h2⟩ := h
  refine ⟨h1, ?_⟩
  rcases h2 with h2 | ⟨g, cap, cur, hv, hg, hh, r⟩
  · exact .inl h2
  · exact .inr ⟨g, cap, cur, hv, hg, by rw [hb g _ hh]; exact hh, r⟩
theorem SetsInv.moved {w0 w w' : World} {text : ByteArray} {k s : Nat} {lv dv : Value} {rows : List (List Value)} (h : SetsInv w0 text k s lv dv rows w) (hb : Below w.heap.size w w') : SetsInv w0 text k s lv dv rows w' where
  below := h.below.trans (hb.mono (by have := h.size; omega))
  size := Nat.le_trans h.size hb.size
  box := by rw [hb.block _ (by have := h.size; omega)]; exact h.box
  dots := owns_below h.dots fun b cs hc => hb.block b (lt_of_heap hc)
  row := owns_below h.row fun b cs hc => hb.block b (lt_of_heap hc)
  coms := f2_kept h.coms fun a b hm hc => hc.kept (fun b cs h => hb.block b (by rcases h with h | ⟨h, _⟩ <;> exact lt_of_heap h)) (comI_rem hm)
theorem SetsInv.commit {w0 w w' : World} {text : ByteArray} {k s : Nat} {lv lv' dv : Value} {rows : List (List Value)} {r : List Value} (h : SetsInv w0 text k s lv dv rows w) (hg : w.grownBy w' lv.ownBlock) (hr : w'.ownsRow (w0.heap.size + 1) 28 3 lv' (k + 1) (rows.flatten ++ r)) (hc : ComBlk w r (comI text k)) : SetsInv w0 text (k + 1) s lv' dv (rows ++ [r]) w' := by
  have hne : ∀ (b : Nat) (cs : Array Value) (t : TypeId), t ≠ 28 → w.heap[b]? = some (.cells cs t (0, 0)) → w'.heap[b]? = w.heap[b]? := fun b cs t ht hb => hg.block b (lt_of_heap hb) fun e => by
    obtain ⟨cs', h'⟩ := own_type h.row e.symm
    rw [hb] at h'
    injection h' with h'
    injection h' with _ h'
    exact ht h'
  have kp : ∀ r c, (∀ o, c.ops = [o] → o.rem = false) → ComBlk w r c → ComBlk w' r c := fun r c hm hc => hc.kept (fun b cs h => by
    rcases h with h | ⟨h, _⟩
    · exact hne b cs 3 (by decide) h
    · exact hne b cs 24 (by decide) h) hm
  refine ⟨h.below.trans ⟨hg.os, hg.tape, hg.output, hg.size, fun i hi => hg.block i (by have := h.size; omega) fun e => by have := (h.row.lt i e.symm).1; omega⟩, Nat.le_trans h.size hg.size, by rw [hne _ _ 24 (by decide) h.box]; exact h.box, owns_below h.dots fun b cs hb => hne b cs 65 (by decide) hb, by simpa using hr, ?_⟩
  rw [List.range_succ, List.map_append]
  exact f2_append (f2_kept h.coms fun a b hm hc => kp a b (comI_rem hm) hc) (kp r _ (fun o ho => by obtain rfl : addOp text = o := by simpa [comI] using ho
                                                                                                    rfl) hc)
theorem SetsInv.seen {w0 w w1 : World} {text : ByteArray} {k s : Nat} {lv dv dv' : Value} {rows : List (List Value)} (h : SetsInv w0 text k s lv dv rows w) (hg : w.grownBy w1 dv.ownBlock) (hr : w1.ownsRow (w0.heap.size + 1) 65 3 dv' (s + 1) (((List.range s).map dotI).flatMap D3.cells ++ (dotI s).cells)) : SetsInv w0 text k (s + 1) lv dv' rows (w1.setCell ⟨w0.heap.size, 6, none⟩ dv') := by
  have hne : ∀ (b : Nat) (cs : Array Value) (t : TypeId), t ≠ 65 → w.heap[b]? = some (.cells cs t (0, 0)) → w1.heap[b]? = w.heap[b]? := fun b cs t ht hb => hg.block b (lt_of_heap hb) fun e => by
    obtain ⟨cs', h'⟩ := own_type h.dots e.symm
    rw [hb] at h'
    injection h' with h'
    injection h' with _ h'
    exact ht h'
  have hbx : w1.heap[w0.heap.size]? = some (.cells (opCells (dropOp text 0) dv).toArray 24 (0, 0)) := by rw [hne _ _ 24 (by decide) h.box]; exact h.box
  have hb1 : Below w0.heap.size w0 w1 := h.below.trans ⟨hg.os, hg.tape, hg.output, hg.size, fun i hi => hg.block i (by have := h.size; omega) fun e => by have := (h.dots.lt i e.symm).1; omega⟩
  have hs : ∀ i : Nat, i ≠ w0.heap.size → (w1.setCell ⟨w0.heap.size, 6, none⟩ dv').heap[i]? = w1.heap[i]? := fun i hi => Below.heap_setCell _ _ _ _ hi
  refine ⟨hb1.setCell (Nat.le_refl _) _, by have := h.size; have := hg.size; simp [World.setCell]; omega, ?_, ?_, ?_, ?_⟩
  · rw [heap_set hbx]
    rfl
  · have := ownsRow_setCell_below hr (a := ⟨w0.heap.size, 6, none⟩) (Nat.lt_succ_self _) dv'
    rw [List.range_succ, List.map_append, List.flatMap_append]
    simpa using this
  · exact ownsRow_setCell_below (owns_below h.row fun b cs hb => hne b cs 28 (by decide) hb) (Nat.lt_succ_self _) dv'
  · refine f2_kept h.coms fun a c hm hc => hc.kept (fun b cs hb => ?_) (comI_rem hm)
    have e1 : w1.heap[b]? = w.heap[b]? := by
      rcases hb with hb | ⟨hb, _⟩
      · exact hne b cs 3 (by decide) hb
      · exact hne b cs 24 (by decide) hb
    rw [hs b (fun e => ?_)]
    · exact e1
    · rw [e, h.box] at hb
      rcases hb with hb | ⟨hb, hb2⟩
      · injection hb with hb
        injection hb with _ hb
        exact absurd hb (by decide)
      · injection hb with hb
        injection hb with hb
        subst hb
        exact hb2 rfl
theorem SetsInv.start (w0 : World) (text : ByteArray) : SetsInv w0 text 0 0 (.slice none 0 0) (.slice none 0 0) [] (w0.alloc (.cells (opCells (dropOp text 0) (.slice none 0 0)).toArray 24 (0, 0))) where
  below := below_alloc _ _
  size := by simp
  box := (MapKept.heap_alloc _ _).1
  dots := World.ownsRow_nil _ _ _ _
  row := World.ownsRow_nil _ _ _ _
  coms := trivial
/-- All are made, and the last one that drops. -/
theorem SetsInv.all {w0 w w' : World} {text : ByteArray} {k s : Nat} {lv lv' dv : Value} {rows : List (List Value)} {wb ob : Nat} (h : SetsInv w0 text k s lv dv rows w) (hg : w.grownBy w' lv.ownBlock)
    (hr : w'.ownsRow (w0.heap.size + 1) 28 3 lv' (k + 1) (rows.flatten ++ [.slice (some ⟨wb, 0, none⟩) 6 6, .int .i64 0, .slice (some ⟨ob, 0, none⟩) 1 1]))
    (hs : s ≤ 6) (hw : w.heap[wb]? = some (.cells ((whenD s).map (Value.int .i64)).toArray 3 (0, 0))) (ho : w.heap[ob]? = some (.cells (opCells (dropOp text s) dv).toArray 24 (0, 0))) : ComsAt w' lv' (setsL text k s) ∧ Below w0.heap.size w0 w' := by
  have hne : ∀ (b : Nat) (cs : Array Value) (t : TypeId), t ≠ 28 → w.heap[b]? = some (.cells cs t (0, 0)) → w'.heap[b]? = w.heap[b]? := fun b cs t ht hb => hg.block b (lt_of_heap hb) fun e => by
    obtain ⟨cs', h'⟩ := own_type h.row e.symm
    rw [hb] at h'
    injection h' with h'
    injection h' with _ h'
    exact ht h'
  refine ⟨⟨rows ++ [[.slice (some ⟨wb, 0, none⟩) 6 6, .int .i64 0, .slice (some ⟨ob, 0, none⟩) 1 1]], ?_, ?_⟩, h.below.trans ⟨hg.os, hg.tape, hg.output, hg.size, fun i hi => hg.block i (by have := h.size; omega) fun e => by have := (h.row.lt i e.symm).1; omega⟩⟩
  · refine rowAt_of_owns (by simpa using hr) ?_ ?_
    · have := f2_len h.coms
      simp at this
      simp [this]
    · intro r hr
      rcases List.mem_append.1 hr with hr | hr
      · obtain ⟨i, hi, rfl⟩ := List.getElem_of_mem hr
        have hl := f2_len h.coms
        have : ∀ {rows : List (List Value)} {cs : List ComV}, F2 (ComBlk w) rows cs → ∀ r ∈ rows, r.length = 3 := by
          intro rows
          induction rows with
          | nil => intro _ _ r hr; simp at hr
          | cons x t ih =>
            intro cs hf r hr
            match cs, hf with
            | _ :: _, ⟨h1, h2⟩ =>
              rcases List.mem_cons.1 hr with rfl | hr
              · obtain ⟨_, _, _, _, _, rfl, _⟩ := h1
                rfl
              · exact ih h2 r hr
        exact this h.coms _ (List.getElem_mem hi)
      · rw [List.mem_singleton.1 hr]
        rfl
  · unfold setsL
    refine f2_append (f2_kept h.coms fun a c hm hc => (hc.kept (fun b cs hb => ?_) (comI_rem hm)).row) ?_
    · rcases hb with hb | ⟨hb, _⟩
      · exact hne b cs 3 (by decide) hb
      · exact hne b cs 24 (by decide) hb
    · refine ⟨_, _, rfl, ints_lit (by rw [hne _ _ 3 (by decide) hw]; exact hw) (whenD_len hs).symm, [opCells (dropOp text s) dv], rowAt_lit (by rw [hne _ _ 24 (by decide) ho]; exact ho) [_] (by simp) (fun r hr => by rw [List.mem_singleton.1 hr]; rfl) rfl (Nat.le_refl _), ⟨⟨_, rfl, ?_⟩, trivial⟩⟩
      exact dots_of_owns (ts := (List.range s).map dotI) (owns_below h.dots fun b cs hb => hne b cs 65 (by decide) hb) (by rw [List.length_map, List.length_range])
end Go.Proofs.YtilonnkohcocoaaGreatDoor
namespace Go.Proofs.YtilonnkohcocoaaGreatDoor
open Go.RowKit Go.Sort Go.Maps
set_option maxRecDepth 100000

theorem Tryz.info3 : (Tryz.prog.info? 3).map (fun i => (i.zero, i.size, i.bytes)) = some (some (.int .i64 0), 1, 8) := by kernel_rfl
theorem Tryz.info28 : (Tryz.prog.info? 28).map (fun i => (i.zero, i.size, i.bytes)) = some (some (.agg #[.slice none 0 0, .int .i64 0, .slice none 0 0]), 3, 56) := by kernel_rfl
def zero6 : Obj := .cells #[.int .i64 0, .int .i64 0, .int .i64 0, .int .i64 0, .int .i64 0, .int .i64 0] 3
theorem run_make6 (w : World) : (Instr.makeSlice 25 (.int .i64 6) (.int .i64 6)).run Tryz.prog w = .ok (.slice (some ⟨w.heap.size, 0, none⟩) 6 6) (w.alloc zero6) := by
  obtain ⟨i0, hi, hz0, hz1, hz2⟩ := info_parts Tryz.info3
  have := run_makeSlice (P := Tryz.prog) w 25 3 i0 _ Tryz.underlying25 hi hz0 .i64 .i64 6 6 (by decide) (by decide) (by rw [hz1]; decide) (by rw [hz2]; decide) (by decide)
  rw [this, hz1, show madeCells (Value.int .i64 0).cells (Int.toNat 6 * 1) = #[.int .i64 0, .int .i64 0, .int .i64 0, .int .i64 0, .int .i64 0, .int .i64 0] by kernel_rfl]
  rfl
theorem zero6_cell (w : World) {k : Nat} (hk : k < 6) : (w.alloc zero6).cell? ⟨w.heap.size, k, none⟩ = some (.int .i64 0) ∧ (w.alloc zero6).frozen? ⟨w.heap.size, k, none⟩ = false := by
  have h : (w.alloc zero6).heap[w.heap.size]? = some zero6 := (MapKept.heap_alloc _ _).1
  constructor
  · simp only [World.cell?]
    rw [h]
    rcases (by omega : k = 0 ∨ k = 1 ∨ k = 2 ∨ k = 3 ∨ k = 4 ∨ k = 5) with rfl | rfl | rfl | rfl | rfl | rfl <;> rfl
  · simp only [World.frozen?]
    rw [h]
    simp [zero6]
theorem below_set (w : World) (o : Obj) (k : Nat) (v : Value) : Below w.heap.size w ((w.alloc o).setCell ⟨w.heap.size, k, none⟩ v) := (below_alloc w o).setCell (Nat.le_refl _) v
theorem sets_when {w0 wr : World} {text : ByteArray} {k s : Nat} {lv dv : Value} {rows : List (List Value)} (h : SetsInv w0 text k s lv dv rows wr) (hk : k < 6) :
    SetsInv w0 text k s lv dv rows ((wr.alloc zero6).setCell ⟨wr.heap.size, k, none⟩ (.int .i64 1)) ∧ ((wr.alloc zero6).setCell ⟨wr.heap.size, k, none⟩ (.int .i64 1)).heap.size = wr.heap.size + 1 ∧ ((wr.alloc zero6).setCell ⟨wr.heap.size, k, none⟩ (.int .i64 1)).heap[wr.heap.size]? = some (.cells ((whenI k).map (Value.int .i64)).toArray 3 (0, 0)) := by
  refine ⟨h.moved (below_set wr _ k _), by simp [World.setCell], ?_⟩
  have h0 : (wr.alloc zero6).heap[wr.heap.size]? = some (.cells #[.int .i64 0, .int .i64 0, .int .i64 0, .int .i64 0, .int .i64 0, .int .i64 0] 3 (0, 0)) := (MapKept.heap_alloc _ _).1
  rw [heap_set h0]
  rcases (by omega : k = 0 ∨ k = 1 ∨ k = 2 ∨ k = 3 ∨ k = 4 ∨ k = 5) with rfl | rfl | rfl | rfl | rfl | rfl <;> rfl
theorem one3 (a b : Addr) (k : Int) : ∀ v ∈ [Value.slice (some a) 6 6, .int .i64 k, .slice (some b) 1 1], v.oneCell' = true := fun v hv => by
  simp only [List.mem_cons, List.not_mem_nil, or_false] at hv
  rcases hv with rfl | rfl | rfl <;> rfl
theorem sets_commit {w0 wB w2 : World} {text : ByteArray} {k s z : Nat} {lv lv' dv : Value} {rows : List (List Value)} (h : SetsInv w0 text k s lv dv rows wB) (hz : wB.heap[z]? = some (.cells ((whenI k).map (Value.int .i64)).toArray 3 (0, 0)))
    (hg : ((wB.alloc (.cells #[.int .i64 0, .string ⟨#[115]⟩, .int .i64 3, .string text, .int .i64 0, .bool false, .slice none 0 0] 24)).alloc (.cells #[.slice (some ⟨z, 0, none⟩) 6 6, .int .i64 k, .slice (some ⟨wB.heap.size, 0, none⟩) 1 1] 28)).grownBy w2 lv.ownBlock)
    (hr : w2.ownsRow (w0.heap.size + 1) 28 3 lv' (k + 1) (rows.flatten ++ [.slice (some ⟨z, 0, none⟩) 6 6, .int .i64 k, .slice (some ⟨wB.heap.size, 0, none⟩) 1 1])) :
    SetsInv w0 text (k + 1) s lv' dv (rows ++ [[.slice (some ⟨z, 0, none⟩) 6 6, .int .i64 k, .slice (some ⟨wB.heap.size, 0, none⟩) 1 1]]) w2 := by
  have hzl := lt_of_heap hz
  refine (h.moved (below2 wB _ _)).commit hg hr ⟨z, wB.heap.size, addOp text, rfl, rfl, rfl, whenI_len k, ?_, ?_⟩
  · rw [(MapKept.heap_alloc _ _).2 _ (by simp; omega), (MapKept.heap_alloc _ _).2 _ hzl]
    exact hz
  · rw [(MapKept.heap_alloc _ _).2 _ (by simp)]
    exact (MapKept.heap_alloc _ _).1
theorem SetsInv.cell {w0 w : World} {text : ByteArray} {k s : Nat} {lv dv : Value} {rows : List (List Value)} (h : SetsInv w0 text k s lv dv rows w) : w.cell? ⟨w0.heap.size, 6, none⟩ = some dv ∧ w.frozen? ⟨w0.heap.size, 6, none⟩ = false := by
  constructor
  · simp only [World.cell?, h.box]
    rfl
  · simp only [World.frozen?, h.box]
    simp
theorem SetsInv.cell2 {w0 w w1 : World} {text : ByteArray} {k s : Nat} {lv dv : Value} {rows : List (List Value)} {o : Obj} (h : SetsInv w0 text k s lv dv rows w) (hg : (w.alloc o).grownBy w1 dv.ownBlock) : w1.cell? ⟨w0.heap.size, 6, none⟩ = some dv ∧ w1.frozen? ⟨w0.heap.size, 6, none⟩ = false := by
  have h' := h.moved (below_alloc w o)
  have e : w1.heap[w0.heap.size]? = some (.cells (opCells (dropOp text 0) dv).toArray 24 (0, 0)) := by
    rw [hg.block _ (by have := h'.size; omega) (fun e => by have := (h'.dots.lt _ e.symm).1; omega)]
    exact h'.box
  constructor
  · simp only [World.cell?, e]
    rfl
  · simp only [World.frozen?, e]
    simp
def onesL (j : Nat) : List Int := List.replicate j 1 ++ List.replicate (6 - j) 0
/-- Where the second loop stands. -/
structure Ones (wr : World) (j : Nat) (w : World) : Prop where
  below : Below wr.heap.size wr w
  size : w.heap.size = wr.heap.size + 1
  arr : w.heap[wr.heap.size]? = some (.cells ((onesL j).map (Value.int .i64)).toArray 3 (0, 0))
theorem Ones.start (wr : World) : Ones wr 0 (wr.alloc zero6) := ⟨below_alloc _ _, by simp, (MapKept.heap_alloc _ _).1⟩
theorem Ones.step {wr w : World} {j : Nat} (h : Ones wr j w) (hj : j < 6) : Ones wr (j + 1) (w.setCell ⟨wr.heap.size, j, none⟩ (.int .i64 1)) := by
  refine ⟨h.below.setCell (Nat.le_refl _) _, by simp [World.setCell, h.size], ?_⟩
  rw [heap_set h.arr]
  rcases (by omega : j = 0 ∨ j = 1 ∨ j = 2 ∨ j = 3 ∨ j = 4 ∨ j = 5) with rfl | rfl | rfl | rfl | rfl | rfl <;> rfl
theorem Ones.cell {wr w : World} {j : Nat} (h : Ones wr j w) {i : Nat} (hj : j ≤ 6) (hi : i < 6) : ∃ x, w.cell? ⟨wr.heap.size, i, none⟩ = some (.int .i64 x) ∧ w.frozen? ⟨wr.heap.size, i, none⟩ = false := by
  have hl : i < (onesL j).length := by simp [onesL]; omega
  refine ⟨(onesL j)[i], ?_, ?_⟩
  · simp only [World.cell?]
    rw [h.arr]
    simp [hl]
  · simp only [World.frozen?]
    rw [h.arr]
    simp
theorem Ones.last {wr w : World} {j : Nat} (h : Ones wr j w) (hj : j ≤ 6) : Below wr.heap.size wr (w.setCell ⟨wr.heap.size, 0, none⟩ (.int .i64 2)) ∧ (w.setCell ⟨wr.heap.size, 0, none⟩ (.int .i64 2)).heap[wr.heap.size]? = some (.cells ((whenD j).map (Value.int .i64)).toArray 3 (0, 0)) := by
  refine ⟨h.below.setCell (Nat.le_refl _) _, ?_⟩
  rw [heap_set h.arr]
  rcases (by omega : j = 0 ∨ j = 1 ∨ j = 2 ∨ j = 3 ∨ j = 4 ∨ j = 5 ∨ j = 6) with rfl | rfl | rfl | rfl | rfl | rfl | rfl <;> rfl
theorem SetsInv.cells {w0 w : World} {text : ByteArray} {k s : Nat} {lv dv : Value} {rows : List (List Value)} (h : SetsInv w0 text k s lv dv rows w) : w.cell? ⟨w0.heap.size, 0, none⟩ = some (.int .i64 0) ∧ w.cell? ⟨w0.heap.size, 1, none⟩ = some (.string ⟨#[115]⟩) ∧ w.cell? ⟨w0.heap.size, 2, none⟩ = some (.int .i64 3) ∧ w.cell? ⟨w0.heap.size, 3, none⟩ = some (.string text) ∧ w.cell? ⟨w0.heap.size, 4, none⟩ = some (.int .i64 0) ∧ w.cell? ⟨w0.heap.size, 5, none⟩ = some (.bool true) ∧ w.cell? ⟨w0.heap.size, 6, none⟩ = some dv := by
  refine ⟨?_, ?_, ?_, ?_, ?_, ?_, ?_⟩ <;> (simp only [World.cell?, h.box]; rfl)
theorem sets_all {w0 wC w2 : World} {text : ByteArray} {k s z : Nat} {lv lv' dv : Value} {rows : List (List Value)} (h : SetsInv w0 text k s lv dv rows wC) (hs : s ≤ 6) (hz : wC.heap[z]? = some (.cells ((whenD s).map (Value.int .i64)).toArray 3 (0, 0)))
    (hg : ((wC.alloc (.cells #[.int .i64 0, .string ⟨#[115]⟩, .int .i64 3, .string text, .int .i64 0, .bool true, dv] 24)).alloc (.cells #[.slice (some ⟨z, 0, none⟩) 6 6, .int .i64 0, .slice (some ⟨wC.heap.size, 0, none⟩) 1 1] 28)).grownBy w2 lv.ownBlock)
    (hr : w2.ownsRow (w0.heap.size + 1) 28 3 lv' (k + 1) (rows.flatten ++ [.slice (some ⟨z, 0, none⟩) 6 6, .int .i64 0, .slice (some ⟨wC.heap.size, 0, none⟩) 1 1])) :
    ComsAt w2 lv' (setsL text k s) ∧ Below w0.heap.size w0 w2 := by
  have hzl := lt_of_heap hz
  refine (h.moved (below2 wC _ _)).all hg hr hs ?_ ?_
  · rw [(MapKept.heap_alloc _ _).2 _ (by simp; omega), (MapKept.heap_alloc _ _).2 _ hzl]
    exact hz
  · rw [(MapKept.heap_alloc _ _).2 _ (by simp)]
    exact (MapKept.heap_alloc _ _).1
theorem own_shape {w : World} {base e size : Nat} {v : Value} {n : Nat} {xs : List Value} (h : w.ownsRow base e size v n xs) : ∃ a c, v = .slice a n c := by
  rcases h.2 with ⟨rfl, rfl⟩ | ⟨g, cap, cur, rfl, _⟩
  · exact ⟨_, _, rfl⟩
  · exact ⟨_, _, rfl⟩
set_option maxHeartbeats 4000000 in
theorem sets_walk (A : Nat → Addr) (w : World) (hE : E4 A w) (h4 : 4 ≤ w.heap.size) (text : ByteArray) (adds seen : Int) :
    Calls Tryz.prog 7 #[.string text, .int .i64 adds, .int .i64 seen] w fun e w' => e = .returned (.bool true) ∧ Below w.heap.size w w' := by
  have K8 := worth_true A w hE h4
  have hms := run_make6
  obtain ⟨i28, hi28, hy0, hy1, hy2⟩ := info_parts Tryz.info28
  obtain ⟨i65, hi65, hx0, hx1, hx2⟩ := info_parts Tryz.info65
  have HE := hid hE
  clear hE
  go_enter Tryz.func7, Tryz.ntmps7
  by_cases h1 : adds < 1
  · go_wp2_with (go_at_call 9; refine K8.mono ?_; rintro e w' ⟨rfl, hb⟩)
    go_ret
    exact ⟨rfl, hb⟩
  by_cases h2 : 6 < adds
  · go_wp2_with (go_at_call 9; refine K8.mono ?_; rintro e w' ⟨rfl, hb⟩)
    go_ret
    exact ⟨rfl, hb⟩
  by_cases h3 : seen < 0
  · go_wp2_with (go_at_call 9; refine K8.mono ?_; rintro e w' ⟨rfl, hb⟩)
    go_ret
    exact ⟨rfl, hb⟩
  by_cases h5 : adds < seen
  · go_wp2_with (go_at_call 9; refine K8.mono ?_; rintro e w' ⟨rfl, hb⟩)
    go_ret
    exact ⟨rfl, hb⟩
  by_cases h6 : (60 : Int) < text.size
  · go_wp2_with (go_at_call 9; refine K8.mono ?_; rintro e w' ⟨rfl, hb⟩)
    go_ret
    exact ⟨rfl, hb⟩
  obtain ⟨n, rfl⟩ : ∃ n : Nat, adds = n := ⟨adds.toNat, by omega⟩
  obtain ⟨m, rfl⟩ : ∃ m : Nat, seen = m := ⟨seen.toNat, by omega⟩
  have HN : Hid (1 ≤ n ∧ n ≤ 6 ∧ m ≤ n ∧ text.size ≤ 60) := hid (by omega)
  have d1 : decide ((n : Int) < 1) = false := decide_eq_false h1
  have d2 : decide (6 < (n : Int)) = false := decide_eq_false h2
  have d3 : decide ((m : Int) < 0) = false := decide_eq_false h3
  have d4 : decide (n < m) = false := decide_eq_false (by omega)
  have d5 : decide ((60 : Int) < (text.size : Int)) = false := decide_eq_false h6
  clear h1 h2 h3 h5 h6
  go_wp2_with (go_at_call 9; refine K8.mono ?_; rintro e w0 ⟨rfl, hb⟩)
  have HB := hid hb
  clear hb K8 d1 d2 d3 d4 d5
  obtain ⟨h1, h2, h3, h5⟩ := HN.out
  go_loopw [8, 10] (fun v i wr => ∃ (k : Nat) (dv : Value) (rows : List (List Value)), k ≤ n ∧ i = .int .i64 k ∧ Hid (SetsInv w0 text k (min k m) v dv rows wr)) (fun _ i _ => n - (intOf i).toNat)
  case atStart => exact ⟨0, .slice none 0 0, [], Nat.zero_le _, rfl, by rw [Nat.zero_min]; exact SetsInv.start w0 text⟩
  case round =>
    obtain ⟨k, dv, rows, hk, rfl, HI⟩ := hrel
    by_cases hlt : k < n
    · have hlt' : (k : Int) < (n : Int) := by omega
      have hk6 : k < 6 := by omega
      obtain ⟨zc, zf⟩ := zero6_cell wr hk6
      go_upto_region 11 with (fail)
      obtain ⟨wB, hwB⟩ : ∃ wB, wB = (wr.alloc zero6).setCell ⟨wr.heap.size, k, none⟩ (.int .i64 1) := ⟨_, rfl⟩
      rw [← hwB]
      obtain ⟨IB, SB, CB⟩ : SetsInv w0 text k (min k m) u8 dv rows wB ∧ wB.heap.size = wr.heap.size + 1 ∧ wB.heap[wr.heap.size]? = some (.cells ((whenI k).map (Value.int .i64)).toArray 3 (0, 0)) := by rw [hwB]; exact sets_when HI.out hk6
      have HSB := hid SB
      have HCB := hid CB
      have hrow := IB.row
      clear hwB zc zf SB CB HI
      obtain ⟨z, hz⟩ : ∃ z, z = wr.heap.size := ⟨_, rfl⟩
      rw [← hz] at HCB ⊢
      have HZ := hid hz
      clear hz
      go_upto_region 12 with (at_builtin; refine wpList_append_own _ rfl _ _ 43 rfl (w0.heap.size + 1) 28 i28 _ 3 56 Tryz.underlying43 hi28 hy0 hy1 hy2 rfl (by decide) _ _ _ rfl ((hrow.alloc _).alloc _) ⟨wB.heap.size + 1, 0, none⟩ 1 1 [.slice (some ⟨z, 0, none⟩) 6 6, .int .i64 k, .slice (some ⟨wB.heap.size, 0, none⟩) 1 1] rfl rfl (cells11_new _ _ _ _ (by simp)) ?ho1 ?ho2 ?ho3 ?ho4 ?_; (case ho1 => exact one3 _ _ _); (case ho2 => unfold maxLen; omega); (case ho3 => omega); (case ho4 => have := IB.size; simp; omega); intro v' w2 hown' hgrow2 hnil2)
      have I2 := sets_commit IB HCB.out hgrow2 hown'
      obtain ⟨rows2, hrows2⟩ : ∃ r, r = rows ++ [[.slice (some ⟨z, 0, none⟩) 6 6, .int .i64 k, .slice (some ⟨wB.heap.size, 0, none⟩) 1 1]] := ⟨_, rfl⟩
      rw [← hrows2] at I2
      clear hrows2 hown' hgrow2 hnil2 IB hrow HCB HSB HZ
      by_cases hkm : k < m
      · rw [Nat.min_eq_left (by omega : k ≤ m)] at I2
        obtain ⟨c6, f6⟩ := I2.cell
        have hdots := I2.dots
        have hsz2 := I2.size
        have H2 := hid I2
        clear I2
        go_wp2_with (at_builtin; refine wpList_append_own _ rfl _ _ 22 rfl (w0.heap.size + 1) 65 i65 _ 3 24 Tryz.underlying22 hi65 hx0 hx1 hx2 rfl (by decide) _ _ _ rfl (hdots.alloc _) ⟨w2.heap.size, 0, none⟩ 1 1 [.int .i64 k, .int .i64 1, .int .i64 0] rfl rfl (cells11_new _ _ _ _ rfl) ?ho1 ?ho2 ?ho3 ?ho4 ?_; (case ho1 => exact D3.one (dotI k)); (case ho2 => unfold maxLen; omega); (case ho3 => omega); (case ho4 => simp; omega); intro v3 w3 hown3 hgrow3 hnil3; obtain ⟨g6, e6⟩ := H2.out.cell2 hgrow3; obtain ⟨a3, c3, rfl⟩ := own_shape hown3)
        go_roundw
        case rel => exact ⟨k + 1, _, rows2, by omega, by go_num, by rw [Nat.min_eq_left (by omega : k + 1 ≤ m)]; exact (H2.out.moved (below_alloc _ _)).seen hgrow3 hown3⟩
        case measure => simp [intOf]; omega
      · rw [Nat.min_eq_right (by omega : m ≤ k)] at I2
        have H2 := hid I2
        clear I2
        go_wp2
        go_roundw
        case rel => exact ⟨k + 1, dv, rows2, by omega, by go_num, by rw [Nat.min_eq_right (by omega : m ≤ k + 1)]; exact H2.out⟩
        case measure => simp [intOf]; omega
    · obtain rfl : k = n := by omega
      rw [Nat.min_eq_right (by omega : m ≤ k)] at HI
      go_upto_region 16 with (fail)
      obtain ⟨wo, hwo⟩ : ∃ wo : World, wo = wr := ⟨wr, rfl⟩
      subst hwo
      go_loopw [13] (fun i wj => ∃ j : Nat, j ≤ m ∧ i = .int .i64 j ∧ Hid (Ones wo j wj)) (fun i _ => m - (intOf i).toNat)
      case atStart => exact ⟨0, Nat.zero_le _, rfl, Ones.start wo⟩
      case round =>
        obtain ⟨j, hj, rfl, HO⟩ := hrel
        by_cases hjm : j < m
        · have hj6 : j < 6 := by omega
          obtain ⟨x, xc, xf⟩ := HO.out.cell (by omega) hj6
          go_wp2
          go_roundw
          case rel => exact ⟨j + 1, by omega, by go_num, HO.out.step hj6⟩
          case measure => simp [intOf]; omega
        · obtain rfl : j = m := by omega
          obtain ⟨x, xc, xf⟩ := HO.out.cell (i := 0) (by omega) (by decide)
          go_upto_region 20 with (fail)
          obtain ⟨bC, aC⟩ := HO.out.last (by omega)
          obtain ⟨wC, hwC⟩ : ∃ wC, wC = wr.setCell ⟨wo.heap.size, 0, none⟩ (.int .i64 2) := ⟨_, rfl⟩
          rw [← hwC] at bC aC ⊢
          have IC := HI.out.moved bC
          obtain ⟨z, hz⟩ : ∃ z, z = wo.heap.size := ⟨_, rfl⟩
          rw [← hz] at aC ⊢
          have HAC := hid aC
          obtain ⟨c0, c1, c2, c3, c4, c5, c6⟩ := IC.cells
          have hrow := IC.row
          have hszC := IC.size
          obtain ⟨da, dc, hdv⟩ := own_shape IC.dots
          subst hdv
          have HIC := hid IC
          clear hwC hz xc xf bC aC IC HI HO
          go_upto_region 21 with (at_builtin; refine wpList_append_own _ rfl _ _ 43 rfl (w0.heap.size + 1) 28 i28 _ 3 56 Tryz.underlying43 hi28 hy0 hy1 hy2 rfl (by decide) _ _ _ rfl ((hrow.alloc _).alloc _) ⟨wC.heap.size + 1, 0, none⟩ 1 1 [.slice (some ⟨z, 0, none⟩) 6 6, .int .i64 0, .slice (some ⟨wC.heap.size, 0, none⟩) 1 1] rfl rfl (cells11_new _ _ _ _ (by simp)) ?ho1 ?ho2 ?ho3 ?ho4 ?_; (case ho1 => exact one3 _ _ _); (case ho2 => unfold maxLen; omega); (case ho3 => omega); (case ho4 => simp; omega); intro v' w2 hown' hgrow2 hnil2)
          obtain ⟨hC, bw2⟩ := sets_all HIC.out (by omega) HAC.out hgrow2 hown'
          have bA := HB.out.trans (bw2.mono HB.out.size)
          have hE2 := HE.out.below bA h4
          have h42 : 4 ≤ w2.heap.size := Nat.le_trans h4 bA.size
          have K18 := of_ok A w2 hE2 h42 ⟨#[115]⟩ (by rfl) v' (setsL text k j) hC (by rw [sets_len]; omega) (sets_small text (by omega) (by omega)) (sets_ok text (by omega) (by omega) (by omega))
          obtain ⟨va, vc, hv'⟩ := own_shape hown'
          subst hv'
          have HC := hid hC
          have HBA := hid bA
          have HE2 := hid hE2
          clear c0 c1 c2 c3 c4 c5 c6 hrow hszC HIC HAC hown' hgrow2 hnil2 hC bw2 bA hE2
          go_wp2_with fail
          refine K18.mono ?_
          rintro e w4 ⟨v4, ds, rfl, hds, hv4, hb4⟩
          rw [sets_ops text (by omega) (by omega) hds, sets_val text (by omega) (by omega), setA_rep] at hv4
          have b4 := HBA.out.trans (hb4.mono HBA.out.size)
          have K20 := fun o => dots_ok A (w4.alloc o) ((HE.out.below b4 h4).below (below_alloc w4 o) (Nat.le_trans h4 b4.size)) (by have := b4.size; simp; omega) ⟨#[115]⟩ text (by rfl) (.slice va (k + 1) vc) (setsL text k j) ((HC.out.mono hb4 (Nat.le_refl _)).mono (below_alloc w4 o) (Nat.le_refl _)) (by rw [sets_len]; omega) (sets_small text (by omega) (by omega)) (sets_ok text (by omega) (by omega) (by omega))
          have HB4 := hid b4
          clear K18 hds hb4 b4 HC HE2
          have hsub : ((k - j : Nat) : Int) = (k : Int) - (j : Int) := by omega
          have HSUB := hid hsub
          clear hsub
          by_cases hjk : j = k
          · subst hjk
            rw [if_pos (Nat.sub_self _)] at hv4
            obtain ⟨sv, rfl, ad, cap, rfl, hstr⟩ := hv4
            clear hstr
            go_wp2_with fail
            refine (K20 _).mono ?_
            rintro e w6 ⟨v6, ds, out, rfl, hds, hd, hda, hb6⟩
            rw [sets_ops text (by omega) (by omega) hds] at hd
            have hol := sets_dots text (by omega) (by omega) hd
            obtain ⟨dp, dq, rfl⟩ := hda.len
            rw [hol, Nat.sub_self]
            have k0 : w6.cell? ⟨w4.heap.size, 0, none⟩ = some (.int .i64 3) := by rw [hb6.cell (by simp)]; exact (World.cell?_alloc_at _ _ _ _ rfl).trans rfl
            have k3 : w6.cell? ⟨w4.heap.size, 3, none⟩ = some (.slice ad 0 cap) := by rw [hb6.cell (by simp)]; exact (World.cell?_alloc_at _ _ _ _ rfl).trans rfl
            have B6 := hid ((HB4.out.alloc HB4.out.size _).trans (hb6.mono (by have := HB4.out.size; simp; omega)))
            clear K20 hds hd hda hb6 hol
            go_wp2
            go_ret
            exact ⟨rfl, B6.out⟩
          · rw [if_neg (by omega)] at hv4
            obtain ⟨sv, rfl, ad, cap, rfl, hstr⟩ := hv4
            obtain ⟨b, rfl, hst2⟩ := hstr.resolve_left (by simp)
            have ct := hst2 0 (by simp)
            rw [show encStr [text.data.toList][0]! = .string text from encStr_data text] at ct
            clear hstr hst2
            simp only [List.length_singleton]
            go_wp2_with fail
            refine (K20 _).mono ?_
            rintro e w6 ⟨v6, ds, out, rfl, hds, hd, hda, hb6⟩
            rw [sets_ops text (by omega) (by omega) hds] at hd
            have hol := sets_dots text (by omega) (by omega) hd
            obtain ⟨dp, dq, rfl⟩ := hda.len
            have hn : (out.length : Int) = (k : Int) - (j : Int) := by rw [hol]; exact HSUB.out
            have k0 : w6.cell? ⟨w4.heap.size, 0, none⟩ = some (.int .i64 3) := by rw [hb6.cell (by simp)]; exact (World.cell?_alloc_at _ _ _ _ rfl).trans rfl
            have k3 : w6.cell? ⟨w4.heap.size, 3, none⟩ = some (.slice (some ⟨b, 0, none⟩) 1 cap) := by rw [hb6.cell (by simp)]; exact (World.cell?_alloc_at _ _ _ _ rfl).trans rfl
            have ct6 : w6.cell? ⟨b, 0, none⟩ = some (.string text) := by rw [hb6.cell (by have := lt_of_cell ct; simp at this ⊢; omega)]; exact cell_alloc ct _
            have K29 := sameTexts_one (w6.alloc (.cells #[.string text] 9)) b cap w6.heap.size 1 text (cell_alloc ct6 _) ((World.cell?_alloc_at _ _ _ _ rfl).trans rfl)
            have B6 := hid ((HB4.out.alloc HB4.out.size _).trans (hb6.mono (by have := HB4.out.size; simp; omega)))
            clear K20 hds hd hda hb6 hol ct ct6
            go_wp2_with fail
            refine K29.mono ?_
            rintro e w7 ⟨rfl, q, rfl⟩
            clear K29
            go_wp2
            go_ret
            exact ⟨rfl, below_draws (B6.out.alloc B6.out.size _) q⟩
end Go.Proofs.YtilonnkohcocoaaGreatDoor
