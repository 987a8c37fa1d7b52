/- ValuesAdds: the walk. -/
import Derived.Test.YtilonnkohcocoaaGreatDoorJVTurnM
import Derived.Test.YtilonnkohcocoaaGreatDoorJVAddsM
namespace Go.Proofs.YtilonnkohcocoaaGreatDoor
open Go.RowKit Go.Sort Go.Maps
set_option maxRecDepth 100000
set_option linter.unusedSectionVars false
variable [Inhabited ComV] [DecidableEq D3] [Inhabited D3] [Inhabited Dd] [Inhabited Dn] [Inhabited OpV]

theorem cntL_succ (ns : List Int) (k : Nat) : cntL ns (k + 1) = cntL ns k ++ [cntC ns k] := by
  unfold cntL
  rw [List.range_succ, List.map_append]
  rfl
theorem cntL_len (ns : List Int) (k : Nat) : (cntL ns k).length = k := by simp [cntL]
theorem sumI_succ {ns : List Int} {k : Nat} (h : k < ns.length) : sumI (ns.take (k + 1)) = sumI (ns.take k) + ns.getD k 0 := by
  unfold sumI
  rw [List.take_succ_eq_append_getElem h, List.foldl_append]
  simp [List.getD_eq_getElem?_getD, List.getElem?_eq_getElem h]
/-- A counter's commit in its blocks. -/
theorem cnt_comT (wr : World) (ns : List Int) (k : Nat) (N : Int) (hN : N = ns.getD k 0) (o : Obj) :
    ComT (((wr.alloc (.cells #[.int .i64 ((k : Int) + 1), .int .i64 0] 3)).alloc (.cells #[.int .i64 0, .string ⟨#[110]⟩, .int .i64 2, .string ByteArray.empty, .int .i64 N, .bool false, .slice none 0 0] 24)).alloc o) [.slice (some ⟨wr.heap.size, 0, none⟩) 2 2, .int .i64 0, .slice (some ⟨wr.heap.size + 1, 0, none⟩) 1 1] (cntC ns k) := by
  have h1 : (((wr.alloc (.cells #[.int .i64 ((k : Int) + 1), .int .i64 0] 3)).alloc (.cells #[.int .i64 0, .string ⟨#[110]⟩, .int .i64 2, .string ByteArray.empty, .int .i64 N, .bool false, .slice none 0 0] 24)).alloc o).heap[wr.heap.size]? = some (.cells #[.int .i64 ((k : Int) + 1), .int .i64 0] 3 (0, 0)) := by
    rw [(MapKept.heap_alloc _ _).2 _ (by simp; omega), (MapKept.heap_alloc _ _).2 _ (by simp)]
    exact (MapKept.heap_alloc _ _).1
  have h2 : (((wr.alloc (.cells #[.int .i64 ((k : Int) + 1), .int .i64 0] 3)).alloc (.cells #[.int .i64 0, .string ⟨#[110]⟩, .int .i64 2, .string ByteArray.empty, .int .i64 N, .bool false, .slice none 0 0] 24)).alloc o).heap[wr.heap.size + 1]? = some (.cells #[.int .i64 0, .string ⟨#[110]⟩, .int .i64 2, .string ByteArray.empty, .int .i64 N, .bool false, .slice none 0 0] 24 (0, 0)) := by
    rw [(MapKept.heap_alloc _ _).2 _ (by simp)]
    have := (MapKept.heap_alloc (wr.alloc (.cells #[.int .i64 ((k : Int) + 1), .int .i64 0] 3)) (.cells #[.int .i64 0, .string ⟨#[110]⟩, .int .i64 2, .string ByteArray.empty, .int .i64 N, .bool false, .slice none 0 0] 24)).1
    simpa using this
  refine ⟨_, _, rfl, ?_, ?_⟩
  · exact rowT_lit (rows := [[.int .i64 ((k : Int) + 1)], [.int .i64 0]]) h1 rfl (fun r hr => by
      simp only [List.mem_cons, List.not_mem_nil, or_false] at hr
      rcases hr with rfl | rfl <;> rfl) (Nat.le_refl _)
  · subst hN
    refine ⟨[opCells (cntOp (ns.getD k 0)) (.slice none 0 0)], rowT_lit (rows := [opCells (cntOp (ns.getD k 0)) (.slice none 0 0)]) h2 rfl (fun r hr => by rw [List.mem_singleton.1 hr]; rfl) (Nat.le_refl _), ⟨⟨_, rfl, ?_⟩, trivial⟩⟩
    exact ⟨none, 0, rfl, fun _ => rfl, Nat.le_refl _, .inl rfl⟩
theorem cnt_small (ns : List Int) (k : Nat) : ∀ c ∈ cntL ns k, SmallC c := fun c hc => by
  obtain ⟨i, _, rfl⟩ := List.mem_map.1 hc
  refine ⟨by show 2 ≤ 1000000; decide, by show 1 ≤ 1000000; decide, fun o ho => ?_⟩
  obtain rfl : o = cntOp (ns.getD i 0) := by simpa [cntC] using ho
  exact ⟨by show 0 ≤ 1000000; decide, by show 0 ≤ 1000000; decide⟩
theorem below3s (w : World) (a b c : Obj) : Below w.heap.size w (((w.alloc a).alloc b).alloc c) := below3 w a b c
theorem isOps_same {key : ByteArray} {l : List ComV} {a b : List Dn} (ha : IsOps key l a) (hb : IsOps key l b) : a = b := by
  obtain ⟨ys, h1, rfl⟩ := ha
  obtain ⟨zs, h2, rfl⟩ := hb
  rw [inOrder_unique h1 h2]
theorem setA_len (ts : List ByteArray) : (setA ts).length ≤ ts.length := by
  unfold setA Lib.compact Lib.compactUpTo
  rw [List.length_map]
  refine Nat.le_trans (List.length_filter_le _ _) ?_
  rw [List.length_range, List.length_mergeSort, List.length_map]
  exact Nat.le_refl _
theorem set_few {key : ByteArray} {l : List ComV} {ds : List Dn} (h : IsOps key l ds) (hok : ∀ i, i < l.length → listBad l i = 0) (hl : l.length ≤ 1000) : (valA ds).set.length ≤ 1000000 := by
  have h1 := isOps_len h (fun c hc => ((listOk_com hok).1 c hc).few)
  have h2 : (valA ds).set.length ≤ ds.length := by
    unfold valA
    split
    · simp
    · split
      · simp
      · split
        · simp
        · refine Nat.le_trans (setA_len _) ?_
          rw [List.length_map]
          exact List.length_filter_le _ _
  omega
set_option maxHeartbeats 8000000 in
theorem adds_walk (A : Nat → Addr) (w : World) (hE : E5 A w) (vn : Value) (ns : List Int) (hn : IntsAt w vn ns) (key text : ByteArray) (v : Value) (l : List ComV) (hv : ComsAt w v l) :
    Calls Tryz.prog 6 #[vn, .string key, .string text, v] w fun e w' => e = .returned (.bool true) ∧ Below w.heap.size w w' := by
  have h13 := hE.size
  have K8 := worth_true A w hE.e4 (by omega)
  obtain ⟨i28, hi28, hy0, hy1, hy2⟩ := info_parts Tryz.info28o
  obtain ⟨a1, c1, rfl, _, hnc⟩ := hn
  obtain ⟨n, hnn⟩ : ∃ n, n = ns.length := ⟨_, rfl⟩
  obtain ⟨av, cv, hve⟩ : ∃ av cv, v = .slice av l.length cv := by obtain ⟨a, c, h, _⟩ := hv.shape; exact ⟨a, c, h⟩
  obtain ⟨lm, hlm⟩ : ∃ lm, lm = l.length := ⟨_, rfl⟩
  rw [← hlm] at hve
  subst hve
  rw [← hnn]
  have HE := hid hE
  have HV := hid hv
  have HC := hid hnc
  have HN := hid hnn
  clear hE hv hnc hnn hlm
  by_cases h1 : (30 : Int) < n
  · go_enter Tryz.func6, Tryz.ntmps6
    go_wp2_with (go_at_call 9; refine K8.mono ?_; rintro e w' ⟨rfl, hb⟩)
    go_ret
    exact ⟨rfl, hb⟩
  by_cases h2 : (60 : Int) < key.size
  · go_enter Tryz.func6, Tryz.ntmps6
    go_wp2_with (go_at_call 9; refine K8.mono ?_; rintro e w' ⟨rfl, hb⟩)
    go_ret
    exact ⟨rfl, hb⟩
  by_cases h3 : (200 : Int) < text.size
  · go_enter Tryz.func6, Tryz.ntmps6
    go_wp2_with (go_at_call 9; refine K8.mono ?_; rintro e w' ⟨rfl, hb⟩)
    go_ret
    exact ⟨rfl, hb⟩
  have d1 : decide ((30 : Int) < (n : Int)) = false := decide_eq_false h1
  have d2 : decide ((60 : Int) < (key.size : Int)) = false := decide_eq_false h2
  have d3 : decide ((200 : Int) < (text.size : Int)) = false := decide_eq_false h3
  have hn30 : n ≤ 30 := by omega
  clear h1 h2 h3
  go_enter Tryz.func6, Tryz.ntmps6
  go_wp2_with fail
  refine K8.mono ?_
  rintro e w0 ⟨rfl, hb0⟩
  have K17 := heavy_ok w0 (.slice av lm cv) l (HV.out.mono hb0 (Nat.le_refl _))
  have B0 := hid hb0
  clear hb0 K8
  go_wp2_with fail
  refine K17.mono ?_
  rintro e w1 ⟨rfl, hb1⟩
  have B1 := hid (B0.out.trans (hb1.mono B0.out.size))
  clear hb1 K17 B0
  cases hh : heavyL l with
  | true =>
    go_wp2
    go_ret
    exact ⟨rfl, B1.out⟩
  | false =>
    have HH := hid hh
    clear hh
    go_upto_region 7 with (fail)
    clear d1 d2 d3
    go_loopw [10, 11, 12] (fun s v i wr => ∃ (k : Nat) (rows : List (List Value)) (S : Int), k ≤ n ∧ s = .int .i64 S ∧ -(1000 * (k : Int)) ≤ S ∧ S ≤ 1000 * (k : Int) ∧ i = .int .i64 k ∧ Hid (S = sumI (ns.take k)) ∧ Hid (∀ j, j < k → -1000 ≤ ns.getD j 0 ∧ ns.getD j 0 ≤ 1000) ∧ Hid (OwnsInv w1 (cntL ns k) v rows wr)) (fun _ _ i _ => n - (intOf i).toNat)
    case atStart => exact ⟨0, [], 0, Nat.zero_le _, rfl, by omega, by omega, rfl, rfl, fun j hj => absurd hj (Nat.not_lt_zero _), OwnsInv.start w1⟩
    case round =>
      obtain ⟨k, rows, S, hk, rfl, hs1, hs2, rfl, HS, HI, HO⟩ := hrel
      have B2 := hid (B1.out.trans (HO.out.below.mono B1.out.size))
      by_cases hlt : k < n
      · obtain ⟨b, off, rfl, hcell⟩ := HC.out.resolve_left (fun h => by have := HN.out; rw [h] at this; simp at this; omega)
        have q0 := hcell k (by have := HN.out; omega)
        have r0 : wr.cell? ⟨b, off + k, none⟩ = some (.int .i64 (ns.getD k 0)) := by rw [B2.out.cell (lt_of_cell q0)]; exact q0
        obtain ⟨N, hN⟩ : ∃ N, N = ns.getD k 0 := ⟨_, rfl⟩
        rw [← hN] at r0
        have HNN := hid hN
        clear hN q0 hcell
        by_cases n1 : N < -1000
        · go_wp2
          go_ret
          exact ⟨rfl, B2.out⟩
        by_cases n2 : 1000 < N
        · go_wp2
          go_ret
          exact ⟨rfl, B2.out⟩
        have hrow := HO.out.row
        rw [cntL_len] at hrow
        have r1 := fun o => cell_alloc r0 o
        have hbs := HO.out.below.size
        go_wp2_with (at_builtin; refine wpList_append_own _ rfl _ _ 43 rfl w1.heap.size 28 i28 _ 3 56 Tryz.underlying43 hi28 hy0 hy1 hy2 rfl (by decide) _ _ _ rfl (((hrow.alloc _).alloc _).alloc _) ⟨wr.heap.size + 1 + 1, 0, none⟩ 1 1 [.slice (some ⟨wr.heap.size, 0, none⟩) 2 2, .int .i64 0, .slice (some ⟨wr.heap.size + 1, 0, none⟩) 1 1] rfl rfl (cells11_new _ _ _ _ (by simp)) ?ho1 ?ho2 ?ho3 ?ho4 ?_; (case ho1 => exact one3v _ _ _ _ _ _ _ _ _ rfl rfl); (case ho2 => unfold maxLen; omega); (case ho3 => omega); (case ho4 => simp; omega); intro v' w3 hown' hgrow2 hnil2)
        go_roundw
        case rel =>
          refine ⟨k + 1, rows ++ [[.slice (some ⟨wr.heap.size, 0, none⟩) 2 2, .int .i64 0, .slice (some ⟨wr.heap.size + 1, 0, none⟩) 1 1]], S + N, by omega, rfl, by omega, by omega, by go_num, ?_, fun j hj => ?_, ?_⟩
          · show S + N = _
            rw [sumI_succ (by have := HN.out; omega), HS.out, HNN.out]
          · rcases Nat.lt_succ_iff_lt_or_eq.1 hj with h | rfl
            · exact HI.out j h
            · rw [← HNN.out]; omega
          · rw [cntL_succ]
            exact (HO.out.moved (below3 _ _ _ _)).step (cnt_comT wr ns k N HNN.out _) hgrow2 (by rw [cntL_len]; exact hown')
        case measure => simp [intOf]; omega
      · obtain rfl : k = n := by omega
        have hI := HO.out
        have hL : Hid (ComsAt wr u11 (cntL ns k)) := coms_of_owns hI.row rfl hI.coms
        have hrow := hI.row
        rw [cntL_len] at hrow
        obtain ⟨ua, uc, hu⟩ := row_shape hrow
        subst hu
        have hsum := HS.out
        rw [List.take_of_length_le (by have := HN.out; omega)] at hsum
        have hkn := HN.out
        have hE2 := HE.out.below B2.out h13
        have hz2 := hE2.size
        have hcl : ∀ i, i < (cntL ns k).length → listBad (cntL ns k) i = 0 := by rw [hkn]; exact cnt_ok (fun i hi => HI.out i (by omega)) (by omega)
        have K18 := of_ok A wr hE2.e4 (by omega) ⟨#[110]⟩ (by rfl) _ (cntL ns k) hL.out (by rw [cntL_len]; omega) (cnt_small ns k) hcl
        have HSUM := hid hsum
        have HKN := hid hkn
        clear hI hrow hsum hkn hE2 hcl HS HI HO hL
        go_wp2_with fail
        refine K18.mono ?_
        rintro e w4 ⟨v4, ds, rfl, hds, hv4, hb4⟩
        rw [HKN.out] at hds
        obtain ⟨hval1, hval2, _⟩ := cnt_val hds
        have B4 := hid (B2.out.trans (hb4.mono B2.out.size))
        obtain ⟨sv, rfl, ad, cap, rfl, _⟩ := hv4
        obtain ⟨vk, hvk⟩ : ∃ x, x = (valA ds).kind := ⟨_, rfl⟩
        obtain ⟨vt, hvt⟩ : ∃ x, x = (valA ds).text := ⟨_, rfl⟩
        obtain ⟨vl, hvl⟩ : ∃ x, x = (valA ds).set.length := ⟨_, rfl⟩
        rw [hval1, ← HSUM.out]
        rw [← hvk, ← hvt, ← hvl]
        rw [← hvk, ← HKN.out] at hval2
        clear K18 hds hval1 hb4 hvk hvt hvl
        have bS : (S != S) = false := by simp
        have hk2 : k = 0 ∨ 0 < k ∧ vk = 2 := by
          rcases Nat.eq_zero_or_pos k with h | h
          · exact .inl h
          · exact .inr ⟨h, hval2 h⟩
        clear hval2
        obtain ⟨w5, hw5⟩ : ∃ w5, w5 = w4.alloc (.cells #[.int .i64 vk, .string vt, .int .i64 S, .slice ad vl cap] 47) := ⟨_, rfl⟩
        have B5 : Hid (Below w.heap.size w w5) := by rw [hw5]; exact B4.out.alloc B4.out.size _
        have HL := hid (small_of_light HH.out)
        have hl30 := (light HH.out).1
        have hE5 := HE.out.below B5.out h13
        have K19 := ownCommits w5 (.slice av lm cv) l (HV.out.mono B5.out (Nat.le_refl _)) HH.out
        rcases hk2 with rfl | ⟨hk0, rfl⟩
        all_goals
          go_wp2_with fail
          rw [← hw5]
          refine K19.mono ?_
          rintro e w6 ⟨v6, rfl, hv6, hb6⟩
          have B6 := hid (B5.out.trans (hb6.mono B5.out.size))
          have hE6 := HE.out.below B6.out h13
          have hz6 := hE6.size
          have e0 : Hid (∀ j v, w5.cell? ⟨w4.heap.size, j, none⟩ = some v → w6.cell? ⟨w4.heap.size, j, none⟩ = some v) := fun j v h => by rw [hb6.cell (lt_of_cell h)]; exact h
          obtain ⟨a6, c6, hs6⟩ : ∃ a6 c6, v6 = .slice a6 l.length c6 := by obtain ⟨a, c, h, _⟩ := hv6.shape; exact ⟨a, c, h⟩
          subst hs6
          clear hw5 K19 hb6 hE5 e0
          cases hk : (errOf key l).1 with
          | succ kk =>
            have K18b := of_err A w6 hE6 key _ l hv6 (by omega) HL.out kk hk
            clear hE6 hv6
            go_wp2_with fail
            refine K18b.mono ?_
            rintro e w7 ⟨t7, p7, rfl, _, hb7⟩
            have B7 := hid (B6.out.trans (hb7.mono B6.out.size))
            unfold zeroV
            obtain ⟨w8, hw8⟩ : ∃ w8, w8 = w7.alloc (.cells #[.int .i64 0, .string ByteArray.empty, .int .i64 0, .slice none 0 0] 47) := ⟨_, rfl⟩
            have B8 : Hid (Below w.heap.size w w8) := by rw [hw8]; exact B7.out.alloc B7.out.size _
            have K19b := ownCommits w8 (.slice av lm cv) l (HV.out.mono B8.out (Nat.le_refl _)) HH.out
            clear K18b hb7
            go_wp2_with fail
            rw [← hw8]
            refine K19b.mono ?_
            rintro e w9 ⟨v9, rfl, hv9, hb9⟩
            have B9 := hid (B8.out.trans (hb9.mono B8.out.size))
            have K20 := dots_err A w9 (HE.out.below B9.out h13) key text v9 l hv9 (by omega) HL.out kk hk
            obtain ⟨a9, c9, hs9⟩ : ∃ a9 c9, v9 = .slice a9 l.length c9 := by obtain ⟨a, c, h, _⟩ := hv9.shape; exact ⟨a, c, h⟩
            subst hs9
            clear K19b hb9 hv9 hw8
            go_wp2_with fail
            refine K20.mono ?_
            rintro e w10 ⟨t10, p10, rfl, _, hb10⟩
            have B10 := hid (B9.out.trans (hb10.mono B9.out.size))
            clear K20 hb10
            go_wp2
            go_ret
            exact ⟨rfl, B10.out⟩
          | zero =>
            obtain ⟨hnm, hok⟩ := errOf_zero hk
            have HOK := hid hok
            have K18b := of_ok A w6 hE6.e4 (by omega) key hnm _ l hv6 (by omega) HL.out hok
            clear hE6 hv6 hk hok
            go_wp2_with fail
            refine K18b.mono ?_
            rintro e w7 ⟨v7, ds7, rfl, hds7, hv7, hb7⟩
            have B7 := hid (B6.out.trans (hb7.mono B6.out.size))
            obtain ⟨sv7, rfl, hsv7⟩ := hv7
            obtain ⟨sa, sc, hse⟩ := hsv7.len
            subst hse
            obtain ⟨ss, hss⟩ : ∃ ss, ss = (valA ds7).set := ⟨_, rfl⟩
            have hsl : ss.length ≤ 1000000 := by rw [hss]; exact set_few hds7 HOK.out (by omega)
            rw [← hss] at hsv7 ⊢
            obtain ⟨xk, hxk⟩ : ∃ x, x = (valA ds7).kind := ⟨_, rfl⟩
            obtain ⟨xt, hxt⟩ : ∃ x, x = (valA ds7).text := ⟨_, rfl⟩
            obtain ⟨xn, hxn⟩ : ∃ x, x = (valA ds7).n := ⟨_, rfl⟩
            rw [← hxk, ← hxt, ← hxn]
            have HSS := hid hss
            have HDS := hid hds7
            obtain ⟨w8, hw8⟩ : ∃ w8, w8 = w7.alloc (.cells #[.int .i64 xk, .string xt, .int .i64 xn, .slice sa ss.length sc] 47) := ⟨_, rfl⟩
            have B78 : Below w7.heap.size w7 w8 := by rw [hw8]; exact below_alloc _ _
            have B8 := hid (B7.out.trans (B78.mono B7.out.size))
            have c3 : w8.cell? ⟨w7.heap.size, 3, none⟩ = some (.slice sa ss.length sc) := by rw [hw8]; exact (World.cell?_alloc_at _ _ _ _ rfl).trans rfl
            have s8 := hsv7.mono B78 (Nat.le_refl _)
            have K19b := ownCommits w8 (.slice av lm cv) l (HV.out.mono B8.out (Nat.le_refl _)) HH.out
            clear K18b hb7 hds7 hss hsv7 B78 hxk hxt hxn
            go_wp2_with fail
            rw [← hw8]
            refine K19b.mono ?_
            rintro e w9 ⟨v9, rfl, hv9, hb9⟩
            have B9 := hid (B8.out.trans (hb9.mono B8.out.size))
            have c3' : w9.cell? ⟨w7.heap.size, 3, none⟩ = some (.slice sa ss.length sc) := by rw [hb9.cell (lt_of_cell c3)]; exact c3
            have s9 := s8.mono hb9 (Nat.le_refl _)
            have hE9 := HE.out.below B9.out h13
            have hz9 := hE9.size
            have K20 := dots_ok A w9 hE9.e4 (by omega) key text hnm v9 l hv9 (by omega) HL.out HOK.out
            obtain ⟨a9, c9, hs9⟩ : ∃ a9 c9, v9 = .slice a9 l.length c9 := by obtain ⟨a, c, h, _⟩ := hv9.shape; exact ⟨a, c, h⟩
            subst hs9
            clear K19b hb9 hv9 hE9 c3 s8 hw8
            go_wp2_with fail
            refine K20.mono ?_
            rintro e w10 ⟨v10, ds10, out, rfl, hds10, hd, hda, hb10⟩
            have B10 := hid (B9.out.trans (hb10.mono B9.out.size))
            have c4 : w10.cell? ⟨w7.heap.size, 3, none⟩ = some (.slice sa ss.length sc) := by rw [hb10.cell (lt_of_cell c3')]; exact c3'
            have K28 := index_any w10 _ ss text (s9.mono hb10 (Nat.le_refl _)) hsl
            have hdse : ds10 = ds7 := isOps_same hds10 HDS.out
            have hset := set_dots (isOps_ok HDS.out HOK.out) (by rw [← hdse]; exact hd)
            rw [← HSS.out] at hset
            obtain ⟨dp, dq, rfl⟩ := hda.len
            obtain ⟨om, hom⟩ : ∃ om, om = out.length := ⟨_, rfl⟩
            rw [← hom] at hset ⊢
            have HSET := hid hset
            clear K20 hds10 hd hda hb10 c3' s9 hdse hset hom
            go_wp2_with fail
            refine K28.mono ?_
            rintro e w11 ⟨ix, rfl, hix, rfl⟩
            by_cases hm : text.data.toList ∈ ss
            · have g1 : (0 : Int) ≤ ix := by rw [decide_eq_true hm] at hix; exact of_decide_eq_true hix
              have g2 : (0 : Int) < (om : Int) := by have := HSET.out.1 hm; omega
              clear hix hm K28
              go_wp2
              go_ret
              exact ⟨ret_bool (decide_eq_true (by omega)), B10.out⟩
            · have g1 : ¬ (0 : Int) ≤ ix := by rw [decide_eq_false hm] at hix; exact of_decide_eq_false hix
              have g2 : om = 0 := by
                rcases Nat.eq_zero_or_pos om with h | h
                · exact h
                · exact absurd (HSET.out.2 h) hm
              subst g2
              clear hix hm K28
              go_wp2
              go_ret
              exact ⟨ret_bool (by rw [decide_eq_false (by omega : ¬ (0 : Int) ≤ ix)]; rfl), B10.out⟩
end Go.Proofs.YtilonnkohcocoaaGreatDoor
