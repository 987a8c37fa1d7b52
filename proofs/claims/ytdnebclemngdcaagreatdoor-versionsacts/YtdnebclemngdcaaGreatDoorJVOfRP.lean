/- own: a copy of numbers; Two stores side by side, and a row of one's own; ValuesTurned: the walk; The reference's enter by its contract. -/
import Derived.Test.YtdnebclemngdcaaGreatDoorJWNew
import Derived.Test.YtdnebclemngdcaaGreatDoorJVRowT
import Derived.Laws.AppendOwnNone
import Derived.Test.YtdnebclemngdcaaGreatDoorJWKeys
import Derived.Test.YtdnebclemngdcaaGreatDoorJWLaid
import Derived.Test.YtdnebclemngdcaaGreatDoorJWPutB
import Derived.Test.YtdnebclemngdcaaGreatDoorJVOfRQ
namespace Go.Proofs.YtdnebclemngdcaaGreatDoor
open Go.RowKit Go.Sort Go.Maps
set_option maxRecDepth 100000
set_option linter.unusedSectionVars false
variable [Inhabited ComV] [DecidableEq D3] [Inhabited D3] [Inhabited Dd] [Inhabited Dn] [Inhabited OpV]

set_option maxHeartbeats 1000000 in
theorem own_some (w : World) (ad : Addr) (n c : Nat) (zs : List Int) (hz : zs.length = n) (hl : n ≤ 1000000) (hc : ∀ j u, (zs.map (Value.int .i64))[j]? = some u → w.cell? (ad.add j) = some u) :
    Calls Tryz.prog 13 #[.slice (some ad) n c] w fun e w' => ∃ v, e = .returned v ∧ IntsAt w' v zs ∧ Below w.heap.size w w' := by
  obtain ⟨i0, hi, hz0, hz1, hz2⟩ := info_parts Tryz.info3n; go_enter Tryz.func13, Tryz.ntmps13
  go_wp2_with (at_builtin; refine wpList_append_own _ rfl _ _ 23 rfl w.heap.size 3 i0 (.int .i64 0) 1 8 Tryz.underlying23 hi hz0 hz1 hz2 rfl (by decide) _ _ _ rfl (World.ownsRow_nil _ _ _ _) ad n c (zs.map (Value.int .i64)) rfl ?c1 ?c2 ?c3 ?c4 ?c5 ?c6 ?_)
  case c1 => simp [hz]
  case c2 => exact hc
  case c3 => exact ints_oneCell _ _
  case c4 => unfold maxLen; omega
  case c5 => omega
  case c6 => exact Nat.le_refl _
  intro v' w1 hown hgrow _
  have HO : Hid (w1.ownsRow w.heap.size 3 1 v' zs.length (zs.map (Value.int .i64))) := by
    have := hown; rw [← hz] at this; exact this
  have HG := hid hgrow; clear hown hgrow; go_wp2; go_ret; refine ⟨_, rfl, ints_of_row HO.out, ?_⟩; exact (Below.refl _ _).grown HG.out (Nat.le_refl _) (fun k hk => by cases hk)

theorem own_none (w : World) :
    Calls Tryz.prog 13 #[.slice none 0 0] w fun e w' => e = .returned (.slice none 0 0) ∧ w' = w := by
  obtain ⟨i0, hi, hz0, hz1, hz2⟩ := info_parts Tryz.info3n; go_enter Tryz.func13, Tryz.ntmps13
  go_wp2_with (at_builtin; refine wpList_append_own_none rfl _ _ 23 rfl w.heap.size 3 i0 1 Tryz.underlying23 hi _ 0 [] rfl (World.ownsRow_nil _ _ _ _) rfl ?_)
  go_ret; exact ⟨rfl, rfl⟩

theorem own_any (w : World) (v : Value) (zs : List Int) (h : IntsAt w v zs) (hl : zs.length ≤ 1000000) :
    Calls Tryz.prog 13 #[v] w fun e w' => ∃ v', e = .returned v' ∧ IntsAt w' v' zs ∧ Below w.heap.size w w' := by
  obtain ⟨ad, c, rfl, h0, h⟩ := h
  cases ad with
  | none =>
    obtain rfl := h0 rfl; rcases h with rfl | ⟨b, o, he, _⟩
    · refine (own_none w).mono ?_; rintro e w' ⟨rfl, rfl⟩; exact ⟨_, rfl, ⟨none, 0, rfl, (fun _ => rfl), .inl rfl⟩, Below.refl _ _⟩
    · cases he
  | some a =>
    refine own_some w a zs.length c zs rfl hl fun j u hj => ?_
    rcases h with rfl | ⟨b, o, he, h⟩
    · simp at hj
    · obtain rfl := Option.some.inj he; rw [List.getElem?_map] at hj
      cases hjj : zs[j]? with
      | none => rw [hjj] at hj; cases hj
      | some z =>
        rw [hjj] at hj; obtain rfl := Option.some.inj hj; have hlt : j < zs.length := (List.getElem?_eq_some_iff.1 hjj).1; have := h j hlt; rw [List.getD_eq_getElem?_getD, hjj] at this
        have ea : (⟨b, o, none⟩ : Addr).add j = ⟨b, o + j, none⟩ := by
          unfold Addr.add
          split
          · rename_i h0; rw [h0]; rfl
          · rfl
        rw [ea]; exact this
end Go.Proofs.YtdnebclemngdcaaGreatDoor
namespace Go.Proofs.YtdnebclemngdcaaGreatDoor
open Go.RowKit Go.Sort Go.Maps
set_option maxRecDepth 100000
set_option linter.unusedSectionVars false
variable [Inhabited ComV] [DecidableEq D3] [Inhabited D3] [Inhabited Dd] [Inhabited Dn] [Inhabited OpV]

theorem owns_own {w w' : World} {base e size n : Nat} {v : Value} {xs : List Value} (h : w.ownsRow base e size v n xs) (hk : ∀ b, v.ownBlock = some b → w'.heap[b]? = w.heap[b]?) : w'.ownsRow base e size v n xs := by
  obtain ⟨h1, h2⟩ := h; refine ⟨h1, ?_⟩; rcases h2 with h2 | ⟨b, cap, cur, hv, hg, hh, r⟩
  · exact .inl h2
  · exact .inr ⟨b, cap, cur, hv, hg, by rw [hk b (by rw [hv]; rfl)]; exact hh, r⟩
end Go.Proofs.YtdnebclemngdcaaGreatDoor
namespace Go.Proofs.YtdnebclemngdcaaGreatDoor
open Go.RowKit Go.Sort Go.Maps
set_option maxRecDepth 100000
set_option linter.unusedSectionVars false
variable [Inhabited ComV] [DecidableEq D3] [Inhabited D3] [Inhabited Dd] [Inhabited Dn] [Inhabited OpV]

theorem setA_len (ts : List ByteArray) : (setA ts).length ≤ ts.length := by
  unfold setA Lib.compact Lib.compactUpTo; rw [List.length_map]; refine Nat.le_trans (List.length_filter_le _ _) ?_; rw [List.length_range, List.length_mergeSort, List.length_map]; exact Nat.le_refl _
theorem set_few {key : ByteArray} {l : List ComV} {ds : List Dn} (h : IsOps key l ds) (hok : ∀ i, i < l.length → listBad l i = 0) (hl : l.length ≤ 1000) : (valA ds).set.length ≤ 1000000 := by
  have h1 := isOps_len h (fun c hc => ((listOk_com hok).1 c hc).few)
  have h2 : (valA ds).set.length ≤ ds.length := by
    unfold valA
    split
    · simp
    · split
      · simp
      · split
        · simp
        · refine Nat.le_trans (setA_len _) ?_; rw [List.length_map]; exact List.length_filter_le _ _
  omega
end Go.Proofs.YtdnebclemngdcaaGreatDoor
namespace Go.Proofs.YtdnebclemngdcaaGreatDoor
open Go.RowKit Go.Sort Go.Maps
set_option maxRecDepth 100000
set_option linter.unusedSectionVars false
variable [Inhabited ComV] [DecidableEq D3] [Inhabited D3] [Inhabited Dd] [Inhabited Dn] [Inhabited OpV]

set_option maxHeartbeats 4000000 in
theorem enter_n (w : World) (b n cap : Nat) (ss : List Tx) (hn : n = ss.length) (hcap : n ≤ cap) (h : ∀ t, t < ss.length → w.cell? ⟨b, t, none⟩ = some (encStr ss[t]!)) (t : ByteArray) (hl : n ≤ 100000) :
    Calls Tryz.prog 60 #[.slice (some ⟨b, 0, none⟩) n cap, .string t] w fun e w' => EnterRet ss t.data.toList w e w' := by
  obtain ⟨i9, hi9, hy0, hy1, hy2⟩ := info_parts Tryz.info9; have HN := hid hn; have H1 := hid h; clear hn h; go_enter Tryz.func60, Tryz.ntmps60; go_wp2
  go_loop [5] (fun i => ∃ k : Nat, k ≤ n ∧ i = .int .i64 k ∧ Hid (∀ j, j < k → ss[j]! < t.data.toList)) (fun i => n - (intOf i).toNat)
  case atStart => exact ⟨0, Nat.zero_le _, rfl, fun t ht => absurd ht (Nat.not_lt_zero _)⟩
  case round =>
    obtain ⟨k, hk, rfl, HI⟩ := hrel; have hsrc1 := hid (src_part H1.out 0 k cap (by have := HN.out; omega)); have hsrc2 := hid (src_part H1.out k (n - k) (cap - k) (by have := HN.out; omega))
    have fin : Hid ((k = n ∨ ¬ ss[k]! < t.data.toList) → ¬ (k < n ∧ ss[k]! = t.data.toList) → ∀ (v' : Value) (w' : World), w'.ownsRow w.heap.size 9 1 v' (k + 1 + (n - k)) (((ss.drop 0).take k).map encStr ++ [.string t] ++ ((ss.drop k).take (n - k)).map encStr) → Below w.heap.size w w' → EnterRet ss t.data.toList w (.returned v') w') := fun h1 h2 v' w' hr hb => by
      obtain ⟨e1, e2⟩ := split_at (ss := ss) (s := t.data.toList) HI.out (by have := HN.out; omega) (by rw [← HN.out]; exact h1)
      have he : enterL ss t.data.toList = ss.take k ++ t.data.toList :: ss.drop k := by
        unfold enterL
        rw [e1, e2, if_neg (fun hh => h2 (by
          rw [List.head?_drop] at hh; obtain ⟨hlt, hx⟩ := List.getElem?_eq_some_iff.1 hh; exact ⟨by have := HN.out; omega, by rw [getElem!_pos ss k hlt]; exact hx⟩))]
      refine ⟨v', rfl, ?_, hb⟩; rw [he]; refine strsG_of_row (base := w.heap.size) (n := k + 1 + (n - k)) ?_ (by simp; have := HN.out; omega); rw [List.drop_zero, List.take_of_length_le (by simp; have := HN.out; omega : (ss.drop k).length ≤ n - k)] at hr; rw [List.map_append, List.map_cons, encStr_data']
      simpa using hr
    by_cases hlt : k < n
    · have e1 := H1.out k (by have := HN.out; omega); obtain ⟨s, hs⟩ := encStr_shape ss[k]!; have hse := encStr_eq hs; rw [hs] at e1
      by_cases hless : ss[k]! < t.data.toList
      · have bl : Op.bytesLess s.toList t.toList = true := by rw [bytesLess_eq, Lib.toList_data, Lib.toList_data, hse]; exact decide_eq_true hless
        have HLS := hid hless; clear hless hs hse fin; go_wp2
        go_round
        case rel => exact ⟨k + 1, by omega, by go_num, fun j hj => by rcases Nat.lt_succ_iff_lt_or_eq.1 hj with h | rfl; exact HI.out j h; exact HLS.out⟩
        case measure => simp [intOf]; omega
      · have bl : Op.bytesLess s.toList t.toList = false := by rw [bytesLess_eq, Lib.toList_data, Lib.toList_data, hse]; exact decide_eq_false hless
        by_cases heq : s = t
        · subst heq
          have hret : Hid (EnterRet ss s.data.toList w (.returned (.slice (some ⟨b, 0, none⟩) n cap)) w) := by
            obtain ⟨e1', e2'⟩ := split_at (ss := ss) (s := s.data.toList) HI.out (by have := HN.out; omega) (.inr hless)
            have he : enterL ss s.data.toList = ss := by
              unfold enterL; rw [e2', if_pos (by rw [List.head?_drop, List.getElem?_eq_getElem (by have := HN.out; omega), ← getElem!_pos ss k (by have := HN.out; omega), hse]), ← e2', List.takeWhile_append_dropWhile]
            exact ⟨_, rfl, by rw [he]; exact .inr ⟨b, cap, by rw [HN.out], by rw [← HN.out]; exact hcap, H1.out⟩, Below.refl _ _⟩
          clear hs hse hless fin; go_wp2; go_ret; exact hret.out
        · have hne : (s.toList == t.toList) = false := beq_eq_false_iff_ne.2 (ne_toList heq); have FIN := hid (fin.out (.inr hless) (fun h => heq (WideShapes.bytes_inj (by rw [hse]; exact h.2)))); clear hs hse hless fin heq
          go_upto_region 8 with (at_builtin; refine wpList_append_src rfl _ _ 39 rfl w.heap.size 9 i9 _ 1 16 Tryz.underlying39 hi9 hy0 hy1 hy2 rfl (by decide) rfl _ k _ rfl hsrc1.out (strs_one _) ?hm2 ?hm3 ?hm4 ?_; (case hm2 => unfold maxLen; omega); (case hm3 => omega); (case hm4 => exact Nat.le_refl _); intro v3 w3 hown3 hgrow3; obtain ⟨a3, c3, rfl⟩ := row_shape hown3)
          go_upto_region 9 with (at_builtin; refine wpList_append_own _ rfl _ _ 39 rfl w.heap.size 9 i9 _ 1 16 Tryz.underlying39 hi9 hy0 hy1 hy2 rfl (by decide) _ _ _ rfl (hown3.alloc _) ⟨w3.heap.size, 0, none⟩ 1 1 [.string t] rfl rfl (cells11_new _ _ _ _ rfl) ?ho1 ?ho2 ?ho3 ?ho4 ?_; (case ho1 => exact fun u hu => by rw [List.mem_singleton.1 hu]; rfl); (case ho2 => unfold maxLen; omega); (case ho3 => omega); (case ho4 => have := hgrow3.size; simp; omega); intro v4 w4 hown4 hgrow4 _; obtain ⟨a4, c4, rfl⟩ := row_shape hown4)
          have B3 : Below w.heap.size w w3 := (Below.refl w.heap.size w).grown hgrow3 (Nat.le_refl _) (fun j hj => by cases hj); have B4 : Below w.heap.size w w4 := (B3.alloc B3.size _).grown hgrow4 (by have := B3.size; simp; omega) (fun j hj => (hown3.lt j hj).1); have hs4 := B4.size; have HB4 := hid B4; have hsrc4 := hid (hsrc2.out.moved (fun a u h => by rw [B4.cell (lt_of_cell h)]; exact h)); clear hown3 hgrow3 hgrow4 B3 B4 hsrc1 hsrc2
          go_wp2_with (at_builtin; refine wpList_append_own_src rfl _ _ 39 rfl w.heap.size 9 i9 _ 1 16 Tryz.underlying39 hi9 hy0 hy1 hy2 rfl (by decide) _ _ _ rfl hown4 _ (n - k) _ rfl hsrc4.out (strs_one _) ?hp2 ?hp3 ?hp4 ?_; (case hp2 => unfold maxLen; omega); (case hp3 => omega); (case hp4 => exact hs4); intro v5 w5 hown5 hgrow5)
          go_ret; exact FIN.out _ _ hown5 (HB4.out.grown hgrow5 HB4.out.size (fun j hj => (hown4.lt j hj).1))
    · obtain rfl : k = n := by omega
      have FIN := hid (fin.out (.inl rfl) (fun h => absurd h.1 (Nat.lt_irrefl _))); clear fin
      go_upto_region 8 with (at_builtin; refine wpList_append_src rfl _ _ 39 rfl w.heap.size 9 i9 _ 1 16 Tryz.underlying39 hi9 hy0 hy1 hy2 rfl (by decide) rfl _ k _ rfl hsrc1.out (strs_one _) ?hm2 ?hm3 ?hm4 ?_; (case hm2 => unfold maxLen; omega); (case hm3 => omega); (case hm4 => exact Nat.le_refl _); intro v3 w3 hown3 hgrow3; obtain ⟨a3, c3, rfl⟩ := row_shape hown3)
      go_upto_region 9 with (at_builtin; refine wpList_append_own _ rfl _ _ 39 rfl w.heap.size 9 i9 _ 1 16 Tryz.underlying39 hi9 hy0 hy1 hy2 rfl (by decide) _ _ _ rfl (hown3.alloc _) ⟨w3.heap.size, 0, none⟩ 1 1 [.string t] rfl rfl (cells11_new _ _ _ _ rfl) ?ho1 ?ho2 ?ho3 ?ho4 ?_; (case ho1 => exact fun u hu => by rw [List.mem_singleton.1 hu]; rfl); (case ho2 => unfold maxLen; omega); (case ho3 => omega); (case ho4 => have := hgrow3.size; simp; omega); intro v4 w4 hown4 hgrow4 _; obtain ⟨a4, c4, rfl⟩ := row_shape hown4)
      have B3 : Below w.heap.size w w3 := (Below.refl w.heap.size w).grown hgrow3 (Nat.le_refl _) (fun j hj => by cases hj); have B4 : Below w.heap.size w w4 := (B3.alloc B3.size _).grown hgrow4 (by have := B3.size; simp; omega) (fun j hj => (hown3.lt j hj).1); have hs4 := B4.size; have HB4 := hid B4; have hsrc4 := hid (hsrc2.out.moved (fun a u h => by rw [B4.cell (lt_of_cell h)]; exact h)); clear hown3 hgrow3 hgrow4 B3 B4 hsrc1 hsrc2
      go_wp2_with (at_builtin; refine wpList_append_own_src rfl _ _ 39 rfl w.heap.size 9 i9 _ 1 16 Tryz.underlying39 hi9 hy0 hy1 hy2 rfl (by decide) _ _ _ rfl hown4 _ 0 [] rfl ?hsx ?hoo ?hp2 ?hp3 ?hp4 ?_; (case hsx => exact src_ite); (case hoo => exact fun u hu => by simp at hu); (case hp2 => unfold maxLen; omega); (case hp3 => omega); (case hp4 => exact hs4); intro v5 w5 hown5 hgrow5)
      all_goals
        go_ret; exact FIN.out _ _ (by simpa using hown5) (HB4.out.grown hgrow5 HB4.out.size (fun j hj => (hown4.lt j hj).1))
theorem enter_any (w : World) (v : Value) (ss : List Tx) (h : StrsG w v ss) (t : ByteArray) (hl : ss.length ≤ 100000) : Calls Tryz.prog 60 #[v, .string t] w fun e w' => EnterRet ss t.data.toList w e w' := by
  rcases h with ⟨rfl, rfl⟩ | ⟨b, cap, rfl, h1, h⟩
  · obtain ⟨i9, hi9, hy0, hy1, hy2⟩ := info_parts Tryz.info9; have hn0 : SrcAt w (.slice none 0 0) 0 1 [] := .inl ⟨rfl, rfl, rfl⟩; go_enter Tryz.func60, Tryz.ntmps60; go_wp2; refine wp_loop_rounds 1 ?_; rw [rounds_succ]
    go_upto_region 8 with (at_builtin; refine wpList_append_src rfl _ _ 39 rfl w.heap.size 9 i9 _ 1 16 Tryz.underlying39 hi9 hy0 hy1 hy2 rfl (by decide) rfl _ 0 [] rfl hn0 (fun u hu => by simp at hu) ?hm2 ?hm3 ?hm4 ?_; (case hm2 => unfold maxLen; omega); (case hm3 => omega); (case hm4 => exact Nat.le_refl _); intro v3 w3 hown3 hgrow3; obtain ⟨a3, c3, rfl⟩ := row_shape hown3)
    go_upto_region 9 with (at_builtin; refine wpList_append_own _ rfl _ _ 39 rfl w.heap.size 9 i9 _ 1 16 Tryz.underlying39 hi9 hy0 hy1 hy2 rfl (by decide) _ _ _ rfl (hown3.alloc _) ⟨w3.heap.size, 0, none⟩ 1 1 [.string t] rfl rfl (cells11_new _ _ _ _ rfl) ?ho1 ?ho2 ?ho3 ?ho4 ?_; (case ho1 => exact fun u hu => by rw [List.mem_singleton.1 hu]; rfl); (case ho2 => unfold maxLen; omega); (case ho3 => omega); (case ho4 => have := hgrow3.size; simp; omega); intro v4 w4 hown4 hgrow4 _; obtain ⟨a4, c4, rfl⟩ := row_shape hown4)
    have B3 : Below w.heap.size w w3 := (Below.refl w.heap.size w).grown hgrow3 (Nat.le_refl _) (fun j hj => by cases hj); have B4 : Below w.heap.size w w4 := (B3.alloc B3.size _).grown hgrow4 (by have := B3.size; simp; omega) (fun j hj => (hown3.lt j hj).1); have hs4 := B4.size; have HB4 := hid B4; have hn4 : SrcAt w4 (.slice none 0 0) 0 1 [] := .inl ⟨rfl, rfl, rfl⟩; clear hown3 hgrow3 hgrow4 B3 B4
    go_wp2_with (at_builtin; refine wpList_append_own_src rfl _ _ 39 rfl w.heap.size 9 i9 _ 1 16 Tryz.underlying39 hi9 hy0 hy1 hy2 rfl (by decide) _ _ _ rfl hown4 _ 0 [] rfl hn4 (fun u hu => by simp at hu) ?hp2 ?hp3 ?hp4 ?_; (case hp2 => unfold maxLen; omega); (case hp3 => omega); (case hp4 => exact hs4); intro v5 w5 hown5 hgrow5)
    go_ret; refine ⟨_, rfl, ?_, HB4.out.grown hgrow5 HB4.out.size (fun j hj => (hown4.lt j hj).1)⟩
    exact strsG_of_row (ss := [t.data.toList]) (n := 1) (by rw [List.map_cons, encStr_data']; simpa using hown5) rfl
  · exact enter_n w b ss.length cap ss rfl h1 h t hl
end Go.Proofs.YtdnebclemngdcaaGreatDoor
