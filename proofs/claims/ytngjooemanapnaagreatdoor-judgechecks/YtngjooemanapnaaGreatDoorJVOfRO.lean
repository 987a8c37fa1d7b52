/- For the reference's enter: texts from a block's beginning on; The reference's enter by its contract; For the reference's OpsOf: rows of ops with their dots, parts of them, where an op goes in. -/
import Derived.Test.YtngjooemanapnaaGreatDoorJJI
import Derived.Test.YtngjooemanapnaaGreatDoorJVOfRA
import Derived.Test.YtngjooemanapnaaGreatDoorJVOf
import Derived.Test.YtngjooemanapnaaGreatDoorJVCmpD
import Derived.Test.YtngjooemanapnaaGreatDoorJJL
import Derived.Test.YtngjooemanapnaaGreatDoorJVLayI
import Derived.Test.YtngjooemanapnaaGreatDoorJVSame
import Derived.Test.YtngjooemanapnaaGreatDoorJVOwns
import Derived.Test.YtngjooemanapnaaGreatDoorJVOnce
import Derived.Test.YtngjooemanapnaaGreatDoorJVSetsI
import Derived.Test.YtngjooemanapnaaGreatDoorJVOfRL
import Derived.Test.YtngjooemanapnaaGreatDoorJVOnceM
import Derived.Test.YtngjooemanapnaaGreatDoorJVStandM
import Derived.Test.YtngjooemanapnaaGreatDoorJVOfRM
namespace Go.Proofs.YtngjooemanapnaaGreatDoor
open Go.RowKit Go.Sort Go.Maps
set_option maxRecDepth 100000
set_option linter.unusedSectionVars false
variable [Inhabited ComV] [DecidableEq D3] [Inhabited D3] [Inhabited Dd] [Inhabited Dn] [Inhabited OpV]

/-- The slice v, nil or from a block's beginning on, reads as these texts. -/
def StrsG (w : World) (v : Value) (ss : List Tx) : Prop := (v = .slice none 0 0 ∧ ss = []) ∨ ∃ b cap, v = .slice (some ⟨b, 0, none⟩) ss.length cap ∧ ss.length ≤ cap ∧ ∀ t, t < ss.length → w.cell? ⟨b, t, none⟩ = some (encStr ss[t]!)
theorem StrsG.strs {w : World} {v : Value} {ss : List Tx} (h : StrsG w v ss) : StrsAt w v ss := by
  rcases h with ⟨rfl, rfl⟩ | ⟨b, cap, rfl, _, h⟩
  · exact strs_nil w
  · exact ⟨_, cap, rfl, .inr ⟨b, rfl, h⟩⟩
theorem StrsG.mono {w w' : World} {v : Value} {ss : List Tx} {B : Nat} (h : StrsG w v ss) (hb : Below B w w') (hB : w.heap.size ≤ B) : StrsG w' v ss := by
  rcases h with h | ⟨b, cap, rfl, h1, h⟩
  · exact .inl h
  · exact .inr ⟨b, cap, rfl, h1, fun t ht => by rw [hb.cell (Nat.lt_of_lt_of_le (lt_of_cell (h t ht)) hB)]; exact h t ht⟩
theorem strsG_of_row {w : World} {base n : Nat} {v : Value} {ss : List Tx} (h : w.ownsRow base 9 1 v n (ss.map encStr)) (hn : n = ss.length) : StrsG w v ss := by
  subst hn
  obtain ⟨_, h2⟩ := h
  rcases h2 with ⟨rfl, h0⟩ | ⟨g, cap, cur, rfl, hb, hh, hn, hm, hs, ht⟩
  · exact .inl ⟨rfl, List.eq_nil_of_length_eq_zero h0⟩
  · refine .inr ⟨g, cap, rfl, hn, fun t htt => ?_⟩
    have e : cur[t]? = some (encStr ss[t]!) := by
      have h1 : (cur.toList.take (ss.length * 1))[t]? = (ss.map encStr)[t]? := by rw [ht]
      rw [List.getElem?_take, if_pos (by omega), Array.getElem?_toList] at h1
      rw [h1, List.getElem?_map, List.getElem?_eq_getElem htt, getElem!_pos ss t htt]
      rfl
    simp only [World.cell?, hh]
    exact e
theorem src_part {w : World} {b : Nat} {ss : List Tx} (h : ∀ t, t < ss.length → w.cell? ⟨b, t, none⟩ = some (encStr ss[t]!)) (s m cap : Nat) (hm : s + m ≤ ss.length) : SrcAt w (.slice (some ⟨b, s, none⟩) m cap) m 1 (((ss.drop s).take m).map encStr) := by
  refine .inr ⟨_, cap, rfl, by simp; omega, fun j u hu => ?_⟩
  have hj : j < m := by have := (List.getElem?_eq_some_iff.1 hu).1; simp at this; omega
  rw [List.getElem?_map, List.getElem?_take, if_pos hj, List.getElem?_drop, List.getElem?_eq_getElem (by omega)] at hu
  obtain rfl := Option.some.inj hu
  rw [Addr.add_lit, h (s + j) (by omega), getElem!_pos ss (s + j) (by omega)]
theorem src_ite {w : World} {p : Prop} [Decidable p] {a b : Addr} {c size : Nat} : SrcAt w (.slice (if p then some a else some b) 0 c) 0 size [] := by
  split
  · exact .inr ⟨a, c, rfl, by simp, fun j u hu => by simp at hu⟩
  · exact .inr ⟨b, c, rfl, by simp, fun j u hu => by simp at hu⟩
def EnterRet (ss : List Tx) (t : Tx) (w : World) (e : Ending) (w' : World) : Prop := ∃ v', e = .returned v' ∧ StrsG w' v' (enterL ss t) ∧ Below w.heap.size w w'
theorem encStr_data' (t : ByteArray) : encStr t.data.toList = .string t := encStr_data t
end Go.Proofs.YtngjooemanapnaaGreatDoor
namespace Go.Proofs.YtngjooemanapnaaGreatDoor
open Go.RowKit Go.Sort Go.Maps
set_option maxRecDepth 100000
set_option linter.unusedSectionVars false
variable [Inhabited ComV] [DecidableEq D3] [Inhabited D3] [Inhabited Dd] [Inhabited Dn] [Inhabited OpV]

set_option maxHeartbeats 4000000 in
theorem enter_n (w : World) (b n cap : Nat) (ss : List Tx) (hn : n = ss.length) (hcap : n ≤ cap) (h : ∀ t, t < ss.length → w.cell? ⟨b, t, none⟩ = some (encStr ss[t]!)) (t : ByteArray) (hl : n ≤ 100000) :
    Calls Tryz.prog 79 #[.slice (some ⟨b, 0, none⟩) n cap, .string t] w fun e w' => EnterRet ss t.data.toList w e w' := by
  obtain ⟨i9, hi9, hy0, hy1, hy2⟩ := info_parts Tryz.info9
  have HN := hid hn
  have H1 := hid h
  clear hn h
  go_enter Tryz.func79, Tryz.ntmps79
  go_wp2
  go_loop [5] (fun i => ∃ k : Nat, k ≤ n ∧ i = .int .i64 k ∧ Hid (∀ j, j < k → ss[j]! < t.data.toList)) (fun i => n - (intOf i).toNat)
  case atStart => exact ⟨0, Nat.zero_le _, rfl, fun t ht => absurd ht (Nat.not_lt_zero _)⟩
  case round =>
    obtain ⟨k, hk, rfl, HI⟩ := hrel
    have hsrc1 := hid (src_part H1.out 0 k cap (by have := HN.out; omega))
    have hsrc2 := hid (src_part H1.out k (n - k) (cap - k) (by have := HN.out; omega))
    have fin : Hid ((k = n ∨ ¬ ss[k]! < t.data.toList) → ¬ (k < n ∧ ss[k]! = t.data.toList) → ∀ (v' : Value) (w' : World), w'.ownsRow w.heap.size 9 1 v' (k + 1 + (n - k)) (((ss.drop 0).take k).map encStr ++ [.string t] ++ ((ss.drop k).take (n - k)).map encStr) → Below w.heap.size w w' → EnterRet ss t.data.toList w (.returned v') w') := fun h1 h2 v' w' hr hb => by
      obtain ⟨e1, e2⟩ := split_at (ss := ss) (s := t.data.toList) HI.out (by have := HN.out; omega) (by rw [← HN.out]; exact h1)
      have he : enterL ss t.data.toList = ss.take k ++ t.data.toList :: ss.drop k := by
        unfold enterL
        rw [e1, e2, if_neg (fun hh => h2 (by
          rw [List.head?_drop] at hh
          obtain ⟨hlt, hx⟩ := List.getElem?_eq_some_iff.1 hh
          exact ⟨by have := HN.out; omega, by rw [getElem!_pos ss k hlt]; exact hx⟩))]
      refine ⟨v', rfl, ?_, hb⟩
      rw [he]
      refine strsG_of_row (base := w.heap.size) (n := k + 1 + (n - k)) ?_ (by simp; have := HN.out; omega)
      rw [List.drop_zero, List.take_of_length_le (by simp; have := HN.out; omega : (ss.drop k).length ≤ n - k)] at hr
      rw [List.map_append, List.map_cons, encStr_data']
      simpa using hr
    by_cases hlt : k < n
    · have e1 := H1.out k (by have := HN.out; omega)
      obtain ⟨s, hs⟩ := encStr_shape ss[k]!
      have hse := encStr_eq hs
      rw [hs] at e1
      by_cases hless : ss[k]! < t.data.toList
      · have bl : Op.bytesLess s.toList t.toList = true := by rw [bytesLess_eq, Lib.toList_data, Lib.toList_data, hse]; exact decide_eq_true hless
        have HLS := hid hless
        clear hless hs hse fin
        go_wp2
        go_round
        case rel => exact ⟨k + 1, by omega, by go_num, fun j hj => by rcases Nat.lt_succ_iff_lt_or_eq.1 hj with h | rfl; exact HI.out j h; exact HLS.out⟩
        case measure => simp [intOf]; omega
      · have bl : Op.bytesLess s.toList t.toList = false := by rw [bytesLess_eq, Lib.toList_data, Lib.toList_data, hse]; exact decide_eq_false hless
        by_cases heq : s = t
        · subst heq
          have hret : Hid (EnterRet ss s.data.toList w (.returned (.slice (some ⟨b, 0, none⟩) n cap)) w) := by
            obtain ⟨e1', e2'⟩ := split_at (ss := ss) (s := s.data.toList) HI.out (by have := HN.out; omega) (.inr hless)
            have he : enterL ss s.data.toList = ss := by
              unfold enterL
              rw [e2', if_pos (by rw [List.head?_drop, List.getElem?_eq_getElem (by have := HN.out; omega), ← getElem!_pos ss k (by have := HN.out; omega), hse]), ← e2', List.takeWhile_append_dropWhile]
            exact ⟨_, rfl, by rw [he]; exact .inr ⟨b, cap, by rw [HN.out], by rw [← HN.out]; exact hcap, H1.out⟩, Below.refl _ _⟩
          clear hs hse hless fin
          go_wp2
          go_ret
          exact hret.out
        · have hne : (s.toList == t.toList) = false := beq_eq_false_iff_ne.2 (ne_toList heq)
          have FIN := hid (fin.out (.inr hless) (fun h => heq (WideShapes.bytes_inj (by rw [hse]; exact h.2))))
          clear hs hse hless fin heq
          go_upto_region 8 with (at_builtin; refine wpList_append_src rfl _ _ 53 rfl w.heap.size 9 i9 _ 1 16 Tryz.underlying53 hi9 hy0 hy1 hy2 rfl (by decide) rfl _ k _ rfl hsrc1.out (strs_one _) ?hm2 ?hm3 ?hm4 ?_; (case hm2 => unfold maxLen; omega); (case hm3 => omega); (case hm4 => exact Nat.le_refl _); intro v3 w3 hown3 hgrow3; obtain ⟨a3, c3, rfl⟩ := row_shape hown3)
          go_upto_region 9 with (at_builtin; refine wpList_append_own _ rfl _ _ 53 rfl w.heap.size 9 i9 _ 1 16 Tryz.underlying53 hi9 hy0 hy1 hy2 rfl (by decide) _ _ _ rfl (hown3.alloc _) ⟨w3.heap.size, 0, none⟩ 1 1 [.string t] rfl rfl (cells11_new _ _ _ _ rfl) ?ho1 ?ho2 ?ho3 ?ho4 ?_; (case ho1 => exact fun u hu => by rw [List.mem_singleton.1 hu]; rfl); (case ho2 => unfold maxLen; omega); (case ho3 => omega); (case ho4 => have := hgrow3.size; simp; omega); intro v4 w4 hown4 hgrow4 _; obtain ⟨a4, c4, rfl⟩ := row_shape hown4)
          have B3 : Below w.heap.size w w3 := (Below.refl w.heap.size w).grown hgrow3 (Nat.le_refl _) (fun j hj => by cases hj)
          have B4 : Below w.heap.size w w4 := (B3.alloc B3.size _).grown hgrow4 (by have := B3.size; simp; omega) (fun j hj => (hown3.lt j hj).1)
          have hs4 := B4.size
          have HB4 := hid B4
          have hsrc4 := hid (hsrc2.out.moved (fun a u h => by rw [B4.cell (lt_of_cell h)]; exact h))
          clear hown3 hgrow3 hgrow4 B3 B4 hsrc1 hsrc2
          go_wp2_with (at_builtin; refine wpList_append_own_src rfl _ _ 53 rfl w.heap.size 9 i9 _ 1 16 Tryz.underlying53 hi9 hy0 hy1 hy2 rfl (by decide) _ _ _ rfl hown4 _ (n - k) _ rfl hsrc4.out (strs_one _) ?hp2 ?hp3 ?hp4 ?_; (case hp2 => unfold maxLen; omega); (case hp3 => omega); (case hp4 => exact hs4); intro v5 w5 hown5 hgrow5)
          go_ret
          exact FIN.out _ _ hown5 (HB4.out.grown hgrow5 HB4.out.size (fun j hj => (hown4.lt j hj).1))
    · obtain rfl : k = n := by omega
      have FIN := hid (fin.out (.inl rfl) (fun h => absurd h.1 (Nat.lt_irrefl _)))
      clear fin
      go_upto_region 8 with (at_builtin; refine wpList_append_src rfl _ _ 53 rfl w.heap.size 9 i9 _ 1 16 Tryz.underlying53 hi9 hy0 hy1 hy2 rfl (by decide) rfl _ k _ rfl hsrc1.out (strs_one _) ?hm2 ?hm3 ?hm4 ?_; (case hm2 => unfold maxLen; omega); (case hm3 => omega); (case hm4 => exact Nat.le_refl _); intro v3 w3 hown3 hgrow3; obtain ⟨a3, c3, rfl⟩ := row_shape hown3)
      go_upto_region 9 with (at_builtin; refine wpList_append_own _ rfl _ _ 53 rfl w.heap.size 9 i9 _ 1 16 Tryz.underlying53 hi9 hy0 hy1 hy2 rfl (by decide) _ _ _ rfl (hown3.alloc _) ⟨w3.heap.size, 0, none⟩ 1 1 [.string t] rfl rfl (cells11_new _ _ _ _ rfl) ?ho1 ?ho2 ?ho3 ?ho4 ?_; (case ho1 => exact fun u hu => by rw [List.mem_singleton.1 hu]; rfl); (case ho2 => unfold maxLen; omega); (case ho3 => omega); (case ho4 => have := hgrow3.size; simp; omega); intro v4 w4 hown4 hgrow4 _; obtain ⟨a4, c4, rfl⟩ := row_shape hown4)
      have B3 : Below w.heap.size w w3 := (Below.refl w.heap.size w).grown hgrow3 (Nat.le_refl _) (fun j hj => by cases hj)
      have B4 : Below w.heap.size w w4 := (B3.alloc B3.size _).grown hgrow4 (by have := B3.size; simp; omega) (fun j hj => (hown3.lt j hj).1)
      have hs4 := B4.size
      have HB4 := hid B4
      have hsrc4 := hid (hsrc2.out.moved (fun a u h => by rw [B4.cell (lt_of_cell h)]; exact h))
      clear hown3 hgrow3 hgrow4 B3 B4 hsrc1 hsrc2
      go_wp2_with (at_builtin; refine wpList_append_own_src rfl _ _ 53 rfl w.heap.size 9 i9 _ 1 16 Tryz.underlying53 hi9 hy0 hy1 hy2 rfl (by decide) _ _ _ rfl hown4 _ 0 [] rfl ?hsx ?hoo ?hp2 ?hp3 ?hp4 ?_; (case hsx => exact src_ite); (case hoo => exact fun u hu => by simp at hu); (case hp2 => unfold maxLen; omega); (case hp3 => omega); (case hp4 => exact hs4); intro v5 w5 hown5 hgrow5)
      all_goals
        go_ret
        exact FIN.out _ _ (by simpa using hown5) (HB4.out.grown hgrow5 HB4.out.size (fun j hj => (hown4.lt j hj).1))
/-- enter, at any texts. -/
theorem enter_any (w : World) (v : Value) (ss : List Tx) (h : StrsG w v ss) (t : ByteArray) (hl : ss.length ≤ 100000) : Calls Tryz.prog 79 #[v, .string t] w fun e w' => EnterRet ss t.data.toList w e w' := by
  rcases h with ⟨rfl, rfl⟩ | ⟨b, cap, rfl, h1, h⟩
  · obtain ⟨i9, hi9, hy0, hy1, hy2⟩ := info_parts Tryz.info9
    have hn0 : SrcAt w (.slice none 0 0) 0 1 [] := .inl ⟨rfl, rfl, rfl⟩
    go_enter Tryz.func79, Tryz.ntmps79
    go_wp2
    refine wp_loop_rounds 1 ?_
    rw [rounds_succ]
    go_upto_region 8 with (at_builtin; refine wpList_append_src rfl _ _ 53 rfl w.heap.size 9 i9 _ 1 16 Tryz.underlying53 hi9 hy0 hy1 hy2 rfl (by decide) rfl _ 0 [] rfl hn0 (fun u hu => by simp at hu) ?hm2 ?hm3 ?hm4 ?_; (case hm2 => unfold maxLen; omega); (case hm3 => omega); (case hm4 => exact Nat.le_refl _); intro v3 w3 hown3 hgrow3; obtain ⟨a3, c3, rfl⟩ := row_shape hown3)
    go_upto_region 9 with (at_builtin; refine wpList_append_own _ rfl _ _ 53 rfl w.heap.size 9 i9 _ 1 16 Tryz.underlying53 hi9 hy0 hy1 hy2 rfl (by decide) _ _ _ rfl (hown3.alloc _) ⟨w3.heap.size, 0, none⟩ 1 1 [.string t] rfl rfl (cells11_new _ _ _ _ rfl) ?ho1 ?ho2 ?ho3 ?ho4 ?_; (case ho1 => exact fun u hu => by rw [List.mem_singleton.1 hu]; rfl); (case ho2 => unfold maxLen; omega); (case ho3 => omega); (case ho4 => have := hgrow3.size; simp; omega); intro v4 w4 hown4 hgrow4 _; obtain ⟨a4, c4, rfl⟩ := row_shape hown4)
    have B3 : Below w.heap.size w w3 := (Below.refl w.heap.size w).grown hgrow3 (Nat.le_refl _) (fun j hj => by cases hj)
    have B4 : Below w.heap.size w w4 := (B3.alloc B3.size _).grown hgrow4 (by have := B3.size; simp; omega) (fun j hj => (hown3.lt j hj).1)
    have hs4 := B4.size
    have HB4 := hid B4
    have hn4 : SrcAt w4 (.slice none 0 0) 0 1 [] := .inl ⟨rfl, rfl, rfl⟩
    clear hown3 hgrow3 hgrow4 B3 B4
    go_wp2_with (at_builtin; refine wpList_append_own_src rfl _ _ 53 rfl w.heap.size 9 i9 _ 1 16 Tryz.underlying53 hi9 hy0 hy1 hy2 rfl (by decide) _ _ _ rfl hown4 _ 0 [] rfl hn4 (fun u hu => by simp at hu) ?hp2 ?hp3 ?hp4 ?_; (case hp2 => unfold maxLen; omega); (case hp3 => omega); (case hp4 => exact hs4); intro v5 w5 hown5 hgrow5)
    go_ret
    refine ⟨_, rfl, ?_, HB4.out.grown hgrow5 HB4.out.size (fun j hj => (hown4.lt j hj).1)⟩
    exact strsG_of_row (ss := [t.data.toList]) (n := 1) (by rw [List.map_cons, encStr_data']; simpa using hown5) rfl
  · exact enter_n w b ss.length cap ss rfl h1 h t hl
end Go.Proofs.YtngjooemanapnaaGreatDoor
namespace Go.Proofs.YtngjooemanapnaaGreatDoor
open Go.RowKit Go.Sort Go.Maps
set_option maxRecDepth 100000
set_option linter.unusedSectionVars false
variable [Inhabited ComV] [DecidableEq D3] [Inhabited D3] [Inhabited Dd] [Inhabited Dn] [Inhabited OpV]

theorem Dd.flat_len (xs : List Dd) : (xs.flatMap Dd.enc).length = xs.length * 11 := by
  induction xs with
  | nil => rfl
  | cons x r ih => rw [List.flatMap_cons, List.length_append, ih, List.length_cons, Dd.enc_length]; omega
theorem dns_one (xs : List Dd) : ∀ u ∈ xs.flatMap Dd.enc, u.oneCell' = true := fun u hu => by
  obtain ⟨d, _, h⟩ := List.mem_flatMap.1 hu
  exact Dd.enc_one d u h
theorem dns_of_owns {w : World} {base e n : Nat} {v : Value} {xs : List Dd} (h : w.ownsRow base e 11 v n (xs.flatMap Dd.enc)) (hn : n = xs.length) (hg : ∀ x ∈ xs, GoodD w x) : DnsAt w v xs :=
  ⟨rowAt_of_owns (rows := xs.map Dd.enc) (by rw [← List.flatMap_def]; exact h) (by simp [hn]) (fun r hr => by obtain ⟨x, _, rfl⟩ := List.mem_map.1 hr; exact Dd.enc_length x), hg⟩
/-- A part of a row that begins where its block does. -/
theorem src_dns {w : World} {b n c : Nat} {xs : List Dd} (h : DnsAt w (.slice (some ⟨b, 0, none⟩) n c) xs) (s m c' : Nat) (hm : s + m ≤ xs.length) : SrcAt w (.slice (some ⟨b, s * 11, none⟩) m c') m 11 (((xs.drop s).take m).flatMap Dd.enc) := by
  refine .inr ⟨_, c', rfl, by rw [Dd.flat_len]; simp; omega, fun j u hu => ?_⟩
  have hjl : j < m * 11 := by have := (List.getElem?_eq_some_iff.1 hu).1; rw [Dd.flat_len] at this; simp at this; omega
  have hq : j / 11 < m := by omega
  have hq' : j / 11 < ((xs.drop s).take m).length := by simp; omega
  have e := flat_get ((xs.drop s).take m) (j / 11) (j % 11) hq' (by omega)
  rw [show j / 11 * 11 + j % 11 = j by omega, hu] at e
  have hx : ((xs.drop s).take m)[j / 11]! = xs[s + j / 11]! := by
    rw [getElem!_pos ((xs.drop s).take m) (j / 11) hq', getElem!_pos xs (s + j / 11) (by omega)]
    simp
  rw [hx] at e
  obtain ⟨b', off', he, hc⟩ := h.cell (k := s + j / 11) (by omega)
  injection he with he
  injection he with e1 e2 _
  subst e1 e2
  have := hc (j % 11) u (by
    rw [List.getElem?_eq_getElem (by rw [Dd.enc_length]; omega)]
    rw [getElem!_pos _ _ (by rw [Dd.enc_length]; omega)] at e
    exact e.symm)
  rw [Addr.add_lit, ← this]
  congr 2
  omega
theorem src_dns' {w : World} {b n c : Nat} {xs : List Dd} (h : DnsAt w (.slice (some ⟨b, 0, none⟩) n c) xs) (s m c' X m' : Nat) (hm : s + m ≤ xs.length) (hX : X = s * 11) (hm' : m' = m) : SrcAt w (.slice (some ⟨b, X, none⟩) m' c') m 11 (((xs.drop s).take m).flatMap Dd.enc) := by
  subst hX hm'
  exact src_dns h s _ c' hm
theorem src_zero {w : World} {a : Addr} {m m' c : Nat} (xs : List Dd) (hm : m = 0) (hm' : m' = m) : SrcAt w (.slice (some a) m' c) m 11 ((xs.take m).flatMap Dd.enc) := by
  subst hm' hm
  exact .inr ⟨a, c, rfl, by simp, fun j u hu => by simp at hu⟩
/-- The call's own row of ops holds acc. -/
structure AllInv (w wr : World) (v : Value) (acc : List Dn) : Prop where
  row : ∃ xs : List Dd, wr.ownsRow w.heap.size 137 11 v xs.length (xs.flatMap Dd.enc) ∧ xs.map Dd.abs = acc ∧ ∀ x ∈ xs, GoodD w x
  below : Below w.heap.size w wr
theorem AllInv.start (w : World) : AllInv w w (.slice none 0 0) [] := ⟨⟨[], World.ownsRow_nil _ _ _ _, rfl, fun x hx => by simp at hx⟩, Below.refl _ _⟩
theorem AllInv.moved {w wr w' : World} {v : Value} {acc : List Dn} (h : AllInv w wr v acc) (hb : Below wr.heap.size wr w') : AllInv w w' v acc :=
  ⟨let ⟨xs, h1, h2⟩ := h.row; ⟨xs, owns_below h1 fun b _ hc => hb.block b (lt_of_heap hc), h2⟩, h.below.trans (hb.mono h.below.size)⟩
theorem AllInv.dns {w wr : World} {v : Value} {acc : List Dn} (h : AllInv w wr v acc) : ∃ xs : List Dd, DnsAt wr v xs ∧ xs.map Dd.abs = acc ∧ xs.length = acc.length := by
  obtain ⟨xs, h1, h2, h3⟩ := h.row
  exact ⟨xs, dns_of_owns h1 rfl (fun x hx => (h3 x hx).mono h.below (Nat.le_refl _)), h2, by rw [← h2, List.length_map]⟩
theorem AllInv.shape {w wr : World} {v : Value} {acc : List Dn} (h : AllInv w wr v acc) : ∃ a c, v = .slice a acc.length c := by
  obtain ⟨xs, h1, h2, _⟩ := h.row
  obtain ⟨a, c, h3⟩ := row_shape h1
  exact ⟨a, c, by rw [h3, ← h2, List.length_map]⟩
/-- Where an op goes in. -/
theorem split_atN {x : Dn} : ∀ {ys : List Dn} {k : Nat}, (∀ j, j < k → ltN ys[j]! x = true) → k ≤ ys.length → (k = ys.length ∨ ltN ys[k]! x = false) → insN ys x = ys.take k ++ x :: ys.drop k
  | [], k, _, hk, _ => by
    obtain rfl : k = 0 := by simpa using hk
    rfl
  | y :: r, 0, _, _, h2 => by
    have h : ltN y x = false := h2.resolve_left (by simp)
    unfold insN insAt
    rw [List.takeWhile_cons_of_neg (p := fun y => ltN y x) (by simpa using h), List.dropWhile_cons_of_neg (p := fun y => ltN y x) (by simpa using h)]
    rfl
  | y :: r, k + 1, h1, hk, h2 => by
    have h : ltN y x = true := h1 0 (by omega)
    have ih := split_atN (x := x) (ys := r) (k := k) (fun j hj => by have := h1 (j + 1) (by omega); simpa using this) (by simpa using hk) (by
      rcases h2 with h2 | h2
      · exact .inl (by simpa using h2)
      · exact .inr (by simpa using h2))
    unfold insN insAt at ih ⊢
    rw [List.takeWhile_cons_of_pos (p := fun y => ltN y x) h, List.dropWhile_cons_of_pos (p := fun y => ltN y x) h, List.cons_append, ih]
    rfl
/-- How far the search for a dot has come. -/
theorem hasDot_take {acc : List Dn} {j : Nat} (h : j < acc.length) (d : D3) : hasDot (acc.take (j + 1)) d = (hasDot (acc.take j) d || decide (acc[j]!.dot = d)) := by
  rw [List.take_succ_eq_append_getElem h, hasDot_append, getElem!_pos acc j h]
/-- The ops on a key among the first k. -/
def keyTo (key : ByteArray) (acc : List Dn) (k : Nat) : List Dn := (acc.take k).filter fun x => decide (x.o.key = key)
theorem keyTo_succ {key : ByteArray} {acc : List Dn} {k : Nat} (h : k < acc.length) : keyTo key acc (k + 1) = if acc[k]!.o.key = key then keyTo key acc k ++ [acc[k]!] else keyTo key acc k := by
  unfold keyTo
  rw [List.take_succ_eq_append_getElem h, List.filter_append, getElem!_pos acc k h]
  by_cases hk : acc[k].o.key = key
  · rw [if_pos hk]; simp [hk]
  · rw [if_neg hk]; simp [hk]
theorem sortR_snoc (l : List Dn) (x : Dn) : sortR (l ++ [x]) = insN (sortR l) x := by
  unfold sortR
  rw [List.foldl_append]
  rfl
theorem sortR_len (l : List Dn) : (sortR l).length = l.length := (sortR_perm l).length_eq
theorem keyTo_len (key : ByteArray) (acc : List Dn) (k : Nat) : (keyTo key acc k).length ≤ acc.length := by
  unfold keyTo
  exact Nat.le_trans (List.length_filter_le _ _) (by simp; omega)
/-- Those of the first one's kind among the first k. -/
def kindTo (ys : List Dn) (k : Nat) : List Dn := (ys.take k).filter fun x => decide (x.o.kind = ys[0]!.o.kind)
theorem kindTo_succ {ys : List Dn} {k : Nat} (h : k < ys.length) : kindTo ys (k + 1) = if ys[k]!.o.kind = ys[0]!.o.kind then kindTo ys k ++ [ys[k]!] else kindTo ys k := by
  unfold kindTo
  rw [List.take_succ_eq_append_getElem h, List.filter_append, getElem!_pos ys k h]
  by_cases hk : ys[k].o.kind = ys[0]!.o.kind
  · rw [if_pos hk]; simp only [List.filter_cons, decide_eq_true hk, if_true, List.filter_nil]
  · rw [if_neg hk]; simp only [List.filter_cons, decide_eq_false hk, Bool.false_eq_true, if_false, List.filter_nil, List.append_nil]
theorem kindTo_all (ys : List Dn) : kindTo ys ys.length = ofKind ys := by unfold kindTo ofKind; rw [List.take_length]
theorem kindTo_len (ys : List Dn) (k : Nat) : (kindTo ys k).length ≤ ys.length := by
  unfold kindTo
  exact Nat.le_trans (List.length_filter_le _ _) (by simp; omega)
/-- An op more at the row's end. -/
theorem AllInv.step {w wr w2 : World} {v v' : Value} {acc : List Dn} {o2 : Obj} {xs : List Dd} {x : Dd} (hx : GoodD w x) (hb : Below w.heap.size w wr) (hrow : wr.ownsRow w.heap.size 137 11 v xs.length (xs.flatMap Dd.enc)) (habs : xs.map Dd.abs = acc) (hgood : ∀ x ∈ xs, GoodD w x)
    (hg2 : (wr.alloc o2).grownBy w2 v.ownBlock) (hr2 : w2.ownsRow w.heap.size 137 11 v' (xs.length + 1) (xs.flatMap Dd.enc ++ x.enc)) : AllInv w w2 v' (acc ++ [x.abs]) where
  row := ⟨xs ++ [x], by simpa using hr2, by simp [habs], fun y hy => by
    rcases List.mem_append.1 hy with h | h
    · exact hgood y h
    · rw [List.mem_singleton.1 h]; exact hx⟩
  below := (hb.alloc hb.size o2).grown hg2 (by have := hb.size; simp; omega) (fun j hj => (hrow.lt j hj).1)
theorem owns_base {w : World} {B B' e size n : Nat} {v : Value} {xs : List Value} (h : w.ownsRow B e size v n xs) (hB : B' ≤ B) : w.ownsRow B' e size v n xs := by
  obtain ⟨h1, h2⟩ := h
  refine ⟨h1, ?_⟩
  rcases h2 with h2 | ⟨g, cap, cur, e1, e2, e3⟩
  · exact .inl h2
  · exact .inr ⟨g, cap, cur, e1, Nat.le_trans hB e2, e3⟩
/-- An op goes in. -/
theorem AllInv.insert {w4 w5 : World} {B : Nat} {v5 : Value} {ys : List Dd} {z : Dd} {acc : List Dn} {j ny : Nat} (hys : ys.map Dd.abs = acc) (hny : ny = ys.length) (hj : j ≤ ny) (hlo : ∀ t, t < j → ltN ys[t]!.abs z.abs = true) (hhi : j = ny ∨ ltN ys[j]!.abs z.abs = false) (hgood : ∀ x ∈ ys, GoodD w4 x) (hz : GoodD w4 z)
    (hrow : w5.ownsRow B 137 11 v5 (j + 1 + (ny - j)) (((ys.drop 0).take j).flatMap Dd.enc ++ z.enc ++ ((ys.drop j).take (ny - j)).flatMap Dd.enc)) (hB : w4.heap.size ≤ B) (hb : Below w4.heap.size w4 w5) : AllInv w4 w5 v5 (insN acc z.abs) := by
  have hget : ∀ t, t < ys.length → (ys.map Dd.abs)[t]! = ys[t]!.abs := fun t ht => by
    rw [getElem!_pos (ys.map Dd.abs) t (by simpa using ht), List.getElem_map, getElem!_pos ys t ht]
  have hins : insN acc z.abs = (ys.map Dd.abs).take j ++ z.abs :: (ys.map Dd.abs).drop j := by
    rw [← hys]
    refine split_atN (fun t ht => by rw [hget t (by omega)]; exact hlo t ht) (by simp; omega) ?_
    by_cases he : j = ny
    · exact .inl (by simp; omega)
    · exact .inr (by rw [hget j (by omega)]; exact hhi.resolve_left he)
  refine ⟨⟨ys.take j ++ z :: ys.drop j, ?_, ?_, ?_⟩, hb⟩
  · have h1 := owns_base hrow hB
    rw [List.drop_zero, List.take_of_length_le (by simp; omega : (ys.drop j).length ≤ ny - j)] at h1
    have h2 : (ys.take j ++ z :: ys.drop j).length = j + 1 + (ny - j) := by simp; omega
    rw [h2]
    simpa using h1
  · rw [hins]
    simp
  · intro x hx
    rcases List.mem_append.1 hx with h | h
    · exact hgood x (List.mem_of_mem_take h)
    · rcases List.mem_cons.1 h with rfl | h
      · exact hz
      · exact hgood x (List.mem_of_mem_drop h)
/-- The same goal behind each way through. -/
theorem joined {p q : Prop} (h : p → q) (hp : p) : q := h hp
def OpsOfRet (key : ByteArray) (l : List ComV) (w : World) (e : Ending) (w' : World) : Prop := ∃ v xs, e = .returned v ∧ DnsAt w' v xs ∧ xs.map Dd.abs = opsR key l ∧ Below w.heap.size w w'
end Go.Proofs.YtngjooemanapnaaGreatDoor
