/- For the reference's enter: appending to a row of one's own; where a text's place is; For the reference's enter: texts from a block's beginning on; The reference's enter by its contract. -/
import Derived.Test.YtilonnkohcocoaaGreatDoorJVOfRL
import Derived.Test.YtilonnkohcocoaaGreatDoorJVTurnM
namespace Go.Proofs.YtilonnkohcocoaaGreatDoor
open Go.RowKit Go.Sort Go.Maps
set_option maxRecDepth 100000
set_option linter.unusedSectionVars false
variable [Inhabited ComV] [DecidableEq D3] [Inhabited D3] [Inhabited Dd] [Inhabited Dn] [Inhabited OpV]

/-- append(own row, x...): whatever x reads as. -/
theorem wpList_append_own_src {w : World} {ops : Array Oper} {rest : List Oper} {o : Oper} {a : Act} {Q : Exit → Act → World → Prop} (hgd : o.guard = none) (s x : Operand) (t : TypeId)
    (ho : o.op = .call { callee := .builtin .append, args := #[s, x], argTypes := #[t, t] })
    (base : Nat) (e : TypeId) (i : TypeInfo) (z : Value) (size bytes : Nat) (ht : Tryz.prog.underlying t = some (.slice e)) (hi : Tryz.prog.info? e = some i) (hz : i.zero = some z)
    (hsize : i.size = size) (hby : i.bytes = bytes) (hzs : z.cells.size = size) (hsz : 0 < size)
    (v0 : Value) (n : Nat) (xs : List Value) (hs : a.eval s = v0) (hown : w.ownsRow base e size v0 n xs) (v : Value) (m : Nat) (news : List Value) (hx : a.eval x = v) (hv : SrcAt w v m size news) (h1 : ∀ u ∈ news, u.oneCell' = true)
    (h63 : n + m ≤ maxLen) (hbytes : (n + m) * bytes ≤ 140737488355328) (hbase : base ≤ w.heap.size)
    (h : ∀ v' w', w'.ownsRow base e size v' (n + m) (xs ++ news) → w.grownBy w' v0.ownBlock → wpList Tryz.prog ops Q rest (a.put o.dst v') w') : wpList Tryz.prog ops Q (o :: rest) a w := by
  rcases hv with ⟨rfl, rfl, rfl⟩ | ⟨ad, c, rfl, hl, hn⟩
  · exact wpList_append_own_none hgd s x t ho base e i size ht hi v0 n xs hs hown hx (h _ _ (by simpa using hown) ⟨rfl, rfl, rfl, Nat.le_refl _, fun _ _ _ => rfl⟩)
  · exact wpList_append_own w hgd s x t ho base e i z size bytes ht hi hz hsize hby hzs hsz v0 n xs hs hown ad m c news hx hl hn h1 h63 hbytes hbase fun v' w' h2 h3 _ => h v' w' h2 h3
theorem strs_one (ss : List Tx) : ∀ u ∈ ss.map encStr, u.oneCell' = true := fun u hu => by
  obtain ⟨z, _, rfl⟩ := List.mem_map.1 hu
  rfl
theorem strs_of_row {w : World} {base : Nat} {v : Value} {ss : List Tx} (h : w.ownsRow base 9 1 v ss.length (ss.map encStr)) : StrsAt w v ss := by
  obtain ⟨_, h2⟩ := h
  rcases h2 with ⟨rfl, h0⟩ | ⟨g, cap, cur, rfl, hb, hh, hn, hm, hs, ht⟩
  · exact ⟨none, 0, by rw [h0], .inl (List.eq_nil_of_length_eq_zero h0)⟩
  · refine ⟨_, cap, rfl, .inr ⟨g, rfl, fun t htt => ?_⟩⟩
    have e : cur[t]? = some (encStr ss[t]!) := by
      have h1 : (cur.toList.take (ss.length * 1))[t]? = (ss.map encStr)[t]? := by rw [ht]
      rw [List.getElem?_take, if_pos (by omega), Array.getElem?_toList] at h1
      rw [h1, List.getElem?_map, List.getElem?_eq_getElem htt, getElem!_pos ss t htt]
      rfl
    simp only [World.cell?, hh]
    exact e
/-- Where the search for a text's place ends. -/
theorem split_at {s : Tx} : ∀ {ss : List Tx} {k : Nat}, (∀ j, j < k → ss[j]! < s) → k ≤ ss.length → (k = ss.length ∨ ¬ ss[k]! < s) → ss.takeWhile (fun x => decide (x < s)) = ss.take k ∧ ss.dropWhile (fun x => decide (x < s)) = ss.drop k
  | [], k, _, hk, _ => by
    obtain rfl : k = 0 := by simpa using hk
    exact ⟨rfl, rfl⟩
  | y :: r, 0, _, _, h2 => by
    have h : ¬ y < s := h2.resolve_left (by simp)
    rw [List.takeWhile_cons_of_neg (p := fun x => decide (x < s)) (by simpa using h), List.dropWhile_cons_of_neg (p := fun x => decide (x < s)) (by simpa using h)]
    exact ⟨rfl, rfl⟩
  | y :: r, k + 1, h1, hk, h2 => by
    have h : y < s := h1 0 (by omega)
    obtain ⟨e1, e2⟩ := split_at (ss := r) (k := k) (fun j hj => by have := h1 (j + 1) (by omega); simpa using this) (by simpa using hk) (by
      rcases h2 with h2 | h2
      · exact .inl (by simpa using h2)
      · exact .inr (by simpa using h2))
    rw [List.takeWhile_cons_of_pos (p := fun x => decide (x < s)) (decide_eq_true h), List.dropWhile_cons_of_pos (p := fun x => decide (x < s)) (decide_eq_true h), e1, e2]
    exact ⟨rfl, rfl⟩
end Go.Proofs.YtilonnkohcocoaaGreatDoor
namespace Go.Proofs.YtilonnkohcocoaaGreatDoor
open Go.RowKit Go.Sort Go.Maps
set_option maxRecDepth 100000
set_option linter.unusedSectionVars false
variable [Inhabited ComV] [DecidableEq D3] [Inhabited D3] [Inhabited Dd] [Inhabited Dn] [Inhabited OpV]

/-- The slice v, nil or from a block's beginning on, reads as these texts. -/
def StrsG (w : World) (v : Value) (ss : List Tx) : Prop := (v = .slice none 0 0 ∧ ss = []) ∨ ∃ b cap, v = .slice (some ⟨b, 0, none⟩) ss.length cap ∧ ss.length ≤ cap ∧ ∀ t, t < ss.length → w.cell? ⟨b, t, none⟩ = some (encStr ss[t]!)
theorem StrsG.strs {w : World} {v : Value} {ss : List Tx} (h : StrsG w v ss) : StrsAt w v ss := by
  rcases h with ⟨rfl, rfl⟩ | ⟨b, cap, rfl, _, h⟩
  · exact strs_nil w
  · exact ⟨_, cap, rfl, .inr ⟨b, rfl, h⟩⟩
theorem StrsG.mono {w w' : World} {v : Value} {ss : List Tx} {B : Nat} (h : StrsG w v ss) (hb : Below B w w') (hB : w.heap.size ≤ B) : StrsG w' v ss := by
  rcases h with h | ⟨b, cap, rfl, h1, h⟩
  · exact .inl h
  · exact .inr ⟨b, cap, rfl, h1, fun t ht => by rw [hb.cell (Nat.lt_of_lt_of_le (lt_of_cell (h t ht)) hB)]; exact h t ht⟩
theorem strsG_of_row {w : World} {base n : Nat} {v : Value} {ss : List Tx} (h : w.ownsRow base 9 1 v n (ss.map encStr)) (hn : n = ss.length) : StrsG w v ss := by
  subst hn
  obtain ⟨_, h2⟩ := h
  rcases h2 with ⟨rfl, h0⟩ | ⟨g, cap, cur, rfl, hb, hh, hn, hm, hs, ht⟩
  · exact .inl ⟨rfl, List.eq_nil_of_length_eq_zero h0⟩
  · refine .inr ⟨g, cap, rfl, hn, fun t htt => ?_⟩
    have e : cur[t]? = some (encStr ss[t]!) := by
      have h1 : (cur.toList.take (ss.length * 1))[t]? = (ss.map encStr)[t]? := by rw [ht]
      rw [List.getElem?_take, if_pos (by omega), Array.getElem?_toList] at h1
      rw [h1, List.getElem?_map, List.getElem?_eq_getElem htt, getElem!_pos ss t htt]
      rfl
    simp only [World.cell?, hh]
    exact e
theorem src_part {w : World} {b : Nat} {ss : List Tx} (h : ∀ t, t < ss.length → w.cell? ⟨b, t, none⟩ = some (encStr ss[t]!)) (s m cap : Nat) (hm : s + m ≤ ss.length) : SrcAt w (.slice (some ⟨b, s, none⟩) m cap) m 1 (((ss.drop s).take m).map encStr) := by
  refine .inr ⟨_, cap, rfl, by simp; omega, fun j u hu => ?_⟩
  have hj : j < m := by have := (List.getElem?_eq_some_iff.1 hu).1; simp at this; omega
  rw [List.getElem?_map, List.getElem?_take, if_pos hj, List.getElem?_drop, List.getElem?_eq_getElem (by omega)] at hu
  obtain rfl := Option.some.inj hu
  rw [Addr.add_lit, h (s + j) (by omega), getElem!_pos ss (s + j) (by omega)]
theorem src_ite {w : World} {p : Prop} [Decidable p] {a b : Addr} {c size : Nat} : SrcAt w (.slice (if p then some a else some b) 0 c) 0 size [] := by
  split
  · exact .inr ⟨a, c, rfl, by simp, fun j u hu => by simp at hu⟩
  · exact .inr ⟨b, c, rfl, by simp, fun j u hu => by simp at hu⟩
def EnterRet (ss : List Tx) (t : Tx) (w : World) (e : Ending) (w' : World) : Prop := ∃ v', e = .returned v' ∧ StrsG w' v' (enterL ss t) ∧ Below w.heap.size w w'
theorem encStr_data' (t : ByteArray) : encStr t.data.toList = .string t := encStr_data t
end Go.Proofs.YtilonnkohcocoaaGreatDoor
namespace Go.Proofs.YtilonnkohcocoaaGreatDoor
open Go.RowKit Go.Sort Go.Maps
set_option maxRecDepth 100000
set_option linter.unusedSectionVars false
variable [Inhabited ComV] [DecidableEq D3] [Inhabited D3] [Inhabited Dd] [Inhabited Dn] [Inhabited OpV]

set_option maxHeartbeats 4000000 in
theorem enter_n (w : World) (b n cap : Nat) (ss : List Tx) (hn : n = ss.length) (hcap : n ≤ cap) (h : ∀ t, t < ss.length → w.cell? ⟨b, t, none⟩ = some (encStr ss[t]!)) (t : ByteArray) (hl : n ≤ 100000) :
    Calls Tryz.prog 57 #[.slice (some ⟨b, 0, none⟩) n cap, .string t] w fun e w' => EnterRet ss t.data.toList w e w' := by
  obtain ⟨i9, hi9, hy0, hy1, hy2⟩ := info_parts Tryz.info9
  have HN := hid hn
  have H1 := hid h
  clear hn h
  go_enter Tryz.func57, Tryz.ntmps57
  go_wp2
  go_loop [5] (fun i => ∃ k : Nat, k ≤ n ∧ i = .int .i64 k ∧ Hid (∀ j, j < k → ss[j]! < t.data.toList)) (fun i => n - (intOf i).toNat)
  case atStart => exact ⟨0, Nat.zero_le _, rfl, fun t ht => absurd ht (Nat.not_lt_zero _)⟩
  case round =>
    obtain ⟨k, hk, rfl, HI⟩ := hrel
    have hsrc1 := hid (src_part H1.out 0 k cap (by have := HN.out; omega))
    have hsrc2 := hid (src_part H1.out k (n - k) (cap - k) (by have := HN.out; omega))
    have fin : Hid ((k = n ∨ ¬ ss[k]! < t.data.toList) → ¬ (k < n ∧ ss[k]! = t.data.toList) → ∀ (v' : Value) (w' : World), w'.ownsRow w.heap.size 9 1 v' (k + 1 + (n - k)) (((ss.drop 0).take k).map encStr ++ [.string t] ++ ((ss.drop k).take (n - k)).map encStr) → Below w.heap.size w w' → EnterRet ss t.data.toList w (.returned v') w') := fun h1 h2 v' w' hr hb => by
      obtain ⟨e1, e2⟩ := split_at (ss := ss) (s := t.data.toList) HI.out (by have := HN.out; omega) (by rw [← HN.out]; exact h1)
      have he : enterL ss t.data.toList = ss.take k ++ t.data.toList :: ss.drop k := by
        unfold enterL
        rw [e1, e2, if_neg (fun hh => h2 (by
          rw [List.head?_drop] at hh
          obtain ⟨hlt, hx⟩ := List.getElem?_eq_some_iff.1 hh
          exact ⟨by have := HN.out; omega, by rw [getElem!_pos ss k hlt]; exact hx⟩))]
      refine ⟨v', rfl, ?_, hb⟩
      rw [he]
      refine strsG_of_row (base := w.heap.size) (n := k + 1 + (n - k)) ?_ (by simp; have := HN.out; omega)
      rw [List.drop_zero, List.take_of_length_le (by simp; have := HN.out; omega : (ss.drop k).length ≤ n - k)] at hr
      rw [List.map_append, List.map_cons, encStr_data']
      simpa using hr
    by_cases hlt : k < n
    · have e1 := H1.out k (by have := HN.out; omega)
      obtain ⟨s, hs⟩ := encStr_shape ss[k]!
      have hse := encStr_eq hs
      rw [hs] at e1
      by_cases hless : ss[k]! < t.data.toList
      · have bl : Op.bytesLess s.toList t.toList = true := by rw [bytesLess_eq, Lib.toList_data, Lib.toList_data, hse]; exact decide_eq_true hless
        have HLS := hid hless
        clear hless hs hse fin
        go_wp2
        go_round
        case rel => exact ⟨k + 1, by omega, by go_num, fun j hj => by rcases Nat.lt_succ_iff_lt_or_eq.1 hj with h | rfl; exact HI.out j h; exact HLS.out⟩
        case measure => simp [intOf]; omega
      · have bl : Op.bytesLess s.toList t.toList = false := by rw [bytesLess_eq, Lib.toList_data, Lib.toList_data, hse]; exact decide_eq_false hless
        by_cases heq : s = t
        · subst heq
          have hret : Hid (EnterRet ss s.data.toList w (.returned (.slice (some ⟨b, 0, none⟩) n cap)) w) := by
            obtain ⟨e1', e2'⟩ := split_at (ss := ss) (s := s.data.toList) HI.out (by have := HN.out; omega) (.inr hless)
            have he : enterL ss s.data.toList = ss := by
              unfold enterL
              rw [e2', if_pos (by rw [List.head?_drop, List.getElem?_eq_getElem (by have := HN.out; omega), ← getElem!_pos ss k (by have := HN.out; omega), hse]), ← e2', List.takeWhile_append_dropWhile]
            exact ⟨_, rfl, by rw [he]; exact .inr ⟨b, cap, by rw [HN.out], by rw [← HN.out]; exact hcap, H1.out⟩, Below.refl _ _⟩
          clear hs hse hless fin
          go_wp2
          go_ret
          exact hret.out
        · have hne : (s.toList == t.toList) = false := beq_eq_false_iff_ne.2 (ne_toList heq)
          have FIN := hid (fin.out (.inr hless) (fun h => heq (WideShapes.bytes_inj (by rw [hse]; exact h.2))))
          clear hs hse hless fin heq
          go_upto_region 8 with (at_builtin; refine wpList_append_src rfl _ _ 45 rfl w.heap.size 9 i9 _ 1 16 Tryz.underlying45 hi9 hy0 hy1 hy2 rfl (by decide) rfl _ k _ rfl hsrc1.out (strs_one _) ?hm2 ?hm3 ?hm4 ?_; (case hm2 => unfold maxLen; omega); (case hm3 => omega); (case hm4 => exact Nat.le_refl _); intro v3 w3 hown3 hgrow3; obtain ⟨a3, c3, rfl⟩ := row_shape hown3)
          go_upto_region 9 with (at_builtin; refine wpList_append_own _ rfl _ _ 45 rfl w.heap.size 9 i9 _ 1 16 Tryz.underlying45 hi9 hy0 hy1 hy2 rfl (by decide) _ _ _ rfl (hown3.alloc _) ⟨w3.heap.size, 0, none⟩ 1 1 [.string t] rfl rfl (cells11_new _ _ _ _ rfl) ?ho1 ?ho2 ?ho3 ?ho4 ?_; (case ho1 => exact fun u hu => by rw [List.mem_singleton.1 hu]; rfl); (case ho2 => unfold maxLen; omega); (case ho3 => omega); (case ho4 => have := hgrow3.size; simp; omega); intro v4 w4 hown4 hgrow4 _; obtain ⟨a4, c4, rfl⟩ := row_shape hown4)
          have B3 : Below w.heap.size w w3 := (Below.refl w.heap.size w).grown hgrow3 (Nat.le_refl _) (fun j hj => by cases hj)
          have B4 : Below w.heap.size w w4 := (B3.alloc B3.size _).grown hgrow4 (by have := B3.size; simp; omega) (fun j hj => (hown3.lt j hj).1)
          have hs4 := B4.size
          have HB4 := hid B4
          have hsrc4 := hid (hsrc2.out.moved (fun a u h => by rw [B4.cell (lt_of_cell h)]; exact h))
          clear hown3 hgrow3 hgrow4 B3 B4 hsrc1 hsrc2
          go_wp2_with (at_builtin; refine wpList_append_own_src rfl _ _ 45 rfl w.heap.size 9 i9 _ 1 16 Tryz.underlying45 hi9 hy0 hy1 hy2 rfl (by decide) _ _ _ rfl hown4 _ (n - k) _ rfl hsrc4.out (strs_one _) ?hp2 ?hp3 ?hp4 ?_; (case hp2 => unfold maxLen; omega); (case hp3 => omega); (case hp4 => exact hs4); intro v5 w5 hown5 hgrow5)
          go_ret
          exact FIN.out _ _ hown5 (HB4.out.grown hgrow5 HB4.out.size (fun j hj => (hown4.lt j hj).1))
    · obtain rfl : k = n := by omega
      have FIN := hid (fin.out (.inl rfl) (fun h => absurd h.1 (Nat.lt_irrefl _)))
      clear fin
      go_upto_region 8 with (at_builtin; refine wpList_append_src rfl _ _ 45 rfl w.heap.size 9 i9 _ 1 16 Tryz.underlying45 hi9 hy0 hy1 hy2 rfl (by decide) rfl _ k _ rfl hsrc1.out (strs_one _) ?hm2 ?hm3 ?hm4 ?_; (case hm2 => unfold maxLen; omega); (case hm3 => omega); (case hm4 => exact Nat.le_refl _); intro v3 w3 hown3 hgrow3; obtain ⟨a3, c3, rfl⟩ := row_shape hown3)
      go_upto_region 9 with (at_builtin; refine wpList_append_own _ rfl _ _ 45 rfl w.heap.size 9 i9 _ 1 16 Tryz.underlying45 hi9 hy0 hy1 hy2 rfl (by decide) _ _ _ rfl (hown3.alloc _) ⟨w3.heap.size, 0, none⟩ 1 1 [.string t] rfl rfl (cells11_new _ _ _ _ rfl) ?ho1 ?ho2 ?ho3 ?ho4 ?_; (case ho1 => exact fun u hu => by rw [List.mem_singleton.1 hu]; rfl); (case ho2 => unfold maxLen; omega); (case ho3 => omega); (case ho4 => have := hgrow3.size; simp; omega); intro v4 w4 hown4 hgrow4 _; obtain ⟨a4, c4, rfl⟩ := row_shape hown4)
      have B3 : Below w.heap.size w w3 := (Below.refl w.heap.size w).grown hgrow3 (Nat.le_refl _) (fun j hj => by cases hj)
      have B4 : Below w.heap.size w w4 := (B3.alloc B3.size _).grown hgrow4 (by have := B3.size; simp; omega) (fun j hj => (hown3.lt j hj).1)
      have hs4 := B4.size
      have HB4 := hid B4
      have hsrc4 := hid (hsrc2.out.moved (fun a u h => by rw [B4.cell (lt_of_cell h)]; exact h))
      clear hown3 hgrow3 hgrow4 B3 B4 hsrc1 hsrc2
      go_wp2_with (at_builtin; refine wpList_append_own_src rfl _ _ 45 rfl w.heap.size 9 i9 _ 1 16 Tryz.underlying45 hi9 hy0 hy1 hy2 rfl (by decide) _ _ _ rfl hown4 _ 0 [] rfl ?hsx ?hoo ?hp2 ?hp3 ?hp4 ?_; (case hsx => exact src_ite); (case hoo => exact fun u hu => by simp at hu); (case hp2 => unfold maxLen; omega); (case hp3 => omega); (case hp4 => exact hs4); intro v5 w5 hown5 hgrow5)
      all_goals
        go_ret
        exact FIN.out _ _ (by simpa using hown5) (HB4.out.grown hgrow5 HB4.out.size (fun j hj => (hown4.lt j hj).1))
/-- enter, at any texts. -/
theorem enter_any (w : World) (v : Value) (ss : List Tx) (h : StrsG w v ss) (t : ByteArray) (hl : ss.length ≤ 100000) : Calls Tryz.prog 57 #[v, .string t] w fun e w' => EnterRet ss t.data.toList w e w' := by
  rcases h with ⟨rfl, rfl⟩ | ⟨b, cap, rfl, h1, h⟩
  · obtain ⟨i9, hi9, hy0, hy1, hy2⟩ := info_parts Tryz.info9
    have hn0 : SrcAt w (.slice none 0 0) 0 1 [] := .inl ⟨rfl, rfl, rfl⟩
    go_enter Tryz.func57, Tryz.ntmps57
    go_wp2
    refine wp_loop_rounds 1 ?_
    rw [rounds_succ]
    go_upto_region 8 with (at_builtin; refine wpList_append_src rfl _ _ 45 rfl w.heap.size 9 i9 _ 1 16 Tryz.underlying45 hi9 hy0 hy1 hy2 rfl (by decide) rfl _ 0 [] rfl hn0 (fun u hu => by simp at hu) ?hm2 ?hm3 ?hm4 ?_; (case hm2 => unfold maxLen; omega); (case hm3 => omega); (case hm4 => exact Nat.le_refl _); intro v3 w3 hown3 hgrow3; obtain ⟨a3, c3, rfl⟩ := row_shape hown3)
    go_upto_region 9 with (at_builtin; refine wpList_append_own _ rfl _ _ 45 rfl w.heap.size 9 i9 _ 1 16 Tryz.underlying45 hi9 hy0 hy1 hy2 rfl (by decide) _ _ _ rfl (hown3.alloc _) ⟨w3.heap.size, 0, none⟩ 1 1 [.string t] rfl rfl (cells11_new _ _ _ _ rfl) ?ho1 ?ho2 ?ho3 ?ho4 ?_; (case ho1 => exact fun u hu => by rw [List.mem_singleton.1 hu]; rfl); (case ho2 => unfold maxLen; omega); (case ho3 => omega); (case ho4 => have := hgrow3.size; simp; omega); intro v4 w4 hown4 hgrow4 _; obtain ⟨a4, c4, rfl⟩ := row_shape hown4)
    have B3 : Below w.heap.size w w3 := (Below.refl w.heap.size w).grown hgrow3 (Nat.le_refl _) (fun j hj => by cases hj)
    have B4 : Below w.heap.size w w4 := (B3.alloc B3.size _).grown hgrow4 (by have := B3.size; simp; omega) (fun j hj => (hown3.lt j hj).1)
    have hs4 := B4.size
    have HB4 := hid B4
    have hn4 : SrcAt w4 (.slice none 0 0) 0 1 [] := .inl ⟨rfl, rfl, rfl⟩
    clear hown3 hgrow3 hgrow4 B3 B4
    go_wp2_with (at_builtin; refine wpList_append_own_src rfl _ _ 45 rfl w.heap.size 9 i9 _ 1 16 Tryz.underlying45 hi9 hy0 hy1 hy2 rfl (by decide) _ _ _ rfl hown4 _ 0 [] rfl hn4 (fun u hu => by simp at hu) ?hp2 ?hp3 ?hp4 ?_; (case hp2 => unfold maxLen; omega); (case hp3 => omega); (case hp4 => exact hs4); intro v5 w5 hown5 hgrow5)
    go_ret
    refine ⟨_, rfl, ?_, HB4.out.grown hgrow5 HB4.out.size (fun j hj => (hown4.lt j hj).1)⟩
    exact strsG_of_row (ss := [t.data.toList]) (n := 1) (by rw [List.map_cons, encStr_data']; simpa using hown5) rfl
  · exact enter_n w b ss.length cap ss rfl h1 h t hl
end Go.Proofs.YtilonnkohcocoaaGreatDoor
