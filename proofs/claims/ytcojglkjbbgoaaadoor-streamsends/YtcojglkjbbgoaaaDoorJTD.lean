/- slices.Delete, from the front, of a row of messages of one's own. -/
import Derived.Test.YtcojglkjbbgoaaaDoorJHR
import Derived.Test.YtcojglkjbbgoaaaDoorJSAck
namespace Go.Proofs.YtcojglkjbbgoaaaDoor
open Go.RowKit
set_option maxRecDepth 100000

theorem raws_drop : ∀ (l : List Raw) (j : Nat), raws (l.drop j) = (raws l).drop (j * 9)
  | l, 0 => by simp
  | [], j + 1 => by simp [raws]
  | x :: l, j + 1 => by
    have := raws_drop l j
    rw [List.drop_succ_cons, this]
    unfold raws
    rw [List.flatMap_cons, show (j + 1) * 9 = x.cells.length + j * 9 by show _ = 9 + _; omega, ← List.drop_drop, List.drop_left]
set_option maxHeartbeats 4000000 in
theorem delete_raw (w : World) (base b cap j n : Nat) (l : List Raw) (h : w.ownsRow base 37 9 (.slice (some ⟨b, 0, none⟩) n cap) l.length (raws l)) (hn : n = l.length) (hj0 : 0 < j) (hj : j ≤ n) (hn1 : n ≤ 1000) :
    Calls Tryd.prog 40 #[.slice (some ⟨b, 0, none⟩) n cap, .int .i64 0, .int .i64 j] w fun e w' => e = .returned (.slice (some ⟨b, 0, none⟩) (n - j) cap) ∧ w'.ownsRow base 37 9 (.slice (some ⟨b, 0, none⟩) (n - j) cap) (l.drop j).length (raws (l.drop j)) ∧ OnlyB b w w' := by
  obtain ⟨i37, hi, hz0, hz1, hz2⟩ := info_parts Tryd.info37
  obtain ⟨hlen, h2⟩ := h
  rcases h2 with ⟨h2, _⟩ | ⟨g, cap', cur, hv, hbase, hh, hnc, hcm, hsz, htk⟩
  · cases h2
  injection hv with hv hva hcap
  injection hv with hv
  injection hv with hv hvb hvc
  subst hv hcap
  clear hva hvb hvc
  rw [← hn] at hnc htk
  have hbl := raws_len l
  -- what is laid over the front
  obtain ⟨news, hnews⟩ : ∃ news, news = raws (l.drop j) := ⟨_, rfl⟩
  have hnl : news.length = (n - j) * 9 := by rw [hnews, raws_len, List.length_drop, ← hn]
  have hcur : ∀ i, i < n * 9 → cur[i]? = (raws l)[i]? := fun i hi => by
    rw [← htk, List.getElem?_take, if_pos hi, Array.getElem?_toList]
  have hnc1 : ∀ q u, news[q]? = some u → w.drew.cell? ((⟨b, j * 9, none⟩ : Addr).add q) = some u := fun q u hq => by
    have hql : q < (n - j) * 9 := by have := (List.getElem?_eq_some_iff.1 hq).1; omega
    rw [Addr.add_lit]
    show w.cell? ⟨b, j * 9 + q, none⟩ = _
    rw [cell_of hh, hcur _ (by omega), ← hq, hnews, raws_drop, List.getElem?_drop]
  have hsp : ∀ q, q < news.length → (w.drew.cell? ⟨b, 0 + 0 * 9 + q, none⟩).isSome = true ∧ w.drew.frozen? ⟨b, 0 + 0 * 9 + q, none⟩ = false := fun q hq => by
    refine ⟨?_, free_of hh⟩
    show (w.cell? ⟨b, 0 + 0 * 9 + q, none⟩).isSome = true
    have : 0 + 0 * 9 + q < cur.size := by rw [hsz]; have : n * 9 ≤ cap * 9 := Nat.mul_le_mul_right 9 hnc; omega
    rw [cell_of hh, Array.getElem?_eq_getElem this]
    rfl
  obtain ⟨c1, r1, r2, r3, r4⟩ := row_sets news (0 + 0 * 9) w.drew cur hh
  obtain ⟨w1, hw1⟩ : ∃ w1, w1 = w.drew.setCells b (0 + 0 * 9) news := ⟨_, rfl⟩
  have O1 : Hid (OnlyB b w w1) := by show OnlyB _ _ _; rw [hw1]; exact OnlyB.drew.sets _ _
  rw [← hw1] at r1
  obtain ⟨vs, hvs⟩ : ∃ vs, vs = (Builtin.zeroCells (Value.cells (.agg #[.int .i64 0, .int .i64 0, .int .i64 0, .int .i64 0, .int .i64 0, .bool false, .slice none 0 0, .int .i64 0, .slice none 0 0])) j).toList := ⟨_, rfl⟩
  have hvl : vs.length = j * 9 := by rw [hvs]; simp [Builtin.zeroCells, Value.cells]; try omega
  have hcc : n * 9 ≤ cap * 9 := Nat.mul_le_mul_right 9 hnc
  have hcl : ∀ ty, (Builtin.clear_ #[32] ty #[.slice (some ⟨b, (n - j) * 9, none⟩) j (cap - (n - j))]).run Tryd.prog w1 = .ok (.tuple #[]) (w1.setCells b ((n - j) * 9) vs) := fun ty =>
    run_clear_k w1 32 37 ty _ Tryd.underlying32 zero37 b ((n - j) * 9) j (cap - (n - j)) hj0 vs hvs.symm (by rw [hvs]; exact zeros9_one _) (fun q hq => by
      rw [cell_of r1, Array.getElem?_eq_getElem (by rw [r2, hsz]; omega)]; rfl) (fun q _ => free_of r1)
  obtain ⟨c2, t1, t2, t3, t4⟩ := row_sets vs ((n - j) * 9) w1 c1 r1
  have FIN : Hid ((w1.setCells b ((n - j) * 9) vs).ownsRow base 37 9 (.slice (some ⟨b, 0, none⟩) (n - j) cap) (l.drop j).length (raws (l.drop j))) := by
    have hdl : (l.drop j).length = n - j := by rw [List.length_drop, ← hn]
    refine ⟨raws_len _, .inr ⟨b, cap, c2, by rw [hdl], hbase, t1, by omega, hcm, by rw [t2, r2, hsz], ?_⟩⟩
    rw [hdl]
    apply List.ext_getElem?
    intro i
    rw [List.getElem?_take]
    split
    · next hi =>
      rw [Array.getElem?_toList, t3 i (.inl hi), ← hnews]
      have := r4 i (by rw [hnl]; exact hi) (by rw [hsz]; omega)
      rw [← this]
      congr 1
      omega
    · next hi =>
      rw [← hnews, List.getElem?_eq_none (by rw [hnl]; omega)]
  have OF : Hid (OnlyB b w (w1.setCells b ((n - j) * 9) vs)) := O1.out.sets _ _
  have HW1 := hid hw1
  have hone : ∀ u ∈ news, u.oneCell' = true := by rw [hnews]; exact onesR _
  have i1 : (j : Int) ≤ (n : Int) := by omega
  have i2 : (n : Int) ≤ (cap : Int) := by omega
  have i3 : ((0 : Int) == (j : Int)) = false := beq_eq_false_iff_ne.2 (by omega)
  have i4 : ((j : Int)).toNat = j := by omega
  have HN := hid hn
  clear hn hw1 hvs hvl r1 r2 r3 r4 t1 t2 t3 t4 hnews hcur hbl htk hh hlen
  go_enter Tryd.func40, Tryd.ntmps40
  go_upto_region 5 with (fail)
  have HW0 : Hid (w1 = w.drew.setCells b 0 news) := HW1.out
  by_cases hcj : cap = j
  · subst hcj
    have hne : n = cap := by omega
    subst hne
    have hnil : news = [] := List.eq_nil_of_length_eq_zero (by rw [hnl]; omega)
    have hnv : ∀ (ad : Addr) (q : Nat) (u : Value), news[q]? = some u → w.drew.cell? (ad.add q) = some u := fun ad q u hq => by rw [hnil] at hq; simp at hq
    obtain ⟨wZ, hwZ⟩ : ∃ wZ, wZ = w1.setCells b ((n - n) * 9) vs := ⟨_, rfl⟩
    rw [← hwZ] at FIN OF
    have hcl0 : ∀ ty, (Builtin.clear_ #[32] ty #[.slice (some ⟨b, 0, none⟩) n n]).run Tryd.prog w1 = .ok (.tuple #[]) wZ := fun ty => by
      have := hcl ty
      rw [← hwZ] at this
      simpa using this
    have hl0 : news.length = 0 * 9 := by rw [hnil]; rfl
    clear hcl hnc1 hnl hnil hwZ
    go_region_law (refine step_append_room rfl _ _ 32 rfl 37 i37 9 Tryd.underlying32 hi hz1 b 0 0 n rfl _ 0 _ news rfl hl0 (hnv _) hone (by omega) hsp ?_)
    first | rw [← HW1.out] | rw [← HW0.out]
    simp only [Act.put, List.setIfInBounds_toArray]
    clear hsp hone
    go_wp2
    go_ret
    exact ⟨by rw [Nat.sub_self]; rfl, FIN.out, OF.out⟩
  · go_region_law (refine step_append_room rfl _ _ 32 rfl 37 i37 9 Tryd.underlying32 hi hz1 b 0 0 cap rfl _ (n - j) _ news rfl hnl hnc1 hone (by omega) hsp ?_)
    first | rw [← HW1.out] | rw [← HW0.out]
    simp only [Act.put, List.setIfInBounds_toArray]
    clear hnc1 hsp hnl hone
    have k1 : ((n - j : Nat) : Int) ≤ (n : Int) := by omega
    have k2 : n - (n - j) = j := by omega
    go_wp2
    go_ret
    exact ⟨rfl, FIN.out, OF.out⟩
end Go.Proofs.YtcojglkjbbgoaaaDoor
