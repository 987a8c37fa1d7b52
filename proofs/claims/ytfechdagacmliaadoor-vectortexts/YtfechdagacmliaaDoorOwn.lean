/- causewaylaw1.own: a copy in memory of its own. -/
import Derived.Test.YtfechdagacmliaaDoorInts
import Derived.Laws.AppendOwnNone
namespace Go.Proofs.YtfechdagacmliaaDoor
open Go.RowKit

theorem Tryd.info3 : (Tryd.prog.info? 3).map (fun i => (i.zero, i.size, i.bytes)) = some (some (.int .i64 0), 1, 8) := by kernel_rfl

/-- A row of the call's own, read as numbers. -/
theorem ints_of_row {w : World} {base : Nat} {v : Value} {zs : List Int} (h : w.ownsRow base 3 1 v zs.length (zs.map (Value.int .i64))) : IntsAt w v zs := by
  obtain ⟨_, h2⟩ := h
  rcases h2 with ⟨rfl, h0⟩ | ⟨g, cap, cur, rfl, hb, hh, hn, hm, hs, ht⟩
  · exact ⟨none, 0, by rw [h0], (fun _ => rfl), .inl (List.eq_nil_of_length_eq_zero h0)⟩
  · refine ⟨_, cap, rfl, (fun h => by cases h), .inr ⟨g, 0, rfl, fun t htt => ?_⟩⟩
    have e : cur[t]? = some (.int .i64 (zs.getD t 0)) := by
      have h1 : (cur.toList.take (zs.length * 1))[t]? = (zs.map (Value.int .i64))[t]? := by rw [ht]
      rw [List.getElem?_take, if_pos (by omega), Array.getElem?_toList] at h1
      rw [h1, List.getElem?_map, List.getElem?_eq_getElem htt, List.getD_eq_getElem?_getD, List.getElem?_eq_getElem htt]
      rfl
    simp only [World.cell?, hh, Nat.zero_add]
    exact e

set_option maxHeartbeats 1000000 in
theorem own_some (w : World) (ad : Addr) (n c : Nat) (zs : List Int) (hz : zs.length = n) (hl : n ≤ 1000000) (hc : ∀ j u, (zs.map (Value.int .i64))[j]? = some u → w.cell? (ad.add j) = some u) :
    Calls Tryd.prog 15 #[.slice (some ad) n c] w fun e w' => ∃ v, e = .returned v ∧ IntsAt w' v zs ∧ Below w.heap.size w w' := by
  obtain ⟨i0, hi, hz0, hz1, hz2⟩ := info_parts Tryd.info3
  go_enter Tryd.func15, Tryd.ntmps15
  go_wp2_with (at_builtin; refine wpList_append_own _ rfl _ _ 22 rfl w.heap.size 3 i0 (.int .i64 0) 1 8 Tryd.underlying22 hi hz0 hz1 hz2 rfl (by decide) _ _ _ rfl (World.ownsRow_nil _ _ _ _) ad n c (zs.map (Value.int .i64)) rfl ?c1 ?c2 ?c3 ?c4 ?c5 ?c6 ?_)
  case c1 => simp [hz]
  case c2 => exact hc
  case c3 => exact ints_oneCell _ _
  case c4 => unfold maxLen; omega
  case c5 => omega
  case c6 => exact Nat.le_refl _
  intro v' w1 hown hgrow _
  have HO : Hid (w1.ownsRow w.heap.size 3 1 v' zs.length (zs.map (Value.int .i64))) := by
    have := hown
    rw [← hz] at this
    exact this
  have HG := hid hgrow
  clear hown hgrow
  go_wp2
  go_ret
  refine ⟨_, rfl, ints_of_row HO.out, ?_⟩
  exact (Below.refl _ _).grown HG.out (Nat.le_refl _) (fun k hk => by cases hk)

theorem own_none (w : World) :
    Calls Tryd.prog 15 #[.slice none 0 0] w fun e w' => e = .returned (.slice none 0 0) ∧ w' = w := by
  obtain ⟨i0, hi, hz0, hz1, hz2⟩ := info_parts Tryd.info3
  go_enter Tryd.func15, Tryd.ntmps15
  go_wp2_with (at_builtin; refine wpList_append_own_none rfl _ _ 22 rfl w.heap.size 3 i0 1 Tryd.underlying22 hi _ 0 [] rfl (World.ownsRow_nil _ _ _ _) rfl ?_)
  go_ret
  exact ⟨rfl, rfl⟩

/-- own: any slice. -/
theorem own_any (w : World) (v : Value) (zs : List Int) (h : IntsAt w v zs) (hl : zs.length ≤ 1000000) :
    Calls Tryd.prog 15 #[v] w fun e w' => ∃ v', e = .returned v' ∧ IntsAt w' v' zs ∧ Below w.heap.size w w' := by
  obtain ⟨ad, c, rfl, h0, h⟩ := h
  cases ad with
  | none =>
    obtain rfl := h0 rfl
    rcases h with rfl | ⟨b, o, he, _⟩
    · refine (own_none w).mono ?_
      rintro e w' ⟨rfl, rfl⟩
      exact ⟨_, rfl, ⟨none, 0, rfl, (fun _ => rfl), .inl rfl⟩, Below.refl _ _⟩
    · cases he
  | some a =>
    refine own_some w a zs.length c zs rfl hl fun j u hj => ?_
    rcases h with rfl | ⟨b, o, he, h⟩
    · simp at hj
    · obtain rfl := Option.some.inj he
      rw [List.getElem?_map] at hj
      cases hjj : zs[j]? with
      | none => rw [hjj] at hj; cases hj
      | some z =>
        rw [hjj] at hj
        obtain rfl := Option.some.inj hj
        have hlt : j < zs.length := (List.getElem?_eq_some_iff.1 hjj).1
        have := h j hlt
        rw [List.getD_eq_getElem?_getD, hjj] at this
        have ea : (⟨b, o, none⟩ : Addr).add j = ⟨b, o + j, none⟩ := by
          unfold Addr.add
          split
          · rename_i h0; rw [h0]; rfl
          · rfl
        rw [ea]
        exact this
end Go.Proofs.YtfechdagacmliaaDoor
