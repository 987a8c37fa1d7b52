/- own: a copy of numbers. -/
import Derived.Test.YtdnebclemngdcaaGreatDoorFWNew
import Derived.Test.YtdnebclemngdcaaGreatDoorFVRowT
import Derived.Laws.AppendOwnNone
namespace Go.Proofs.YtdnebclemngdcaaGreatDoor
open Go.RowKit Go.Sort Go.Maps
set_option maxRecDepth 100000
set_option linter.unusedSectionVars false
variable [Inhabited ComV] [DecidableEq D3] [Inhabited D3] [Inhabited Dd] [Inhabited Dn] [Inhabited OpV]

set_option maxHeartbeats 1000000 in
theorem own_some (w : World) (ad : Addr) (n c : Nat) (zs : List Int) (hz : zs.length = n) (hl : n ≤ 1000000) (hc : ∀ j u, (zs.map (Value.int .i64))[j]? = some u → w.cell? (ad.add j) = some u) :
    Calls Tryz.prog 13 #[.slice (some ad) n c] w fun e w' => ∃ v, e = .returned v ∧ IntsAt w' v zs ∧ Below w.heap.size w w' := by
  obtain ⟨i0, hi, hz0, hz1, hz2⟩ := info_parts Tryz.info3n
  go_enter Tryz.func13, Tryz.ntmps13
  go_wp2_with (at_builtin; refine wpList_append_own _ rfl _ _ 23 rfl w.heap.size 3 i0 (.int .i64 0) 1 8 Tryz.underlying23 hi hz0 hz1 hz2 rfl (by decide) _ _ _ rfl (World.ownsRow_nil _ _ _ _) ad n c (zs.map (Value.int .i64)) rfl ?c1 ?c2 ?c3 ?c4 ?c5 ?c6 ?_)
  case c1 => simp [hz]
  case c2 => exact hc
  case c3 => exact ints_oneCell _ _
  case c4 => unfold maxLen; omega
  case c5 => omega
  case c6 => exact Nat.le_refl _
  intro v' w1 hown hgrow _
  have HO : Hid (w1.ownsRow w.heap.size 3 1 v' zs.length (zs.map (Value.int .i64))) := by
    have := hown
    rw [← hz] at this
    exact this
  have HG := hid hgrow
  clear hown hgrow
  go_wp2
  go_ret
  refine ⟨_, rfl, ints_of_row HO.out, ?_⟩
  exact (Below.refl _ _).grown HG.out (Nat.le_refl _) (fun k hk => by cases hk)

theorem own_none (w : World) :
    Calls Tryz.prog 13 #[.slice none 0 0] w fun e w' => e = .returned (.slice none 0 0) ∧ w' = w := by
  obtain ⟨i0, hi, hz0, hz1, hz2⟩ := info_parts Tryz.info3n
  go_enter Tryz.func13, Tryz.ntmps13
  go_wp2_with (at_builtin; refine wpList_append_own_none rfl _ _ 23 rfl w.heap.size 3 i0 1 Tryz.underlying23 hi _ 0 [] rfl (World.ownsRow_nil _ _ _ _) rfl ?_)
  go_ret
  exact ⟨rfl, rfl⟩

/-- own: any slice. -/
theorem own_any (w : World) (v : Value) (zs : List Int) (h : IntsAt w v zs) (hl : zs.length ≤ 1000000) :
    Calls Tryz.prog 13 #[v] w fun e w' => ∃ v', e = .returned v' ∧ IntsAt w' v' zs ∧ Below w.heap.size w w' := by
  obtain ⟨ad, c, rfl, h0, h⟩ := h
  cases ad with
  | none =>
    obtain rfl := h0 rfl
    rcases h with rfl | ⟨b, o, he, _⟩
    · refine (own_none w).mono ?_
      rintro e w' ⟨rfl, rfl⟩
      exact ⟨_, rfl, ⟨none, 0, rfl, (fun _ => rfl), .inl rfl⟩, Below.refl _ _⟩
    · cases he
  | some a =>
    refine own_some w a zs.length c zs rfl hl fun j u hj => ?_
    rcases h with rfl | ⟨b, o, he, h⟩
    · simp at hj
    · obtain rfl := Option.some.inj he
      rw [List.getElem?_map] at hj
      cases hjj : zs[j]? with
      | none => rw [hjj] at hj; cases hj
      | some z =>
        rw [hjj] at hj
        obtain rfl := Option.some.inj hj
        have hlt : j < zs.length := (List.getElem?_eq_some_iff.1 hjj).1
        have := h j hlt
        rw [List.getD_eq_getElem?_getD, hjj] at this
        have ea : (⟨b, o, none⟩ : Addr).add j = ⟨b, o + j, none⟩ := by
          unfold Addr.add
          split
          · rename_i h0; rw [h0]; rfl
          · rfl
        rw [ea]
        exact this
end Go.Proofs.YtdnebclemngdcaaGreatDoor
