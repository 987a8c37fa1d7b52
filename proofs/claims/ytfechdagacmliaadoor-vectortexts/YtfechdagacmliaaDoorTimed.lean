/- causewaylaw1.timed: true. -/
import Derived.Test.YtfechdagacmliaaDoorText
namespace Go.Proofs.YtfechdagacmliaaDoor
open Go.RowKit

def zt : List Int := [1, 0, 25]
def dt : List ByteArray := [⟨(Lib.decDigits 1).toArray⟩, ⟨(Lib.decDigits 0).toArray⟩, ⟨(Lib.decDigits 25).toArray⟩]
theorem join_t : Lib.join (dt.map (·.data.toList)) [46] = [49, 46, 48, 46, 50, 53] := by
  unfold dt
  rw [Lib.decDigits_one (show 1 < 10 by decide), Lib.decDigits_one (show 0 < 10 by decide), Lib.decDigits_two (show ¬ 25 < 10 by decide) (by decide)]
  rfl

theorem itoa_t (t : Nat) (ht : t < 3) (w : World) : Calls Tryd.prog 41 #[.int .i64 (zt.getD t 0)] w fun e w2 => e = .returned (.string (dt.getD t ⟨#[]⟩)) ∧ Below w.heap.size w w2 := by
  rcases (by omega : t = 0 ∨ t = 1 ∨ t = 2) with rfl | rfl | rfl
  · exact (Tryd.strconv_Itoa_small 1 (by decide) w).mono fun e w' ⟨he, hw⟩ => ⟨he, by rw [hw]; exact Below.refl _ _⟩
  · exact (Tryd.strconv_Itoa_small 0 (by decide) w).mono fun e w' ⟨he, hw⟩ => ⟨he, by rw [hw]; exact Below.refl _ _⟩
  · exact (Tryd.strconv_Itoa_small 25 (by decide) w).mono fun e w' ⟨he, hw⟩ => ⟨he, by rw [hw]; exact Below.refl _ _⟩

theorem lit_cells (w : World) (cs : Array Value) (t : TypeId) (zs : List Int) (hcs : cs.toList = zs.map (Value.int .i64)) (n : Nat) (hn : n = w.heap.size) : ∀ j, j < zs.length → (w.alloc (.cells cs t)).cell? ⟨n, 0 + j, none⟩ = some (.int .i64 (zs.getD j 0)) := by
  intro j hj
  rw [World.cell?_alloc_at _ _ _ _ hn, Nat.zero_add, ← Array.getElem?_toList, hcs]
  simp [List.getElem?_map, List.getD_eq_getElem?_getD, List.getElem?_eq_getElem hj]

set_option maxHeartbeats 1000000 in
theorem timed_any (A : Nat → Addr) (w : World) (hE : E2 A w) : Calls Tryd.prog 13 #[] w fun e w' => e = .returned (.bool true) ∧ Below w.heap.size w w' := by
  have h3 : 3 ≤ w.heap.size := lt_of_cell hE.shape
  have hE1 : ∀ o, E2 A (w.alloc o) := fun o => hE.below (below_alloc w o) h3
  go_enter Tryd.func13, Tryd.ntmps13
  go_wp2_with fail
  refine (text_n A _ (hE1 _) _ 0 3 3 zt dt rfl rfl (by decide) (lit_cells w _ 3 zt rfl _ rfl) (fun t ht w1 _ => itoa_t t ht w1) (by rw [join_t]; decide)).mono ?_
  rintro e w1 ⟨rfl, hb⟩
  have hb1 : Below w.heap.size w w1 := (below_alloc w _).trans (hb.mono (by simp))
  have hE2 : ∀ o, E2 A (w1.alloc o) := fun o => (hE.below hb1 h3).below (below_alloc w1 o) (by have := hb1.size; omega)
  have HB := hid hb1
  clear hb hb1
  rw [join_t]
  go_wp2_with fail
  refine (check_ok A _ (hE2 _) _ [0] (lit_ints w1 _ 3 [0] rfl _ 1 1 rfl rfl) (by decide)).mono ?_
  rintro e wx ⟨rfl, hw⟩
  rw [hw]
  clear hw wx
  go_wp2
  go_ret
  exact ⟨rfl, HB.out.trans ((below_alloc w1 _).mono HB.out.size)⟩
end Go.Proofs.YtfechdagacmliaaDoor
