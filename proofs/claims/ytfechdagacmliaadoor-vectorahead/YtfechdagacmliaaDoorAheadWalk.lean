/- causewaylaw1.VectorAhead answers true, whatever comes. -/
import Derived.Test.YtfechdagacmliaaDoorAheadC1
import Derived.Test.YtfechdagacmliaaDoorAheadC2
import Derived.Test.YtfechdagacmliaaDoorAheadC3
import Derived.Test.YtfechdagacmliaaDoorAheadC4
import Derived.Test.YtfechdagacmliaaDoorAheadC5
import Derived.Test.YtfechdagacmliaaDoorAheadC6
import Derived.Test.YtfechdagacmliaaDoorAheadC7
namespace Go.Proofs.YtfechdagacmliaaDoor
open Go.RowKit

theorem ahead_any (A : Nat → Addr) (w : World) (hS : Sents A w.heap.size w) (v u : Value) (p q : Int) (za zb : List Int) (ha : IntsAt w v za) (hb : IntsAt w u zb) :
    Calls Tryd.prog 6 #[v, .int .i64 p, u, .int .i64 q] w fun e w' => e = .returned (.bool true) ∧ Below w.heap.size w w' := by
  by_cases h : 20 < za.length ∨ 20 < zb.length
  · exact ahead_long A w hS.e2 v u p q za zb ha hb h
  by_cases h0 : two za zb = 0
  · by_cases hp : 0 ≤ p ∧ p < za.length ∧ 0 ≤ q ∧ q < za.length
    · obtain ⟨hz, hy, hn⟩ := two_zero.1 h0
      have hz1 := chk_zero.1 hz
      obtain ⟨b1, o1, c1, rfl, g1⟩ := ha.some hz1.1
      obtain ⟨b2, o2, c2, rfl, g2⟩ := hb.some (by omega)
      obtain ⟨pn, rfl⟩ := Int.eq_ofNat_of_zero_le hp.1
      rw [← hn] at g2 ⊢
      have hpn : pn < za.length := by omega
      rcases (by omega : sum za < sum zb ∨ sum zb < sum za ∨ sum za = sum zb) with hs | hs | hs
      · exact ahead_c1 A w hS b1 o1 c1 b2 o2 c2 za.length pn q za zb rfl hn.symm hz1.2.1 h0 g1 g2 hpn hp.2.2.1 hp.2.2.2 hs
      · exact ahead_c2 A w hS b1 o1 c1 b2 o2 c2 za.length pn q za zb rfl hn.symm hz1.2.1 h0 g1 g2 hpn hp.2.2.1 hp.2.2.2 hs
      · rcases (by omega : (pn : Int) < q ∨ q < (pn : Int) ∨ (pn : Int) = q) with hpq | hpq | hpq
        · exact ahead_c3 A w hS b1 o1 c1 b2 o2 c2 za.length pn q za zb rfl hn.symm hz1.2.1 h0 g1 g2 hpn hp.2.2.1 hp.2.2.2 hs hpq
        · exact ahead_c4 A w hS b1 o1 c1 b2 o2 c2 za.length pn q za zb rfl hn.symm hz1.2.1 h0 g1 g2 hpn hp.2.2.1 hp.2.2.2 hs hpq
        · rcases (by omega : za.getD pn 0 < zb.getD pn 0 ∨ zb.getD pn 0 < za.getD pn 0 ∨ za.getD pn 0 = zb.getD pn 0) with hxy | hxy | hxy
          · exact ahead_c5 A w hS b1 o1 c1 b2 o2 c2 za.length pn q za zb rfl hn.symm hz1.2.1 h0 g1 g2 hpn hp.2.2.1 hp.2.2.2 hs hpq hxy
          · exact ahead_c6 A w hS b1 o1 c1 b2 o2 c2 za.length pn q za zb rfl hn.symm hz1.2.1 h0 g1 g2 hpn hp.2.2.1 hp.2.2.2 hs hpq hxy
          · exact ahead_c7 A w hS b1 o1 c1 b2 o2 c2 za.length pn q za zb rfl hn.symm hz1.2.1 h0 g1 g2 hpn hp.2.2.1 hp.2.2.2 hs hpq hxy
    · exact ahead_none A w hS v u p q za zb ha hb (by omega) (by omega) h0 hp
  · by_cases hk : chk za = 0
    · exact ahead_bad A w hS v u p q za zb ha hb (by omega) (by omega) h0 hk
    · exact ahead_worse A w hS v u p q za zb ha hb (by omega) (by omega) h0 hk
end Go.Proofs.YtfechdagacmliaaDoor
