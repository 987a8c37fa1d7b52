/- VersionsActs: too many acts; no number of places; VersionsActs: any number, any acts. -/
import Derived.Test.YtdnebclemngdcaaGreatDoorJZStored
import Derived.Test.YtdnebclemngdcaaGreatDoorJZA3
namespace Go.Proofs.YtdnebclemngdcaaGreatDoor
open Go.RowKit Go.Sort Go.Maps
set_option maxRecDepth 100000
set_option linter.unusedSectionVars false
variable [Inhabited ComV] [DecidableEq D3] [Inhabited D3] [Inhabited Dd] [Inhabited Dn] [Inhabited OpV]

set_option maxHeartbeats 2000000 in
theorem acts_many (A : Nat → Addr) (B : Nat) (w : World) (hE : Sents A B w) (n : Int) (la : Option Addr) (m lc : Nat) (hm : 40 < (m : Int)) :
    Calls Tryz.prog 5 #[.int .i64 n, .slice la m lc] w fun e w' => e = .returned (.bool true) ∧ Below w.heap.size w w' := by
  have h12 : 12 ≤ w.heap.size := by have := hE.gl; have := hE.size; omega
  have hV : SentV A B w := ⟨hE.gl, hE.size, hE.e5, hE.cell 8 (by decide), hE.cell 5 (by decide)⟩; have K6 := hid (stored_okO A w hV.e4 h12); clear hE hV; go_enter Tryz.func5, Tryz.ntmps5; go_wp2_with fail; refine K6.out.mono ?_; rintro e w1 ⟨rfl, hb1⟩; have B1 := hid hb1; clear hb1 K6; go_wp2_with fail; go_ret; exact ⟨rfl, B1.out⟩
set_option maxHeartbeats 2000000 in
theorem acts_none (A : Nat → Addr) (B : Nat) (w : World) (hE : Sents A B w) (n : Int) (hn : n < 1 ∨ 6 < n) (la : Option Addr) (m lc : Nat) (hm : ¬ 40 < (m : Int)) :
    Calls Tryz.prog 5 #[.int .i64 n, .slice la m lc] w fun e w' => e = .returned (.bool true) ∧ Below w.heap.size w w' := by
  have h12 : 12 ≤ w.heap.size := by have := hE.gl; have := hE.size; omega
  have hV : SentV A B w := ⟨hE.gl, hE.size, hE.e5, hE.cell 8 (by decide), hE.cell 5 (by decide)⟩; have K6 := hid (stored_okO A w hV.e4 h12); have K8 := hid (fun W (hW : Below w.heap.size w W) => new_bad A W (hV.e4.below hW h12) n hn); have K16 := hid (fun W (hW : Below w.heap.size w W) => coded_sent A B W 1 2 (hE.below (hW.mono hE.size)) (by decide) rfl); clear hE hV
  by_cases h1 : n < 1
  · clear hn; go_enter Tryz.func5, Tryz.ntmps5; go_wp2_with fail; refine K6.out.mono ?_; rintro e w1 ⟨rfl, hb1⟩; have B1 := hid hb1; clear hb1 K6; go_wp2_with fail; refine (K8.out w1 B1.out).mono ?_; rintro e w3 ⟨rfl, hb3⟩; have B3 := hid (B1.out.trans (hb3.mono B1.out.size)); clear hb3; go_wp2_with fail; refine (K16.out w3 B3.out).mono ?_; rintro e w4 ⟨rfl, hb4⟩; have B4 := hid (B3.out.trans (hb4.mono B3.out.size)); clear hb4; go_wp2_with fail; go_ret; exact ⟨rfl, B4.out⟩
  · have h6 : 6 < n := hn.resolve_left h1; clear hn; go_enter Tryz.func5, Tryz.ntmps5; go_wp2_with fail; refine K6.out.mono ?_; rintro e w1 ⟨rfl, hb1⟩; have B1 := hid hb1; clear hb1 K6; go_wp2_with fail; refine (K8.out w1 B1.out).mono ?_; rintro e w3 ⟨rfl, hb3⟩; have B3 := hid (B1.out.trans (hb3.mono B1.out.size)); clear hb3; go_wp2_with fail; refine (K16.out w3 B3.out).mono ?_; rintro e w4 ⟨rfl, hb4⟩; have B4 := hid (B3.out.trans (hb4.mono B3.out.size)); clear hb4; go_wp2_with fail; go_ret; exact ⟨rfl, B4.out⟩
end Go.Proofs.YtdnebclemngdcaaGreatDoor
namespace Go.Proofs.YtdnebclemngdcaaGreatDoor
open Go.RowKit Go.Sort Go.Maps
set_option linter.unusedSectionVars false
variable [Inhabited ComV] [DecidableEq D3] [Inhabited D3] [Inhabited Dd] [Inhabited Dn] [Inhabited OpV]

theorem acts_walk (A : Nat → Addr) (B : Nat) (w : World) (hE : Sents A B w) (n : Int) (lv : Value) (l : List ActV) (hl : ActsAt w lv l) :
    Calls Tryz.prog 5 #[.int .i64 n, lv] w fun e w' => e = .returned (.bool true) ∧ Below w.heap.size w w' := by
  have hl' := hl; obtain ⟨la, lc, rfl, _⟩ := hl
  by_cases hm : 40 < (l.length : Int)
  · exact acts_many A B w hE n la _ lc hm
  · by_cases hn : n < 1 ∨ 6 < n
    · exact acts_none A B w hE n hn la _ lc hm
    · obtain ⟨nb, hnb⟩ : ∃ nb : Nat, n = (nb : Int) := ⟨n.toNat, by omega⟩; subst hnb; exact acts_in A B w hE nb (by omega) (by omega) _ l hl' (by omega)
end Go.Proofs.YtdnebclemngdcaaGreatDoor
