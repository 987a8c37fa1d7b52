/- CheckCommit by its contract. -/
import Derived.Test.YtcohaghmfoifaabGreatDoorVComM
namespace Go.Proofs.YtcohaghmfoifaabGreatDoor
open Go.RowKit
set_option maxRecDepth 100000

/-- An op is not too great. -/
def Small (o : OpV) : Prop := o.text.size ≤ 1000000 ∧ o.dots.length ≤ 1000000

/-- What CheckCommit hands back. -/
def ComRet (A : Nat → Addr) (w : World) (er : Nat × Option Nat) (e : Ending) (w' : World) : Prop := ∃ v, e = .returned v ∧ ErrAt A w' v er ∧ Below w.heap.size w w'
theorem ComRet.bare {A : Nat → Addr} {w w' : World} {er : Nat × Option Nat} (k : Nat) (h : er = (k, none)) (hb : Below w.heap.size w w') : ComRet A w er (.returned (errV A k)) w' := ⟨_, rfl, ErrAt.bare k h, hb⟩

theorem checkCommit_when (A : Nat → Addr) (w : World) (hE : E4 A w) (h4 : 4 ≤ w.heap.size) (a1 : Option Addr) (c1 : Nat) (zs : List Int) (pl : Int) (a2 : Option Addr) (m c2 : Nat)
    (hw : IntsAt w (.slice a1 zs.length c1) zs) (hl : zs.length ≤ 1000000) (hc : chk zs ≠ 0) :
    Calls Tryz.prog 14 #[.agg #[.slice a1 zs.length c1, .int .i64 pl, .slice a2 m c2]] w fun e w' => e = .returned (.iface 193 (.pointer (some (A ((chk zs).toNat - 1))))) ∧ Below w.heap.size w w' := by
  have K := fun o => check_bad A (w.alloc o) (hE.below (below_alloc _ _) h4) (.slice a1 zs.length c1) zs (hw.mono (below_alloc _ _) (Nat.le_refl _)) hl hc
  obtain ⟨n, hn⟩ : ∃ n, n = zs.length := ⟨_, rfl⟩
  rw [← hn] at K ⊢
  clear hn hw hl
  go_enter Tryz.func14, Tryz.ntmps14
  go_wp2_with (go_at_call 38; refine (K _).mono ?_; rintro e w' ⟨rfl, rfl⟩)
  go_ret
  exact ⟨rfl, below_alloc _ _⟩

set_option maxHeartbeats 2000000 in
theorem checkCommit_bound (A : Nat → Addr) (w : World) (hE : E4 A w) (h4 : 4 ≤ w.heap.size) (b1 o1 : Nat) (c1 : Nat) (zs : List Int) (pl : Int) (a2 : Option Addr) (m c2 : Nat)
    (hw : ∀ t, t < zs.length → w.cell? ⟨b1, o1 + t, none⟩ = some (.int .i64 (zs.getD t 0))) (hc : chk zs = 0) (hm : m ≤ 1000000)
    (h : pl < 0 ∨ (zs.length : Int) ≤ pl ∨ zs.getD pl.toNat 0 = 0 ∨ 12 < m) :
    Calls Tryz.prog 14 #[.agg #[.slice (some ⟨b1, o1, none⟩) zs.length c1, .int .i64 pl, .slice a2 m c2]] w fun e w' => e = .returned (errV A 2) ∧ Below w.heap.size w w' := by
  have hn6 := (chk_zero.1 hc).2.1
  have K := fun o => check_ok A (w.alloc o) (hE.below (below_alloc _ _) h4) (.slice (some ⟨b1, o1, none⟩) zs.length c1) zs (IntsAt.mono ⟨_, _, rfl, (fun h => by cases h), .inr ⟨b1, o1, rfl, hw⟩⟩ (below_alloc w o) (Nat.le_refl _)) hc
  have hW := hid hw
  have g0 := fun o => cell_alloc hE.bound o
  obtain ⟨n, hn⟩ : ∃ n, n = zs.length := ⟨_, rfl⟩
  rw [← hn] at K hW h hn6 ⊢
  clear hn hw hc hE
  by_cases p0 : pl < 0
  · go_enter Tryz.func14, Tryz.ntmps14
    go_wp2_with (go_at_call 38; refine (K _).mono ?_; rintro e w' ⟨rfl, rfl⟩)
    go_ret
    exact ⟨rfl, below_alloc _ _⟩
  · obtain ⟨p, rfl⟩ : ∃ p : Nat, pl = p := ⟨pl.toNat, by omega⟩
    by_cases p1 : (n : Int) ≤ p
    · go_enter Tryz.func14, Tryz.ntmps14
      go_wp2_with (go_at_call 38; refine (K _).mono ?_; rintro e w' ⟨rfl, rfl⟩)
      go_ret
      exact ⟨rfl, below_alloc _ _⟩
    · have cz := fun o => cell_alloc (hW.out p (by omega)) o
      obtain ⟨z, hz⟩ : ∃ z, z = zs.getD p 0 := ⟨_, rfl⟩
      rw [← hz] at cz
      have HZ := hid hz
      clear hz
      have hlt : p < n := by omega
      by_cases z0 : z = 0
      · rw [z0] at cz
        clear h
        go_enter Tryz.func14, Tryz.ntmps14
        go_wp2_with (go_at_call 38; refine (K _).mono ?_; rintro e w' ⟨rfl, rfl⟩)
        go_ret
        exact ⟨rfl, below_alloc _ _⟩
      · have bz : (z == 0) = false := by simpa using z0
        have m12 : 12 < (m : Int) := by
          rcases h with h | h | h | h
          · omega
          · omega
          · rw [Int.toNat_natCast, ← HZ.out] at h; omega
          · omega
        clear h
        go_enter Tryz.func14, Tryz.ntmps14
        go_wp2_with (go_at_call 38; refine (K _).mono ?_; rintro e w' ⟨rfl, rfl⟩)
        go_ret
        exact ⟨rfl, below_alloc _ _⟩

set_option maxHeartbeats 2000000 in
theorem checkCommit_empty (A : Nat → Addr) (w : World) (hE : E4 A w) (h4 : 4 ≤ w.heap.size) (b1 o1 : Nat) (c1 : Nat) (zs : List Int) (p : Nat) (a2 : Option Addr) (c2 : Nat)
    (hw : ∀ t, t < zs.length → w.cell? ⟨b1, o1 + t, none⟩ = some (.int .i64 (zs.getD t 0))) (hc : chk zs = 0) (hp : p < zs.length) (hz : zs.getD p 0 ≠ 0) :
    Calls Tryz.prog 14 #[.agg #[.slice (some ⟨b1, o1, none⟩) zs.length c1, .int .i64 p, .slice a2 0 c2]] w fun e w' => e = .returned (errV A 3) ∧ Below w.heap.size w w' := by
  have hn6 := (chk_zero.1 hc).2.1
  have K := fun o => check_ok A (w.alloc o) (hE.below (below_alloc _ _) h4) (.slice (some ⟨b1, o1, none⟩) zs.length c1) zs (IntsAt.mono ⟨_, _, rfl, (fun h => by cases h), .inr ⟨b1, o1, rfl, hw⟩⟩ (below_alloc w o) (Nat.le_refl _)) hc
  have g0 := fun o => cell_alloc hE.shape o
  have cz := fun o => cell_alloc (hw p hp) o
  obtain ⟨z, hzz⟩ : ∃ z, z = zs.getD p 0 := ⟨_, rfl⟩
  rw [← hzz] at cz hz
  have bz : (z == 0) = false := by simpa using hz
  obtain ⟨n, hn⟩ : ∃ n, n = zs.length := ⟨_, rfl⟩
  rw [← hn] at K hp hn6 ⊢
  have p1 : ¬ (n : Int) ≤ p := by omega
  clear hn hw hc hE hzz hz
  go_enter Tryz.func14, Tryz.ntmps14
  go_wp2_with (go_at_call 38; refine (K _).mono ?_; rintro e w' ⟨rfl, rfl⟩)
  go_ret
  exact ⟨rfl, below_alloc _ _⟩

end Go.Proofs.YtcohaghmfoifaabGreatDoor
