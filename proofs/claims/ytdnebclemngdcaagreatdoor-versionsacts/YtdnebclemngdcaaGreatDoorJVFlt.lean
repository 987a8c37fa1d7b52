/- coded and faulted by their contracts; how great an error's number is; an op and a commit as arguments. -/
import Derived.Test.YtdnebclemngdcaaGreatDoorJVCode
import Derived.Test.YtdnebclemngdcaaGreatDoorJVSame
import Derived.Test.YtdnebclemngdcaaGreatDoorJVRefD
namespace Go.Proofs.YtdnebclemngdcaaGreatDoor
open Go.RowKit Go.Sort Go.Maps
set_option maxRecDepth 100000
set_option linter.unusedSectionVars false
variable [Inhabited ComV] [DecidableEq D3] [Inhabited D3] [Inhabited Dd] [Inhabited Dn] [Inhabited OpV]

theorem opErr_le (o : OpV) (n : Int) : opErr o n ≤ 12 := by
  unfold opErr
  repeat' split
  all_goals omega
theorem opBad_le (n : Int) (os : List OpV) (i : Nat) : opBad n os i ≤ 12 := by
  unfold opBad; have := opErr_le os[i]! n
  repeat' split
  all_goals omega
theorem scan_le {f : Nat → Nat} {m : Nat} (h : ∀ i, f i ≤ 12) : (scan f m).1 ≤ 12 := by
  unfold scan
  split
  · exact h _
  · simp
theorem comErr_le (c : ComV) : (comErr c).1 ≤ 12 := by
  unfold comErr
  split
  · rcases chk_cases c.when_ with h | h | h <;> rw [h] <;> decide
  · split
    · decide
    · split
      · decide
      · exact scan_le (opBad_le _ _)
theorem coded_err (A : Nat → Addr) (B : Nat) (w : World) (hS : Sents A B w) (k : Nat) (hk : k ≤ 12) : Calls Tryz.prog 16 #[errV A k, .int .i64 ((k : Nat) : Int)] w fun e w' => e = .returned (.bool true) ∧ Below w.heap.size w w' := by
  cases k with
  | zero =>
    refine (coded_nil w).mono ?_; rintro e w' ⟨rfl, rfl⟩; exact ⟨rfl, Below.refl _ _⟩
  | succ k => exact coded_sent A B w k _ hS (by omega) (by omega)
set_option maxHeartbeats 2000000 in
theorem faulted_err (A : Nat → Addr) (B : Nat) (w : World) (hS : Sents A B w) (ev : Value) (er : Nat × Option Nat) (h : ErrAt A w ev er) (h12 : er.1 ≤ 12) (hz : er.1 = 0 → er = (0, none)) :
    Calls Tryz.prog 22 #[ev, .agg #[.int .i64 ((er.1 : Nat) : Int), .int .i64 (faultAt er.2)]] w fun e w' => e = .returned (.bool true) ∧ Below w.heap.size w w' := by
  obtain ⟨k, o⟩ := er
  cases k with
  | zero =>
    have := hz rfl; injection this with _ ho; subst ho; obtain rfl : ev = .nilIface := h; show Calls Tryz.prog 22 #[.nilIface, .agg #[.int .i64 0, .int .i64 (-1)]] w _; go_enter Tryz.func22, Tryz.ntmps22
    go_wp2_with (go_at_call 50; refine (code_nil _).mono ?_; rintro e w' ⟨rfl, rfl⟩)
    go_ret; exact ⟨rfl, below_alloc _ _⟩
  | succ k =>
    have hk : k < 12 := by have : k + 1 ≤ 12 := h12; omega
    cases o with
    | none =>
      obtain rfl : ev = .iface 255 (.pointer (some (A k))) := h; show Calls Tryz.prog 22 #[.iface 255 (.pointer (some (A k))), .agg #[.int .i64 ((k + 1 : Nat) : Int), .int .i64 (-1)]] w _; have hS1 := hS.below ((below_alloc w (.cells #[.int .i64 ((k + 1 : Nat) : Int), .int .i64 (-1)] 60)).mono hS.size); have K30 := code_sent A B _ k hS1 hk; obtain ⟨E, hE⟩ : ∃ E : Int, E = ((k + 1 : Nat) : Int) := ⟨_, rfl⟩; rw [← hE, show (k : Int) + 1 = E by omega] at K30; rw [← hE]; clear hE hS1 h12 hz; go_enter Tryz.func22, Tryz.ntmps22; go_wp2_with fail; refine K30.mono ?_; rintro e w' ⟨rfl, hb⟩; have c0 : w'.cell? ⟨w.heap.size, 0, none⟩ = some (.int .i64 E) := by rw [hb.cell (by simp)]; exact (World.cell?_alloc_at _ _ _ _ rfl).trans rfl
      have c1 : w'.cell? ⟨w.heap.size, 1, none⟩ = some (.int .i64 (-1)) := by rw [hb.cell (by simp)]; exact (World.cell?_alloc_at _ _ _ _ rfl).trans rfl
      have HB := hid ((below_alloc _ _).trans (hb.mono (by simp))); clear hb K30; go_wp2
      all_goals
        go_ret; exact ⟨rfl, HB.out⟩
    | some i =>
      obtain ⟨pb, rfl, c0, c1⟩ := h; show Calls Tryz.prog 22 #[.iface 89 (.pointer (some ⟨pb, 0, none⟩)), .agg #[.int .i64 ((k + 1 : Nat) : Int), .int .i64 ((i : Nat) : Int)]] w _; have hS1 := hS.below ((below_alloc w (.cells #[.int .i64 ((k + 1 : Nat) : Int), .int .i64 ((i : Nat) : Int)] 60)).mono hS.size); have K30 := code_fault A B _ k pb i hS1 hk (cell_alloc c0 _) (cell_alloc c1 _); obtain ⟨E, hE⟩ : ∃ E : Int, E = ((k + 1 : Nat) : Int) := ⟨_, rfl⟩; obtain ⟨F, hF⟩ : ∃ F : Int, F = ((i : Nat) : Int) := ⟨_, rfl⟩; rw [← hE, ← hF, show (k : Int) + 1 = E by omega] at K30; rw [← hE, ← hF]; clear hE hF hS1 h12 hz c0 c1; go_enter Tryz.func22, Tryz.ntmps22; go_wp2_with fail; refine K30.mono ?_; rintro e w' ⟨rfl, hb⟩; have c0 : w'.cell? ⟨w.heap.size, 0, none⟩ = some (.int .i64 E) := by rw [hb.cell (by simp)]; exact (World.cell?_alloc_at _ _ _ _ rfl).trans rfl
      have c1 : w'.cell? ⟨w.heap.size, 1, none⟩ = some (.int .i64 F) := by rw [hb.cell (by simp)]; exact (World.cell?_alloc_at _ _ _ _ rfl).trans rfl
      have HB := hid ((below_alloc _ _).trans (hb.mono (by simp))); clear hb K30; go_wp2
      all_goals
        go_ret; exact ⟨rfl, HB.out⟩
end Go.Proofs.YtdnebclemngdcaaGreatDoor
