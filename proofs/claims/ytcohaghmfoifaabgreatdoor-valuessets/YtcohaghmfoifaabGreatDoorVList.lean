/- checkList, where nothing is wrong. -/
import Derived.Test.YtcohaghmfoifaabGreatDoorVCom2
namespace Go.Proofs.YtcohaghmfoifaabGreatDoor
open Go.RowKit
set_option maxRecDepth 100000

/-- The number of the error of commit i of a list. -/
def listBad (l : List ComV) (i : Nat) : Nat :=
  if (comErr l[i]!).1 ≠ 0 then (comErr l[i]!).1 else if l[i]!.when_.length ≠ l[0]!.when_.length then 3 else 0
/-- The error of a list of commits, and at which one. -/
def listErr (l : List ComV) : Nat × Option Nat := scan (listBad l) l.length
/-- A commit is not too great. -/
def SmallC (c : ComV) : Prop := c.when_.length ≤ 1000000 ∧ c.ops.length ≤ 1000000 ∧ ∀ o ∈ c.ops, Small o
theorem scan_fst_zero {f : Nat → Nat} {m : Nat} (h : (scan f m).1 = 0) : scan f m = (0, none) := scan_none (scan_zero h)
theorem comErr_zero {c : ComV} (h : (comErr c).1 = 0) : comErr c = (0, none) := by
  unfold comErr at h ⊢
  split at h
  · rename_i hc
    rcases chk_cases c.when_ with e | e | e
    · exact absurd e hc
    · rw [e] at h; exact absurd h (by decide)
    · rw [e] at h; exact absurd h (by decide)
  · split at h
    · exact absurd h (by decide)
    · split at h
      · exact absurd h (by decide)
      · rename_i h1 h2 h3
        rw [if_neg h1, if_neg h2, if_neg h3]
        exact scan_fst_zero h

theorem checkList_nil (w : World) (a : Option Addr) (c : Nat) : Calls Tryz.prog 53 #[.slice a 0 c] w fun e w' => e = .returned .nilIface ∧ w' = w := by
  go_enter Tryz.func53, Tryz.ntmps53
  go_wp2
  refine wp_loop_rounds 1 ?_
  rw [rounds_succ]
  go_wp2
  go_ret
  exact ⟨rfl, rfl⟩

set_option maxHeartbeats 4000000 in
theorem checkList_ok_n (A : Nat → Addr) (w : World) (hE : E4 A w) (h4 : 4 ≤ w.heap.size) (b off m c : Nat) (l : List ComV) (hm : l.length = m) (h0 : 0 < m) (hl : m ≤ 1000000) (hsm : ∀ c ∈ l, SmallC c) (hok : ∀ i, i < m → listBad l i = 0)
    (ho : ∀ j, j < m → ∃ wv ov, IntsAt w wv l[j]!.when_ ∧ OpsAt w ov l[j]!.ops ∧ w.cell? ⟨b, off + j * 3, none⟩ = some wv ∧ w.cell? ⟨b, off + j * 3 + 1, none⟩ = some (.int .i64 l[j]!.place) ∧ w.cell? ⟨b, off + j * 3 + 2, none⟩ = some ov) :
    Calls Tryz.prog 53 #[.slice (some ⟨b, off, none⟩) m c] w fun e w' => e = .returned .nilIface ∧ Below w.heap.size w w' := by
  obtain ⟨wv0, _, hi0, _, z0, _, _⟩ := ho 0 h0
  rw [Nat.zero_mul, Nat.add_zero] at z0
  obtain ⟨a0, k0, rfl, _, _⟩ := hi0
  obtain ⟨n0, hn0⟩ : ∃ n0, n0 = l[0]!.when_.length := ⟨_, rfl⟩
  rw [← hn0] at z0
  have HN0 := hid hn0
  have HO := hid ho
  have HE := hid hE
  have HM := hid hm
  have HS := hid hsm
  have HK := hid hok
  clear ho hE hm hsm hok hn0
  go_enter Tryz.func53, Tryz.ntmps53
  go_wp2
  go_loopw [8] (fun i wr => ∃ k : Nat, k ≤ m ∧ i = .int .i64 k ∧ Hid (Below w.heap.size w wr)) (fun i _ => m - (intOf i).toNat)
  case atStart => exact ⟨0, Nat.zero_le _, rfl, Below.refl _ _⟩
  case round =>
    obtain ⟨k, hk, rfl, HB⟩ := hrel
    have hsz := HB.out.size
    by_cases hlt : k < m
    · obtain ⟨wv, ov, hi, hop, q0, q1, q2⟩ := HO.out k hlt
      have up : ∀ {a : Addr} {v : Value}, w.cell? a = some v → wr.cell? a = some v := fun {a v} h => by rw [HB.out.cell (lt_of_cell h)]; exact h
      have r0 := up q0
      have r1 := up q1
      have r2 := up q2
      have y0 := up z0
      have hSm : SmallC l[k]! := HS.out _ (by rw [getElem!_pos l k (by have := HM.out; omega)]; exact List.getElem_mem _)
      have hbad := HK.out k hlt
      have hce : comErr l[k]! = (0, none) := comErr_zero (by
        unfold listBad at hbad
        split at hbad
        · rename_i h; exact absurd hbad h
        · rename_i h; simpa using h)
      have hlen : l[k]!.when_.length = n0 := by
        have := HN0.out
        unfold listBad at hbad
        rw [if_neg (by rw [hce]; decide)] at hbad
        split at hbad
        · exact absurd hbad (by decide)
        · rename_i h; rw [this]; simpa using h
      have hi' := hi.mono HB.out (Nat.le_refl _)
      have ho' := hop.mono HB.out (Nat.le_refl _)
      obtain ⟨x, hx⟩ : ∃ x, x = l[k]! := ⟨_, rfl⟩
      rw [← hx] at r1 hSm hce hlen hi' ho'
      have KC := fun o => checkCommit A (wr.alloc o) ((HE.out.below HB.out h4).below (below_alloc wr o) (by omega)) (by simp; omega) x wv ov (hi'.mono (below_alloc wr o) (Nat.le_refl _)) (ho'.mono (below_alloc wr o) (Nat.le_refl _)) hSm.1 hSm.2.1 hSm.2.2
      rw [hce] at KC
      obtain ⟨a1, c1, rfl, _, _⟩ := hi'
      obtain ⟨a2, c2, rfl, _, _, _⟩ := ho'.shape
      rw [hlen] at KC r0
      obtain ⟨m2, hm2⟩ : ∃ m2, m2 = x.ops.length := ⟨_, rfl⟩
      rw [← hm2] at KC r2
      obtain ⟨pl, hpl⟩ : ∃ pl, pl = x.place := ⟨_, rfl⟩
      rw [← hpl] at KC r1
      clear q0 q1 q2 hi hop hx hSm hce hlen hbad hm2 hpl up
      go_wp2_with (go_at_call 14; refine (KC _).mono ?_; rintro e w' ⟨v, rfl, hv, hw⟩; obtain rfl : v = .nilIface := hv)
      have hwB : Hid (Below w.heap.size w w') := (HB.out.alloc hsz _).trans (hw.mono (by simp; omega))
      have f0 : w'.cell? ⟨wr.heap.size, 0, none⟩ = some (.slice a1 n0 c1) := by rw [hw.cell (p := ⟨wr.heap.size, 0, none⟩) (by simp)]; simp
      have g0 : w'.cell? ⟨b, off, none⟩ = some (.slice a0 n0 k0) := by rw [hwB.out.cell (lt_of_cell z0)]; exact z0
      have bne : ((n0 : Int) != (n0 : Int)) = false := by simp
      clear hw KC y0 r0 r1 r2
      go_quiet (fail)
      go_wp2
      exact ⟨⟨k + 1, by omega, by go_num, below_draws hwB.out _⟩, by simp [intOf]; omega⟩
    · obtain rfl : k = m := by omega
      go_wp2
      go_ret
      exact ⟨rfl, HB.out⟩

theorem checkList_ok (A : Nat → Addr) (w : World) (hE : E4 A w) (h4 : 4 ≤ w.heap.size) (v : Value) (l : List ComV) (hv : ComsAt w v l) (hl : l.length ≤ 1000000) (hsm : ∀ c ∈ l, SmallC c) (hok : ∀ i, i < l.length → listBad l i = 0) :
    Calls Tryz.prog 53 #[v] w fun e w' => e = .returned .nilIface ∧ Below w.heap.size w w' := by
  obtain ⟨ad, cap, rfl, _, _, h⟩ := hv.shape
  by_cases h0 : l = []
  · subst h0
    refine (checkList_nil w ad cap).mono ?_
    rintro e w' ⟨rfl, rfl⟩
    exact ⟨rfl, Below.refl _ _⟩
  · rcases h with h | ⟨b, off, rfl, h⟩
    · exact absurd h h0
    · exact checkList_ok_n A w hE h4 b off l.length cap l rfl (List.length_pos_iff.2 h0) hl hsm hok h
end Go.Proofs.YtcohaghmfoifaabGreatDoor
