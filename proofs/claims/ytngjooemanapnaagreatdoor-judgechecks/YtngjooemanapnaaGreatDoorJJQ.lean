/- The reference's CommitFault over its ops; coded and faulted by their contracts; how great an error's number is; an op and a commit as arguments; coded and faulted by their contracts. -/
import Derived.Test.YtngjooemanapnaaGreatDoorJVRefC
import Derived.Test.YtngjooemanapnaaGreatDoorJVRefO
import Derived.Test.YtngjooemanapnaaGreatDoorJVCom
import Derived.Test.YtngjooemanapnaaGreatDoorJVCheck
import Derived.Test.YtngjooemanapnaaGreatDoorJVCmpD
import Derived.Test.YtngjooemanapnaaGreatDoorJVLayI
import Derived.Test.YtngjooemanapnaaGreatDoorJVCode
import Derived.Test.YtngjooemanapnaaGreatDoorJVSame
import Derived.Test.YtngjooemanapnaaGreatDoorJVMap
import Derived.Test.YtngjooemanapnaaGreatDoorJJP
namespace Go.Proofs.YtngjooemanapnaaGreatDoor
open Go.RowKit Go.Sort Go.Maps
set_option maxRecDepth 100000
set_option linter.unusedSectionVars false
variable [Inhabited ComV] [DecidableEq D3] [Inhabited D3] [Inhabited Dd] [Inhabited Dn] [Inhabited OpV]

theorem below_drew (B : Nat) (w : World) : Below B w w.drew := ⟨rfl, rfl, rfl, Nat.le_refl _, fun _ _ => rfl⟩
set_option maxHeartbeats 4000000 in
theorem flt_ops (w : World) (b1 o1 : Nat) (c1 : Nat) (zs : List Int) (p : Nat) (b2 o2 m c2 : Nat) (os : List OpV)
    (hw : ∀ t, t < zs.length → w.cell? ⟨b1, o1 + t, none⟩ = some (.int .i64 (zs.getD t 0))) (hc : chk zs = 0) (hp : p < zs.length) (hz : zs.getD p 0 ≠ 0) (hm : os.length = m) (h0 : 0 < m) (h12 : m ≤ 12) (hsm : ∀ o ∈ os, Small o)
    (ho : ∀ j, j < m → ∃ dp dc, DotsAt w (.slice dp os[j]!.dots.length dc) os[j]!.dots ∧
      w.cell? ⟨b2, o2 + j * 7, none⟩ = some (.int .i64 os[j]!.at_) ∧ w.cell? ⟨b2, o2 + j * 7 + 1, none⟩ = some (.string os[j]!.key) ∧ w.cell? ⟨b2, o2 + j * 7 + 2, none⟩ = some (.int .i64 os[j]!.kind) ∧ w.cell? ⟨b2, o2 + j * 7 + 3, none⟩ = some (.string os[j]!.text) ∧
      w.cell? ⟨b2, o2 + j * 7 + 4, none⟩ = some (.int .i64 os[j]!.n) ∧ w.cell? ⟨b2, o2 + j * 7 + 5, none⟩ = some (.bool os[j]!.rem) ∧ w.cell? ⟨b2, o2 + j * 7 + 6, none⟩ = some (.slice dp os[j]!.dots.length dc)) :
    Calls Tryz.prog 28 #[.agg #[.slice (some ⟨b1, o1, none⟩) zs.length c1, .int .i64 p, .slice (some ⟨b2, o2, none⟩) m c2]] w fun e w' => FltRet w (scan (opBad zs.length os) m) e w' := by
  obtain ⟨hg, hb1, hs1⟩ := two_boxes w (.cells #[.slice (some ⟨b1, o1, none⟩) zs.length c1, .int .i64 p, .slice (some ⟨b2, o2, none⟩) m c2] 41)
  have hn6 := (chk_zero.1 hc).2.1
  have K39 := hid (vectorError _ (.slice (some ⟨b1, o1, none⟩) zs.length c1) zs (IntsAt.mono ⟨_, _, rfl, (fun h => by cases h), .inr ⟨b1, o1, rfl, hw⟩⟩ hb1 (Nat.le_refl _)) (by omega))
  rw [hc] at K39
  have cz := cell2 (hw p hp) (.cells #[.slice (some ⟨b1, o1, none⟩) zs.length c1, .int .i64 p, .slice (some ⟨b2, o2, none⟩) m c2] 41) (.cells #[.int .i64 0, .int .i64 0] 32)
  obtain ⟨z, hzz⟩ : ∃ z, z = zs.getD p 0 := ⟨_, rfl⟩
  rw [← hzz] at cz hz
  have bz : (z == 0) = false := by simpa using hz
  obtain ⟨n, hn⟩ : ∃ n, n = zs.length := ⟨_, rfl⟩
  rw [← hn] at K39 hg hb1 hs1 hn6 hp cz ⊢
  have p1 : decide (n ≤ p) = false := by simp; omega
  have m12 : decide (12 < (m : Int)) = false := by simp; omega
  have p0 : decide ((p : Int) < 0) = false := by simp
  have m0 : ((m : Int) == 0) = false := by rw [beq_eq_false_iff_ne]; omega
  obtain ⟨w1, hw1⟩ : ∃ w1, w1 = (w.alloc (.cells #[.slice (some ⟨b1, o1, none⟩) n c1, .int .i64 p, .slice (some ⟨b2, o2, none⟩) m c2] 41)).alloc (.cells #[.int .i64 0, .int .i64 0] 32) := ⟨_, rfl⟩
  have C0 : Hid (w1.cell? ⟨w.heap.size, 0, none⟩ = some (.slice (some ⟨b1, o1, none⟩) n c1)) := hid (by rw [hw1, World.cell?_alloc_lt _ _ _ (by simp)]; exact (World.cell?_alloc_at _ _ _ _ rfl).trans rfl)
  have C2 : Hid (w1.cell? ⟨w.heap.size, 2, none⟩ = some (.slice (some ⟨b2, o2, none⟩) m c2)) := hid (by rw [hw1, World.cell?_alloc_lt _ _ _ (by simp)]; exact (World.cell?_alloc_at _ _ _ _ rfl).trans rfl)
  rw [← hw1] at hg hb1 hs1
  have HG := hid hg
  have HB1 := hid hb1
  have HS1 := hid hs1
  have HO := hid ho
  have HM := hid hm
  have HS := hid hsm
  have HW1 := hid hw1
  have mixed : Hid (Tryz.prog.follows .mixedOrders = true) := hid (by kernel_rfl)
  clear hn hw hc hg hb1 hs1 hz hzz ho hm hsm hw1
  go_enter Tryz.func28, Tryz.ntmps28
  go_wp2_with (go_at_call 27; refine K39.out.mono ?_; rintro e w' ⟨rfl, rfl⟩)
  clear cz bz
  go_loopw [4] (fun i wr => ∃ k : Nat, k ≤ m ∧ i = .int .i64 k ∧ Hid (Below (w.heap.size + 1 + 1) w1 wr) ∧ Hid (∀ t, t < k → opBad n os t = 0)) (fun i _ => m - (intOf i).toNat)
  case atStart => exact ⟨0, Nat.zero_le _, rfl, (by rw [HW1.out]; exact Below.refl _ _), fun t ht => absurd ht (Nat.not_lt_zero _)⟩
  case round =>
    obtain ⟨k, hk, rfl, HB, HI⟩ := hrel
    have hB := HB.out
    have hsz : w.heap.size + 1 + 1 ≤ wr.heap.size := by have := hB.size; have := HS1.out; omega
    have wB : Hid (Below w.heap.size w wr) := HB1.out.trans (hB.mono (by omega))
    have e0 : wr.cell? ⟨w.heap.size, 0, none⟩ = some (.slice (some ⟨b1, o1, none⟩) n c1) := by rw [hB.cell (p := ⟨w.heap.size, 0, none⟩) (by simp; omega)]; exact C0.out
    have e2 : wr.cell? ⟨w.heap.size, 2, none⟩ = some (.slice (some ⟨b2, o2, none⟩) m c2) := by rw [hB.cell (p := ⟨w.heap.size, 2, none⟩) (by simp; omega)]; exact C2.out
    clear hB
    by_cases hlt : k < m
    · obtain ⟨dp, dc, hd, q0, q1, q2, q3, q4, q5, q6⟩ := HO.out k hlt
      have up : ∀ {a : Addr} {v : Value}, w.cell? a = some v → wr.cell? a = some v := fun {a v} h => by rw [wB.out.cell (lt_of_cell h)]; exact h
      have r0 := up q0
      have r1 := up q1
      have r2 := up q2
      have r3 := up q3
      have r4 := up q4
      have r5 := up q5
      have r6 := up q6
      have hSm : Small os[k]! := HS.out _ (by rw [getElem!_pos os k (by have := HM.out; omega)]; exact List.getElem_mem _)
      obtain ⟨x, hx⟩ : ∃ x, x = os[k]! := ⟨_, rfl⟩
      rw [← hx] at r0 r1 r2 r3 r4 r5 r6 hd hSm
      have HX := hid hx
      obtain ⟨er, her⟩ : ∃ er, er = opErr x n := ⟨_, rfl⟩
      have HER := hid her
      obtain ⟨x1, x2, x3, x4, x5, x6, ds⟩ := x
      have KC := rOpError wr.drew x1 x2 x3 x4 x5 x6 dp dc ds n ((hd.mono wB.out (Nat.le_refl _)).mono (below_drew wr.heap.size wr) (Nat.le_refl _)) hSm.2 hSm.1
      rw [← her] at KC
      clear q0 q1 q2 q3 q4 q5 q6 hx her hd hSm up
      simp only at r0 r1 r2 r3 r4 r5 r6
      have KH := hid KC
      clear KC
      go_upto_region 13 with (fail)
      refine wp_region_still_tail 8 mixed.out (by kernel_rfl) ?_
      simp only [List.take_succ_cons, List.take_zero, List.drop_succ_cons, List.drop_zero]
      still_step
      still_step
      still_step
      still_step
      still_step
      still_step
      still_step
      still_step
      refine wpStill_nil ?_
      go_wp2_with fail
      refine KH.out.mono ?_
      rintro e w' ⟨rfl, hw0⟩
      have hw' : Below wr.heap.size wr w' := (below_drew _ wr).trans hw0
      clear hw0
      have hw2 : Below (w.heap.size + 1 + 1) w1 w' := HB.out.trans (hw'.mono (by omega))
      have f2 : w'.cell? ⟨w.heap.size, 2, none⟩ = some (.slice (some ⟨b2, o2, none⟩) m c2) := by rw [hw2.cell (p := ⟨w.heap.size, 2, none⟩) (by simp; omega)]; exact C2.out
      have f0 : w'.cell? ⟨b2, o2 + k * 7, none⟩ = some (.int .i64 x1) := by rw [hw'.cell (lt_of_cell r0)]; exact r0
      have hwB : Hid (Below w.heap.size w w') := HB1.out.trans (hw2.mono (by omega))
      have X : Hid (∀ q, (∀ j, j < 2 → ((w'.drewN q).cell? ⟨w.heap.size + 1, 0 + j, none⟩).isSome = true) ∧ (∀ j, j < 2 → (w'.drewN q).frozen? ⟨w.heap.size + 1, 0 + j, none⟩ = false) ∧ ∀ a b : Value, ((w'.drewN q).setCells (w.heap.size + 1) 0 [a, b]).cell? ⟨w.heap.size + 1, 0, none⟩ = some a ∧ ((w'.drewN q).setCells (w.heap.size + 1) 0 [a, b]).cell? ⟨w.heap.size + 1, 1, none⟩ = some b) := fun q => box2 HG.out (below_draws hw2 q)
      have hw2' := hid hw2
      clear hw2 hw' KH r0 r1 r2 r3 r4 r5 r6 e0 e2
      cases er with
      | succ er =>
        have hbad : opBad n os k = er + 1 := by
          unfold opBad
          rw [← HX.out, ← HER.out, if_pos (by omega)]
        have hsc := hid (scan_some (f := opBad n os) hlt HI.out (by omega))
        rw [hbad] at hsc
        have g1 : (((er + 1 : Nat) : Int) == 0) = false := by rw [beq_eq_false_iff_ne]; omega
        have g2 : (0 : Int) < ((er + 1 : Nat) : Int) := by omega
        obtain ⟨E, hE⟩ : ∃ E : Int, E = ((er + 1 : Nat) : Int) := ⟨_, rfl⟩
        rw [← hE] at g1 g2 ⊢
        have HE := hid hE
        clear hE
        go_upto_region 14 with (fail)
        go_quiet (fail)
        go_wp2_with (refine wpList_store_k _ rfl (.tmp 2) (.tmp 86) 32 rfl (w.heap.size + 1) 0 [.int .i64 E, .int .i64 k] rfl rfl 2 rfl Tryz.sizeOf32 rfl _ rfl (fun j hj => ?c1) (fun j hj => ?c2) ?_; (case c1 => exact (X.out _).1 j hj); (case c2 => exact (X.out _).2.1 j hj))
        refine bodyPost_ret (ret_flt Tryz.results28 _ _ (w.heap.size + 1) _ _ rfl ((X.out _).2.2 _ _)) rfl ⟨?_, below_setCells (by omega) _ _ (below_draws hwB.out _)⟩
        rw [hsc.out, HE.out]
        rfl
      | zero =>
        rcases Nat.eq_zero_or_pos k with rfl | hk0
        · have hz0 : decide ((0 : Int) < ((0 : Nat) : Int)) = false := by decide
          go_upto_region 14 with (fail)
          go_quiet (fail)
          go_wp2
          go_roundw
          case rel =>
            refine ⟨1, by omega, rfl, below_draws hw2'.out _, ?_⟩
            intro t ht
            obtain rfl : t = 0 := by omega
            unfold opBad
            rw [← HX.out, ← HER.out, if_neg (by decide), if_neg (by omega)]
          case measure => simp [intOf]; omega
        · obtain ⟨j, rfl⟩ : ∃ j, k = j + 1 := ⟨k - 1, by omega⟩
          obtain ⟨_, _, _, q0, _⟩ := HO.out j (by omega)
          have g0 : w'.cell? ⟨b2, o2 + j * 7, none⟩ = some (.int .i64 os[j]!.at_) := by rw [hwB.out.cell (lt_of_cell q0)]; exact q0
          clear q0
          obtain ⟨y, hy⟩ : ∃ y, y = os[j]!.at_ := ⟨_, rfl⟩
          rw [← hy] at g0
          have HY := hid hy
          clear hy
          have hp0 : decide ((0 : Int) < ((j + 1 : Nat) : Int)) = true := by simp
          have hj1 : ((j + 1 : Nat) : Int) - 1 = (j : Int) := by omega
          have hjm : j < m := by omega
          by_cases hle : x1 ≤ y
          · have hbad : opBad n os (j + 1) = 3 := by
              unfold opBad
              rw [← HX.out, ← HER.out, if_neg (by decide), if_pos ⟨by omega, by rw [Nat.add_sub_cancel, ← HY.out]; exact hle⟩]
            have hsc := hid (scan_some (f := opBad n os) hlt HI.out (by omega))
            rw [hbad] at hsc
            go_upto_region 14 with (fail)
            go_quiet (fail)
            go_wp2_with (refine wpList_store_k _ rfl (.tmp 2) (.tmp 86) 32 rfl (w.heap.size + 1) 0 [.int .i64 3, .int .i64 ((j + 1 : Nat) : Int)] rfl rfl 2 rfl Tryz.sizeOf32 rfl _ rfl (fun j hj => ?c1) (fun j hj => ?c2) ?_; (case c1 => exact (X.out _).1 j hj); (case c2 => exact (X.out _).2.1 j hj))
            refine bodyPost_ret (ret_flt Tryz.results28 _ _ (w.heap.size + 1) _ _ rfl ((X.out _).2.2 _ _)) rfl ⟨?_, below_setCells (by omega) _ _ (below_draws hwB.out _)⟩
            rw [hsc.out]
            rfl
          · go_upto_region 14 with (fail)
            go_quiet (fail)
            go_wp2
            go_roundw
            case rel =>
              refine ⟨j + 1 + 1, by omega, by go_num, below_draws hw2'.out _, ?_⟩
              intro t ht
              rcases Nat.lt_succ_iff_lt_or_eq.1 ht with h | rfl
              · exact HI.out t h
              · unfold opBad
                rw [← HX.out, ← HER.out, if_neg (by decide), if_neg (fun h => by have h2 := h.2; rw [Nat.add_sub_cancel, ← HY.out] at h2; have h3 : x1 ≤ y := h2; omega)]
            case measure => simp [intOf]; omega
    · obtain rfl : k = m := by omega
      have HB' := hid HB.out
      go_wp2_with fail
      refine (fine_any _).mono ?_
      rintro e w2 ⟨rfl, hb2⟩
      have hbb : Below (w.heap.size + 1 + 1) w1 w2 := HB'.out.trans (hb2.mono hsz)
      have X := hid (box2 HG.out hbb)
      have HB2 := hid (HB1.out.trans (hbb.mono (by omega)))
      clear hb2 hbb
      go_wp2_with (refine wpList_store_k _ rfl (.tmp 2) (.tmp 87) 32 rfl (w.heap.size + 1) 0 [.int .i64 0, .int .i64 (-1)] rfl rfl 2 rfl Tryz.sizeOf32 rfl _ ?hW X.out.1 X.out.2.1 ?_; case hW => rfl)
      refine bodyPost_ret (ret_flt Tryz.results28 _ _ (w.heap.size + 1) _ _ rfl (X.out.2.2 _ _)) rfl ⟨?_, below_setCells (by omega) _ _ HB2.out⟩
      rw [scan_none HI.out]
      rfl
/-- CommitFault, at any commit. -/
theorem rCommitFault (w : World) (c : ComV) (wv ov : Value) (hw : IntsAt w wv c.when_) (ho : OpsAt w ov c.ops) (hl : c.when_.length ≤ 1000000) (hm : c.ops.length ≤ 1000000) (hsm : ∀ o ∈ c.ops, Small o) :
    Calls Tryz.prog 28 #[.agg #[wv, .int .i64 c.place, ov]] w fun e w' => FltRet w (comErr c) e w' := by
  obtain ⟨a2, c2, rfl, hn2, hc2, ho'⟩ := ho.shape
  have hw0 := hw
  obtain ⟨a1, c1, rfl, hn1, hw⟩ := hw
  unfold comErr
  by_cases hc : chk c.when_ = 0
  · rw [if_neg (by simpa using hc)]
    rcases hw with h | ⟨b1, o1, rfl, hw⟩
    · have := (chk_zero.1 hc).1
      rw [h] at this
      simp at this
    · by_cases hb : c.place < 0 ∨ (c.when_.length : Int) ≤ c.place ∨ c.when_.getD c.place.toNat 0 = 0 ∨ 12 < c.ops.length
      · rw [if_pos hb]
        exact flt_bound w b1 o1 c1 c.when_ c.place a2 c.ops.length c2 hw hc hm hb
      · rw [if_neg hb]
        obtain ⟨p, hp⟩ : ∃ p : Nat, c.place = p := ⟨c.place.toNat, by omega⟩
        rw [hp] at hb ⊢
        rw [Int.toNat_natCast] at hb
        by_cases h0 : c.ops = []
        · rw [if_pos h0, h0]
          exact flt_empty w b1 o1 c1 c.when_ p a2 c2 hw hc (by omega) (by omega)
        · rw [if_neg h0]
          rcases ho' with h | ⟨b2, o2, rfl, ho'⟩
          · exact absurd h h0
          · exact flt_ops w b1 o1 c1 c.when_ p b2 o2 c.ops.length c2 c.ops hw hc (by omega) (by omega) rfl (List.length_pos_iff.2 h0) (by omega) hsm ho'
  · rw [if_pos hc]
    exact flt_when w a1 c1 c.when_ c.place a2 c.ops.length c2 hw0 hl hc
end Go.Proofs.YtngjooemanapnaaGreatDoor
namespace Go.Proofs.YtngjooemanapnaaGreatDoor
open Go.RowKit Go.Sort Go.Maps
set_option maxRecDepth 100000
set_option linter.unusedSectionVars false
variable [Inhabited ComV] [DecidableEq D3] [Inhabited D3] [Inhabited Dd] [Inhabited Dn] [Inhabited OpV]

theorem opErr_le (o : OpV) (n : Int) : opErr o n ≤ 12 := by
  unfold opErr
  repeat' split
  all_goals omega
theorem opBad_le (n : Int) (os : List OpV) (i : Nat) : opBad n os i ≤ 12 := by
  unfold opBad
  have := opErr_le os[i]! n
  repeat' split
  all_goals omega
theorem scan_le {f : Nat → Nat} {m : Nat} (h : ∀ i, f i ≤ 12) : (scan f m).1 ≤ 12 := by
  unfold scan
  split
  · exact h _
  · simp
theorem comErr_le (c : ComV) : (comErr c).1 ≤ 12 := by
  unfold comErr
  split
  · rcases chk_cases c.when_ with h | h | h <;> rw [h] <;> decide
  · split
    · decide
    · split
      · decide
      · exact scan_le (opBad_le _ _)
theorem listBad_le (l : List ComV) (i : Nat) : listBad l i ≤ 12 := by
  unfold listBad
  have := comErr_le l[i]!
  repeat' split
  all_goals omega
end Go.Proofs.YtngjooemanapnaaGreatDoor
namespace Go.Proofs.YtngjooemanapnaaGreatDoor
open Go.RowKit Go.Sort Go.Maps
set_option maxRecDepth 100000
set_option linter.unusedSectionVars false
variable [Inhabited ComV] [DecidableEq D3] [Inhabited D3] [Inhabited Dd] [Inhabited Dn] [Inhabited OpV]

theorem coded_nil (w : World) : Calls Tryz.prog 11 #[.nilIface, .int .i64 0] w fun e w' => e = .returned (.bool true) ∧ w' = w := by
  go_enter Tryz.func11, Tryz.ntmps11
  go_wp2_with (go_at_call 18; refine (code_nil _).mono ?_; rintro e w' ⟨rfl, rfl⟩)
  go_ret
  exact ⟨rfl, rfl⟩
theorem coded_sent (A : Nat → Addr) (B : Nat) (w : World) (k : Nat) (n : Int) (hS : Sents A B w) (hk : k < 12) (hn : n = k + 1) :
    Calls Tryz.prog 11 #[.iface 223 (.pointer (some (A k))), .int .i64 n] w fun e w' => e = .returned (.bool true) ∧ Below w.heap.size w w' := by
  subst hn
  go_enter Tryz.func11, Tryz.ntmps11
  go_wp2_with (go_at_call 18; refine (code_sent A B _ k hS hk).mono ?_; rintro e w' ⟨rfl, hb⟩)
  go_ret
  exact ⟨by simp, hb⟩
theorem coded_err (A : Nat → Addr) (B : Nat) (w : World) (hS : Sents A B w) (k : Nat) (hk : k ≤ 12) : Calls Tryz.prog 11 #[errV A k, .int .i64 ((k : Nat) : Int)] w fun e w' => e = .returned (.bool true) ∧ Below w.heap.size w w' := by
  cases k with
  | zero =>
    refine (coded_nil w).mono ?_
    rintro e w' ⟨rfl, rfl⟩
    exact ⟨rfl, Below.refl _ _⟩
  | succ k => exact coded_sent A B w k _ hS (by omega) (by omega)
set_option maxHeartbeats 2000000 in
theorem faulted_err (A : Nat → Addr) (B : Nat) (w : World) (hS : Sents A B w) (ev : Value) (er : Nat × Option Nat) (h : ErrAt A w ev er) (h12 : er.1 ≤ 12) (hz : er.1 = 0 → er = (0, none)) :
    Calls Tryz.prog 6 #[ev, .agg #[.int .i64 ((er.1 : Nat) : Int), .int .i64 (faultAt er.2)]] w fun e w' => e = .returned (.bool true) ∧ Below w.heap.size w w' := by
  obtain ⟨k, o⟩ := er
  cases k with
  | zero =>
    have := hz rfl
    injection this with _ ho
    subst ho
    obtain rfl : ev = .nilIface := h
    show Calls Tryz.prog 6 #[.nilIface, .agg #[.int .i64 0, .int .i64 (-1)]] w _
    go_enter Tryz.func6, Tryz.ntmps6
    go_wp2_with (go_at_call 18; refine (code_nil _).mono ?_; rintro e w' ⟨rfl, rfl⟩)
    go_ret
    exact ⟨rfl, below_alloc _ _⟩
  | succ k =>
    have hk : k < 12 := by have : k + 1 ≤ 12 := h12; omega
    cases o with
    | none =>
      obtain rfl : ev = .iface 223 (.pointer (some (A k))) := h
      show Calls Tryz.prog 6 #[.iface 223 (.pointer (some (A k))), .agg #[.int .i64 ((k + 1 : Nat) : Int), .int .i64 (-1)]] w _
      have hS1 := hS.below ((below_alloc w (.cells #[.int .i64 ((k + 1 : Nat) : Int), .int .i64 (-1)] 32)).mono hS.size)
      have K30 := code_sent A B _ k hS1 hk
      obtain ⟨E, hE⟩ : ∃ E : Int, E = ((k + 1 : Nat) : Int) := ⟨_, rfl⟩
      rw [← hE, show (k : Int) + 1 = E by omega] at K30
      rw [← hE]
      clear hE hS1 h12 hz
      go_enter Tryz.func6, Tryz.ntmps6
      go_wp2_with fail
      refine K30.mono ?_
      rintro e w' ⟨rfl, hb⟩
      have c0 : w'.cell? ⟨w.heap.size, 0, none⟩ = some (.int .i64 E) := by rw [hb.cell (by simp)]; exact (World.cell?_alloc_at _ _ _ _ rfl).trans rfl
      have c1 : w'.cell? ⟨w.heap.size, 1, none⟩ = some (.int .i64 (-1)) := by rw [hb.cell (by simp)]; exact (World.cell?_alloc_at _ _ _ _ rfl).trans rfl
      have HB := hid ((below_alloc _ _).trans (hb.mono (by simp)))
      clear hb K30
      go_wp2
      all_goals
        go_ret
        exact ⟨rfl, HB.out⟩
    | some i =>
      obtain ⟨pb, rfl, c0, c1⟩ := h
      show Calls Tryz.prog 6 #[.iface 81 (.pointer (some ⟨pb, 0, none⟩)), .agg #[.int .i64 ((k + 1 : Nat) : Int), .int .i64 ((i : Nat) : Int)]] w _
      have hS1 := hS.below ((below_alloc w (.cells #[.int .i64 ((k + 1 : Nat) : Int), .int .i64 ((i : Nat) : Int)] 32)).mono hS.size)
      have K30 := code_fault A B _ k pb i hS1 hk (cell_alloc c0 _) (cell_alloc c1 _)
      obtain ⟨E, hE⟩ : ∃ E : Int, E = ((k + 1 : Nat) : Int) := ⟨_, rfl⟩
      obtain ⟨F, hF⟩ : ∃ F : Int, F = ((i : Nat) : Int) := ⟨_, rfl⟩
      rw [← hE, ← hF, show (k : Int) + 1 = E by omega] at K30
      rw [← hE, ← hF]
      clear hE hF hS1 h12 hz c0 c1
      go_enter Tryz.func6, Tryz.ntmps6
      go_wp2_with fail
      refine K30.mono ?_
      rintro e w' ⟨rfl, hb⟩
      have c0 : w'.cell? ⟨w.heap.size, 0, none⟩ = some (.int .i64 E) := by rw [hb.cell (by simp)]; exact (World.cell?_alloc_at _ _ _ _ rfl).trans rfl
      have c1 : w'.cell? ⟨w.heap.size, 1, none⟩ = some (.int .i64 F) := by rw [hb.cell (by simp)]; exact (World.cell?_alloc_at _ _ _ _ rfl).trans rfl
      have HB := hid ((below_alloc _ _).trans (hb.mono (by simp)))
      clear hb K30
      go_wp2
      all_goals
        go_ret
        exact ⟨rfl, HB.out⟩
end Go.Proofs.YtngjooemanapnaaGreatDoor
