/- The reference's ListFault by its contract. -/
import Derived.Test.YtilonnkohcocoaaGreatDoorJVFlt
import Derived.Test.YtilonnkohcocoaaGreatDoorJVErr3
namespace Go.Proofs.YtilonnkohcocoaaGreatDoor
open Go.RowKit Go.Sort Go.Maps
set_option maxRecDepth 100000
set_option linter.unusedSectionVars false
variable [Inhabited ComV] [DecidableEq D3] [Inhabited D3] [Inhabited Dd] [Inhabited Dn] [Inhabited OpV]

theorem run_field40f (a b : Int) (w : World) : (Instr.field 40 (.agg #[.int .i64 a, .int .i64 b]) 0).run Tryz.prog w = .ok (.int .i64 a) w := by kernel_rfl
theorem one_box (w : World) : (w.alloc (.cells #[.int .i64 0, .int .i64 0] 40)).heap[w.heap.size]? = some (.cells #[.int .i64 0, .int .i64 0] 40 (0, 0)) := (MapKept.heap_alloc _ _).1
set_option maxHeartbeats 4000000 in
theorem rListFault (w : World) (v : Value) (l : List ComV) (hv : ComsAt w v l) (hl : l.length ≤ 1000) (hsm : ∀ c ∈ l, SmallC c) :
    Calls Tryz.prog 22 #[v] w fun e w' => FltRet w (listErr l) e w' := by
  have hf40 := run_field40f
  obtain ⟨av, cv, rfl, _, _, hvs⟩ := hv.shape
  obtain ⟨m, hm⟩ : ∃ m, m = l.length := ⟨_, rfl⟩
  rw [← hm] at hl ⊢
  obtain ⟨w1, hw1⟩ : ∃ w1, w1 = w.alloc (.cells #[.int .i64 0, .int .i64 0] 40) := ⟨_, rfl⟩
  have hg := one_box w
  rw [← hw1] at hg
  have HG := hid hg
  have HB1 : Hid (Below w.heap.size w w1) := by rw [hw1]; exact below_alloc _ _
  have HS1 : Hid (w1.heap.size = w.heap.size + 1) := hid (by rw [hw1]; simp)
  have HVS := hid hvs
  have HM := hid hm
  have HS := hid hsm
  have HW1 := hid hw1
  have HLE : Hid (∀ r, r = listErr l → r = scan (listBad l) m) := fun r hr => by rw [hr]; unfold listErr; rw [HM.out]
  obtain ⟨R, hR⟩ : ∃ R, R = listErr l := ⟨_, rfl⟩
  rw [← hR]
  have HR := hid (HLE.out R hR)
  clear hv hvs hm hsm hw1 hg hR HLE
  go_enter Tryz.func22, Tryz.ntmps22
  go_wp2
  go_loopw [3] (fun i wr => ∃ k : Nat, k ≤ m ∧ i = .int .i64 k ∧ Hid (Below (w.heap.size + 1) w1 wr) ∧ Hid (∀ t, t < k → listBad l t = 0)) (fun i _ => m - (intOf i).toNat)
  case atStart => exact ⟨0, Nat.zero_le _, rfl, (by rw [HW1.out]; exact Below.refl _ _), fun t ht => absurd ht (Nat.not_lt_zero _)⟩
  case round =>
    obtain ⟨k, hk, rfl, HB, HI⟩ := hrel
    have hsz : w.heap.size + 1 ≤ wr.heap.size := by have := HB.out.size; have := HS1.out; omega
    have wB : Hid (Below w.heap.size w wr) := HB1.out.trans (HB.out.mono (by omega))
    by_cases hlt : k < m
    · obtain ⟨b, off, rfl, ho'⟩ := HVS.out.resolve_left (fun h => by have := HM.out; rw [h] at this; simp at this; omega)
      have hkl : k < l.length := by have := HM.out; omega
      obtain ⟨wv, ov, hi, hop, q0, q1, q2⟩ := ho' k hkl
      obtain ⟨wv0, _, hi0, _, z0, _, _⟩ := ho' 0 (by omega)
      rw [Nat.zero_mul, Nat.add_zero] at z0
      obtain ⟨a0, k0, rfl, _, _⟩ := hi0
      have up : ∀ {a : Addr} {v : Value}, w.cell? a = some v → wr.cell? a = some v := fun {a v} h => by rw [wB.out.cell (lt_of_cell h)]; exact h
      have r0 := up q0
      have r1 := up q1
      have r2 := up q2
      have y0 := up z0
      have hmem : l[k]! ∈ l := by rw [getElem!_pos l k hkl]; exact List.getElem_mem _
      have hSm := HS.out _ hmem
      have K16 := rCommitFault wr l[k]! wv ov (hi.mono wB.out (Nat.le_refl _)) (hop.mono wB.out (Nat.le_refl _)) hSm.1 hSm.2.1 hSm.2.2
      obtain ⟨x1, y1, rfl, _⟩ := hi
      obtain ⟨x2, y2, rfl, _⟩ := hop.shape
      obtain ⟨p, hp⟩ : ∃ p, p = l[k]!.place := ⟨_, rfl⟩
      obtain ⟨n1, hn1⟩ : ∃ n1, n1 = l[k]!.when_.length := ⟨_, rfl⟩
      obtain ⟨n2, hn2⟩ : ∃ n2, n2 = l[k]!.ops.length := ⟨_, rfl⟩
      obtain ⟨n0, hn0⟩ : ∃ n0, n0 = l[0]!.when_.length := ⟨_, rfl⟩
      rw [← hp, ← hn1, ← hn2] at K16
      rw [← hn1] at r0
      rw [← hn2] at r2
      rw [← hp] at r1
      rw [← hn0] at y0 z0
      obtain ⟨cd, hcd⟩ : ∃ cd, cd = (comErr l[k]!).1 := ⟨_, rfl⟩
      obtain ⟨fa, hfa⟩ : ∃ fa, fa = faultAt (comErr l[k]!).2 := ⟨_, rfl⟩
      unfold FltRet at K16
      rw [← hcd, ← hfa] at K16
      have LB : Hid (listBad l k = if cd ≠ 0 then cd else if n1 ≠ n0 then 3 else 0) := by unfold listBad; rw [← hcd, ← hn1, ← hn0]; exact rfl
      clear q0 q1 q2 ho' up hmem hSm hop hp hn1 hn2 hn0 hcd hfa hkl
      go_wp2_with fail
      refine K16.mono ?_
      rintro e w' ⟨rfl, hb⟩
      have hw2 : Below (w.heap.size + 1) w1 w' := HB.out.trans (hb.mono hsz)
      have hwB : Hid (Below w.heap.size w w') := HB1.out.trans (hw2.mono (by omega))
      have s0 : w'.cell? ⟨b, off + k * 3, none⟩ = some (.slice x1 n1 y1) := by rw [hb.cell (lt_of_cell r0)]; exact r0
      have t0 : w'.cell? ⟨b, off, none⟩ = some (.slice a0 n0 k0) := by rw [hb.cell (lt_of_cell y0)]; exact y0
      have X : Hid (∀ q, (∀ j, j < 2 → ((w'.drewN q).cell? ⟨w.heap.size, 0 + j, none⟩).isSome = true) ∧ (∀ j, j < 2 → (w'.drewN q).frozen? ⟨w.heap.size, 0 + j, none⟩ = false) ∧ ∀ a b : Value, ((w'.drewN q).setCells w.heap.size 0 [a, b]).cell? ⟨w.heap.size, 0, none⟩ = some a ∧ ((w'.drewN q).setCells w.heap.size 0 [a, b]).cell? ⟨w.heap.size, 1, none⟩ = some b) := fun q => box2 HG.out (below_draws hw2 q)
      have HW2 := hid hw2
      clear hb K16 hw2 r0 r1 r2 y0 z0
      cases cd with
      | succ er =>
        have hbad : listBad l k = er + 1 := by rw [LB.out, if_pos (by omega)]
        have hsc := hid (HR.out.trans (scan_some (f := listBad l) hlt HI.out (by omega)))
        rw [hbad] at hsc
        have g1 : (((er + 1 : Nat) : Int) == 0) = false := by rw [beq_eq_false_iff_ne]; omega
        have g2 : (0 : Int) < ((er + 1 : Nat) : Int) := by omega
        obtain ⟨E, hE⟩ : ∃ E : Int, E = ((er + 1 : Nat) : Int) := ⟨_, rfl⟩
        rw [← hE] at g1 g2 ⊢
        have HE := hid hE
        clear hE hbad
        go_upto_region 5 with (fail)
        go_quiet (fail)
        go_wp2_with (refine wpList_store_k _ rfl (.tmp 2) (.tmp 37) 40 rfl w.heap.size 0 [.int .i64 E, .int .i64 k] rfl rfl 2 rfl Tryz.sizeOf40 rfl _ rfl (fun j hj => ?c1) (fun j hj => ?c2) ?_; (case c1 => exact (X.out _).1 j hj); (case c2 => exact (X.out _).2.1 j hj))
        refine bodyPost_ret (ret_flt Tryz.results22 _ _ w.heap.size _ _ rfl ((X.out _).2.2 _ _)) rfl ⟨?_, below_setCells (Nat.le_refl _) _ _ (below_draws hwB.out _)⟩
        rw [hsc.out, HE.out]
        rfl
      | zero =>
        by_cases hne : n1 = n0
        · subst hne
          have hbad : listBad l k = 0 := by rw [LB.out, if_neg (by decide), if_neg (fun h => h rfl)]
          have HBD := hid hbad
          have bne : ((n1 : Int) != (n1 : Int)) = false := by simp
          clear hbad
          go_upto_region 5 with (fail)
          go_quiet (fail)
          go_wp2
          go_roundw
          case rel => exact ⟨k + 1, by omega, by go_num, below_draws HW2.out _, fun t ht => by rcases Nat.lt_succ_iff_lt_or_eq.1 ht with h | rfl; exact HI.out t h; exact HBD.out⟩
          case measure => simp [intOf]; omega
        · have hbad : listBad l k = 3 := by rw [LB.out, if_neg (by decide), if_pos hne]
          have hsc := hid (HR.out.trans (scan_some (f := listBad l) hlt HI.out (by omega)))
          rw [hbad] at hsc
          have bne : ((n1 : Int) != (n0 : Int)) = true := by rw [bne_iff_ne]; omega
          clear hbad hne
          go_upto_region 5 with (fail)
          go_quiet (fail)
          go_wp2_with (refine wpList_store_k _ rfl (.tmp 2) (.tmp 37) 40 rfl w.heap.size 0 [.int .i64 3, .int .i64 k] rfl rfl 2 rfl Tryz.sizeOf40 rfl _ rfl (fun j hj => ?c1) (fun j hj => ?c2) ?_; (case c1 => exact (X.out _).1 j hj); (case c2 => exact (X.out _).2.1 j hj))
          refine bodyPost_ret (ret_flt Tryz.results22 _ _ w.heap.size _ _ rfl ((X.out _).2.2 _ _)) rfl ⟨?_, below_setCells (Nat.le_refl _) _ _ (below_draws hwB.out _)⟩
          rw [hsc.out]
          rfl
    · obtain rfl : k = m := by omega
      go_wp2_with fail
      refine (fine_any _).mono ?_
      rintro e w2 ⟨rfl, hb2⟩
      have hbb : Below (w.heap.size + 1) w1 w2 := HB.out.trans (hb2.mono hsz)
      have X := hid (box2 HG.out hbb)
      have HB2 := hid (HB1.out.trans (hbb.mono (by omega)))
      clear hb2 hbb
      go_wp2_with (refine wpList_store_k _ rfl (.tmp 2) (.tmp 38) 40 rfl w.heap.size 0 [.int .i64 0, .int .i64 (-1)] rfl rfl 2 rfl Tryz.sizeOf40 rfl _ ?hW X.out.1 X.out.2.1 ?_; case hW => rfl)
      refine bodyPost_ret (ret_flt Tryz.results22 _ _ w.heap.size _ _ rfl (X.out.2.2 _ _)) rfl ⟨?_, below_setCells (Nat.le_refl _) _ _ HB2.out⟩
      rw [HR.out, scan_none HI.out]
      rfl
end Go.Proofs.YtilonnkohcocoaaGreatDoor
