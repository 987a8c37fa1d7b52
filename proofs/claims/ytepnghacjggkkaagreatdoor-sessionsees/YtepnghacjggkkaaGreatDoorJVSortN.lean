/- CheckCommit over its ops; checkList, where nothing is wrong; Dots as the keys of a map; vector.weigh, Weight and the reference's Weight, by their contracts; Contracts of Go's library at this program's numbers, by the kit's own layings; slices.SortFunc of nothing, at this program's numbers. -/
import Derived.Test.YtepnghacjggkkaaGreatDoorJVCom
import Derived.Test.YtepnghacjggkkaaGreatDoorJVOpM
import Derived.Test.YtepnghacjggkkaaGreatDoorJVMath
import Derived.Lib.SlKept
import Derived.Lib.SliceRun
import Derived.Shelf.GgSortFunc.RowK
import Derived.Shelf.SlicesQ.IndexFunc
import Derived.Test.YtepnghacjggkkaaGreatDoorChecked
import Derived.Maps.OwnSet
import Derived.DeepKeys5
import Derived.Test.YtepnghacjggkkaaGreatDoorProg
import Derived.Shelf.SlSortCmp.WholeK
import Derived.Shelf.SlGeneric
import Derived.Ground.SlsfProg
namespace Go.Proofs.YtepnghacjggkkaaGreatDoor
open Go.RowKit
set_option maxRecDepth 100000
set_option linter.unusedSectionVars false
variable [Inhabited ComV] [DecidableEq D3] [Inhabited D3] [Inhabited Dd] [Inhabited OpV]

set_option maxHeartbeats 4000000 in
theorem checkCommit_ops (A : Nat → Addr) (w : World) (hE : E4 A w) (h4 : 12 ≤ w.heap.size) (b1 o1 : Nat) (c1 : Nat) (zs : List Int) (p : Nat) (b2 o2 m c2 : Nat) (os : List OpV)
    (hw : ∀ t, t < zs.length → w.cell? ⟨b1, o1 + t, none⟩ = some (.int .i64 (zs.getD t 0))) (hc : chk zs = 0) (hp : p < zs.length) (hz : zs.getD p 0 ≠ 0) (hm : os.length = m) (h0 : 0 < m) (h12 : m ≤ 12) (hsm : ∀ o ∈ os, Small o)
    (ho : ∀ j, j < m → ∃ dp dc, DotsAt w (.slice dp os[j]!.dots.length dc) os[j]!.dots ∧
      w.cell? ⟨b2, o2 + j * 7, none⟩ = some (.int .i64 os[j]!.at_) ∧ w.cell? ⟨b2, o2 + j * 7 + 1, none⟩ = some (.string os[j]!.key) ∧ w.cell? ⟨b2, o2 + j * 7 + 2, none⟩ = some (.int .i64 os[j]!.kind) ∧ w.cell? ⟨b2, o2 + j * 7 + 3, none⟩ = some (.string os[j]!.text) ∧
      w.cell? ⟨b2, o2 + j * 7 + 4, none⟩ = some (.int .i64 os[j]!.n) ∧ w.cell? ⟨b2, o2 + j * 7 + 5, none⟩ = some (.bool os[j]!.rem) ∧ w.cell? ⟨b2, o2 + j * 7 + 6, none⟩ = some (.slice dp os[j]!.dots.length dc)) :
    Calls Tryz.prog 92 #[.agg #[.slice (some ⟨b1, o1, none⟩) zs.length c1, .int .i64 p, .slice (some ⟨b2, o2, none⟩) m c2]] w fun e w' => ComRet A w (scan (opBad zs.length os) m) e w' := by
  have hn6 := (chk_zero.1 hc).2.1
  have K := fun o => check_ok A (w.alloc o) (hE.below (below_alloc _ _) h4) (.slice (some ⟨b1, o1, none⟩) zs.length c1) zs (IntsAt.mono ⟨_, _, rfl, (fun h => by cases h), .inr ⟨b1, o1, rfl, hw⟩⟩ (below_alloc w o) (Nat.le_refl _)) hc
  have cz := fun o => cell_alloc (hw p hp) o
  obtain ⟨z, hzz⟩ : ∃ z, z = zs.getD p 0 := ⟨_, rfl⟩
  rw [← hzz] at cz hz
  have bz : (z == 0) = false := by simpa using hz
  obtain ⟨n, hn⟩ : ∃ n, n = zs.length := ⟨_, rfl⟩
  rw [← hn] at K hp hn6 ⊢
  have p1 : ¬ (n : Int) ≤ p := by omega
  have m12 : ¬ 12 < (m : Int) := by omega
  have m0 : ((m : Int) == 0) = false := by rw [beq_eq_false_iff_ne]; omega
  have HO := hid ho
  have HE := hid hE
  have HM := hid hm
  have HS := hid hsm
  clear hn hw hc hE hzz hz ho hm hsm
  obtain ⟨w1, hw1⟩ : ∃ w1, w1 = w.alloc (.cells #[.slice (some ⟨b1, o1, none⟩) n c1, .int .i64 p, .slice (some ⟨b2, o2, none⟩) m c2] 47) := ⟨_, rfl⟩
  have B1 : Hid (Below w.heap.size w w1) := by rw [hw1]; exact below_alloc _ _
  have S1 : Hid (w1.heap.size = w.heap.size + 1) := hid (by rw [hw1]; simp)
  have C0 : Hid (w1.cell? ⟨w.heap.size, 0, none⟩ = some (.slice (some ⟨b1, o1, none⟩) n c1)) := hid (by rw [hw1]; simp)
  have C2 : Hid (w1.cell? ⟨w.heap.size, 2, none⟩ = some (.slice (some ⟨b2, o2, none⟩) m c2)) := hid (by rw [hw1]; simp)
  have HW1 := hid hw1
  clear hw1
  go_enter Tryz.func92, Tryz.ntmps92
  go_wp2_with (go_at_call 69; refine (K _).mono ?_; rintro e w' ⟨rfl, rfl⟩)
  go_loopw [48] (fun i wr => ∃ k : Nat, k ≤ m ∧ i = .int .i64 k ∧ Hid (Below (w.heap.size + 1) w1 wr) ∧ Hid (∀ t, t < k → opBad n os t = 0)) (fun i _ => m - (intOf i).toNat)
  case atStart => exact ⟨0, Nat.zero_le _, rfl, (by rw [HW1.out]; exact Below.refl _ _), fun t ht => absurd ht (Nat.not_lt_zero _)⟩
  case round =>
    obtain ⟨k, hk, rfl, HB, HI⟩ := hrel
    clear K cz
    have hB := HB.out
    have hs1 := S1.out
    have hsz : w.heap.size + 1 ≤ wr.heap.size := by have := hB.size; omega
    have wB : Hid (Below w.heap.size w wr) := B1.out.trans (hB.mono (by omega))
    have e0 : wr.cell? ⟨w.heap.size, 0, none⟩ = some (.slice (some ⟨b1, o1, none⟩) n c1) := by rw [hB.cell (p := ⟨w.heap.size, 0, none⟩) (by simp)]; exact C0.out
    have e2 : wr.cell? ⟨w.heap.size, 2, none⟩ = some (.slice (some ⟨b2, o2, none⟩) m c2) := by rw [hB.cell (p := ⟨w.heap.size, 2, none⟩) (by simp)]; exact C2.out
    have e0' := fun o => cell_alloc e0 o
    clear hB
    by_cases hlt : k < m
    · obtain ⟨dp, dc, hd, q0, q1, q2, q3, q4, q5, q6⟩ := HO.out k hlt
      have up : ∀ {a : Addr} {v : Value}, w.cell? a = some v → wr.cell? a = some v := fun {a v} h => by rw [wB.out.cell (lt_of_cell h)]; exact h
      have r0 := up q0
      have r1 := up q1
      have r2 := up q2
      have r3 := up q3
      have r4 := up q4
      have r5 := up q5
      have r6 := up q6
      have hSm : Small os[k]! := HS.out _ (by rw [getElem!_pos os k (by have := HM.out; omega)]; exact List.getElem_mem _)
      obtain ⟨x, hx⟩ : ∃ x, x = os[k]! := ⟨_, rfl⟩
      rw [← hx] at r0 r1 r2 r3 r4 r5 r6 hd hSm
      have HX := hid hx
      obtain ⟨er, her⟩ : ∃ er, er = opErr x n := ⟨_, rfl⟩
      have HER := hid her
      obtain ⟨x1, x2, x3, x4, x5, x6, ds⟩ := x
      have KC := fun o => check_op A (wr.alloc o) ((HE.out.below wB.out h4).below (below_alloc wr o) (by omega)) (by simp; omega) x1 x2 x3 x4 x5 x6 dp dc ds n ((hd.mono wB.out (Nat.le_refl _)).mono (below_alloc wr o) (Nat.le_refl _)) hSm.2 hSm.1
      rw [← her] at KC
      clear q0 q1 q2 q3 q4 q5 q6 hx her hd hSm
      simp only at r0 r1 r2 r3 r4 r5 r6
      cases er with
      | succ er =>
        have hbad : opBad n os k = er + 1 := by
          unfold opBad
          rw [← HX.out, ← HER.out, if_pos (by omega)]
        have hsc := hid (scan_some (f := opBad n os) hlt HI.out (by omega))
        rw [hbad] at hsc
        rw [show errV A (er + 1) = .iface 276 (.pointer (some (A er))) from rfl] at KC
        go_wp2_with (go_at_call 85; refine (KC _).mono ?_; rintro e w' ⟨rfl, hw⟩)
        go_ret
        refine ⟨_, rfl, ErrAt.at (k := er + 1) (i := k) w'.heap.size hsc.out (by simp) (by simp [errV]), ?_⟩
        exact (wB.out.trans ((below_alloc _ _).mono (by have := wB.out.size; omega))).trans ((hw.mono (by simp; have := wB.out.size; omega)).alloc (by have := hw.size; simp at this; have := wB.out.size; omega) _)
      | zero =>
        rw [show errV A 0 = .nilIface from rfl] at KC
        obtain ⟨BX, hBX⟩ : ∃ BX, BX = Obj.cells #[.int .i64 x1, .string x2, .int .i64 x3, .string x4, .int .i64 x5, .bool x6, .slice dp ds.length dc] 76 := ⟨_, rfl⟩
        go_wp2_with (go_at_call 85; refine (KC _).mono ?_; rintro e w' ⟨rfl, hw⟩)
        have hw2 : Below (w.heap.size + 1) w1 w' := (HB.out.alloc hsz _).trans (hw.mono (by simp; omega))
        have f0 : w'.cell? ⟨wr.heap.size, 0, none⟩ = some (.int .i64 x1) := by rw [hw.cell (p := ⟨wr.heap.size, 0, none⟩) (by simp)]; simp
        have f2 : w'.cell? ⟨w.heap.size, 2, none⟩ = some (.slice (some ⟨b2, o2, none⟩) m c2) := by rw [hw2.cell (p := ⟨w.heap.size, 2, none⟩) (by simp)]; exact C2.out
        have hwB : Hid (Below w.heap.size w w') := B1.out.trans (hw2.mono (by omega))
        have hw2' := hid hw2
        have hwH := hid hw
        clear hw hw2 KC
        have hsz' : w.heap.size + 1 ≤ w'.heap.size := by have := hw2'.out.size; omega
        rcases Nat.eq_zero_or_pos k with rfl | hk0
        · have hz0 : ¬ (0 : Int) < ((0 : Nat) : Int) := by omega
          go_quiet (fail)
          go_wp2
          refine ⟨⟨_, _, _, _, _, ⟨1, by omega, rfl, below_draws hw2'.out _, ?_⟩, rfl, rfl, rfl, rfl, by go_num⟩, by simp [intOf]; omega⟩
          intro t ht
          obtain rfl : t = 0 := by omega
          unfold opBad
          rw [← HX.out, ← HER.out, if_neg (by decide), if_neg (by omega)]
        · obtain ⟨j, rfl⟩ : ∃ j, k = j + 1 := ⟨k - 1, by omega⟩
          obtain ⟨_, _, _, q0, _⟩ := HO.out j (by omega)
          have g0 : w'.cell? ⟨b2, o2 + j * 7, none⟩ = some (.int .i64 os[j]!.at_) := by rw [hwB.out.cell (lt_of_cell q0)]; exact q0
          clear q0
          obtain ⟨y, hy⟩ : ∃ y, y = os[j]!.at_ := ⟨_, rfl⟩
          rw [← hy] at g0
          have HY := hid hy
          clear hy
          have hp0 : (0 : Int) < ((j + 1 : Nat) : Int) := by omega
          have hj1 : ((j + 1 : Nat) : Int) - 1 = (j : Int) := by omega
          have hjm : j < m := by omega
          by_cases hle : x1 ≤ y
          · have hbad : opBad n os (j + 1) = 3 := by
              unfold opBad
              rw [← HX.out, ← HER.out, if_neg (by decide), if_pos ⟨by omega, by rw [Nat.add_sub_cancel, ← HY.out]; exact hle⟩]
            have hsc := hid (scan_some (f := opBad n os) hlt HI.out (by omega))
            rw [hbad] at hsc
            have g3 : w'.cell? ⟨2, 0, none⟩ = some (.iface 276 (.pointer (some (A 2)))) := (HE.out.below hwB.out h4).shape
            go_quiet (fail)
            go_wp2
            go_ret
            refine ⟨_, rfl, ErrAt.at (k := 3) (i := j + 1) w'.heap.size hsc.out ((World.cell?_alloc_at _ _ _ _ rfl).trans (by simp)) ((World.cell?_alloc_at _ _ _ _ rfl).trans rfl), ?_⟩
            exact (below_draws hwB.out _).alloc (by simp; omega) _
          · go_quiet (fail)
            go_wp2
            refine ⟨⟨_, _, _, _, _, ⟨j + 1 + 1, by omega, rfl, below_draws hw2'.out _, ?_⟩, rfl, rfl, rfl, rfl, by go_num⟩, by simp [intOf]; omega⟩
            intro t ht
            rcases Nat.lt_succ_iff_lt_or_eq.1 ht with h | rfl
            · exact HI.out t h
            · unfold opBad
              rw [← HX.out, ← HER.out, if_neg (by decide), if_neg (fun h => by have h2 := h.2; rw [Nat.add_sub_cancel, ← HY.out] at h2; have h3 : x1 ≤ y := h2; omega)]
    · obtain rfl : k = m := by omega
      go_wp2
      go_ret
      exact ComRet.bare 0 (scan_none HI.out) wB.out
theorem checkCommit (A : Nat → Addr) (w : World) (hE : E4 A w) (h4 : 12 ≤ w.heap.size) (c : ComV) (wv ov : Value) (hw : IntsAt w wv c.when_) (ho : OpsAt w ov c.ops) (hl : c.when_.length ≤ 1000000) (hm : c.ops.length ≤ 1000000) (hsm : ∀ o ∈ c.ops, Small o) :
    Calls Tryz.prog 92 #[.agg #[wv, .int .i64 c.place, ov]] w fun e w' => ComRet A w (comErr c) e w' := by
  obtain ⟨a2, c2, rfl, hn2, hc2, ho'⟩ := ho.shape
  have hw0 := hw
  obtain ⟨a1, c1, rfl, hn1, hw⟩ := hw
  unfold comErr
  by_cases hc : chk c.when_ = 0
  · rw [if_neg (by simpa using hc)]
    rcases hw with h | ⟨b1, o1, rfl, hw⟩
    · have := (chk_zero.1 hc).1
      rw [h] at this
      simp at this
    · by_cases hb : c.place < 0 ∨ (c.when_.length : Int) ≤ c.place ∨ c.when_.getD c.place.toNat 0 = 0 ∨ 12 < c.ops.length
      · rw [if_pos hb]
        refine (checkCommit_bound A w hE h4 b1 o1 c1 c.when_ c.place a2 c.ops.length c2 hw hc hm hb).mono ?_
        rintro e w' ⟨rfl, h⟩
        exact ComRet.bare 2 rfl h
      · rw [if_neg hb]
        obtain ⟨p, hp⟩ : ∃ p : Nat, c.place = p := ⟨c.place.toNat, by omega⟩
        rw [hp] at hb ⊢
        rw [Int.toNat_natCast] at hb
        by_cases h0 : c.ops = []
        · rw [if_pos h0, h0]
          refine (checkCommit_empty A w hE h4 b1 o1 c1 c.when_ p a2 c2 hw hc (by omega) (by omega)).mono ?_
          rintro e w' ⟨rfl, h⟩
          exact ComRet.bare 3 rfl h
        · rw [if_neg h0]
          rcases ho' with h | ⟨b2, o2, rfl, ho'⟩
          · exact absurd h h0
          · exact checkCommit_ops A w hE h4 b1 o1 c1 c.when_ p b2 o2 c.ops.length c2 c.ops hw hc (by omega) (by omega) rfl (List.length_pos_iff.2 h0) (by omega) hsm ho'
  · rw [if_pos hc]
    refine (checkCommit_when A w hE h4 a1 c1 c.when_ c.place a2 c.ops.length c2 hw0 hl hc).mono ?_
    rintro e w' ⟨rfl, h⟩
    have hk : ∃ k, (chk c.when_).toNat = k + 1 := by
      rcases chk_cases c.when_ with h | h | h
      · exact absurd h hc
      · exact ⟨1, by rw [h]; rfl⟩
      · exact ⟨2, by rw [h]; rfl⟩
    obtain ⟨k, hk⟩ := hk
    rw [hk]
    exact ComRet.bare (k + 1) rfl h
end Go.Proofs.YtepnghacjggkkaaGreatDoor
namespace Go.Proofs.YtepnghacjggkkaaGreatDoor
open Go.RowKit
set_option maxRecDepth 100000
set_option linter.unusedSectionVars false
variable [Inhabited ComV] [DecidableEq D3] [Inhabited D3] [Inhabited Dd] [Inhabited OpV]

def listBad (l : List ComV) (i : Nat) : Nat :=
  if (comErr l[i]!).1 ≠ 0 then (comErr l[i]!).1 else if l[i]!.when_.length ≠ l[0]!.when_.length then 3 else 0
def SmallC (c : ComV) : Prop := c.when_.length ≤ 1000000 ∧ c.ops.length ≤ 1000000 ∧ ∀ o ∈ c.ops, Small o
theorem scan_fst_zero {f : Nat → Nat} {m : Nat} (h : (scan f m).1 = 0) : scan f m = (0, none) := scan_none (scan_zero h)
theorem comErr_zero {c : ComV} (h : (comErr c).1 = 0) : comErr c = (0, none) := by
  unfold comErr at h ⊢
  split at h
  · rename_i hc
    rcases chk_cases c.when_ with e | e | e
    · exact absurd e hc
    · rw [e] at h; exact absurd h (by decide)
    · rw [e] at h; exact absurd h (by decide)
  · split at h
    · exact absurd h (by decide)
    · split at h
      · exact absurd h (by decide)
      · rename_i h1 h2 h3
        rw [if_neg h1, if_neg h2, if_neg h3]
        exact scan_fst_zero h
theorem checkList_nil (w : World) (a : Option Addr) (c : Nat) : Calls Tryz.prog 137 #[.slice a 0 c] w fun e w' => e = .returned .nilIface ∧ w' = w := by
  go_enter Tryz.func137, Tryz.ntmps137
  go_wp2
  refine wp_loop_rounds 1 ?_
  rw [rounds_succ]
  go_wp2
  go_ret
  exact ⟨rfl, rfl⟩
set_option maxHeartbeats 4000000 in
theorem checkList_ok_n (A : Nat → Addr) (w : World) (hE : E4 A w) (h4 : 12 ≤ w.heap.size) (b off m c : Nat) (l : List ComV) (hm : l.length = m) (h0 : 0 < m) (hl : m ≤ 1000000) (hsm : ∀ c ∈ l, SmallC c) (hok : ∀ i, i < m → listBad l i = 0)
    (ho : ∀ j, j < m → ∃ wv ov, IntsAt w wv l[j]!.when_ ∧ OpsAt w ov l[j]!.ops ∧ w.cell? ⟨b, off + j * 3, none⟩ = some wv ∧ w.cell? ⟨b, off + j * 3 + 1, none⟩ = some (.int .i64 l[j]!.place) ∧ w.cell? ⟨b, off + j * 3 + 2, none⟩ = some ov) :
    Calls Tryz.prog 137 #[.slice (some ⟨b, off, none⟩) m c] w fun e w' => e = .returned .nilIface ∧ Below w.heap.size w w' := by
  obtain ⟨wv0, _, hi0, _, z0, _, _⟩ := ho 0 h0
  rw [Nat.zero_mul, Nat.add_zero] at z0
  obtain ⟨a0, k0, rfl, _, _⟩ := hi0
  obtain ⟨n0, hn0⟩ : ∃ n0, n0 = l[0]!.when_.length := ⟨_, rfl⟩
  rw [← hn0] at z0
  have HN0 := hid hn0
  have HO := hid ho
  have HE := hid hE
  have HM := hid hm
  have HS := hid hsm
  have HK := hid hok
  clear ho hE hm hsm hok hn0
  go_enter Tryz.func137, Tryz.ntmps137
  go_wp2
  go_loopw [8] (fun i wr => ∃ k : Nat, k ≤ m ∧ i = .int .i64 k ∧ Hid (Below w.heap.size w wr)) (fun i _ => m - (intOf i).toNat)
  case atStart => exact ⟨0, Nat.zero_le _, rfl, Below.refl _ _⟩
  case round =>
    obtain ⟨k, hk, rfl, HB⟩ := hrel
    have hsz := HB.out.size
    by_cases hlt : k < m
    · obtain ⟨wv, ov, hi, hop, q0, q1, q2⟩ := HO.out k hlt
      have up : ∀ {a : Addr} {v : Value}, w.cell? a = some v → wr.cell? a = some v := fun {a v} h => by rw [HB.out.cell (lt_of_cell h)]; exact h
      have r0 := up q0
      have r1 := up q1
      have r2 := up q2
      have y0 := up z0
      have hSm : SmallC l[k]! := HS.out _ (by rw [getElem!_pos l k (by have := HM.out; omega)]; exact List.getElem_mem _)
      have hbad := HK.out k hlt
      have hce : comErr l[k]! = (0, none) := comErr_zero (by
        unfold listBad at hbad
        split at hbad
        · rename_i h; exact absurd hbad h
        · rename_i h; simpa using h)
      have hlen : l[k]!.when_.length = n0 := by
        have := HN0.out
        unfold listBad at hbad
        rw [if_neg (by rw [hce]; decide)] at hbad
        split at hbad
        · exact absurd hbad (by decide)
        · rename_i h; rw [this]; simpa using h
      have hi' := hi.mono HB.out (Nat.le_refl _)
      have ho' := hop.mono HB.out (Nat.le_refl _)
      obtain ⟨x, hx⟩ : ∃ x, x = l[k]! := ⟨_, rfl⟩
      rw [← hx] at r1 hSm hce hlen hi' ho'
      have KC := fun o => checkCommit A (wr.alloc o) ((HE.out.below HB.out h4).below (below_alloc wr o) (by omega)) (by simp; omega) x wv ov (hi'.mono (below_alloc wr o) (Nat.le_refl _)) (ho'.mono (below_alloc wr o) (Nat.le_refl _)) hSm.1 hSm.2.1 hSm.2.2
      rw [hce] at KC
      obtain ⟨a1, c1, rfl, _, _⟩ := hi'
      obtain ⟨a2, c2, rfl, _, _, _⟩ := ho'.shape
      rw [hlen] at KC r0
      obtain ⟨m2, hm2⟩ : ∃ m2, m2 = x.ops.length := ⟨_, rfl⟩
      rw [← hm2] at KC r2
      obtain ⟨pl, hpl⟩ : ∃ pl, pl = x.place := ⟨_, rfl⟩
      rw [← hpl] at KC r1
      clear q0 q1 q2 hi hop hx hSm hce hlen hbad hm2 hpl up
      go_wp2_with (go_at_call 92; refine (KC _).mono ?_; rintro e w' ⟨v, rfl, hv, hw⟩; obtain rfl : v = .nilIface := hv)
      have hwB : Hid (Below w.heap.size w w') := (HB.out.alloc hsz _).trans (hw.mono (by simp; omega))
      have f0 : w'.cell? ⟨wr.heap.size, 0, none⟩ = some (.slice a1 n0 c1) := by rw [hw.cell (p := ⟨wr.heap.size, 0, none⟩) (by simp)]; simp
      have g0 : w'.cell? ⟨b, off, none⟩ = some (.slice a0 n0 k0) := by rw [hwB.out.cell (lt_of_cell z0)]; exact z0
      have bne : ((n0 : Int) != (n0 : Int)) = false := by simp
      clear hw KC y0 r0 r1 r2
      go_quiet (fail)
      go_wp2
      exact ⟨⟨k + 1, by omega, by go_num, below_draws hwB.out _⟩, by simp [intOf]; omega⟩
    · obtain rfl : k = m := by omega
      go_wp2
      go_ret
      exact ⟨rfl, HB.out⟩
theorem checkList_ok (A : Nat → Addr) (w : World) (hE : E4 A w) (h4 : 12 ≤ w.heap.size) (v : Value) (l : List ComV) (hv : ComsAt w v l) (hl : l.length ≤ 1000000) (hsm : ∀ c ∈ l, SmallC c) (hok : ∀ i, i < l.length → listBad l i = 0) :
    Calls Tryz.prog 137 #[v] w fun e w' => e = .returned .nilIface ∧ Below w.heap.size w w' := by
  obtain ⟨ad, cap, rfl, _, _, h⟩ := hv.shape
  by_cases h0 : l = []
  · subst h0
    refine (checkList_nil w ad cap).mono ?_
    rintro e w' ⟨rfl, rfl⟩
    exact ⟨rfl, Below.refl _ _⟩
  · rcases h with h | ⟨b, off, rfl, h⟩
    · exact absurd h h0
    · exact checkList_ok_n A w hE h4 b off l.length cap l rfl (List.length_pos_iff.2 h0) hl hsm hok h
end Go.Proofs.YtepnghacjggkkaaGreatDoor
namespace Go.Proofs.YtepnghacjggkkaaGreatDoor
open Go.RowKit Go.Maps
set_option linter.unusedSectionVars false
variable [DecidableEq D3] [Inhabited D3] [Inhabited Dd]

theorem keyed65 : Keyed Tryz.prog 175 :=
  Keyed.of_law (deep_law_gate (by kernel_rfl) (of_decide_eq_true (by kernel_rfl)) (of_decide_eq_true (by kernel_rfl)) (by kernel_rfl) (by kernel_rfl))
def wf3 (d : D3) : Prop := (Lit.int .i64 d.p).wf = true ∧ (Lit.int .i64 d.t).wf = true ∧ (Lit.int .i64 d.a).wf = true
def klD (d : D3) : Lit := .string (keyBytes [.int .i64 d.p, .int .i64 d.t, .int .i64 d.a])
theorem keyLits_int (D : Nat) (n : Int) (h : (Lit.int .i64 n).wf = true) : Tryz.prog.keyLits (D + 1) 3 [.int .i64 n] = some [.int .i64 n] := by
  simp [Program.keyLits, Tryz.underlying3, h]
theorem keyLits_dot (D : Nat) (p t a : Int) (h1 : (Lit.int .i64 p).wf = true) (h2 : (Lit.int .i64 t).wf = true) (h3 : (Lit.int .i64 a).wf = true) :
    Tryz.prog.keyLits (D + 1 + 1) 175 [.int .i64 p, .int .i64 t, .int .i64 a] = some [.int .i64 p, .int .i64 t, .int .i64 a] := by
  have hc : Tryz.prog.cellsOf 175 = 3 := by kernel_rfl
  have hc3 : Tryz.prog.cellsOf 3 = 1 := by kernel_rfl
  unfold Program.keyLits
  rw [Tryz.underlying175]
  simp [hc, hc3, keyLits_int, h1, h2, h3]
theorem key_dot (d : D3) (h : wf3 d) : keyOf Tryz.prog 175 (.agg #[.int .i64 d.p, .int .i64 d.t, .int .i64 d.a]) = some (klD d) := by
  obtain ⟨h1, h2, h3⟩ := h
  obtain ⟨p, t, a⟩ := d
  simp only at h1 h2 h3
  have hk : Tryz.prog.keyType 175 = true := by kernel_rfl
  have hts : Tryz.prog.types.size + 1 = 306 + 1 + 1 := by kernel_rfl
  unfold keyOf
  rw [Tryz.underlying175, hts]
  simp only
  have hc : Tryz.prog.cellsOf 175 = 3 := by kernel_rfl
  have hc3 : Tryz.prog.cellsOf 3 = 1 := by kernel_rfl
  have hf : Value.formed Tryz.prog 175 (.agg #[.int .i64 p, .int .i64 t, .int .i64 a]) = true := by
    simp [Value.formed, Tryz.underlying175, hc]
  have hl := keyLits_dot 306 p t a h1 h2 h3
  rw [hk, hf]
  simp only [Bool.and_self, if_true, Value.cells, hl, klD, Option.map_some]
theorem klD_key (d : D3) : WideAt.IsKeyLit (klD d) := trivial
theorem klD_inj {d e : D3} (hd : wf3 d) (he : wf3 e) (h : klD d = klD e) : d = e := by
  have := keyed65.inj (key_dot d hd) (by rw [h]; exact key_dot e he)
  obtain ⟨p, t, a⟩ := d
  obtain ⟨p', t', a'⟩ := e
  simpa using this
end Go.Proofs.YtepnghacjggkkaaGreatDoor
namespace Go.Proofs.YtepnghacjggkkaaGreatDoor
open Go.RowKit
set_option linter.unusedSectionVars false
variable [Inhabited ComV] [DecidableEq D3] [Inhabited D3] [Inhabited Dd] [Inhabited OpV]

def sum (zs : List Int) : Int := sumTo zs zs.length
set_option maxHeartbeats 1000000 in
theorem weigh_n (w : World) (b o n c : Nat) (zs : List Int) (hz : zs.length = n) (h6 : n ≤ 6) (hr : ∀ t, t < zs.length → 0 ≤ zs.getD t 0 ∧ zs.getD t 0 ≤ 1099511627776)
    (hc : ∀ t, t < n → w.cell? ⟨b, o + t, none⟩ = some (.int .i64 (zs.getD t 0))) :
    Calls Tryz.prog 162 #[.slice (some ⟨b, o, none⟩) n c] w fun e w' => e = .returned (.int .i64 (sum zs)) ∧ w' = w := by
  have HZ : Hid (zs.length = n) := hz
  have HC := hid hc
  have HR := hid hr
  have HB := hid (sumTo_bd hr)
  clear hz hc hr
  go_enter Tryz.func162, Tryz.ntmps162
  go_wp2
  go_loop [3, 8] (fun s i => ∃ k : Nat, k ≤ n ∧ i = .int .i64 k ∧ s = .int .i64 (sumTo zs k)) (fun _ i => n - (intOf i).toNat)
  case atStart => exact ⟨0, Nat.zero_le _, rfl, rfl⟩
  case round =>
    obtain ⟨k, hk, rfl, rfl⟩ := hrel
    obtain ⟨s, hs⟩ : ∃ s, s = sumTo zs k := ⟨_, rfl⟩
    have hb := HB.out k (by have := HZ.out; omega)
    rw [← hs] at hb ⊢
    have HS := hid hs
    clear hs
    by_cases hlt : k < n
    · have e1 := HC.out k hlt
      obtain ⟨z, hzz⟩ : ∃ z, z = zs.getD k 0 := ⟨_, rfl⟩
      have hzr := HR.out k (by have := HZ.out; omega)
      rw [← hzz] at e1 hzr
      have HZZ := hid hzz
      obtain ⟨hz1, hz2⟩ := hzr
      obtain ⟨hb1, hb2⟩ := hb
      clear hzz
      go_wp2
      go_round
      case rel => exact ⟨k + 1, by omega, by go_num, by simp only [sumTo]; rw [← HS.out, ← HZZ.out]⟩
      case measure => simp [intOf]; omega
    · obtain rfl : k = n := by omega
      go_wp2
      go_ret
      exact ⟨ret_int (by rw [HS.out, ← HZ.out]; rfl), rfl⟩
theorem weigh_any (w : World) (v : Value) (zs : List Int) (h : IntsAt w v zs) (h0 : chk zs = 0) :
    Calls Tryz.prog 162 #[v] w fun e w' => e = .returned (.int .i64 (sum zs)) ∧ w' = w := by
  obtain ⟨ad, c, rfl, _, h⟩ := h
  have hz := chk_zero.1 h0
  rcases h with rfl | ⟨b, o, rfl, h⟩
  · simp at hz
  · exact weigh_n w b o zs.length c zs rfl hz.2.1 hz.2.2 h
theorem Weight_ok (A : Nat → Addr) (w : World) (hE : E4 A w) (v : Value) (zs : List Int) (h : IntsAt w v zs) (h0 : chk zs = 0) :
    Calls Tryz.prog 156 #[v] w fun e w' => e = .returned (.tuple #[.int .i64 (sum zs), .nilIface]) ∧ w' = w := by
  have K1 := hid (check_ok A w hE v zs h h0)
  have K2 := hid (weigh_any w v zs h h0)
  clear h0
  go_enter Tryz.func156, Tryz.ntmps156
  go_wp2_with fail
  refine K1.out.mono ?_
  rintro e w' ⟨rfl, rfl⟩
  go_wp2_with fail
  refine K2.out.mono ?_
  rintro e w' ⟨rfl, rfl⟩
  go_wp2
  go_ret2
  exact ⟨rfl, rfl⟩
end Go.Proofs.YtepnghacjggkkaaGreatDoor
namespace Go.Proofs
open Go.Shelf
def Tryz.sortDd_ren : Go.Shelf.Ren := ⟨fun | 6 => 141 | 15 => 107 | 14 => 158 | 28 => 133 | 29 => 134 | 20 => 163 | 21 => 164 | 22 => 165 | 23 => 166 | 24 => 167 | 25 => 168 | 26 => 169 | 27 => 170 | 46 => 179 | 47 => 148 | 48 => 149 | 49 => 180 | 50 => 181 | 57 => 185 | n => n, fun | 22 => 210 | 24 => 214 | 25 => 241 | 3 => 3 | 39 => 202 | 0 => 0 | 53 => 228 | 55 => 230 | 4 => 4 | 46 => 220 | 45 => 219 | 50 => 225 | 5 => 5 | 9 => 9 | 66 => 243 | 70 => 247 | 76 => 256 | 77 => 92 | n => n, fun | n => n⟩
theorem Tryz.sortDd : Go.Proofs.SlLaysF0.n6 Tryz.prog Tryz.sortDd_ren := {
  mixed := by kernel_rfl
  f6 := ⟨Tryz.f141.name, by decide, Tryz.func141.trans (congrArg some (by kernel_rfl))⟩
  f14 := ⟨Tryz.f158.name, by decide, Tryz.func158.trans (congrArg some (by kernel_rfl))⟩
  f15 := Tryz.func107.trans (congrArg some (by kernel_rfl))
  f20 := ⟨Tryz.f163.name, by decide, Tryz.func163.trans (congrArg some (by kernel_rfl))⟩
  f21 := ⟨Tryz.f164.name, by decide, Tryz.func164.trans (congrArg some (by kernel_rfl))⟩
  f22 := ⟨Tryz.f165.name, by decide, Tryz.func165.trans (congrArg some (by kernel_rfl))⟩
  f23 := ⟨Tryz.f166.name, by decide, Tryz.func166.trans (congrArg some (by kernel_rfl))⟩
  f24 := ⟨Tryz.f167.name, by decide, Tryz.func167.trans (congrArg some (by kernel_rfl))⟩
  f25 := ⟨Tryz.f168.name, by decide, Tryz.func168.trans (congrArg some (by kernel_rfl))⟩
  f26 := ⟨Tryz.f169.name, by decide, Tryz.func169.trans (congrArg some (by kernel_rfl))⟩
  f27 := ⟨Tryz.f170.name, by decide, Tryz.func170.trans (congrArg some (by kernel_rfl))⟩
  f28 := Tryz.func133.trans (congrArg some (by kernel_rfl))
  f29 := Tryz.func134.trans (congrArg some (by kernel_rfl))
  f46 := ⟨Tryz.f179.name, by decide, Tryz.func179.trans (congrArg some (by kernel_rfl))⟩
  f47 := Tryz.func148.trans (congrArg some (by kernel_rfl))
  f48 := Tryz.func149.trans (congrArg some (by kernel_rfl))
  f49 := ⟨Tryz.f180.name, by decide, Tryz.func180.trans (congrArg some (by kernel_rfl))⟩
  f50 := ⟨Tryz.f181.name, by decide, Tryz.func181.trans (congrArg some (by kernel_rfl))⟩
  f57 := ⟨Tryz.f185.name, by decide, Tryz.func185.trans (congrArg some (by kernel_rfl))⟩
  t0 := Tryz.underlying0
  a0 := Tryz.isAgg0
  z0 := Tryz.sizeOf0
  v0 := Tryz.zeroValue0
  t3 := Tryz.underlying3
  a3 := Tryz.isAgg3
  z3 := Tryz.sizeOf3
  v3 := Tryz.zeroValue3
  t4 := Tryz.underlying4
  a4 := Tryz.isAgg4
  z4 := Tryz.sizeOf4
  v4 := Tryz.zeroValue4
  t5 := Tryz.underlying5
  a5 := Tryz.isAgg5
  z5 := Tryz.sizeOf5
  v5 := Tryz.zeroValue5
  t9 := Tryz.underlying9
  a9 := Tryz.isAgg9
  z9 := Tryz.sizeOf9
  v9 := Tryz.zeroValue9
  t22 := Tryz.underlying210
  a22 := Tryz.isAgg210
  z22 := Tryz.sizeOf210
  v22 := Tryz.zeroValue210
  t25 := Tryz.underlying241
  a25 := Tryz.isAgg241
  z25 := Tryz.sizeOf241
  v25 := Tryz.zeroValue241
  t39 := Tryz.underlying202
  a39 := Tryz.isAgg202
  z39 := Tryz.sizeOf202
  v39 := Tryz.zeroValue202
  t45 := Tryz.underlying219
  a45 := Tryz.isAgg219
  z45 := Tryz.sizeOf219
  v45 := Tryz.zeroValue219
  t46 := Tryz.underlying220
  a46 := Tryz.isAgg220
  z46 := Tryz.sizeOf220
  v46 := Tryz.zeroValue220
  t50 := Tryz.underlying225
  a50 := Tryz.isAgg225
  z50 := Tryz.sizeOf225
  v50 := Tryz.zeroValue225
  t53 := Tryz.underlying228
  a53 := Tryz.isAgg228
  z53 := Tryz.sizeOf228
  v53 := Tryz.zeroValue228
  t55 := Tryz.underlying230
  a55 := Tryz.isAgg230
  z55 := Tryz.sizeOf230
  v55 := Tryz.zeroValue230
  t66 := Tryz.underlying243
  a66 := Tryz.isAgg243
  z66 := Tryz.sizeOf243
  v66 := Tryz.zeroValue243
  t70 := Tryz.underlying247
  a70 := Tryz.isAgg247
  z70 := Tryz.sizeOf247
  v70 := Tryz.zeroValue247
  t76 := Tryz.underlying256
  a76 := Tryz.isAgg256
  z76 := Tryz.sizeOf256
  v76 := Tryz.zeroValue256
  t77 := Tryz.underlying92
  a77 := Tryz.isAgg92
  z77 := Tryz.sizeOf92
  v77 := Tryz.zeroValue92 }
end Go.Proofs
namespace Go.Proofs.YtepnghacjggkkaaGreatDoor
open Go.RowKit Go.Sort Go.Shelf
set_option maxRecDepth 100000

theorem bitsLen_zero (W : World) : Calls Tryz.prog 107 #[.int .u64 0] W fun e w' => e = .returned (.int .i64 (Lib.bitLen 0 : Nat)) ∧ w' = W := by
  have h := Any.bits_Len (SlLaysF0.n15.bits (P := Tryz.prog) (ρ := Tryz.sortDd_ren) { Tryz.sortDd with }) 0 W (by omega) (by omega)
  exact h
set_option maxHeartbeats 2000000 in
theorem insDd_none (p : Option Addr) (cap : Nat) (fv : Value) (w : World) : Calls Tryz.prog 163 #[.slice p 0 cap, .int .i64 0, .int .i64 0, fv] w fun e w' => e = .returned (.tuple #[]) ∧ w' = w := by
  go_enter Tryz.func163, Tryz.ntmps163
  go_wp2
  refine wp_loop_rounds 1 ?_
  rw [rounds_succ]
  go_wp2
  go_end0
  exact ⟨rfl, rfl⟩
set_option maxHeartbeats 2000000 in
theorem pdqDd_none (p : Option Addr) (cap : Nat) (lim : Int) (fv : Value) (w : World) : Calls Tryz.prog 158 #[.slice p 0 cap, .int .i64 0, .int .i64 0, .int .i64 lim, fv] w fun e w' => e = .returned (.tuple #[]) ∧ w' = w := by
  have hi := fun W => insDd_none p cap fv W
  go_enter Tryz.func158, Tryz.ntmps158
  go_wp2
  refine wp_loop_rounds 1 ?_
  rw [rounds_succ]
  go_wp2_with (go_at_call 163; refine (hi _).mono ?_; rintro e w' ⟨rfl, rfl⟩)
  (try simp only [Exit.inBlock, Exit.then]); refine bodyPost_ret (results_none rfl _ _ _) rfl ?_
  exact ⟨rfl, rfl⟩
set_option maxHeartbeats 2000000 in
theorem sortDd_none (p : Option Addr) (cap : Nat) (fv : Value) (w : World) : Calls Tryz.prog 141 #[.slice p 0 cap, fv] w fun e w' => e = .returned (.tuple #[]) ∧ w' = w := by
  have hl := fun W => bitsLen_zero W
  have hp := fun lim W => pdqDd_none p cap lim fv W
  go_enter Tryz.func141, Tryz.ntmps141
  go_wp2_with (first | (go_at_call 107; refine (hl _).mono ?_; rintro e w' ⟨rfl, rfl⟩) | (go_at_call 158; refine (hp _ _).mono ?_; rintro e w' ⟨rfl, rfl⟩))
  go_end0
  exact ⟨rfl, rfl⟩
set_option maxHeartbeats 2000000 in
theorem insDot_none (p : Option Addr) (cap : Nat) (fv : Value) (w : World) : Calls Tryz.prog 171 #[.slice p 0 cap, .int .i64 0, .int .i64 0, fv] w fun e w' => e = .returned (.tuple #[]) ∧ w' = w := by
  go_enter Tryz.func171, Tryz.ntmps171
  go_wp2
  refine wp_loop_rounds 1 ?_
  rw [rounds_succ]
  go_wp2
  go_end0
  exact ⟨rfl, rfl⟩
set_option maxHeartbeats 2000000 in
theorem pdqDot_none (p : Option Addr) (cap : Nat) (lim : Int) (fv : Value) (w : World) : Calls Tryz.prog 161 #[.slice p 0 cap, .int .i64 0, .int .i64 0, .int .i64 lim, fv] w fun e w' => e = .returned (.tuple #[]) ∧ w' = w := by
  have hi := fun W => insDot_none p cap fv W
  go_enter Tryz.func161, Tryz.ntmps161
  go_wp2
  refine wp_loop_rounds 1 ?_
  rw [rounds_succ]
  go_wp2_with (go_at_call 171; refine (hi _).mono ?_; rintro e w' ⟨rfl, rfl⟩)
  (try simp only [Exit.inBlock, Exit.then]); refine bodyPost_ret (results_none rfl _ _ _) rfl ?_
  exact ⟨rfl, rfl⟩
set_option maxHeartbeats 2000000 in
theorem sortDot_none (p : Option Addr) (cap : Nat) (fv : Value) (w : World) : Calls Tryz.prog 153 #[.slice p 0 cap, fv] w fun e w' => e = .returned (.tuple #[]) ∧ w' = w := by
  have hl := fun W => bitsLen_zero W
  have hp := fun lim W => pdqDot_none p cap lim fv W
  go_enter Tryz.func153, Tryz.ntmps153
  go_wp2_with (first | (go_at_call 107; refine (hl _).mono ?_; rintro e w' ⟨rfl, rfl⟩) | (go_at_call 161; refine (hp _ _).mono ?_; rintro e w' ⟨rfl, rfl⟩))
  go_end0
  exact ⟨rfl, rfl⟩
end Go.Proofs.YtepnghacjggkkaaGreatDoor
