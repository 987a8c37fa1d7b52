/- vector.checkPair and Within by their contracts; Events as they lie in memory; small calls of judge; Verdicts of judge by their contracts: forward; ofPlaces and its closures by their contracts. -/
import Derived.Test.YtngjooemanapnaaGreatDoorJVCom
import Derived.Test.YtngjooemanapnaaGreatDoorJVSortN
import Derived.Test.YtngjooemanapnaaGreatDoorJVCmpD
import Derived.Test.YtngjooemanapnaaGreatDoorJVOf
namespace Go.Proofs.YtngjooemanapnaaGreatDoor
open Go.RowKit

theorem ret_errW {a b : Addr} (h : a = b) : Ending.returned (.iface 223 (.pointer (some a))) = .returned (.iface 223 (.pointer (some b))) := by rw [h]
theorem IntsAt.slice {w : World} {v : Value} {zs : List Int} (h : IntsAt w v zs) : ∃ ad c, v = .slice ad zs.length c := by
  obtain ⟨ad, c, rfl, _⟩ := h
  exact ⟨ad, c, rfl⟩
set_option maxHeartbeats 1000000 in
theorem checkPair_ok (A : Nat → Addr) (w : World) (hE : E4 A w) (v u : Value) (zs ys : List Int) (h1 : IntsAt w v zs) (h2 : IntsAt w u ys) (h0 : two zs ys = 0) :
    Calls Tryz.prog 58 #[v, u] w fun e w' => e = .returned .nilIface ∧ w' = w := by
  obtain ⟨hz, hy, hn⟩ := two_zero.1 h0
  have k1 := check_ok A w hE v zs h1 hz
  have k2 := check_ok A w hE u ys h2 hy
  obtain ⟨a1, c1, rfl⟩ := h1.slice
  obtain ⟨a2, c2, rfl⟩ := h2.slice
  have K1 := hid k1
  have K2 := hid k2
  have hb : ((zs.length : Int) != (ys.length : Int)) = false := by rw [bne_eq_false_iff_eq]; omega
  clear k1 k2 h0 hz hy hn
  go_enter Tryz.func58, Tryz.ntmps58
  go_wp2_with fail
  refine K1.out.mono ?_
  rintro e w' ⟨rfl, rfl⟩
  go_wp2_with fail
  refine K2.out.mono ?_
  rintro e w' ⟨rfl, rfl⟩
  go_wp2
  go_ret
  exact ⟨rfl, rfl⟩
set_option maxHeartbeats 1000000 in
theorem checkPair_bad (A : Nat → Addr) (w : World) (hE : E4 A w) (v u : Value) (zs ys : List Int) (h1 : IntsAt w v zs) (h2 : IntsAt w u ys) (hl1 : zs.length ≤ 1000000) (hl2 : ys.length ≤ 1000000) (h0 : two zs ys ≠ 0) :
    Calls Tryz.prog 58 #[v, u] w fun e w' => e = .returned (.iface 223 (.pointer (some (A ((two zs ys).toNat - 1))))) ∧ w' = w := by
  have g2 := hE.shape
  obtain ⟨m, hm⟩ : ∃ m, m = two zs ys := ⟨_, rfl⟩
  rw [← hm]
  by_cases hz : chk zs = 0
  · have k1 := check_ok A w hE v zs h1 hz
    by_cases hy : chk ys = 0
    · have k2 := check_ok A w hE u ys h2 hy
      obtain ⟨a1, c1, rfl⟩ := h1.slice
      obtain ⟨a2, c2, rfl⟩ := h2.slice
      have hne : zs.length ≠ ys.length := fun e => h0 (two_zero.2 ⟨hz, hy, e⟩)
      have HM : Hid (m = 3) := by rw [hm]; unfold two; rw [if_neg (by simpa using hz), if_neg (by simpa using hy), if_pos hne]; rfl
      have hb : ((zs.length : Int) != (ys.length : Int)) = true := by rw [bne_iff_ne]; omega
      have K1 := hid k1
      have K2 := hid k2
      clear k1 k2 h0 hz hy hm
      go_enter Tryz.func58, Tryz.ntmps58
      go_wp2_with fail
      refine K1.out.mono ?_
      rintro e w' ⟨rfl, rfl⟩
      go_wp2_with fail
      refine K2.out.mono ?_
      rintro e w' ⟨rfl, rfl⟩
      go_wp2
      go_ret
      exact ⟨ret_errW (by rw [HM.out]; rfl), rfl⟩
    · have k2 := check_bad A w hE u ys h2 hl2 hy
      have hmm : m = chk ys := by rw [hm]; unfold two; rw [if_neg (by simpa using hz), if_pos hy]
      rw [← hmm] at k2
      have K1 := hid k1
      have K2 := hid k2
      clear k1 k2 h0 hz hy hm hmm g2
      go_enter Tryz.func58, Tryz.ntmps58
      go_wp2_with fail
      refine K1.out.mono ?_
      rintro e w' ⟨rfl, rfl⟩
      go_wp2_with fail
      refine K2.out.mono ?_
      rintro e w' ⟨rfl, rfl⟩
      go_wp2
      go_ret
      exact ⟨rfl, rfl⟩
  · have k1 := check_bad A w hE v zs h1 hl1 hz
    have hmm : m = chk zs := by rw [hm]; unfold two; rw [if_pos hz]
    rw [← hmm] at k1
    have K1 := hid k1
    clear k1 h0 hz hm hmm g2
    go_enter Tryz.func58, Tryz.ntmps58
    go_wp2_with fail
    refine K1.out.mono ?_
    rintro e w' ⟨rfl, rfl⟩
    go_wp2
    go_ret
    exact ⟨rfl, rfl⟩
/-! ### the reference -/
theorem draws2 {w wr : World} {q n : Nat} (h : wr = w.drewN q) : wr.drewN n = w.drewN (q + n) := by rw [h]; exact World.drewN_drewN _ _ _
theorem le_any (x y : Int) (w : World) : Calls Tryz.prog 81 #[.int .i64 x, .int .i64 y] w fun e w' => e = .returned (.bool (decide (x ≤ y))) ∧ w' = w := by
  go_enter Tryz.func81, Tryz.ntmps81
  go_wp2
  go_ret
  exact ⟨rfl, rfl⟩
set_option maxHeartbeats 1000000 in
theorem within_n (w : World) (b1 o1 c1 b2 o2 c2 n : Nat) (zs ys : List Int) (hz : zs.length = n) (hy : ys.length = n) (hl : n ≤ 1000000)
    (h1 : ∀ t, t < n → w.cell? ⟨b1, o1 + t, none⟩ = some (.int .i64 (zs.getD t 0)))
    (h2 : ∀ t, t < n → w.cell? ⟨b2, o2 + t, none⟩ = some (.int .i64 (ys.getD t 0))) :
    Calls Tryz.prog 59 #[.slice (some ⟨b1, o1, none⟩) n c1, .slice (some ⟨b2, o2, none⟩) n c2] w fun e w' => e = .returned (.bool (leB zs ys)) ∧ ∃ q, w' = w.drewN q := by
  have HZ : Hid (zs.length = n) := hz
  have HY : Hid (ys.length = n) := hy
  have H1 := hid h1
  have H2 := hid h2
  clear hz hy h1 h2
  go_enter Tryz.func59, Tryz.ntmps59
  go_wp2
  go_loopw [10] (fun i wr => ∃ k q : Nat, k ≤ n ∧ i = .int .i64 k ∧ (∀ t, t < k → zs.getD t 0 ≤ ys.getD t 0) ∧ wr = w.drewN q) (fun i _ => n - (intOf i).toNat)
  case atStart => exact ⟨0, 0, Nat.zero_le _, rfl, fun t ht => absurd ht (Nat.not_lt_zero _), rfl⟩
  case round =>
    obtain ⟨k, q, hk, rfl, heq, hq⟩ := hrel
    have HE := hid heq
    have HQ := hid hq
    have e1' : k < n → wr.cell? ⟨b1, o1 + k, none⟩ = some (.int .i64 (zs.getD k 0)) := fun h => by rw [hq]; exact H1.out k h
    have e2' : k < n → wr.cell? ⟨b2, o2 + k, none⟩ = some (.int .i64 (ys.getD k 0)) := fun h => by rw [hq]; exact H2.out k h
    clear heq hq
    by_cases hlt : k < n
    · have e1 := e1' hlt
      have e2 := e2' hlt
      clear e1' e2'
      obtain ⟨x, hx⟩ : ∃ x, x = zs.getD k 0 := ⟨_, rfl⟩
      obtain ⟨y, hy⟩ : ∃ y, y = ys.getD k 0 := ⟨_, rfl⟩
      rw [← hx] at e1
      rw [← hy] at e2
      have HX := hid hx
      have HYY := hid hy
      have hi : (k : Int) < (n : Int) := by omega
      clear hx hy
      by_cases hd : x ≤ y
      · have hb : decide (x ≤ y) = true := decide_eq_true hd
        go_wp2
        go_quiet ((go_at_call 81; exact Calls.quiet_of_same (le_any _ _ _)))
        go_wp2
        go_roundw
        case rel =>
          refine ⟨k + 1, _, by omega, by go_num, fun t ht => ?_, draws2 HQ.out⟩
          rcases Nat.lt_succ_iff_lt_or_eq.1 ht with h | rfl
          · exact HE.out t h
          · rw [← HX.out, ← HYY.out]; exact hd
        case measure => simp [intOf]; omega
      · have hb : decide (x ≤ y) = false := decide_eq_false hd
        go_wp2
        go_quiet ((go_at_call 81; exact Calls.quiet_of_same (le_any _ _ _)))
        go_wp2
        go_ret
        refine ⟨ret_bool ?_, _, draws2 HQ.out⟩
        rw [eq_comm, Bool.eq_false_iff]
        intro h
        have := leB_iff.1 h k (by have := HZ.out; omega)
        rw [← HX.out, ← HYY.out] at this
        omega
    · obtain rfl : k = n := by omega
      go_wp2
      go_ret
      exact ⟨ret_bool (leB_iff.2 (fun i hi => HE.out i (by have := HZ.out; omega))).symm, _, HQ.out⟩
theorem within_any (w : World) (v u : Value) (zs ys : List Int) (h1 : IntsAt w v zs) (h2 : IntsAt w u ys) (hn : zs.length = ys.length) (h0 : 1 ≤ zs.length) (hl : zs.length ≤ 1000000) :
    Calls Tryz.prog 59 #[v, u] w fun e w' => e = .returned (.bool (leB zs ys)) ∧ ∃ q, w' = w.drewN q := by
  obtain ⟨a1, c1, rfl, _, h1⟩ := h1
  obtain ⟨a2, c2, rfl, _, h2⟩ := h2
  rcases h1 with rfl | ⟨b1, o1, rfl, h1⟩
  · simp at h0
  rcases h2 with rfl | ⟨b2, o2, rfl, h2⟩
  · rw [hn] at h0; simp at h0
  rw [← hn] at h2 ⊢
  exact within_n w b1 o1 c1 b2 o2 c2 zs.length zs ys rfl hn.symm hl h1 h2
set_option maxHeartbeats 1000000 in
theorem Within_ok (A : Nat → Addr) (w : World) (hE : E4 A w) (v u : Value) (zs ys : List Int) (h1 : IntsAt w v zs) (h2 : IntsAt w u ys) (h0 : two zs ys = 0) :
    Calls Tryz.prog 32 #[v, u] w fun e w' => e = .returned (.tuple #[.bool (leB zs ys), .nilIface]) ∧ ∃ q, w' = w.drewN q := by
  obtain ⟨hz, hy, hn⟩ := two_zero.1 h0
  have hz' := chk_zero.1 hz
  have K1 := hid (checkPair_ok A w hE v u zs ys h1 h2 h0)
  have K2 := hid (within_any w v u zs ys h1 h2 hn hz'.1 (by omega))
  clear h0 hz hy hn hz'
  go_enter Tryz.func32, Tryz.ntmps32
  go_wp2_with fail
  refine K1.out.mono ?_
  rintro e w' ⟨rfl, rfl⟩
  go_wp2_with fail
  refine K2.out.mono ?_
  rintro e w' ⟨rfl, hq⟩
  go_wp2
  go_ret2
  exact ⟨rfl, hq⟩
set_option maxHeartbeats 1000000 in
theorem Within_bad (A : Nat → Addr) (w : World) (hE : E4 A w) (v u : Value) (zs ys : List Int) (h1 : IntsAt w v zs) (h2 : IntsAt w u ys) (hl1 : zs.length ≤ 1000000) (hl2 : ys.length ≤ 1000000) (h0 : two zs ys ≠ 0) :
    Calls Tryz.prog 32 #[v, u] w fun e w' => e = .returned (.tuple #[.bool false, .iface 223 (.pointer (some (A ((two zs ys).toNat - 1))))]) ∧ w' = w := by
  have K1 := hid (checkPair_bad A w hE v u zs ys h1 h2 hl1 hl2 h0)
  clear h0
  go_enter Tryz.func32, Tryz.ntmps32
  go_wp2_with fail
  refine K1.out.mono ?_
  rintro e w' ⟨rfl, rfl⟩
  go_wp2
  go_ret2
  exact ⟨rfl, rfl⟩
end Go.Proofs.YtngjooemanapnaaGreatDoor
namespace Go.Proofs.YtngjooemanapnaaGreatDoor
open Go.RowKit
set_option maxRecDepth 100000
set_option linter.unusedSectionVars false
variable [Inhabited ComV] [DecidableEq D3] [Inhabited D3] [Inhabited Dd] [Inhabited Dn] [Inhabited OpV]

/-- What was read of a key. -/
structure SnV where
  key : ByteArray
  v : ValV
/-- An event. -/
structure EvV where
  ses : Int
  place : Int
  at_ : List Int
  reads : List SnV
  c : ComV
/-- An event's seven cells. -/
def evCells (e : EvV) (av rv wv ov : Value) : List Value := [.int .i64 e.ses, .int .i64 e.place, av, rv, wv, .int .i64 e.c.place, ov]
/-- A call's event: the slices of its vectors and ops; what is read of it is said apart. -/
structure EvAt (w : World) (e : EvV) (av wv ov : Value) : Prop where
  at_ : IntsAt w av e.at_
  when_ : IntsAt w wv e.c.when_
  ops : OpsAt w ov e.c.ops
theorem EvAt.mono {w w' : World} {e : EvV} {av wv ov : Value} {B : Nat} (h : EvAt w e av wv ov) (hb : Below B w w') (hB : w.heap.size ≤ B) : EvAt w' e av wv ov := ⟨h.at_.mono hb hB, h.when_.mono hb hB, h.ops.mono hb hB⟩
/-- Is a vector within another one, and are both vectors? -/
def inB (zs ys : List Int) : Bool := decide (two zs ys = 0) && leB zs ys
set_option maxHeartbeats 1000000 in
theorem withinJ_any (A : Nat → Addr) (w : World) (hE : E4 A w) (v u : Value) (zs ys : List Int) (h1 : IntsAt w v zs) (h2 : IntsAt w u ys) (hz : zs.length ≤ 1000000) (hy : ys.length ≤ 1000000) :
    Calls Tryz.prog 44 #[v, u] w fun e w' => e = .returned (.bool (inB zs ys)) ∧ ∃ q, w' = w.drewN q := by
  obtain ⟨a1, c1, rfl⟩ := h1.slice
  obtain ⟨a2, c2, rfl⟩ := h2.slice
  by_cases h : two zs ys = 0
  · have K := hid (Within_ok A w hE _ _ zs ys h1 h2 h)
    have hr : inB zs ys = leB zs ys := by unfold inB; rw [h]; simp
    rw [hr]
    obtain ⟨q, hq⟩ : ∃ q, q = leB zs ys := ⟨_, rfl⟩
    rw [← hq] at K ⊢
    clear h1 h2 hE h hr hq
    go_enter Tryz.func44, Tryz.ntmps44
    go_wp2_with (go_at_call 32; refine K.out.mono ?_; rintro e w' ⟨rfl, n, rfl⟩)
    go_ret
    exact ⟨rfl, n, rfl⟩
  · have K := hid (Within_bad A w hE _ _ zs ys h1 h2 hz hy h)
    have hr : inB zs ys = false := by unfold inB; rw [decide_eq_false h]; rfl
    rw [hr]
    clear h1 h2 hE h hr
    go_enter Tryz.func44, Tryz.ntmps44
    go_wp2_with (go_at_call 32; refine K.out.mono ?_; rintro e w' ⟨rfl, hw'⟩; rw [hw']; clear hw')
    go_ret
    exact ⟨rfl, 0, rfl⟩
set_option maxHeartbeats 1000000 in
theorem wrote_any (w : World) (e : EvV) (a1 a2 a3 a4 : Option Addr) (n1 c1 n2 c2 n3 c3 c4 : Nat) (hl : e.c.ops.length ≤ 1000000) :
    Calls Tryz.prog 41 #[.agg #[.int .i64 e.ses, .int .i64 e.place, .slice a1 n1 c1, .slice a2 n2 c2, .slice a3 n3 c3, .int .i64 e.c.place, .slice a4 e.c.ops.length c4]] w fun r w' => r = .returned (.bool (decide (e.c.ops ≠ []))) ∧ Below w.heap.size w w' := by
  obtain ⟨m, hm⟩ : ∃ m, m = e.c.ops.length := ⟨_, rfl⟩
  rw [← hm] at hl ⊢
  by_cases h : e.c.ops = []
  · have h0 : m = 0 := by rw [hm, h]; rfl
    have hr : decide (e.c.ops ≠ []) = false := by simp [h]
    rw [hr]
    subst h0
    clear hm h hr
    go_enter Tryz.func41, Tryz.ntmps41
    go_wp2
    go_ret
    exact ⟨rfl, below_alloc _ _⟩
  · have h0 : (0 : Int) < (m : Int) := by have := List.length_pos_iff.2 h; omega
    have hr : decide (e.c.ops ≠ []) = true := by simp [h]
    rw [hr]
    clear hm h hr
    go_enter Tryz.func41, Tryz.ntmps41
    go_wp2
    go_ret
    exact ⟨ret_bool (by simp; omega), below_alloc _ _⟩
end Go.Proofs.YtngjooemanapnaaGreatDoor
namespace Go.Proofs.YtngjooemanapnaaGreatDoor
open Go.RowKit
set_option maxRecDepth 100000
set_option linter.unusedSectionVars false
variable [Inhabited ComV] [DecidableEq D3] [Inhabited D3] [Inhabited Dd] [Inhabited Dn] [Inhabited OpV]

/-- What a verdict hands back: nothing, or the sentinel A k. -/
def sentV (A : Nat → Addr) : Nat → Value
  | 0 => .nilIface
  | k + 1 => .iface 223 (.pointer (some (A (k + 1))))
set_option maxHeartbeats 1000000 in
theorem forward_any (A : Nat → Addr) (w : World) (hE : E4 A w) (hs : 12 ≤ w.heap.size) (e : EvV) (av rv wv ov : Value) (he : EvAt w e av wv ov) (hz : e.at_.length ≤ 1000000) (hy : e.c.when_.length ≤ 1000000) :
    Calls Tryz.prog 22 #[.agg (evCells e av rv wv ov).toArray] w fun r w' => r = .returned (if inB e.at_ e.c.when_ then .nilIface else .iface 223 (.pointer (some (A 1)))) ∧ Below w.heap.size w w' := by
  have g0 := fun o => cell_alloc hE.bound o
  obtain ⟨q, hq⟩ : ∃ q, q = inB e.at_ e.c.when_ := ⟨_, rfl⟩
  rw [← hq]
  unfold evCells
  have K : ∀ o, Hid (Calls Tryz.prog 44 #[av, wv] (w.alloc o) fun r w' => r = .returned (.bool q) ∧ ∃ n, w' = (w.alloc o).drewN n) := fun o => hid (by
    rw [hq]
    exact withinJ_any A (w.alloc o) (hE.below (below_alloc _ _) hs) av wv _ _ (he.at_.mono (below_alloc _ _) (Nat.le_refl _)) (he.when_.mono (below_alloc _ _) (Nat.le_refl _)) hz hy)
  obtain ⟨a1, c1, h1⟩ := he.at_.slice
  obtain ⟨a2, c2, h2⟩ := he.when_.slice
  rw [h1, h2] at K
  rw [h1, h2]
  clear he h1 h2 hq
  cases q
  · go_enter Tryz.func22, Tryz.ntmps22
    go_wp2_with (go_at_call 44; refine (K _).out.mono ?_; rintro e w' ⟨rfl, n, rfl⟩)
    go_ret
    exact ⟨rfl, below_draws (below_alloc _ _) n⟩
  · go_enter Tryz.func22, Tryz.ntmps22
    go_wp2_with (go_at_call 44; refine (K _).out.mono ?_; rintro e w' ⟨rfl, n, rfl⟩)
    go_ret
    exact ⟨rfl, below_draws (below_alloc _ _) n⟩
end Go.Proofs.YtngjooemanapnaaGreatDoor
namespace Go.Proofs.YtngjooemanapnaaGreatDoor
open Go.RowKit
set_option maxRecDepth 100000
set_option linter.unusedSectionVars false
variable [Inhabited ComV] [DecidableEq D3] [Inhabited D3] [Inhabited Dd] [Inhabited Dn] [Inhabited OpV]

/-- Is it a vector of n places? -/
def oneB (n : Int) (zs : List Int) : Bool := decide ((zs.length : Int) = n) && decide (chk zs = 0)
set_option maxHeartbeats 1000000 in
theorem isOne_any (A : Nat → Addr) (w : World) (hE : E4 A w) (B : Nat) (n : Int) (hc : w.cell? ⟨B, 0, none⟩ = some (.int .i64 n)) (v : Value) (zs : List Int) (h : IntsAt w v zs) (hl : zs.length ≤ 1000000) :
    Calls Tryz.prog 38 #[v, .pointer (some ⟨B, 0, none⟩)] w fun e w' => e = .returned (.bool (oneB n zs)) ∧ w' = w := by
  obtain ⟨a1, c1, rfl⟩ := h.slice
  by_cases h1 : (zs.length : Int) = n
  · by_cases h2 : chk zs = 0
    · have K := hid (check_ok A w hE _ zs h h2)
      have hr : oneB n zs = true := by unfold oneB; rw [decide_eq_true h1, decide_eq_true h2]; rfl
      rw [hr]
      subst h1
      clear h hE h2 hr
      go_enter Tryz.func38, Tryz.ntmps38
      go_wp2_with (go_at_call 39; refine K.out.mono ?_; rintro e w' ⟨rfl, hw'⟩; rw [hw']; clear hw')
      go_ret
      exact ⟨ret_bool (by simp), rfl⟩
    · have K := hid (check_bad A w hE _ zs h hl h2)
      have hr : oneB n zs = false := by unfold oneB; rw [decide_eq_false h2, Bool.and_false]
      rw [hr]
      subst h1
      clear h hE h2 hr
      go_enter Tryz.func38, Tryz.ntmps38
      go_wp2_with (go_at_call 39; refine K.out.mono ?_; rintro e w' ⟨rfl, hw'⟩; rw [hw']; clear hw')
      go_ret
      exact ⟨ret_bool (by simp), rfl⟩
  · have hr : oneB n zs = false := by unfold oneB; rw [decide_eq_false h1]; rfl
    rw [hr]
    have hb : ((zs.length : Int) == n) = false := by rw [beq_eq_false_iff_ne]; exact h1
    clear h hE hr
    go_enter Tryz.func38, Tryz.ntmps38
    go_wp2
    go_ret
    exact ⟨ret_bool (by simp), rfl⟩
end Go.Proofs.YtngjooemanapnaaGreatDoor
