/- The reference: TwoError, In, SameInts; plain.Code by its contracts. -/
import Derived.Test.YtngjooemanapnaaGreatDoorJVRefN
import Derived.Test.YtngjooemanapnaaGreatDoorJJD
import Derived.Test.YtngjooemanapnaaGreatDoorJJF
import Derived.Test.YtngjooemanapnaaGreatDoorJVIs
import Derived.Test.YtngjooemanapnaaGreatDoorJVDel
import Derived.Handy
namespace Go.Proofs.YtngjooemanapnaaGreatDoor
open Go.RowKit
set_option maxRecDepth 100000

theorem twoError (w : World) (v u : Value) (zs ys : List Int) (h1 : IntsAt w v zs) (h2 : IntsAt w u ys) (hl1 : zs.length ≤ 1000000) (hl2 : ys.length ≤ 1000000) :
    Calls Tryz.prog 12 #[v, u] w fun e w' => e = .returned (.int .i64 (two zs ys)) ∧ w' = w := by
  have k1 := vectorError w v zs h1 hl1
  have k2 := vectorError w u ys h2 hl2
  obtain ⟨a1, c1, rfl⟩ := h1.slice
  obtain ⟨a2, c2, rfl⟩ := h2.slice
  have K1 := hid k1
  have K2 := hid k2
  clear k1 k2
  by_cases hz : chk zs = 0
  · have hz' : (chk zs == 0) = true := by rw [hz]; rfl
    by_cases hy : chk ys = 0
    · have hy' : (chk ys == 0) = true := by rw [hy]; rfl
      by_cases hn : zs.length = ys.length
      · have hb : ((zs.length : Int) != (ys.length : Int)) = false := by rw [bne_eq_false_iff_eq]; omega
        have HT : Hid (two zs ys = 0) := two_zero.2 ⟨hz, hy, hn⟩
        have HY : Hid (chk ys = 0) := hy
        clear hz hy hn
        go_enter Tryz.func12, Tryz.ntmps12
        go_wp2_with fail
        refine K1.out.mono ?_
        rintro e w' ⟨rfl, rfl⟩
        go_wp2_with fail
        refine K2.out.mono ?_
        rintro e w' ⟨rfl, rfl⟩
        go_wp2
        go_ret
        exact ⟨ret_int (by rw [HT.out, HY.out]), rfl⟩
      · have hb : ((zs.length : Int) != (ys.length : Int)) = true := by rw [bne_iff_ne]; omega
        have HT : Hid (two zs ys = 3) := by show two zs ys = 3; unfold two; rw [if_neg (by simpa using hz), if_neg (by simpa using hy), if_pos hn]
        clear hz hy hn
        go_enter Tryz.func12, Tryz.ntmps12
        go_wp2_with fail
        refine K1.out.mono ?_
        rintro e w' ⟨rfl, rfl⟩
        go_wp2_with fail
        refine K2.out.mono ?_
        rintro e w' ⟨rfl, rfl⟩
        go_wp2
        go_ret
        exact ⟨ret_int HT.out.symm, rfl⟩
    · have hy' : (chk ys == 0) = false := by simpa using hy
      have HT : Hid (two zs ys = chk ys) := by show two zs ys = chk ys; unfold two; rw [if_neg (by simpa using hz), if_pos hy]
      clear hz hy
      go_enter Tryz.func12, Tryz.ntmps12
      go_wp2_with fail
      refine K1.out.mono ?_
      rintro e w' ⟨rfl, rfl⟩
      go_wp2_with fail
      refine K2.out.mono ?_
      rintro e w' ⟨rfl, rfl⟩
      go_wp2
      go_ret
      exact ⟨ret_int HT.out.symm, rfl⟩
  · have hz' : (chk zs == 0) = false := by simpa using hz
    have HT : Hid (two zs ys = chk zs) := by show two zs ys = chk zs; unfold two; rw [if_pos hz]
    clear hz
    go_enter Tryz.func12, Tryz.ntmps12
    go_wp2_with fail
    refine K1.out.mono ?_
    rintro e w' ⟨rfl, rfl⟩
    go_wp2
    go_ret
    exact ⟨ret_int HT.out.symm, rfl⟩

theorem in_n (w : World) (b1 o1 c1 b2 o2 c2 n : Nat) (zs ys : List Int) (hz : zs.length = n) (hy : ys.length = n) (hl : n ≤ 1000000)
    (h1 : ∀ t, t < n → w.cell? ⟨b1, o1 + t, none⟩ = some (.int .i64 (zs.getD t 0)))
    (h2 : ∀ t, t < n → w.cell? ⟨b2, o2 + t, none⟩ = some (.int .i64 (ys.getD t 0))) :
    Calls Tryz.prog 13 #[.slice (some ⟨b1, o1, none⟩) n c1, .slice (some ⟨b2, o2, none⟩) n c2] w fun e w' => e = .returned (.bool (leB zs ys)) ∧ ∃ q, w' = w.drewN q := by
  have HZ : Hid (zs.length = n) := hz
  have HY : Hid (ys.length = n) := hy
  have H1 := hid h1
  have H2 := hid h2
  clear hz hy h1 h2
  go_enter Tryz.func13, Tryz.ntmps13
  go_wp2
  go_loopw [5] (fun i wr => ∃ k q : Nat, k ≤ n ∧ i = .int .i64 k ∧ (∀ t, t < k → zs.getD t 0 ≤ ys.getD t 0) ∧ wr = w.drewN q) (fun i _ => n - (intOf i).toNat)
  case atStart => exact ⟨0, 0, Nat.zero_le _, rfl, fun t ht => absurd ht (Nat.not_lt_zero _), rfl⟩
  case round =>
    obtain ⟨k, q, hk, rfl, heq, hq⟩ := hrel
    have HE := hid heq
    have HQ := hid hq
    have e1' : k < n → wr.cell? ⟨b1, o1 + k, none⟩ = some (.int .i64 (zs.getD k 0)) := fun h => by rw [hq]; exact H1.out k h
    have e2' : k < n → wr.cell? ⟨b2, o2 + k, none⟩ = some (.int .i64 (ys.getD k 0)) := fun h => by rw [hq]; exact H2.out k h
    clear heq hq
    by_cases hlt : k < n
    · have e1 := e1' hlt
      have e2 := e2' hlt
      clear e1' e2'
      obtain ⟨x, hx⟩ : ∃ x, x = zs.getD k 0 := ⟨_, rfl⟩
      obtain ⟨y, hy⟩ : ∃ y, y = ys.getD k 0 := ⟨_, rfl⟩
      rw [← hx] at e1
      rw [← hy] at e2
      have HX := hid hx
      have HYY := hid hy
      have hi : (k : Int) < (n : Int) := by omega
      clear hx hy
      by_cases hd : x ≤ y
      · have hb : decide (y < x) = false := decide_eq_false (by omega)
        go_wp2
        go_quiet (fail)
        go_wp2
        go_roundw
        case rel =>
          refine ⟨k + 1, _, by omega, by go_num, fun t ht => ?_, draws2 HQ.out⟩
          rcases Nat.lt_succ_iff_lt_or_eq.1 ht with h | rfl
          · exact HE.out t h
          · rw [← HX.out, ← HYY.out]; exact hd
        case measure => simp [intOf]; omega
      · have hb : decide (y < x) = true := decide_eq_true (by omega)
        go_wp2
        go_quiet (fail)
        go_wp2
        go_ret
        refine ⟨ret_bool ?_, _, draws2 HQ.out⟩
        rw [eq_comm, Bool.eq_false_iff]
        intro h
        have := leB_iff.1 h k (by have := HZ.out; omega)
        rw [← HX.out, ← HYY.out] at this
        omega
    · obtain rfl : k = n := by omega
      go_wp2
      go_ret
      exact ⟨ret_bool (leB_iff.2 (fun i hi => HE.out i (by have := HZ.out; omega))).symm, _, HQ.out⟩
theorem in_any (w : World) (v u : Value) (zs ys : List Int) (h1 : IntsAt w v zs) (h2 : IntsAt w u ys) (hn : zs.length = ys.length) (h0 : 1 ≤ zs.length) (hl : zs.length ≤ 1000000) :
    Calls Tryz.prog 13 #[v, u] w fun e w' => e = .returned (.bool (leB zs ys)) ∧ ∃ q, w' = w.drewN q := by
  obtain ⟨a1, c1, rfl, _, h1⟩ := h1
  obtain ⟨a2, c2, rfl, _, h2⟩ := h2
  rcases h1 with rfl | ⟨b1, o1, rfl, h1⟩
  · simp at h0
  rcases h2 with rfl | ⟨b2, o2, rfl, h2⟩
  · rw [hn] at h0; simp at h0
  rw [← hn] at h2 ⊢
  exact in_n w b1 o1 c1 b2 o2 c2 zs.length zs ys rfl hn.symm hl h1 h2
theorem sameInts_n (w : World) (b1 o1 c1 b2 o2 c2 n : Nat) (zs ys : List Int) (hz : zs.length = n) (hy : ys.length = n) (hl : n ≤ 1000000)
    (h1 : ∀ t, t < n → w.cell? ⟨b1, o1 + t, none⟩ = some (.int .i64 (zs.getD t 0)))
    (h2 : ∀ t, t < n → w.cell? ⟨b2, o2 + t, none⟩ = some (.int .i64 (ys.getD t 0))) :
    Calls Tryz.prog 16 #[.slice (some ⟨b1, o1, none⟩) n c1, .slice (some ⟨b2, o2, none⟩) n c2] w fun e w' => e = .returned (.bool (decide (zs = ys))) ∧ ∃ q, w' = w.drewN q := by
  have HZ : Hid (zs.length = n) := hz
  have HY : Hid (ys.length = n) := hy
  have H1 : Hid (∀ t, t < n → w.cell? ⟨b1, o1 + t, none⟩ = some (.int .i64 (zs.getD t 0))) := h1
  have H2 : Hid (∀ t, t < n → w.cell? ⟨b2, o2 + t, none⟩ = some (.int .i64 (ys.getD t 0))) := h2
  clear hz hy h1 h2
  go_enter Tryz.func16, Tryz.ntmps16
  go_wp2
  go_loopw [5] (fun i wr => ∃ k q : Nat, k ≤ n ∧ i = .int .i64 k ∧ (∀ t, t < k → zs.getD t 0 = ys.getD t 0) ∧ wr = w.drewN q) (fun i _ => n - (intOf i).toNat)
  case atStart => exact ⟨0, 0, Nat.zero_le _, rfl, fun t ht => absurd ht (Nat.not_lt_zero _), rfl⟩
  case round =>
    obtain ⟨k, q, hk, rfl, heq, rfl⟩ := hrel
    have HE : Hid (∀ t, t < k → zs.getD t 0 = ys.getD t 0) := heq
    clear heq
    by_cases hlt : k < n
    · have e1 := H1.out k hlt
      have e2 := H2.out k hlt
      by_cases hd : zs.getD k 0 = ys.getD k 0
      · have hb : (zs[k]?.getD 0 != ys[k]?.getD 0) = false := by simpa using hd
        have hi : (k : Int) < (n : Int) := by omega
        go_wp2
        go_quiet (fail)
        go_wp2
        go_roundw
        case rel => exact ⟨k + 1, _, by omega, by go_num, fun t ht => by rcases Nat.lt_succ_iff_lt_or_eq.1 ht with h | rfl; exact HE.out t h; exact hd, rfl⟩
        case measure => simp [intOf]; omega
      · have hb : (zs[k]?.getD 0 != ys[k]?.getD 0) = true := by simpa using hd
        have hi : (k : Int) < (n : Int) := by omega
        go_wp2
        go_quiet (fail)
        go_wp2
        go_ret
        exact ⟨ret_bool (decide_eq_false (fun e => hd (by rw [e]))).symm, _, World.drewN_drewN _ _ _⟩
    · obtain rfl : k = n := by omega
      go_wp2
      go_ret
      exact ⟨ret_bool (decide_eq_true (getD_ext HZ.out HY.out HE.out)).symm, _, rfl⟩
theorem sameInts_ne (w : World) (a1 a2 : Option Addr) (c1 c2 n m : Nat) (hne : n ≠ m) :
    Calls Tryz.prog 16 #[.slice a1 n c1, .slice a2 m c2] w fun e w' => e = .returned (.bool false) ∧ w' = w := by
  have hb : ((n : Int) != (m : Int)) = true := by rw [bne_iff_ne]; omega
  go_enter Tryz.func16, Tryz.ntmps16
  go_wp2
  go_ret
  exact ⟨rfl, rfl⟩
theorem sameInts_nil (w : World) (a1 a2 : Option Addr) (c1 c2 : Nat) :
    Calls Tryz.prog 16 #[.slice a1 0 c1, .slice a2 0 c2] w fun e w' => e = .returned (.bool true) ∧ w' = w := by
  go_enter Tryz.func16, Tryz.ntmps16
  go_wp2
  refine wp_loop_rounds 1 ?_
  rw [rounds_succ]
  go_wp2
  go_ret
  exact ⟨rfl, rfl⟩
theorem sameInts (w : World) (v1 v2 : Value) (zs ys : List Int) (h1 : IntsAt w v1 zs) (h2 : IntsAt w v2 ys) (hl : zs.length ≤ 1000000) :
    Calls Tryz.prog 16 #[v1, v2] w fun e w' => e = .returned (.bool (decide (zs = ys))) ∧ ∃ q, w' = w.drewN q := by
  obtain ⟨a1, c1, rfl, _, h1⟩ := h1
  obtain ⟨a2, c2, rfl, _, h2⟩ := h2
  by_cases hn : zs.length = ys.length
  · rcases h1 with rfl | ⟨b1, o1, rfl, h1⟩
    · obtain rfl : ys = [] := List.eq_nil_of_length_eq_zero hn.symm
      refine (sameInts_nil w a1 a2 c1 c2).mono ?_
      rintro e w' ⟨rfl, rfl⟩
      exact ⟨rfl, 0, rfl⟩
    · rcases h2 with rfl | ⟨b2, o2, rfl, h2⟩
      · obtain rfl : zs = [] := List.eq_nil_of_length_eq_zero hn
        refine (sameInts_nil w _ a2 c1 c2).mono ?_
        rintro e w' ⟨rfl, rfl⟩
        exact ⟨rfl, 0, rfl⟩
      · have h := sameInts_n w b1 o1 c1 b2 o2 c2 zs.length zs ys rfl hn.symm hl h1 (fun t ht => h2 t (by omega))
        rw [hn] at h
        rw [hn]
        exact h
  · refine (sameInts_ne w a1 a2 c1 c2 _ _ hn).mono ?_
    rintro e w' ⟨rfl, rfl⟩
    exact ⟨ret_bool (decide_eq_false (fun e => hn (by rw [e]))).symm, 0, rfl⟩
end Go.Proofs.YtngjooemanapnaaGreatDoor
namespace Go.Proofs.YtngjooemanapnaaGreatDoor
open Go.RowKit

theorem code_nil (w : World) : Calls Tryz.prog 18 #[.nilIface] w fun e w' => e = .returned (.tuple #[.int .i64 0, .int .i64 (-1)]) ∧ w' = w := by
  go_enter Tryz.func18, Tryz.ntmps18
  go_wp2
  go_ret2
  exact ⟨rfl, rfl⟩
/-- The twelve errors, as a row. -/
def twelve (A : Nat → Addr) : Obj := .cells #[.iface 223 (.pointer (some (A 0))), .iface 223 (.pointer (some (A 1))), .iface 223 (.pointer (some (A 2))), .iface 223 (.pointer (some (A 3))), .iface 223 (.pointer (some (A 4))), .iface 223 (.pointer (some (A 5))), .iface 223 (.pointer (some (A 6))), .iface 223 (.pointer (some (A 7))), .iface 223 (.pointer (some (A 8))), .iface 223 (.pointer (some (A 9))), .iface 223 (.pointer (some (A 10))), .iface 223 (.pointer (some (A 11)))] 27
theorem twelve_cell (A : Nat → Addr) (w : World) (n m : Nat) (hn : n = w.heap.size) (h : m < 12) : (w.alloc (twelve A)).cell? ⟨n, m, none⟩ = some (.iface 223 (.pointer (some (A m)))) := by
  unfold twelve
  rw [World.cell?_alloc_at _ _ _ _ hn]
  rcases (by omega : m = 0 ∨ m = 1 ∨ m = 2 ∨ m = 3 ∨ m = 4 ∨ m = 5 ∨ m = 6 ∨ m = 7 ∨ m = 8 ∨ m = 9 ∨ m = 10 ∨ m = 11) with rfl | rfl | rfl | rfl | rfl | rfl | rfl | rfl | rfl | rfl | rfl | rfl <;> rfl
set_option maxHeartbeats 4000000 in
theorem code_sent (A : Nat → Addr) (B : Nat) (w : World) (k : Nat) (hS : Sents A B w) (hk : k < 12) :
    Calls Tryz.prog 18 #[.iface 223 (.pointer (some (A k)))] w fun e w' => e = .returned (.tuple #[.int .i64 (k + 1), .int .i64 (-1)]) ∧ Below w.heap.size w w' := by
  have g0 : ∀ o1 o2 o3 o4, ((((w.alloc o1).alloc o2).alloc o3).alloc o4).cell? ⟨1, 0, none⟩ = some (.iface 223 (.pointer (some (A 0)))) := fun _ _ _ _ => cell_alloc (cell_alloc (cell_alloc (cell_alloc (hS.cell 0 (by omega)) _) _) _) _
  have g1 : ∀ o1 o2 o3 o4, ((((w.alloc o1).alloc o2).alloc o3).alloc o4).cell? ⟨0, 0, none⟩ = some (.iface 223 (.pointer (some (A 1)))) := fun _ _ _ _ => cell_alloc (cell_alloc (cell_alloc (cell_alloc (hS.cell 1 (by omega)) _) _) _) _
  have g2 : ∀ o1 o2 o3 o4, ((((w.alloc o1).alloc o2).alloc o3).alloc o4).cell? ⟨2, 0, none⟩ = some (.iface 223 (.pointer (some (A 2)))) := fun _ _ _ _ => cell_alloc (cell_alloc (cell_alloc (cell_alloc (hS.cell 2 (by omega)) _) _) _) _
  have g3 : ∀ o1 o2 o3 o4, ((((w.alloc o1).alloc o2).alloc o3).alloc o4).cell? ⟨3, 0, none⟩ = some (.iface 223 (.pointer (some (A 3)))) := fun _ _ _ _ => cell_alloc (cell_alloc (cell_alloc (cell_alloc (hS.cell 3 (by omega)) _) _) _) _
  have g4 : ∀ o1 o2 o3 o4, ((((w.alloc o1).alloc o2).alloc o3).alloc o4).cell? ⟨4, 0, none⟩ = some (.iface 223 (.pointer (some (A 4)))) := fun _ _ _ _ => cell_alloc (cell_alloc (cell_alloc (cell_alloc (hS.cell 4 (by omega)) _) _) _) _
  have g5 : ∀ o1 o2 o3 o4, ((((w.alloc o1).alloc o2).alloc o3).alloc o4).cell? ⟨5, 0, none⟩ = some (.iface 223 (.pointer (some (A 5)))) := fun _ _ _ _ => cell_alloc (cell_alloc (cell_alloc (cell_alloc (hS.cell 5 (by omega)) _) _) _) _
  have g6 : ∀ o1 o2 o3 o4, ((((w.alloc o1).alloc o2).alloc o3).alloc o4).cell? ⟨6, 0, none⟩ = some (.iface 223 (.pointer (some (A 6)))) := fun _ _ _ _ => cell_alloc (cell_alloc (cell_alloc (cell_alloc (hS.cell 6 (by omega)) _) _) _) _
  have g7 : ∀ o1 o2 o3 o4, ((((w.alloc o1).alloc o2).alloc o3).alloc o4).cell? ⟨7, 0, none⟩ = some (.iface 223 (.pointer (some (A 7)))) := fun _ _ _ _ => cell_alloc (cell_alloc (cell_alloc (cell_alloc (hS.cell 7 (by omega)) _) _) _) _
  have g8 : ∀ o1 o2 o3 o4, ((((w.alloc o1).alloc o2).alloc o3).alloc o4).cell? ⟨8, 0, none⟩ = some (.iface 223 (.pointer (some (A 8)))) := fun _ _ _ _ => cell_alloc (cell_alloc (cell_alloc (cell_alloc (hS.cell 8 (by omega)) _) _) _) _
  have g9 : ∀ o1 o2 o3 o4, ((((w.alloc o1).alloc o2).alloc o3).alloc o4).cell? ⟨9, 0, none⟩ = some (.iface 223 (.pointer (some (A 9)))) := fun _ _ _ _ => cell_alloc (cell_alloc (cell_alloc (cell_alloc (hS.cell 9 (by omega)) _) _) _) _
  have g10 : ∀ o1 o2 o3 o4, ((((w.alloc o1).alloc o2).alloc o3).alloc o4).cell? ⟨10, 0, none⟩ = some (.iface 223 (.pointer (some (A 10)))) := fun _ _ _ _ => cell_alloc (cell_alloc (cell_alloc (cell_alloc (hS.cell 10 (by omega)) _) _) _) _
  have g11 : ∀ o1 o2 o3 o4, ((((w.alloc o1).alloc o2).alloc o3).alloc o4).cell? ⟨11, 0, none⟩ = some (.iface 223 (.pointer (some (A 11)))) := fun _ _ _ _ => cell_alloc (cell_alloc (cell_alloc (cell_alloc (hS.cell 11 (by omega)) _) _) _) _
  have hg := hS.handle
  have hz : 12 < w.heap.size := by have := hS.gl; have := hS.size; omega
  go_enter Tryz.func18, Tryz.ntmps18
  go_wp2_with (go_at_call 36; refine (as_miss _ _ _ (cell_alloc hg _)).mono ?_; rintro e w' ⟨rfl, rfl⟩)
  go_loopw [3, 30] (fun a i wr => ∃ m : Nat, m ≤ k ∧ i = .int .i64 m ∧ a = .int .i64 (-1) ∧ (∀ j, j < 12 → wr.cell? ⟨w.heap.size + 1 + 1 + 1 + 1, j, none⟩ = some (.iface 223 (.pointer (some (A j))))) ∧ Sents A B wr ∧ Below w.heap.size w wr) (fun _ i _ => 12 - (intOf i).toNat)
  case atStart =>
    refine ⟨0, Nat.zero_le _, rfl, rfl, fun j hj => ?_, ?_, ?_⟩
    · exact twelve_cell A _ _ j (by simp) hj
    · refine hS.below ?_
      refine Below.mono ?_ hS.size
      go_grown
    · go_grown
  case round =>
    obtain ⟨m, hm, rfl, rfl, hrow, hSr, hbl⟩ := hrel
    have hc := hrow m (by omega)
    have h12 : m < 12 := by omega
    have HR : Hid (∀ j, j < 12 → wr.cell? ⟨w.heap.size + 1 + 1 + 1 + 1, j, none⟩ = some (.iface 223 (.pointer (some (A j))))) := hrow
    clear hrow g0 g1 g2 g3 g4 g5 g6 g7 g8 g9 g10 g11 hg
    by_cases e : m = k
    · subst e
      go_wp2_with (go_at_call 37; refine (is_same _ _).mono ?_; rintro e w' ⟨rfl, rfl⟩)
      go_ret2
      exact ⟨rfl, hbl⟩
    · have hne : A k ≠ A m := hSr.ne k m hk (by omega) (Ne.symm e)
      obtain ⟨ca, ta, ha⟩ := hSr.row k hk
      obtain ⟨cb, tb, hb⟩ := hSr.row m (by omega)
      go_wp2_with (go_at_call 37; refine (is_other _ _ _ _ _ _ _ hne ha hb).mono ?_; rintro e w' ⟨rfl, rfl⟩)
      go_roundw
      case rel => exact ⟨m + 1, by omega, by go_num, rfl, HR.out, hSr, hbl⟩
      case measure => simp [intOf]; omega
set_option maxHeartbeats 4000000 in
theorem code_other (A : Nat → Addr) (B : Nat) (w : World) (a : Addr) (hS : Sents A B w) (hne : ∀ j, j < 12 → a ≠ A j) (hra : ∃ c t, w.heap[a.block]? = some (.cells c t (0, 0))) :
    Calls Tryz.prog 18 #[.iface 223 (.pointer (some a))] w fun e w' => e = .returned (.tuple #[.int .i64 (-1), .int .i64 (-1)]) ∧ Below w.heap.size w w' := by
  obtain ⟨ca, ta, ha0⟩ := hra
  have hal : a.block < w.heap.size := (Array.getElem?_eq_some_iff.1 ha0).1
  have g0 : ∀ o1 o2 o3 o4, ((((w.alloc o1).alloc o2).alloc o3).alloc o4).cell? ⟨1, 0, none⟩ = some (.iface 223 (.pointer (some (A 0)))) := fun _ _ _ _ => (cell_alloc (cell_alloc (cell_alloc (cell_alloc (hS.cell 0 (by omega)) _) _) _) _)
  have g1 : ∀ o1 o2 o3 o4, ((((w.alloc o1).alloc o2).alloc o3).alloc o4).cell? ⟨0, 0, none⟩ = some (.iface 223 (.pointer (some (A 1)))) := fun _ _ _ _ => (cell_alloc (cell_alloc (cell_alloc (cell_alloc (hS.cell 1 (by omega)) _) _) _) _)
  have g2 : ∀ o1 o2 o3 o4, ((((w.alloc o1).alloc o2).alloc o3).alloc o4).cell? ⟨2, 0, none⟩ = some (.iface 223 (.pointer (some (A 2)))) := fun _ _ _ _ => (cell_alloc (cell_alloc (cell_alloc (cell_alloc (hS.cell 2 (by omega)) _) _) _) _)
  have g3 : ∀ o1 o2 o3 o4, ((((w.alloc o1).alloc o2).alloc o3).alloc o4).cell? ⟨3, 0, none⟩ = some (.iface 223 (.pointer (some (A 3)))) := fun _ _ _ _ => (cell_alloc (cell_alloc (cell_alloc (cell_alloc (hS.cell 3 (by omega)) _) _) _) _)
  have g4 : ∀ o1 o2 o3 o4, ((((w.alloc o1).alloc o2).alloc o3).alloc o4).cell? ⟨4, 0, none⟩ = some (.iface 223 (.pointer (some (A 4)))) := fun _ _ _ _ => (cell_alloc (cell_alloc (cell_alloc (cell_alloc (hS.cell 4 (by omega)) _) _) _) _)
  have g5 : ∀ o1 o2 o3 o4, ((((w.alloc o1).alloc o2).alloc o3).alloc o4).cell? ⟨5, 0, none⟩ = some (.iface 223 (.pointer (some (A 5)))) := fun _ _ _ _ => (cell_alloc (cell_alloc (cell_alloc (cell_alloc (hS.cell 5 (by omega)) _) _) _) _)
  have g6 : ∀ o1 o2 o3 o4, ((((w.alloc o1).alloc o2).alloc o3).alloc o4).cell? ⟨6, 0, none⟩ = some (.iface 223 (.pointer (some (A 6)))) := fun _ _ _ _ => (cell_alloc (cell_alloc (cell_alloc (cell_alloc (hS.cell 6 (by omega)) _) _) _) _)
  have g7 : ∀ o1 o2 o3 o4, ((((w.alloc o1).alloc o2).alloc o3).alloc o4).cell? ⟨7, 0, none⟩ = some (.iface 223 (.pointer (some (A 7)))) := fun _ _ _ _ => (cell_alloc (cell_alloc (cell_alloc (cell_alloc (hS.cell 7 (by omega)) _) _) _) _)
  have g8 : ∀ o1 o2 o3 o4, ((((w.alloc o1).alloc o2).alloc o3).alloc o4).cell? ⟨8, 0, none⟩ = some (.iface 223 (.pointer (some (A 8)))) := fun _ _ _ _ => (cell_alloc (cell_alloc (cell_alloc (cell_alloc (hS.cell 8 (by omega)) _) _) _) _)
  have g9 : ∀ o1 o2 o3 o4, ((((w.alloc o1).alloc o2).alloc o3).alloc o4).cell? ⟨9, 0, none⟩ = some (.iface 223 (.pointer (some (A 9)))) := fun _ _ _ _ => (cell_alloc (cell_alloc (cell_alloc (cell_alloc (hS.cell 9 (by omega)) _) _) _) _)
  have g10 : ∀ o1 o2 o3 o4, ((((w.alloc o1).alloc o2).alloc o3).alloc o4).cell? ⟨10, 0, none⟩ = some (.iface 223 (.pointer (some (A 10)))) := fun _ _ _ _ => (cell_alloc (cell_alloc (cell_alloc (cell_alloc (hS.cell 10 (by omega)) _) _) _) _)
  have g11 : ∀ o1 o2 o3 o4, ((((w.alloc o1).alloc o2).alloc o3).alloc o4).cell? ⟨11, 0, none⟩ = some (.iface 223 (.pointer (some (A 11)))) := fun _ _ _ _ => (cell_alloc (cell_alloc (cell_alloc (cell_alloc (hS.cell 11 (by omega)) _) _) _) _)
  have hg := hS.handle
  have hz : 12 < w.heap.size := by have := hS.gl; have := hS.size; omega
  have HA : Hid (w.heap[a.block]? = some (.cells ca ta (0, 0))) := ha0
  clear ha0
  go_enter Tryz.func18, Tryz.ntmps18
  go_wp2_with (go_at_call 36; refine (as_miss _ _ _ (cell_alloc hg _)).mono ?_; rintro e w' ⟨rfl, rfl⟩)
  go_loopw [3, 30] (fun a i wr => ∃ m : Nat, m ≤ 12 ∧ i = .int .i64 m ∧ a = .int .i64 (-1) ∧ (∀ j, j < 12 → wr.cell? ⟨w.heap.size + 1 + 1 + 1 + 1, j, none⟩ = some (.iface 223 (.pointer (some (A j))))) ∧ Sents A B wr ∧ Below w.heap.size w wr) (fun _ i _ => 12 - (intOf i).toNat)
  case atStart =>
    refine ⟨0, Nat.zero_le _, rfl, rfl, fun j hj => ?_, ?_, ?_⟩
    · exact twelve_cell A _ _ j (by simp) hj
    · refine hS.below ?_
      refine Below.mono ?_ hS.size
      go_grown
    · go_grown
  case round =>
    obtain ⟨m, hm, rfl, rfl, hrow, hSr, hbl⟩ := hrel
    have HR : Hid (∀ j, j < 12 → wr.cell? ⟨w.heap.size + 1 + 1 + 1 + 1, j, none⟩ = some (.iface 223 (.pointer (some (A j))))) := hrow
    by_cases h12 : m < 12
    · have hc := hrow m h12
      clear hrow g0 g1 g2 g3 g4 g5 g6 g7 g8 g9 g10 g11 hg
      obtain ⟨cb, tb, hb⟩ := hSr.row m h12
      have ha : wr.heap[a.block]? = some (.cells ca ta (0, 0)) := by rw [hbl.block _ hal]; exact HA.out
      go_wp2_with (go_at_call 37; refine (is_other _ _ _ _ _ _ _ (hne m h12) ha hb).mono ?_; rintro e w' ⟨rfl, rfl⟩)
      go_roundw
      case rel => exact ⟨m + 1, by omega, by go_num, rfl, HR.out, hSr, hbl⟩
      case measure => simp [intOf]; omega
    · clear hrow g0 g1 g2 g3 g4 g5 g6 g7 g8 g9 g10 g11 hg
      obtain rfl : m = 12 := by omega
      go_wp2
      go_ret2
      exact ⟨rfl, hbl⟩
set_option maxHeartbeats 4000000 in
theorem code_fault (A : Nat → Addr) (B : Nat) (w : World) (k : Nat) (pb : Nat) (n : Int) (hS : Sents A B w) (hk : k < 12) (c0 : w.cell? ⟨pb, 0, none⟩ = some (.int .i64 n)) (c1 : w.cell? ⟨pb, 0 + 1, none⟩ = some (.iface 223 (.pointer (some (A k))))) :
    Calls Tryz.prog 18 #[.iface 81 (.pointer (some ⟨pb, 0, none⟩))] w fun e w' => e = .returned (.tuple #[.int .i64 (k + 1), .int .i64 n]) ∧ Below w.heap.size w w' := by
  have hpl : pb < w.heap.size := lt_of_cell c0
  have g0 : ∀ o1 o2 o3 o4 o5, (((((w.alloc o1).alloc o2).alloc o3).alloc o4).alloc o5).cell? ⟨1, 0, none⟩ = some (.iface 223 (.pointer (some (A 0)))) := fun _ _ _ _ _ => (cell_alloc (cell_alloc (cell_alloc (cell_alloc (cell_alloc (hS.cell 0 (by omega)) _) _) _) _) _)
  have g1 : ∀ o1 o2 o3 o4 o5, (((((w.alloc o1).alloc o2).alloc o3).alloc o4).alloc o5).cell? ⟨0, 0, none⟩ = some (.iface 223 (.pointer (some (A 1)))) := fun _ _ _ _ _ => (cell_alloc (cell_alloc (cell_alloc (cell_alloc (cell_alloc (hS.cell 1 (by omega)) _) _) _) _) _)
  have g2 : ∀ o1 o2 o3 o4 o5, (((((w.alloc o1).alloc o2).alloc o3).alloc o4).alloc o5).cell? ⟨2, 0, none⟩ = some (.iface 223 (.pointer (some (A 2)))) := fun _ _ _ _ _ => (cell_alloc (cell_alloc (cell_alloc (cell_alloc (cell_alloc (hS.cell 2 (by omega)) _) _) _) _) _)
  have g3 : ∀ o1 o2 o3 o4 o5, (((((w.alloc o1).alloc o2).alloc o3).alloc o4).alloc o5).cell? ⟨3, 0, none⟩ = some (.iface 223 (.pointer (some (A 3)))) := fun _ _ _ _ _ => (cell_alloc (cell_alloc (cell_alloc (cell_alloc (cell_alloc (hS.cell 3 (by omega)) _) _) _) _) _)
  have g4 : ∀ o1 o2 o3 o4 o5, (((((w.alloc o1).alloc o2).alloc o3).alloc o4).alloc o5).cell? ⟨4, 0, none⟩ = some (.iface 223 (.pointer (some (A 4)))) := fun _ _ _ _ _ => (cell_alloc (cell_alloc (cell_alloc (cell_alloc (cell_alloc (hS.cell 4 (by omega)) _) _) _) _) _)
  have g5 : ∀ o1 o2 o3 o4 o5, (((((w.alloc o1).alloc o2).alloc o3).alloc o4).alloc o5).cell? ⟨5, 0, none⟩ = some (.iface 223 (.pointer (some (A 5)))) := fun _ _ _ _ _ => (cell_alloc (cell_alloc (cell_alloc (cell_alloc (cell_alloc (hS.cell 5 (by omega)) _) _) _) _) _)
  have g6 : ∀ o1 o2 o3 o4 o5, (((((w.alloc o1).alloc o2).alloc o3).alloc o4).alloc o5).cell? ⟨6, 0, none⟩ = some (.iface 223 (.pointer (some (A 6)))) := fun _ _ _ _ _ => (cell_alloc (cell_alloc (cell_alloc (cell_alloc (cell_alloc (hS.cell 6 (by omega)) _) _) _) _) _)
  have g7 : ∀ o1 o2 o3 o4 o5, (((((w.alloc o1).alloc o2).alloc o3).alloc o4).alloc o5).cell? ⟨7, 0, none⟩ = some (.iface 223 (.pointer (some (A 7)))) := fun _ _ _ _ _ => (cell_alloc (cell_alloc (cell_alloc (cell_alloc (cell_alloc (hS.cell 7 (by omega)) _) _) _) _) _)
  have g8 : ∀ o1 o2 o3 o4 o5, (((((w.alloc o1).alloc o2).alloc o3).alloc o4).alloc o5).cell? ⟨8, 0, none⟩ = some (.iface 223 (.pointer (some (A 8)))) := fun _ _ _ _ _ => (cell_alloc (cell_alloc (cell_alloc (cell_alloc (cell_alloc (hS.cell 8 (by omega)) _) _) _) _) _)
  have g9 : ∀ o1 o2 o3 o4 o5, (((((w.alloc o1).alloc o2).alloc o3).alloc o4).alloc o5).cell? ⟨9, 0, none⟩ = some (.iface 223 (.pointer (some (A 9)))) := fun _ _ _ _ _ => (cell_alloc (cell_alloc (cell_alloc (cell_alloc (cell_alloc (hS.cell 9 (by omega)) _) _) _) _) _)
  have g10 : ∀ o1 o2 o3 o4 o5, (((((w.alloc o1).alloc o2).alloc o3).alloc o4).alloc o5).cell? ⟨10, 0, none⟩ = some (.iface 223 (.pointer (some (A 10)))) := fun _ _ _ _ _ => (cell_alloc (cell_alloc (cell_alloc (cell_alloc (cell_alloc (hS.cell 10 (by omega)) _) _) _) _) _)
  have g11 : ∀ o1 o2 o3 o4 o5, (((((w.alloc o1).alloc o2).alloc o3).alloc o4).alloc o5).cell? ⟨11, 0, none⟩ = some (.iface 223 (.pointer (some (A 11)))) := fun _ _ _ _ _ => (cell_alloc (cell_alloc (cell_alloc (cell_alloc (cell_alloc (hS.cell 11 (by omega)) _) _) _) _) _)
  have f0 : ∀ o1 o2 o3 o4 o5, (((((w.alloc o1).alloc o2).alloc o3).alloc o4).alloc o5).cell? ⟨pb, 0, none⟩ = some (.int .i64 n) := fun _ _ _ _ _ => (cell_alloc (cell_alloc (cell_alloc (cell_alloc (cell_alloc c0 _) _) _) _) _)
  have hg := hS.handle
  have hz : 12 < w.heap.size := by have := hS.gl; have := hS.size; omega
  have HC : Hid (w.cell? ⟨pb, 0 + 1, none⟩ = some (.iface 223 (.pointer (some (A k))))) := c1
  clear c0 c1
  go_enter Tryz.func18, Tryz.ntmps18
  go_wp2_with (go_at_call 36; refine (as_hit _ _ (.pointer none) _ (cell_alloc hg _) (by simp) (by simp)).mono ?_; rintro e w' ⟨rfl, rfl⟩)
  go_loopw [3, 30] (fun a i wr => ∃ m : Nat, m ≤ k ∧ i = .int .i64 m ∧ a = .int .i64 n ∧ (∀ j, j < 12 → wr.cell? ⟨w.heap.size + 1 + 1 + 1 + 1 + 1, j, none⟩ = some (.iface 223 (.pointer (some (A j))))) ∧ Sents A B wr ∧ Below w.heap.size w wr) (fun _ i _ => 12 - (intOf i).toNat)
  case atStart =>
    refine ⟨0, Nat.zero_le _, rfl, rfl, fun j hj => ?_, ?_, ?_⟩
    · exact twelve_cell A _ _ j (by simp) hj
    · refine hS.below ?_
      refine Below.mono ?_ hS.size
      go_grown
    · go_grown
  case round =>
    obtain ⟨m, hm, rfl, rfl, hrow, hSr, hbl⟩ := hrel
    have hc := hrow m (by omega)
    have h12 : m < 12 := by omega
    have HR : Hid (∀ j, j < 12 → wr.cell? ⟨w.heap.size + 1 + 1 + 1 + 1 + 1, j, none⟩ = some (.iface 223 (.pointer (some (A j))))) := hrow
    clear hrow g0 g1 g2 g3 g4 g5 g6 g7 g8 g9 g10 g11 hg f0
    have c1r : wr.cell? ⟨pb, 0 + 1, none⟩ = some (.iface 223 (.pointer (some (A k)))) := by rw [hbl.cell (p := ⟨pb, 0 + 1, none⟩) hpl]; exact HC.out
    have HC1 : Hid (wr.cell? ⟨pb, 0 + 1, none⟩ = some (.iface 223 (.pointer (some (A k))))) := c1r
    clear c1r
    by_cases e : m = k
    · subst e
      go_wp2_with (go_at_call 37; refine (is_fault_same _ _ _ _ HC1.out).mono ?_; rintro e w' ⟨rfl, rfl⟩)
      go_ret2
      exact ⟨rfl, hbl⟩
    · have hne : A k ≠ A m := hSr.ne k m hk (by omega) (Ne.symm e)
      obtain ⟨ca, ta, ha⟩ := hSr.row k hk
      obtain ⟨cb, tb, hb⟩ := hSr.row m (by omega)
      go_wp2_with (go_at_call 37; refine (is_fault_other _ _ _ _ _ _ _ _ _ HC1.out hne ha hb).mono ?_; rintro e w' ⟨rfl, rfl⟩)
      go_roundw
      case rel => exact ⟨m + 1, by omega, by go_num, rfl, HR.out, hSr, hbl⟩
      case measure => simp [intOf]; omega
/-! ### coded -/
end Go.Proofs.YtngjooemanapnaaGreatDoor
