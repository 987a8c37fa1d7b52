/- judge.Cuts and judge.Seen by their contracts; The reference: TwoError, In, SameInts. -/
import Derived.Test.YtngjooemanapnaaGreatDoorJJN4
import Derived.Test.YtngjooemanapnaaGreatDoorJVRefO
import Derived.Test.YtngjooemanapnaaGreatDoorJJD
namespace Go.Proofs.YtngjooemanapnaaGreatDoor
open Go.RowKit Go.Sort Go.Maps
set_option maxRecDepth 100000
set_option linter.unusedSectionVars false
variable [Inhabited ComV] [DecidableEq D3] [Inhabited D3] [Inhabited Dd] [Inhabited Dn] [Inhabited OpV]

def cutsE (l : List EvV) : Nat × Option Nat := if (cutE l).1 ≠ 0 then cutE l else if (cutR l).2 = true then (0, none) else (10, none)
def cutsT (l : List EvV) : List (List Nat) := if (cutsE l).1 = 0 then (cutR l).1 else []
def CuRet (A : Nat → Addr) (l : List EvV) (w : World) (r : Ending) (w' : World) : Prop := ∃ v x, r = .returned (.tuple #[v, x]) ∧ TssAt w' v (cutsT l) ∧ ErrAt A w' x (cutsE l) ∧ Below w.heap.size w w'
theorem like_new (w : World) (a : Option Addr) (n c : Nat) : Calls Tryz.prog 34 #[.slice a n c] w fun r w' => r = .returned (.func (.func 60) #[] #[.pointer (some ⟨w.heap.size, 0, none⟩)]) ∧ w' = w.alloc (.cells #[.slice a n c] 29) := by
  go_enter Tryz.func34, Tryz.ntmps34
  go_wp2
  go_ret
  exact ⟨rfl, rfl⟩
theorem passC (A : Nat → Addr) (B : Nat) (w : World) (hS : Sents A B w) (l : List EvV) (v : Value) (hv : EvsAt w v l) (hl : l.length ≤ 1000) (hf : ∀ e ∈ l, EvFit e) (w1 : World) (hw1 : w1 = w.alloc (.cells #[v] 29)) (c : Nat) (w2 : World) (hw2 : w2 = w1.alloc (.cells #[.func (.func 33) #[] #[], .func (.func 60) #[] #[.pointer (some ⟨w.heap.size, 0, none⟩)]] 62)) :
    Calls Tryz.prog 19 #[v, .slice (some ⟨w1.heap.size, 0, none⟩) 2 c] w2 fun r w' => ∃ x, r = .returned x ∧ ErrAt A w' x (cutE l) ∧ Below w.heap.size w w' := by
  have b01 : Below w.heap.size w w1 := by rw [hw1]; exact below_alloc _ _
  have b12 : Below w1.heap.size w1 w2 := by rw [hw2]; exact below_alloc _ _
  have hb2 : Below w.heap.size w w2 := b01.trans (b12.mono b01.size)
  have hx : w2.heap[w1.heap.size]? = some (.cells #[.func (.func 33) #[] #[], .func (.func 60) #[] #[.pointer (some ⟨w.heap.size, 0, none⟩)]] 62 (0, 0)) := by rw [hw2]; exact heap_new _ _
  have hy : w2.heap[w.heap.size]? = some (.cells #[v] 29 (0, 0)) := by rw [hw2]; exact heap_old (by rw [hw1]; exact heap_new _ _) _
  have e33 := enters_of Tryz.func33 (by kernel_rfl) rfl
  have e60 := enters_of Tryz.func60 (by kernel_rfl) rfl
  have hs12 : 12 ≤ w.heap.size := Nat.le_trans (by have := hS.gl; omega) hS.size
  have key := firstFault_any A w w2 l v hv hl w1.heap.size 2 c (fun | 0 => 33 | _ => 60) (fun | 0 => #[] | _ => #[.pointer (some ⟨w.heap.size, 0, none⟩)]) (vdC l) (fun _ _ W => Below w2.heap.size w2 W) (by omega)
    { below := fun h => hb2.trans (h.mono hb2.size)
      cells := fun {i k W} h j hj => by
        have hc := (h.block _ (lt_of_heap hx)).trans hx
        rcases (by omega : j = 0 ∨ j = 1) with rfl | rfl
        · exact (cell_of hc).trans rfl
        · exact (cell_of hc).trans rfl
      stay := fun h hb => h.trans (hb.mono h.size)
      next := fun _ h => h
      enters := fun k hk => by
        rcases (by omega : k = 0 ∨ k = 1) with rfl | rfl
        · exact e33
        · exact e60 }
    (fun i k W av rv wv ov hi' hk hI _ he hr => by
      have hbW : Below w.heap.size w W := hb2.trans (hI.mono hb2.size)
      have hfe := hf _ (getD_mem hi')
      have heW := EvAt.mono he hbW (Nat.le_refl _)
      have hrS : ∃ a n c, rv = .slice a n c := by obtain ⟨_, ⟨a, c, rfl, _⟩, _⟩ := hr; exact ⟨_, _, _, rfl⟩
      have hSW := hS.below (hbW.mono hS.size)
      have hsW : 12 ≤ W.heap.size := Nat.le_trans hs12 hbW.size
      rcases (by omega : k = 0 ∨ k = 1) with rfl | rfl
      · refine (pairV_any A W hSW.e4 hsW _ av rv wv ov heW hrS hfe.at_ hfe.com.1).mono ?_
        rintro r w' ⟨rfl, hb⟩
        exact ⟨rfl, hI.trans (hb.mono hI.size), above_of hb⟩
      · obtain ⟨ad, cap, rfl, _, _, hv'⟩ := hv.shape
        obtain ⟨b, off, rfl, hv2⟩ := hv'.resolve_left (fun h => by rw [h] at hi'; simp at hi')
        obtain ⟨av0, rv0, wv0, ov0, he0, _, hc0⟩ := hv2 0 (by omega)
        obtain ⟨aa0, ac0, _, _, _, _, rfl, _, _⟩ := evAt_shape he0
        have q0 := hc0 2 _ rfl
        have q1 : W.cell? ⟨b, off + 2, none⟩ = some (.slice aa0 (l.getD 0 ev0).at_.length ac0) := by
          have := q0
          rw [show off + 0 * 7 + 2 = off + 2 by omega] at this
          rw [hbW.cell (p := ⟨b, off + 2, none⟩) (lt_of_cell this)]
          exact this
        refine (like_any A W hSW.e4 w.heap.size b off l.length cap aa0 (l.getD 0 ev0).at_.length ac0 (by omega) ((cell_of ((hI.block _ (lt_of_heap hy)).trans hy)).trans rfl) q1 _ av rv wv ov heW hrS (hf _ (getD_mem (by omega))).at_).mono ?_
        rintro r w' ⟨rfl, hb⟩
        exact ⟨rfl, hI.trans (hb.mono hI.size), above_of hb⟩)
    (Below.refl _ _)
  refine key.mono ?_
  rintro r w' ⟨x, rfl, h1, h2, _⟩
  have e : (fun i => (scan (vdC l i) 2).1) = cutB l := funext fun i => vdC_scan l i
  rw [e] at h1
  exact ⟨x, rfl, h1, h2⟩
set_option maxHeartbeats 4000000 in
theorem cutsJ_any (A : Nat → Addr) (B : Nat) (w : World) (hS : Sents A B w) (l : List EvV) (v : Value) (hv : EvsAt w v l) (hl : l.length ≤ 1000) (hf : ∀ e ∈ l, EvFit e) : Calls Tryz.prog 14 #[v] w (CuRet A l w) := by
  have hs13 : 13 ≤ w.heap.size := Nat.le_trans hS.gl hS.size
  have P1 := fun w1 hw1 c w2 hw2 => hid (passC A B w hS l v hv hl hf w1 hw1 c w2 hw2)
  have KR := fun w3 (hb : Below w.heap.size w w3) => hid (rounds_any A w3 (hS.below (hb.mono hS.size)).e4 (by have := hb.size; omega) ((hS.below (hb.mono hS.size)).cell 9 (by decide)) l v (hv.mono hb (Nat.le_refl _)) hl hf)
  obtain ⟨va, vc, rfl, _⟩ := hv.shape
  have HB := hid (fun (h : (cutE l).1 = 0) => scan_bare h)
  obtain ⟨n, hn⟩ : ∃ n, n = l.length := ⟨_, rfl⟩
  rw [← hn] at P1 KR ⊢
  clear hS hv hf hl hn
  go_enter Tryz.func14, Tryz.ntmps14
  go_wp2_with fail
  with_reducible refine (like_new w va n vc).mono ?_
  rintro r w1 ⟨rfl, hw1⟩
  have K1 := fun c => hid ((P1 w1 hw1 c _ rfl).out)
  clear P1 hw1
  go_wp2_with fail
  with_reducible refine (K1 _).out.mono ?_
  rintro r w3 ⟨x, rfl, hx, hb3⟩
  clear K1
  rcases errAt_cases hx HB.out with ⟨h0, rfl⟩ | ⟨h0, t, a, rfl⟩
  · have KR' := hid ((KR w3 hb3).out)
    have B3 := hid hb3
    have HZ := ShutJ.mk h0
    clear hx hb3 KR h0
    go_wp2_with fail
    with_reducible refine KR'.out.mono ?_
    rintro r w4 ⟨hb4, hr⟩
    have B4 : Hid (Below w.heap.size w w4) := hid (B3.out.trans (hb4.mono B3.out.size))
    clear hb4 KR'
    rcases hr with ⟨h1, v, rfl, h2⟩ | ⟨h1, rfl⟩
    · have H1 := ShutJ.mk h1
      have H2 := hid h2
      clear h1 h2
      go_wp2
      go_ret2
      have e : cutsE l = (0, none) := by unfold cutsE; rw [if_neg (fun x => x HZ.out), if_pos H1.out]
      have e2 : cutsT l = (cutR l).1 := by unfold cutsT; rw [e, if_pos rfl]
      rw [CuRet, e, e2]
      exact ⟨v, _, rfl, H2.out, rfl, B4.out⟩
    · have H1 := ShutJ.mk h1
      clear h1
      go_wp2
      go_ret2
      have e : cutsE l = (10, none) := by unfold cutsE; rw [if_neg (fun x => x HZ.out), if_neg (by rw [H1.out]; decide)]
      have e2 : cutsT l = [] := by unfold cutsT; rw [e, if_neg (by decide)]
      rw [CuRet, e, e2]
      exact ⟨_, _, rfl, ⟨none, 0, rfl, .inl rfl⟩, rfl, B4.out⟩
  · have HX := hid hx
    have B3 := hid hb3
    have HZ := ShutJ.mk h0
    clear hx hb3 h0 KR
    go_wp2
    go_ret2
    have e : cutsE l = cutE l := by unfold cutsE; rw [if_pos HZ.out]
    have e2 : cutsT l = [] := by unfold cutsT; rw [e, if_neg HZ.out]
    rw [CuRet, e, e2]
    exact ⟨_, _, rfl, ⟨none, 0, rfl, .inl rfl⟩, HX.out, B3.out⟩
end Go.Proofs.YtngjooemanapnaaGreatDoor
namespace Go.Proofs.YtngjooemanapnaaGreatDoor
open Go.RowKit
set_option maxRecDepth 100000
set_option linter.unusedSectionVars false
variable [Inhabited ComV] [DecidableEq D3] [Inhabited D3] [Inhabited Dd] [Inhabited OpV]

theorem twoError (w : World) (v u : Value) (zs ys : List Int) (h1 : IntsAt w v zs) (h2 : IntsAt w u ys) (hl1 : zs.length ≤ 1000000) (hl2 : ys.length ≤ 1000000) :
    Calls Tryz.prog 12 #[v, u] w fun e w' => e = .returned (.int .i64 (two zs ys)) ∧ w' = w := by
  have k1 := vectorError w v zs h1 hl1
  have k2 := vectorError w u ys h2 hl2
  obtain ⟨a1, c1, rfl⟩ := h1.slice
  obtain ⟨a2, c2, rfl⟩ := h2.slice
  have K1 := hid k1
  have K2 := hid k2
  clear k1 k2
  by_cases hz : chk zs = 0
  · have hz' : (chk zs == 0) = true := by rw [hz]; rfl
    by_cases hy : chk ys = 0
    · have hy' : (chk ys == 0) = true := by rw [hy]; rfl
      by_cases hn : zs.length = ys.length
      · have hb : ((zs.length : Int) != (ys.length : Int)) = false := by rw [bne_eq_false_iff_eq]; omega
        have HT : Hid (two zs ys = 0) := two_zero.2 ⟨hz, hy, hn⟩
        have HY : Hid (chk ys = 0) := hy
        clear hz hy hn
        go_enter Tryz.func12, Tryz.ntmps12
        go_wp2_with fail
        refine K1.out.mono ?_
        rintro e w' ⟨rfl, rfl⟩
        go_wp2_with fail
        refine K2.out.mono ?_
        rintro e w' ⟨rfl, rfl⟩
        go_wp2
        go_ret
        exact ⟨ret_int (by rw [HT.out, HY.out]), rfl⟩
      · have hb : ((zs.length : Int) != (ys.length : Int)) = true := by rw [bne_iff_ne]; omega
        have HT : Hid (two zs ys = 3) := by show two zs ys = 3; unfold two; rw [if_neg (by simpa using hz), if_neg (by simpa using hy), if_pos hn]
        clear hz hy hn
        go_enter Tryz.func12, Tryz.ntmps12
        go_wp2_with fail
        refine K1.out.mono ?_
        rintro e w' ⟨rfl, rfl⟩
        go_wp2_with fail
        refine K2.out.mono ?_
        rintro e w' ⟨rfl, rfl⟩
        go_wp2
        go_ret
        exact ⟨ret_int HT.out.symm, rfl⟩
    · have hy' : (chk ys == 0) = false := by simpa using hy
      have HT : Hid (two zs ys = chk ys) := by show two zs ys = chk ys; unfold two; rw [if_neg (by simpa using hz), if_pos hy]
      clear hz hy
      go_enter Tryz.func12, Tryz.ntmps12
      go_wp2_with fail
      refine K1.out.mono ?_
      rintro e w' ⟨rfl, rfl⟩
      go_wp2_with fail
      refine K2.out.mono ?_
      rintro e w' ⟨rfl, rfl⟩
      go_wp2
      go_ret
      exact ⟨ret_int HT.out.symm, rfl⟩
  · have hz' : (chk zs == 0) = false := by simpa using hz
    have HT : Hid (two zs ys = chk zs) := by show two zs ys = chk zs; unfold two; rw [if_pos hz]
    clear hz
    go_enter Tryz.func12, Tryz.ntmps12
    go_wp2_with fail
    refine K1.out.mono ?_
    rintro e w' ⟨rfl, rfl⟩
    go_wp2
    go_ret
    exact ⟨ret_int HT.out.symm, rfl⟩

theorem in_n (w : World) (b1 o1 c1 b2 o2 c2 n : Nat) (zs ys : List Int) (hz : zs.length = n) (hy : ys.length = n) (hl : n ≤ 1000000)
    (h1 : ∀ t, t < n → w.cell? ⟨b1, o1 + t, none⟩ = some (.int .i64 (zs.getD t 0)))
    (h2 : ∀ t, t < n → w.cell? ⟨b2, o2 + t, none⟩ = some (.int .i64 (ys.getD t 0))) :
    Calls Tryz.prog 13 #[.slice (some ⟨b1, o1, none⟩) n c1, .slice (some ⟨b2, o2, none⟩) n c2] w fun e w' => e = .returned (.bool (leB zs ys)) ∧ ∃ q, w' = w.drewN q := by
  have HZ : Hid (zs.length = n) := hz
  have HY : Hid (ys.length = n) := hy
  have H1 := hid h1
  have H2 := hid h2
  clear hz hy h1 h2
  go_enter Tryz.func13, Tryz.ntmps13
  go_wp2
  go_loopw [5] (fun i wr => ∃ k q : Nat, k ≤ n ∧ i = .int .i64 k ∧ (∀ t, t < k → zs.getD t 0 ≤ ys.getD t 0) ∧ wr = w.drewN q) (fun i _ => n - (intOf i).toNat)
  case atStart => exact ⟨0, 0, Nat.zero_le _, rfl, fun t ht => absurd ht (Nat.not_lt_zero _), rfl⟩
  case round =>
    obtain ⟨k, q, hk, rfl, heq, hq⟩ := hrel
    have HE := hid heq
    have HQ := hid hq
    have e1' : k < n → wr.cell? ⟨b1, o1 + k, none⟩ = some (.int .i64 (zs.getD k 0)) := fun h => by rw [hq]; exact H1.out k h
    have e2' : k < n → wr.cell? ⟨b2, o2 + k, none⟩ = some (.int .i64 (ys.getD k 0)) := fun h => by rw [hq]; exact H2.out k h
    clear heq hq
    by_cases hlt : k < n
    · have e1 := e1' hlt
      have e2 := e2' hlt
      clear e1' e2'
      obtain ⟨x, hx⟩ : ∃ x, x = zs.getD k 0 := ⟨_, rfl⟩
      obtain ⟨y, hy⟩ : ∃ y, y = ys.getD k 0 := ⟨_, rfl⟩
      rw [← hx] at e1
      rw [← hy] at e2
      have HX := hid hx
      have HYY := hid hy
      have hi : (k : Int) < (n : Int) := by omega
      clear hx hy
      by_cases hd : x ≤ y
      · have hb : decide (y < x) = false := decide_eq_false (by omega)
        go_wp2
        go_quiet (fail)
        go_wp2
        go_roundw
        case rel =>
          refine ⟨k + 1, _, by omega, by go_num, fun t ht => ?_, draws2 HQ.out⟩
          rcases Nat.lt_succ_iff_lt_or_eq.1 ht with h | rfl
          · exact HE.out t h
          · rw [← HX.out, ← HYY.out]; exact hd
        case measure => simp [intOf]; omega
      · have hb : decide (y < x) = true := decide_eq_true (by omega)
        go_wp2
        go_quiet (fail)
        go_wp2
        go_ret
        refine ⟨ret_bool ?_, _, draws2 HQ.out⟩
        rw [eq_comm, Bool.eq_false_iff]
        intro h
        have := leB_iff.1 h k (by have := HZ.out; omega)
        rw [← HX.out, ← HYY.out] at this
        omega
    · obtain rfl : k = n := by omega
      go_wp2
      go_ret
      exact ⟨ret_bool (leB_iff.2 (fun i hi => HE.out i (by have := HZ.out; omega))).symm, _, HQ.out⟩
theorem in_any (w : World) (v u : Value) (zs ys : List Int) (h1 : IntsAt w v zs) (h2 : IntsAt w u ys) (hn : zs.length = ys.length) (h0 : 1 ≤ zs.length) (hl : zs.length ≤ 1000000) :
    Calls Tryz.prog 13 #[v, u] w fun e w' => e = .returned (.bool (leB zs ys)) ∧ ∃ q, w' = w.drewN q := by
  obtain ⟨a1, c1, rfl, _, h1⟩ := h1
  obtain ⟨a2, c2, rfl, _, h2⟩ := h2
  rcases h1 with rfl | ⟨b1, o1, rfl, h1⟩
  · simp at h0
  rcases h2 with rfl | ⟨b2, o2, rfl, h2⟩
  · rw [hn] at h0; simp at h0
  rw [← hn] at h2 ⊢
  exact in_n w b1 o1 c1 b2 o2 c2 zs.length zs ys rfl hn.symm hl h1 h2
theorem sameInts_n (w : World) (b1 o1 c1 b2 o2 c2 n : Nat) (zs ys : List Int) (hz : zs.length = n) (hy : ys.length = n) (hl : n ≤ 1000000)
    (h1 : ∀ t, t < n → w.cell? ⟨b1, o1 + t, none⟩ = some (.int .i64 (zs.getD t 0)))
    (h2 : ∀ t, t < n → w.cell? ⟨b2, o2 + t, none⟩ = some (.int .i64 (ys.getD t 0))) :
    Calls Tryz.prog 16 #[.slice (some ⟨b1, o1, none⟩) n c1, .slice (some ⟨b2, o2, none⟩) n c2] w fun e w' => e = .returned (.bool (decide (zs = ys))) ∧ ∃ q, w' = w.drewN q := by
  have HZ : Hid (zs.length = n) := hz
  have HY : Hid (ys.length = n) := hy
  have H1 : Hid (∀ t, t < n → w.cell? ⟨b1, o1 + t, none⟩ = some (.int .i64 (zs.getD t 0))) := h1
  have H2 : Hid (∀ t, t < n → w.cell? ⟨b2, o2 + t, none⟩ = some (.int .i64 (ys.getD t 0))) := h2
  clear hz hy h1 h2
  go_enter Tryz.func16, Tryz.ntmps16
  go_wp2
  go_loopw [5] (fun i wr => ∃ k q : Nat, k ≤ n ∧ i = .int .i64 k ∧ (∀ t, t < k → zs.getD t 0 = ys.getD t 0) ∧ wr = w.drewN q) (fun i _ => n - (intOf i).toNat)
  case atStart => exact ⟨0, 0, Nat.zero_le _, rfl, fun t ht => absurd ht (Nat.not_lt_zero _), rfl⟩
  case round =>
    obtain ⟨k, q, hk, rfl, heq, rfl⟩ := hrel
    have HE : Hid (∀ t, t < k → zs.getD t 0 = ys.getD t 0) := heq
    clear heq
    by_cases hlt : k < n
    · have e1 := H1.out k hlt
      have e2 := H2.out k hlt
      by_cases hd : zs.getD k 0 = ys.getD k 0
      · have hb : (zs[k]?.getD 0 != ys[k]?.getD 0) = false := by simpa using hd
        have hi : (k : Int) < (n : Int) := by omega
        go_wp2
        go_quiet (fail)
        go_wp2
        go_roundw
        case rel => exact ⟨k + 1, _, by omega, by go_num, fun t ht => by rcases Nat.lt_succ_iff_lt_or_eq.1 ht with h | rfl; exact HE.out t h; exact hd, rfl⟩
        case measure => simp [intOf]; omega
      · have hb : (zs[k]?.getD 0 != ys[k]?.getD 0) = true := by simpa using hd
        have hi : (k : Int) < (n : Int) := by omega
        go_wp2
        go_quiet (fail)
        go_wp2
        go_ret
        exact ⟨ret_bool (decide_eq_false (fun e => hd (by rw [e]))).symm, _, World.drewN_drewN _ _ _⟩
    · obtain rfl : k = n := by omega
      go_wp2
      go_ret
      exact ⟨ret_bool (decide_eq_true (getD_ext HZ.out HY.out HE.out)).symm, _, rfl⟩
theorem sameInts_ne (w : World) (a1 a2 : Option Addr) (c1 c2 n m : Nat) (hne : n ≠ m) :
    Calls Tryz.prog 16 #[.slice a1 n c1, .slice a2 m c2] w fun e w' => e = .returned (.bool false) ∧ w' = w := by
  have hb : ((n : Int) != (m : Int)) = true := by rw [bne_iff_ne]; omega
  go_enter Tryz.func16, Tryz.ntmps16
  go_wp2
  go_ret
  exact ⟨rfl, rfl⟩
theorem sameInts_nil (w : World) (a1 a2 : Option Addr) (c1 c2 : Nat) :
    Calls Tryz.prog 16 #[.slice a1 0 c1, .slice a2 0 c2] w fun e w' => e = .returned (.bool true) ∧ w' = w := by
  go_enter Tryz.func16, Tryz.ntmps16
  go_wp2
  refine wp_loop_rounds 1 ?_
  rw [rounds_succ]
  go_wp2
  go_ret
  exact ⟨rfl, rfl⟩
theorem sameInts (w : World) (v1 v2 : Value) (zs ys : List Int) (h1 : IntsAt w v1 zs) (h2 : IntsAt w v2 ys) (hl : zs.length ≤ 1000000) :
    Calls Tryz.prog 16 #[v1, v2] w fun e w' => e = .returned (.bool (decide (zs = ys))) ∧ ∃ q, w' = w.drewN q := by
  obtain ⟨a1, c1, rfl, _, h1⟩ := h1
  obtain ⟨a2, c2, rfl, _, h2⟩ := h2
  by_cases hn : zs.length = ys.length
  · rcases h1 with rfl | ⟨b1, o1, rfl, h1⟩
    · obtain rfl : ys = [] := List.eq_nil_of_length_eq_zero hn.symm
      refine (sameInts_nil w a1 a2 c1 c2).mono ?_
      rintro e w' ⟨rfl, rfl⟩
      exact ⟨rfl, 0, rfl⟩
    · rcases h2 with rfl | ⟨b2, o2, rfl, h2⟩
      · obtain rfl : zs = [] := List.eq_nil_of_length_eq_zero hn
        refine (sameInts_nil w _ a2 c1 c2).mono ?_
        rintro e w' ⟨rfl, rfl⟩
        exact ⟨rfl, 0, rfl⟩
      · have h := sameInts_n w b1 o1 c1 b2 o2 c2 zs.length zs ys rfl hn.symm hl h1 (fun t ht => h2 t (by omega))
        rw [hn] at h
        rw [hn]
        exact h
  · refine (sameInts_ne w a1 a2 c1 c2 _ _ hn).mono ?_
    rintro e w' ⟨rfl, rfl⟩
    exact ⟨ret_bool (decide_eq_false (fun e => hn (by rw [e]))).symm, 0, rfl⟩
end Go.Proofs.YtngjooemanapnaaGreatDoor
