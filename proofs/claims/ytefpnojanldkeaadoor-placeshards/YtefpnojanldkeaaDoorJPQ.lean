/- The document's answer's In, SameInts, Most, NewVersions; Base; filled; For the reference's OpsOf: rows of ops with their dots, parts of them, where an op goes in; VersionsActs: what stands between two acts; each call by what it leaves; The closed fact placed: a place of two tells what it commits; PlaceShards: Shard of what is no name, or no number of shards; the law's walk. -/
import Derived.Test.YtefpnojanldkeaaDoorJWPart
import Derived.Test.YtefpnojanldkeaaDoorJVOp2
import Derived.Test.YtefpnojanldkeaaDoorJVCmp
import Derived.Test.YtefpnojanldkeaaDoorJVOf
import Derived.Test.YtefpnojanldkeaaDoorJVOwnM
import Derived.Test.YtefpnojanldkeaaDoorJWPart2
import Derived.Test.YtefpnojanldkeaaDoorJWNew
import Derived.Test.YtefpnojanldkeaaDoorJVCom
import Derived.WalkSpells
import Derived.WalkLawsBesides
import Derived.Deep.RegionWith
import Derived.Laws.AppendOwnNone
import Derived.Test.YtefpnojanldkeaaDoorJVOfRE
import Derived.Test.YtefpnojanldkeaaDoorJWPut
import Derived.Test.YtefpnojanldkeaaDoorJSBeat
import Derived.Test.YtefpnojanldkeaaDoorJWPutN
import Derived.Test.YtefpnojanldkeaaDoorJQM3
import Derived.Test.YtefpnojanldkeaaDoorJVRefN
import Derived.Test.YtefpnojanldkeaaDoorJTC
import Derived.Deep.RegionHeldLaw
import Derived.Maps.RangeWalk
import Derived.Deep.RegionHeld
import Derived.Maps.AppendAt
import Derived.Deep.Slices
import Derived.Deep.Fields
import Derived.Test.YtefpnojanldkeaaDoorJPN
namespace Go.Proofs.YtefpnojanldkeaaDoor
open Go.RowKit
set_option maxRecDepth 100000
set_option linter.unusedSectionVars false
variable [Inhabited ComV] [DecidableEq D3] [Inhabited D3] [Inhabited Dn] [Inhabited OpV]

set_option maxHeartbeats 1000000 in
theorem sameInts_n (w : World) (b1 o1 c1 b2 o2 c2 n : Nat) (zs ys : List Int) (hz : zs.length = n) (hy : ys.length = n) (hl : n ≤ 1000000)
    (h1 : ∀ t, t < n → w.cell? ⟨b1, o1 + t, none⟩ = some (.int .i64 (zs.getD t 0)))
    (h2 : ∀ t, t < n → w.cell? ⟨b2, o2 + t, none⟩ = some (.int .i64 (ys.getD t 0))) :
    Calls Tryd.prog 11 #[.slice (some ⟨b1, o1, none⟩) n c1, .slice (some ⟨b2, o2, none⟩) n c2] w fun e w' => e = .returned (.bool (decide (zs = ys))) ∧ ∃ q, w' = w.drewN q := by
  have HZ : Hid (zs.length = n) := hz
  have HY : Hid (ys.length = n) := hy
  have H1 : Hid (∀ t, t < n → w.cell? ⟨b1, o1 + t, none⟩ = some (.int .i64 (zs.getD t 0))) := h1
  have H2 : Hid (∀ t, t < n → w.cell? ⟨b2, o2 + t, none⟩ = some (.int .i64 (ys.getD t 0))) := h2
  clear hz hy h1 h2
  go_enter Tryd.func11, Tryd.ntmps11
  go_wp2
  go_loopw [5] (fun i wr => ∃ k q : Nat, k ≤ n ∧ i = .int .i64 k ∧ (∀ t, t < k → zs.getD t 0 = ys.getD t 0) ∧ wr = w.drewN q) (fun i _ => n - (intOf i).toNat)
  case atStart => exact ⟨0, 0, Nat.zero_le _, rfl, fun t ht => absurd ht (Nat.not_lt_zero _), rfl⟩
  case round =>
    obtain ⟨k, q, hk, rfl, heq, rfl⟩ := hrel
    have HE : Hid (∀ t, t < k → zs.getD t 0 = ys.getD t 0) := heq
    clear heq
    by_cases hlt : k < n
    · have e1 := H1.out k hlt
      have e2 := H2.out k hlt
      by_cases hd : zs.getD k 0 = ys.getD k 0
      · have hb : (zs[k]?.getD 0 != ys[k]?.getD 0) = false := by simpa using hd
        have hi : (k : Int) < (n : Int) := by omega
        go_wp2
        go_quiet (fail)
        go_wp2
        go_roundw
        case rel => exact ⟨k + 1, _, by omega, by go_num, fun t ht => by rcases Nat.lt_succ_iff_lt_or_eq.1 ht with h | rfl; exact HE.out t h; exact hd, rfl⟩
        case measure => simp [intOf]; omega
      · have hb : (zs[k]?.getD 0 != ys[k]?.getD 0) = true := by simpa using hd
        have hi : (k : Int) < (n : Int) := by omega
        go_wp2
        go_quiet (fail)
        go_wp2
        go_ret
        exact ⟨ret_bool (decide_eq_false (fun e => hd (by rw [e]))).symm, _, World.drewN_drewN _ _ _⟩
    · obtain rfl : k = n := by omega
      go_wp2
      go_ret
      exact ⟨ret_bool (decide_eq_true (getD_ext HZ.out HY.out HE.out)).symm, _, rfl⟩
theorem sameInts_ne (w : World) (a1 a2 : Option Addr) (c1 c2 n m : Nat) (hne : n ≠ m) :
    Calls Tryd.prog 11 #[.slice a1 n c1, .slice a2 m c2] w fun e w' => e = .returned (.bool false) ∧ w' = w := by
  have hb : ((n : Int) != (m : Int)) = true := by rw [bne_iff_ne]; omega
  go_enter Tryd.func11, Tryd.ntmps11
  go_wp2
  go_ret
  exact ⟨rfl, rfl⟩
theorem sameInts_nil (w : World) (a1 a2 : Option Addr) (c1 c2 : Nat) :
    Calls Tryd.prog 11 #[.slice a1 0 c1, .slice a2 0 c2] w fun e w' => e = .returned (.bool true) ∧ w' = w := by
  go_enter Tryd.func11, Tryd.ntmps11
  go_wp2
  refine wp_loop_rounds 1 ?_
  rw [rounds_succ]
  go_wp2
  go_ret
  exact ⟨rfl, rfl⟩
/-- SameInts, at any two slices. -/
theorem sameInts (w : World) (v1 v2 : Value) (zs ys : List Int) (h1 : IntsAt w v1 zs) (h2 : IntsAt w v2 ys) (hl : zs.length ≤ 1000000) :
    Calls Tryd.prog 11 #[v1, v2] w fun e w' => e = .returned (.bool (decide (zs = ys))) ∧ ∃ q, w' = w.drewN q := by
  obtain ⟨a1, c1, rfl, _, h1⟩ := h1
  obtain ⟨a2, c2, rfl, _, h2⟩ := h2
  by_cases hn : zs.length = ys.length
  · rcases h1 with rfl | ⟨b1, o1, rfl, h1⟩
    · obtain rfl : ys = [] := List.eq_nil_of_length_eq_zero hn.symm
      refine (sameInts_nil w a1 a2 c1 c2).mono ?_
      rintro e w' ⟨rfl, rfl⟩
      exact ⟨rfl, 0, rfl⟩
    · rcases h2 with rfl | ⟨b2, o2, rfl, h2⟩
      · obtain rfl : zs = [] := List.eq_nil_of_length_eq_zero hn
        refine (sameInts_nil w _ a2 c1 c2).mono ?_
        rintro e w' ⟨rfl, rfl⟩
        exact ⟨rfl, 0, rfl⟩
      · have h := sameInts_n w b1 o1 c1 b2 o2 c2 zs.length zs ys rfl hn.symm hl h1 (fun t ht => h2 t (by omega))
        rw [hn] at h
        rw [hn]
        exact h
  · refine (sameInts_ne w a1 a2 c1 c2 _ _ hn).mono ?_
    rintro e w' ⟨rfl, rfl⟩
    exact ⟨ret_bool (decide_eq_false (fun e => hn (by rw [e]))).symm, 0, rfl⟩
end Go.Proofs.YtefpnojanldkeaaDoor
namespace Go.Proofs.YtefpnojanldkeaaDoor
open Go.RowKit Go.Sort Go.Maps
set_option maxRecDepth 100000
set_option linter.unusedSectionVars false
variable [Inhabited ComV] [DecidableEq D3] [Inhabited D3] [Inhabited Dn] [Inhabited OpV]

theorem owns_base {w : World} {B B' e size n : Nat} {v : Value} {xs : List Value} (h : w.ownsRow B e size v n xs) (hB : B' ≤ B) : w.ownsRow B' e size v n xs := by
  obtain ⟨h1, h2⟩ := h
  refine ⟨h1, ?_⟩
  rcases h2 with h2 | ⟨g, cap, cur, e1, e2, e3⟩
  · exact .inl h2
  · exact .inr ⟨g, cap, cur, e1, Nat.le_trans hB e2, e3⟩
end Go.Proofs.YtefpnojanldkeaaDoor
namespace Go.Proofs.YtefpnojanldkeaaDoor
open Go.RowKit Go.Sort Go.Maps
set_option maxRecDepth 100000
set_option linter.unusedSectionVars false
variable [Inhabited ComV] [DecidableEq D3] [Inhabited D3] [Inhabited Dn] [Inhabited OpV]

theorem sameInts_same (w : World) (v v' : Value) (zs : List Int) (h : IntsAt w v zs) (h' : IntsAt w v' zs) (hl : zs.length ≤ 1000000) : Calls Tryd.prog 11 #[v, v'] w fun e w' => e = .returned (.bool true) ∧ Below w.heap.size w w' := by
  refine (sameInts w v v' zs zs h h' hl).mono ?_
  rintro e w' ⟨rfl, q, rfl⟩
  exact ⟨by simp, below_draws (Below.refl _ _) q⟩
end Go.Proofs.YtefpnojanldkeaaDoor
namespace Go.Proofs.YtefpnojanldkeaaDoor
open Go.RowKit Go.Maps
set_option maxRecDepth 100000
set_option linter.unusedSectionVars false
variable [Inhabited ComV] [DecidableEq D3] [Inhabited D3] [Inhabited Dn] [Inhabited OpV]

theorem ints_two {W : World} {b c : Nat} {x y : Int} (h : W.heap[b]? = some (.cells #[.int .i64 x, .int .i64 y] 3 (0, 0))) : IntsAt W (.slice (some ⟨b, 0, none⟩) 2 c) [x, y] := by
  refine ⟨_, _, rfl, by simp, .inr ⟨_, _, rfl, fun t ht => ?_⟩⟩
  have : t = 0 ∨ t = 1 := by simp at ht; omega
  rcases this with rfl | rfl
  · exact (cell_of h).trans rfl
  · exact (cell_of h).trans rfl
theorem Sents.whole {A : Nat → Addr} {B : Nat} {w : World} (h : Sents A B w) : Sents A w.heap.size w :=
  ⟨Nat.le_trans h.gl h.size, Nat.le_refl _, h.cell, h.row, fun k hk => Nat.lt_of_lt_of_le (h.lt k hk) h.size, h.ne, h.handle⟩
set_option maxHeartbeats 8000000 in
theorem placed_ok (A : Nat → Addr) (B : Nat) (w : World) (hS : Sents A B w) (hE : E4 A w) :
    Calls Tryd.prog 4 #[] w fun e w' => e = .returned (.bool true) ∧ Below w.heap.size w w' := by
  have h12 : 12 ≤ w.heap.size := Nat.le_trans (by decide) (Nat.le_trans hS.gl hS.size)
  have K9 := hid (fun W => new_two W)
  have HS := hid hS
  have HE := hid hE
  clear hS hE
  go_enter Tryd.func4, Tryd.ntmps4
  go_wp2_with fail
  refine (K9.out w).mono ?_
  rintro e w1 ⟨pb, p, mb, db, lb, b, g, gr, gm, rfl, hP, hV, hb1, hq1, hq2, hq3, hq4, hq5, hq6⟩
  have HP := hid hP
  have HV := hid hV
  have B1 := hid hb1
  have HQ : Hid (w.heap.size ≤ pb ∧ w.heap.size ≤ mb ∧ w.heap.size ≤ db ∧ w.heap.size ≤ g ∧ gm ≠ mb ∧ gm ≠ db) := (show _ ∧ _ from ⟨hq1, hq2, hq3, hq4, hq5, hq6⟩)
  clear hP hV hb1 hq1 hq2 hq3 hq4 hq5 hq6
  go_wp2_with fail
  obtain ⟨w2, hw2⟩ : ∃ w2, w2 = (w1.alloc (.cells #[.int .i64 0, .int .i64 0] 3)).alloc (.cells #[.int .i64 0, .string ⟨#[107]⟩, .int .i64 2, .string ⟨#[]⟩, .int .i64 5, .bool false, .slice none 0 0] 43) := ⟨_, rfl⟩
  have hb2 : Below w1.heap.size w1 w2 := by rw [hw2]; exact below2 _ _ _
  have g1 : w2.heap[w1.heap.size]? = some (.cells #[.int .i64 0, .int .i64 0] 3 (0, 0)) := by rw [hw2]; exact heap_old (heap_new _ _) _
  have g2 : w2.heap[w1.heap.size + 1]? = some (.cells opK.toArray 43 (0, 0)) := by rw [hw2]; exact heap_new2 _ _ _
  have B2 : Hid (Below w.heap.size w w2) := (show Below _ _ _ from B1.out.trans (hb2.mono B1.out.size))
  have K10 := hid (commit_two A w.heap.size w2 (HS.out.whole.below B2.out) (HE.out.below B2.out h12) (Nat.le_trans h12 B2.out.size) (HP.out.moved hb2) (HV.out.moved hb2) HQ.out.2.2.2.2.1 HQ.out.2.2.2.2.2 ⟨HQ.out.1, HQ.out.2.1, HQ.out.2.2.1, HQ.out.2.2.2.1⟩ w1.heap.size (w1.heap.size + 1) 2 1 g1 g2)
  rw [← hw2]
  clear hw2 hb2 g1 g2
  refine K10.out.mono ?_
  rintro e w3 ⟨a3, a4, c3, c4, v, r, rfl, hr3, hx3, hi3, ⟨cs, hc3, hk3⟩, hb3⟩
  obtain ⟨a5, c5, hv5⟩ := row_shape hr3
  subst hv5
  obtain ⟨b5, cs5, ha5, _, h5, ht5, hz5⟩ := owns_cells hr3 (by decide)
  subst ha5
  have x1 : cs5[1]? = some (.int .i64 1) := by
    have e : (cs5.toList.take (1 * 9))[1]? = some (.int .i64 1) := by rw [ht5]; simp [Raw.cells, hx3]
    rw [List.getElem?_take, if_pos (by omega), Array.getElem?_toList] at e
    exact e
  have m1 : w3.cell? ⟨b5, 1, none⟩ = some (.int .i64 1) := (cell_of h5).trans x1
  have K12 := hid (fun W (hW : W.heap[pb]? = some (.cells cs 60 (0, 0))) => clock_ok W hW hk3)
  have K11 := hid (fun W (v' : Value) (h1 : IntsAt W (.slice a3 2 c3) [1, 0]) (h2 : IntsAt W v' [1, 0]) => sameInts_same W _ _ [1, 0] h1 h2 (by decide))
  have B3 : Hid (Below w.heap.size w w3) := (show Below _ _ _ from B2.out.trans hb3)
  have HI3 := hid hi3
  have HC3 := hid hc3
  clear hr3 hx3 hi3 hc3 hk3 hb3 h5 ht5 hz5 x1
  obtain ⟨w4, hw4⟩ : ∃ w4, w4 = w3.alloc (.cells #[.slice a3 2 c3, .int .i64 0, .slice a4 1 c4] 37) := ⟨_, rfl⟩
  have hb4 : Below w3.heap.size w3 w4 := by rw [hw4]; exact below_alloc _ _
  have n1 : w4.cell? ⟨b5, 1, none⟩ = some (.int .i64 1) := (hb4.cell (p := ⟨b5, 1, none⟩) (lt_of_cell m1)).trans m1
  have n2 : w4.cell? ⟨w3.heap.size, 0, none⟩ = some (.slice a3 2 c3) := by rw [hw4]; exact (cell_of (heap_new _ _)).trans rfl
  have B4 : Hid (Below w.heap.size w w4) := (show Below _ _ _ from B3.out.trans (hb4.mono B3.out.size))
  have HI4 := hid (HI3.out.mono hb4 (Nat.le_refl _))
  have HC4 := hid ((hb4.block _ (lt_of_heap HC3.out)).trans HC3.out)
  clear hb4 m1
  go_upto_region 5 with (fail)
  rw [← hw4]
  clear hw4
  go_wp2_with (first | (go_at_call 11; refine (K11.out _ _ ?h1 ?h2).mono ?_; (case h1 => first | exact HI4.out.mono (below_alloc w4 _).drew (Nat.le_refl _) | exact HI4.out.mono (below_alloc w4 _) (Nat.le_refl _)); (case h2 => exact ints_two (heap_new _ _)); rintro e w5 ⟨rfl, hb5⟩; have hb5' : Below w4.heap.size w4 w5 := (by first | exact (below_draws (below_alloc w4 _) 1).trans (hb5.mono (by show w4.heap.size ≤ (w4.alloc _).heap.size; simp)) | exact (below_alloc w4 _).trans (hb5.mono (by show w4.heap.size ≤ (w4.alloc _).heap.size; simp))); have t1 := (hb5'.cell (p := ⟨b5, 1, none⟩) (lt_of_cell n1)).trans n1; have t2 := (hb5'.cell (p := ⟨w3.heap.size, 0, none⟩) (lt_of_cell n2)).trans n2; have HB5 := hid hb5'; clear hb5 hb5') | (go_at_call 12; refine (K12.out _ ((HB5.out.block _ (lt_of_heap HC4.out)).trans HC4.out)).mono ?_; rintro e w6 ⟨rfl, hw6⟩; rw [hw6]; clear hw6))
  have B5 : Hid (Below w.heap.size w w5) := (show Below _ _ _ from B4.out.trans (HB5.out.mono B4.out.size))
  go_ret
  exact ⟨rfl, B5.out⟩
end Go.Proofs.YtefpnojanldkeaaDoor
namespace Go.Proofs.YtefpnojanldkeaaDoor
open Go.RowKit Go.Maps
set_option maxRecDepth 100000
set_option linter.unusedSectionVars false
variable [Inhabited ComV] [DecidableEq D3] [Inhabited D3] [Inhabited Dn] [Inhabited OpV]

theorem Sents.e4 {A : Nat → Addr} {B : Nat} {w : World} (h : Sents A B w) : E4 A w := ⟨h.cell 1 (by decide), h.cell 2 (by decide), h.cell 3 (by decide), h.cell 11 (by decide)⟩
theorem Sents.e5 {A : Nat → Addr} {B : Nat} {w : World} (h : Sents A B w) : E5 A w := ⟨h.e4, h.handle⟩
/-- No name. -/
theorem Shard_name (A : Nat → Addr) (B : Nat) (w : World) (hS : Sents A B w) (s : ByteArray) (hn : nameB s = false) (k : Int) : Calls Tryd.prog 5 #[.string s, .int .i64 k] w fun e w' => e = .returned (.tuple #[.int .i64 0, .iface 162 (.pointer (some (A 3)))]) ∧ w' = w := by
  have K13 := hid (checkName_bad A w hS.e5 s hn)
  clear hS
  go_enter Tryd.func5, Tryd.ntmps5
  go_wp2_with (go_at_call 13; refine K13.out.mono ?_; rintro e w' ⟨rfl, hw'⟩; rw [hw']; clear hw')
  go_ret2
  exact ⟨rfl, rfl⟩
/-- No number of shards. -/
theorem Shard_bound (A : Nat → Addr) (B : Nat) (w : World) (hS : Sents A B w) (s : ByteArray) (hn : nameB s = true) (k : Int) (hk : shB k = false) : Calls Tryd.prog 5 #[.string s, .int .i64 k] w fun e w' => e = .returned (.tuple #[.int .i64 0, .iface 162 (.pointer (some (A 1)))]) ∧ Below w.heap.size w w' := by
  have K13 := hid (checkName_ok w s hn)
  have K14 := hid (isShards_any k w)
  rw [hk] at K14
  have q : w.cell? ⟨0, 0, none⟩ = some (.iface 162 (.pointer (some (A 1)))) := hS.cell 1 (by decide)
  clear hS hk
  go_enter Tryd.func5, Tryd.ntmps5
  go_wp2_with (first | (go_at_call 13; refine K13.out.mono ?_; rintro e w' ⟨rfl, hw'⟩; rw [hw']; clear hw') | (go_at_call 14; refine K14.out.mono ?_; rintro e w' ⟨rfl, hw'⟩; rw [hw']; clear hw'))
  go_region_held (fun u => u.cell? ⟨0, 0, none⟩ = some (.iface 162 (.pointer (some (A 1))))) (go_keep) (fail)
  go_wp2
  go_ret2
  exact ⟨rfl, (Below.refl _ _).drew⟩
/-- The law: whatever key, whatever number. -/
theorem shards_walk (A : Nat → Addr) (B : Nat) (w : World) (hS : Sents A B w) (s : ByteArray) (k : Int) : Calls Tryd.prog 3 #[.string s, .int .i64 k] w fun e w' => e = .returned (.bool true) ∧ Below w.heap.size w w' := by
  have K4 := hid (placed_ok A B w hS hS.e4)
  have HS := hid hS.whole
  clear hS
  rcases Nat.lt_or_ge 200 s.size with hs | hs
  · go_enter Tryd.func3, Tryd.ntmps3
    go_wp2_with (go_at_call 4; refine K4.out.mono ?_; rintro e w1 ⟨rfl, hb1⟩; have B1 := hid hb1; clear hb1)
    go_ret
    exact ⟨rfl, B1.out⟩
  · have K6 := hid (fun W => rIsName W s)
    cases hn : nameB s with
    | false =>
      rw [hn] at K6
      have K5 := hid (fun W (hW : Sents A w.heap.size W) => Shard_name A _ W hW s hn k)
      have K7 := hid (fun W (hW : Sents A w.heap.size W) => coded_sentS A _ W 3 4 hW (by decide) (by decide))
      clear hn
      go_enter Tryd.func3, Tryd.ntmps3
      go_wp2_with (first | (go_at_call 4; refine K4.out.mono ?_; rintro e w1 ⟨rfl, hb1⟩; have B1 := hid hb1; have S1 := hid (HS.out.below hb1); clear hb1) | (go_at_call 5; refine (K5.out _ S1.out).mono ?_; rintro e w2 ⟨rfl, hw2⟩; rw [hw2]; clear hw2) | (go_at_call 6; refine (K6.out _).mono ?_; rintro e w2 ⟨rfl, hw2⟩; rw [hw2]; clear hw2) | (go_at_call 7; refine (K7.out _ S1.out).mono ?_; rintro e w2 ⟨rfl, hb2⟩; have B2 := hid hb2; clear hb2))
      go_ret
      exact ⟨rfl, B1.out.trans (B2.out.mono B1.out.size)⟩
    | true =>
      rw [hn] at K6
      rcases Classical.em (1 ≤ k ∧ k ≤ 6) with ⟨h1, h6⟩ | hk
      · have K5 := hid (fun W => Shard_ok W s hs hn k h1 h6)
        have K8 := hid (fun W => ShardOf_ok W s hs k h1 h6)
        obtain ⟨z, hz⟩ : ∃ z : Int, z = (sumNX s.data.toList : Nat) % k := ⟨_, rfl⟩
        rw [← hz] at K5 K8
        clear hn hz
        go_enter Tryd.func3, Tryd.ntmps3
        go_wp2_with (first | (go_at_call 4; refine K4.out.mono ?_; rintro e w1 ⟨rfl, hb1⟩; have B1 := hid hb1; clear hb1) | (go_at_call 5; refine (K5.out _).mono ?_; rintro e w2 ⟨rfl, hw2⟩; rw [hw2]; clear hw2) | (go_at_call 6; refine (K6.out _).mono ?_; rintro e w2 ⟨rfl, hw2⟩; rw [hw2]; clear hw2) | (go_at_call 8; refine (K8.out _).mono ?_; rintro e w2 ⟨rfl, hw2⟩; rw [hw2]; clear hw2))
        go_ret
        exact ⟨rfl, B1.out⟩
      · have hkb : shB k = false := decide_eq_false hk
        have K5 := hid (fun W (hW : Sents A w.heap.size W) => Shard_bound A _ W hW s hn k hkb)
        have K7 := hid (fun W (hW : Sents A w.heap.size W) => coded_sentS A _ W 1 2 hW (by decide) (by decide))
        have hk' : k < 1 ∨ 6 < k := by omega
        clear hn hkb hk
        rcases hk' with h1 | h2
        · go_enter Tryd.func3, Tryd.ntmps3
          go_wp2_with (first | (go_at_call 4; refine K4.out.mono ?_; rintro e w1 ⟨rfl, hb1⟩; have B1 := hid hb1; have S1 := hid (HS.out.below hb1); clear hb1) | (go_at_call 5; refine (K5.out _ S1.out).mono ?_; rintro e w2 ⟨rfl, hb2⟩; have B2 := hid hb2; have S2 := hid (S1.out.below (hb2.mono B1.out.size)); clear hb2) | (go_at_call 6; refine (K6.out _).mono ?_; rintro e w2 ⟨rfl, hw2⟩; rw [hw2]; clear hw2) | (go_at_call 7; refine (K7.out _ S2.out).mono ?_; rintro e w3 ⟨rfl, hb3⟩; have B3 := hid hb3; clear hb3))
          go_ret
          exact ⟨rfl, B1.out.trans ((B2.out.trans (B3.out.mono B2.out.size)).mono B1.out.size)⟩
        · have h1 : 1 ≤ k := by omega
          go_enter Tryd.func3, Tryd.ntmps3
          go_wp2_with (first | (go_at_call 4; refine K4.out.mono ?_; rintro e w1 ⟨rfl, hb1⟩; have B1 := hid hb1; have S1 := hid (HS.out.below hb1); clear hb1) | (go_at_call 5; refine (K5.out _ S1.out).mono ?_; rintro e w2 ⟨rfl, hb2⟩; have B2 := hid hb2; have S2 := hid (S1.out.below (hb2.mono B1.out.size)); clear hb2) | (go_at_call 6; refine (K6.out _).mono ?_; rintro e w2 ⟨rfl, hw2⟩; rw [hw2]; clear hw2) | (go_at_call 7; refine (K7.out _ S2.out).mono ?_; rintro e w3 ⟨rfl, hb3⟩; have B3 := hid hb3; clear hb3))
          go_ret
          exact ⟨rfl, B1.out.trans ((B2.out.trans (B3.out.mono B2.out.size)).mono B1.out.size)⟩
end Go.Proofs.YtefpnojanldkeaaDoor
