/- A place's small functions: isShards, shardOf, Shard; the reference's ShardOf; A place of two, of one shard, is made; The snapshot of a place of two; checkAt. -/
import Derived.Test.YtefpnojanldkeaaDoorJXRSum
import Derived.Test.YtefpnojanldkeaaDoorJVOfRE
import Derived.Test.YtefpnojanldkeaaDoorJVOf
import Derived.Test.YtefpnojanldkeaaDoorJPC
import Derived.Deep.RegionHeld
import Derived.Test.YtefpnojanldkeaaDoorJVCmp
namespace Go.Proofs.YtefpnojanldkeaaDoor
open Go.RowKit
set_option maxRecDepth 100000
set_option linter.unusedSectionVars false
variable [Inhabited ComV] [DecidableEq D3] [Inhabited D3] [Inhabited Dn] [Inhabited OpV]

def shB (n : Int) : Bool := decide (1 ≤ n ∧ n ≤ 6)
theorem isShards_any (n : Int) (w : World) : Calls Tryd.prog 14 #[.int .i64 n] w fun e w' => e = .returned (.bool (shB n)) ∧ w' = w := by
  by_cases h1 : 1 ≤ n
  · by_cases h6 : n ≤ 6
    · have hb : shB n = true := decide_eq_true ⟨h1, h6⟩
      rw [hb]
      clear hb
      go_enter Tryd.func14, Tryd.ntmps14
      go_wp2
      go_ret
      exact ⟨rfl, rfl⟩
    · have hb : shB n = false := decide_eq_false fun h => h6 h.2
      rw [hb]
      clear hb
      go_enter Tryd.func14, Tryd.ntmps14
      go_wp2
      go_ret
      exact ⟨rfl, rfl⟩
  · have hb : shB n = false := decide_eq_false fun h => h1 h.1
    rw [hb]
    clear hb
    go_enter Tryd.func14, Tryd.ntmps14
    go_wp2
    go_ret
    exact ⟨rfl, rfl⟩
theorem shardOf_any (w : World) (l : List UInt8) (hl : l.length ≤ 7000) (k : Int) (h1 : 1 ≤ k) (h6 : k ≤ 6) :
    Calls Tryd.prog 15 #[.string ⟨l.toArray⟩, .int .i64 k] w fun e w' => e = .returned (.int .i64 ((sumNX l : Nat) % k)) ∧ w' = w := by
  have K := hid (remainder_any w l hl)
  have hlt : sumNX l < 4294967296 := Nat.xor_lt_two_pow (n := 32) (crcOf_lt l) (by decide)
  obtain ⟨n, hn⟩ : ∃ n : Nat, n = sumNX l := ⟨_, rfl⟩
  rw [← hn] at K hlt ⊢
  clear hn
  have e1 : k % 4294967296 = k := by omega
  have b1 : 0 ≤ (n : Int) % k := Int.emod_nonneg _ (by omega)
  have b2 : (n : Int) % k < 6 := Int.lt_of_lt_of_le (Int.emod_lt_of_pos _ (by omega)) h6
  go_enter Tryd.func15, Tryd.ntmps15
  go_wp2_with fail
  refine K.out.mono ?_
  rintro e w1 ⟨rfl, rfl⟩
  go_wp2
  go_ret
  exact ⟨rfl, rfl⟩
end Go.Proofs.YtefpnojanldkeaaDoor
namespace Go.Proofs.YtefpnojanldkeaaDoor
open Go.RowKit Go.Maps
set_option maxRecDepth 100000
set_option linter.unusedSectionVars false
variable [Inhabited ComV] [DecidableEq D3] [Inhabited D3] [Inhabited Dn] [Inhabited OpV]

/-- A place 0 of two, of one shard: its box, its lines, its one line. -/
structure PlA (w : World) (pb p lb b g gr gm : Nat) (ck : Int) : Prop where
  box : w.heap[pb]? = some (.cells #[.int .i64 0, .int .i64 1, .int .i64 ck, .pointer (some ⟨p, 0, none⟩), .slice (some ⟨lb, 0, none⟩) 2 2] 60 (0, 0))
  lines : w.heap[lb]? = some (.cells #[.slice none 0 0, .slice (some ⟨b, 0, none⟩) 1 1] 61 (0, 0))
  line : w.heap[b]? = some (.cells #[.pointer (some ⟨g, 0, none⟩), .pointer (some ⟨gr, 0, none⟩)] 87 (0, 0))
  snd : SndBox w g 0 1 0 0 0 (.slice none 0 0)
  rcv : RcvM w gr gm 0 1 0 0 0 0 (fun _ => none)
theorem PlA.moved {w w' : World} {pb p lb b g gr gm : Nat} {ck : Int} (h : PlA w pb p lb b g gr gm ck) (hb : Below w.heap.size w w') : PlA w' pb p lb b g gr gm ck :=
  ⟨(hb.block _ (lt_of_heap h.box)).trans h.box, (hb.block _ (lt_of_heap h.lines)).trans h.lines, (hb.block _ (lt_of_heap h.line)).trans h.line, (hb.block _ (lt_of_heap h.snd)).trans h.snd, h.rcv.moved (hb.block _ (lt_of_heap h.rcv.box)) (hb.block _ h.rcv.mlt)⟩
theorem mk58 (W : World) : (Instr.makeSlice 58 (.int .i64 2) (.int .i64 2)).run Tryd.prog W = .ok (.slice (some ⟨W.heap.size, 0, none⟩) 2 2) (W.alloc (.cells #[.slice none 0 0, .slice none 0 0] 61)) := by kernel_rfl
theorem isShards_one (w : World) : Calls Tryd.prog 14 #[.int .i64 1] w fun e w' => e = .returned (.bool true) ∧ w' = w := isShards_any 1 w
set_option maxHeartbeats 4000000 in
theorem new_two (w : World) : Calls Tryd.prog 9 #[.int .i64 0, .int .i64 2, .int .i64 1] w fun e w' => ∃ pb p mb db lb b g gr gm, e = .returned (.tuple #[.pointer (some ⟨pb, 0, none⟩), .nilIface]) ∧ PlA w' pb p lb b g gr gm 0 ∧ VerAt w' p mb db (fun _ => .slice none 0 0) ⟨[0, 0], [], []⟩ 0 ∧ Below w.heap.size w w' ∧ (w.heap.size ≤ pb ∧ w.heap.size ≤ mb ∧ w.heap.size ≤ db ∧ w.heap.size ≤ g ∧ gm ≠ mb ∧ gm ≠ db) := by
  have hmk := mk58
  go_enter Tryd.func9, Tryd.ntmps9
  go_wp2_with (go_at_call 14; refine (isShards_one _).mono ?_; rintro e w' ⟨rfl, hw'⟩; rw [hw']; clear hw')
  refine (known_ok w 2 (by decide) (by decide)).mono ?_
  rintro e w1 ⟨p, mb, db, rfl, hp, hm, hd, hV, hb1⟩
  obtain ⟨w2, hw2⟩ : ∃ w2, w2 = w1.alloc (.cells #[.pointer (some ⟨p, 0, none⟩)] 55) := ⟨_, rfl⟩
  have G2 : w2.heap[w1.heap.size]? = some (.cells #[.pointer (some ⟨p, 0, none⟩)] 55 (0, 0)) := by rw [hw2]; exact heap_new _ _
  have b2 : Below w1.heap.size w1 w2 := by rw [hw2]; exact below_alloc _ _
  have s2 : w2.heap.size = w1.heap.size + 1 := by rw [hw2]; simp
  have k0 : w2.cell? ⟨w1.heap.size, 0, none⟩ = some (.pointer (some ⟨p, 0, none⟩)) := (cell_of G2).trans rfl
  have V2 := hid (hV.moved b2)
  have B2 : Hid (Below w.heap.size w w2) := (show Below _ _ _ from hb1.trans (b2.mono hb1.size))
  have S2 := hid s2
  have B2s : Hid (w.heap.size ≤ w2.heap.size) := (show _ ≤ _ from B2.out.size)
  have HMD : Hid (w.heap.size ≤ mb ∧ w.heap.size ≤ db ∧ mb < w2.heap.size ∧ db < w2.heap.size) := (show _ ∧ _ from ⟨hm, hd, (by obtain ⟨D, q, _⟩ := V2.out.map; exact q.lt), (by obtain ⟨D, q, _⟩ := V2.out.dots; exact q.lt)⟩)
  clear G2 b2 s2 hV hb1 hp hm hd
  go_upto_region 4 with (fail)
  rw [← hw2]
  clear hw2
  go_upto_region 6 with (fail)
  go_region_held (fun u => u.cell? ⟨w1.heap.size, 0, none⟩ = some (.pointer (some ⟨p, 0, none⟩))) (go_keep) (fail)
  obtain ⟨L, hL⟩ : ∃ L, L = w2.heap.size := ⟨_, rfl⟩
  obtain ⟨w3, hw3⟩ : ∃ w3, w3 = ((w2.alloc (.cells #[.slice none 0 0, .slice none 0 0] 61)).alloc (.cells #[.int .i64 0, .int .i64 1, .int .i64 0, .pointer (some ⟨p, 0, none⟩), .slice (some ⟨w2.heap.size, 0, none⟩) 2 2] 60)).drew := ⟨_, rfl⟩
  have l3 : w3.heap[L]? = some (.cells #[.slice none 0 0, .slice none 0 0] 61 (0, 0)) := by rw [hw3, hL]; exact heap_old (heap_new _ _) _
  have p3 : w3.heap[L + 1]? = some (.cells #[.int .i64 0, .int .i64 1, .int .i64 0, .pointer (some ⟨p, 0, none⟩), .slice (some ⟨L, 0, none⟩) 2 2] 60 (0, 0)) := by rw [hw3, hL]; exact heap_new2 _ _ _
  have b3 : Below w2.heap.size w2 w3 := by rw [hw3]; exact (below2 _ _ _).drew
  have V3 := hid (V2.out.moved b3)
  have B3 : Hid (Below w.heap.size w w3) := (show Below _ _ _ from B2.out.trans (b3.mono B2.out.size))
  have L3 := hid l3
  have P3 := hid p3
  have s3 : Hid (L + 2 ≤ w3.heap.size) := (show _ ≤ _ from lt_of_heap p3)
  have c4 : w3.cell? ⟨L + 1, 4, none⟩ = some (.slice (some ⟨L, 0, none⟩) 2 2) := (cell_of p3).trans rfl
  have K19 := hid (fun u => newLines_one u 0 1 (by constructor <;> decide) (by constructor <;> decide))
  rw [← hw3, ← hL]
  have HL2 := hid hL
  clear hw3 hL l3 p3 b3 V2 B2 S2 k0 hmk
  go_wp2
  refine wp_loop_rounds 3 ?_
  rw [rounds_succ]
  go_wp2
  rw [rounds_succ]
  go_upto_region 11 with (fail)
  go_region_held (fun u => u.cell? ⟨L + 1, 4, none⟩ = some (.slice (some ⟨L, 0, none⟩) 2 2)) (go_keep) ((go_at_call 19; refine (K19.out _).mono ?_; rintro e w4 ⟨b, g, gr, gm, rfl, hb, hg, hgr, hgm, hl4, hS4, hR4, hb4⟩; have hb4' : Below w3.heap.size w3 w4 := (below_draws (Below.refl w3.heap.size w3) 1).trans hb4; have c4' := (hb4'.cell (lt_of_cell c4)).trans c4; have L4 := hid ((hb4'.block _ (lt_of_heap L3.out)).trans L3.out); have q1 : w4.cell? ⟨L, 1, none⟩ = some (.slice none 0 0) := (cell_of L4.out).trans rfl; have z1 : w4.frozen? ⟨L, 1, none⟩ = false := free_of L4.out; have P4 := hid ((hb4'.block _ (lt_of_heap P3.out)).trans P3.out); have V4 := hid (V3.out.moved hb4'); have B4 : Hid (Below w.heap.size w w4) := (show Below _ _ _ from B3.out.trans (hb4'.mono B3.out.size)); have HL4 := hid hl4; have HS4 := hid hS4; have HR4 := hid hR4; have HN : Hid (L + 2 ≤ b ∧ L + 2 ≤ g ∧ L + 2 ≤ gr ∧ L + 2 ≤ gm) := (show _ ∧ _ from by have := s3.out; have e : w3.drew.heap.size = w3.heap.size := rfl; omega); clear hb hg hgr hgm hl4 hS4 hR4 hb4 hb4'))
  obtain ⟨w5, hw5⟩ : ∃ w5, w5 = w4.setCell ⟨L, 1, none⟩ (.slice (some ⟨b, 0, none⟩) 1 1) := ⟨_, rfl⟩
  have ho : ∀ q, q ≠ L → w5.heap[q]? = w4.heap[q]? := fun q hq => by rw [hw5]; exact Below.heap_setCell _ _ _ _ hq
  have hN := HN.out
  have PL : Hid (PlA w5 (L + 1) p L b g gr gm 0) := (show PlA _ _ _ _ _ _ _ _ _ from ⟨(ho _ (by omega)).trans P4.out, by rw [hw5]; exact (heap_set L4.out _).trans rfl, (ho _ (by omega)).trans HL4.out, (ho _ (by omega)).trans HS4.out, HR4.out.moved (ho _ (by omega)) (ho _ (by omega))⟩)
  have V5 : Hid (VerAt w5 p mb db (fun _ => .slice none 0 0) ⟨[0, 0], [], []⟩ 0) := (show VerAt _ _ _ _ _ _ _ from V4.out.off L4.out (by decide) (by decide) (by decide) (by decide) (by decide) ho)
  have B5 : Hid (Below w.heap.size w w5) := (show Below _ _ _ from by rw [hw5]; exact B4.out.setCell (by show w.heap.size ≤ L; have := HL2.out; have := B2s.out; omega) _)
  rw [← hw5]
  have HQ : Hid (w.heap.size ≤ L + 1 ∧ w.heap.size ≤ mb ∧ w.heap.size ≤ db ∧ w.heap.size ≤ g ∧ gm ≠ mb ∧ gm ≠ db) := (show _ ∧ _ from by have := HL2.out; have := B2s.out; have := HMD.out; omega)
  clear hw5 ho hN c4 c4' q1 z1 K19 HMD
  go_wp2
  rw [rounds_succ]
  go_wp2
  go_ret2
  exact ⟨L + 1, p, mb, db, L, b, g, gr, gm, rfl, PL.out, V5.out, B5.out, HQ.out⟩
end Go.Proofs.YtefpnojanldkeaaDoor
namespace Go.Proofs.YtefpnojanldkeaaDoor
open Go.RowKit Go.Maps
set_option maxRecDepth 100000
set_option linter.unusedSectionVars false
variable [Inhabited ComV] [DecidableEq D3] [Inhabited D3] [Inhabited Dn] [Inhabited OpV]

set_option maxHeartbeats 1000000 in
theorem least_one (w : World) (b g gr gm : Nat) (hl : w.heap[b]? = some (.cells #[.pointer (some ⟨g, 0, none⟩), .pointer (some ⟨gr, 0, none⟩)] 87 (0, 0))) (hr : RcvM w gr gm 0 1 0 0 0 0 (fun _ => none)) :
    Calls Tryd.prog 55 #[.slice (some ⟨b, 0, none⟩) 1 1] w fun e w' => e = .returned (.int .i64 0) ∧ Below w.heap.size w w' := by
  have c0 : w.cell? ⟨b, 0, none⟩ = some (.pointer (some ⟨g, 0, none⟩)) := (cell_of hl).trans rfl
  have c1 : w.cell? ⟨b, 1, none⟩ = some (.pointer (some ⟨gr, 0, none⟩)) := (cell_of hl).trans rfl
  have HR := hid hr
  have hmin : min (1099511627776 : Int) 0 = 0 := by decide
  clear hl hr
  go_enter Tryd.func55, Tryd.ntmps55
  go_wp2
  refine wp_loop_rounds 2 ?_
  rw [rounds_succ]
  go_wp2_with fail
  refine (rtime_raw _ gr gm 0 1 0 0 0 0 _ (HR.out.moved (Below.heap_alloc _ _ _ (lt_of_heap HR.out.box)) (Below.heap_alloc _ _ _ HR.out.mlt))).mono ?_
  rintro e w1 ⟨rfl, hw1⟩
  rw [hw1]
  clear hw1
  go_wp2
  rw [rounds_succ]
  go_wp2
  go_ret
  exact ⟨rfl, below_alloc _ _⟩
theorem mk34 (W : World) : (Instr.makeSlice 34 (.int .i64 2) (.int .i64 2)).run Tryd.prog W = .ok (.slice (some ⟨W.heap.size, 0, none⟩) 2 2) (W.alloc (.cells #[.int .i64 0, .int .i64 0] 3)) := by kernel_rfl
set_option maxHeartbeats 2000000 in
theorem snapshot_two (w : World) {pb p lb b g gr gm : Nat} {ck : Int} (h : PlA w pb p lb b g gr gm ck) : Calls Tryd.prog 32 #[.pointer (some ⟨pb, 0, none⟩)] w fun e w' => e = .returned (.slice (some ⟨w.heap.size, 0, none⟩) 2 2) ∧ w'.heap[w.heap.size]? = some (.cells #[.int .i64 ck, .int .i64 0] 3 (0, 0)) ∧ Below w.heap.size w w' := by
  have hmk := mk34
  have x4 : w.cell? ⟨pb, 4, none⟩ = some (.slice (some ⟨lb, 0, none⟩) 2 2) := (cell_of h.box).trans rfl
  obtain ⟨w1, hw1⟩ : ∃ w1, w1 = w.alloc (.cells #[.int .i64 0, .int .i64 0] 3) := ⟨_, rfl⟩
  have G1 : w1.heap[w.heap.size]? = some (.cells #[.int .i64 0, .int .i64 0] 3 (0, 0)) := by rw [hw1]; exact heap_new _ _
  have b1 : Below w.heap.size w w1 := by rw [hw1]; exact below_alloc _ _
  have s1 : w1.heap.size = w.heap.size + 1 := by rw [hw1]; simp
  have h1 := h.moved b1
  have y0 : w1.cell? ⟨pb, 0, none⟩ = some (.int .i64 0) := (cell_of h1.box).trans rfl
  have y2 : w1.cell? ⟨pb, 2, none⟩ = some (.int .i64 ck) := (cell_of h1.box).trans rfl
  have y4 : w1.cell? ⟨pb, 4, none⟩ = some (.slice (some ⟨lb, 0, none⟩) 2 2) := (cell_of h1.box).trans rfl
  have l0 : w1.cell? ⟨lb, 0, none⟩ = some (.slice none 0 0) := (cell_of h1.lines).trans rfl
  have q0 : w1.cell? ⟨w.heap.size, 0, none⟩ = some (.int .i64 0) := (cell_of G1).trans rfl
  have z0 : w1.frozen? ⟨w.heap.size, 0, none⟩ = false := free_of G1
  obtain ⟨w2, hw2⟩ : ∃ w2, w2 = w1.setCell ⟨w.heap.size, 0, none⟩ (.int .i64 ck) := ⟨_, rfl⟩
  have G2 : w2.heap[w.heap.size]? = some (.cells #[.int .i64 ck, .int .i64 0] 3 (0, 0)) := by rw [hw2]; exact (heap_set G1 _).trans rfl
  have b2 : Below w.heap.size w w2 := by rw [hw2]; exact b1.setCell (Nat.le_refl _) _
  have s2 : w2.heap.size = w.heap.size + 1 := by rw [hw2]; simp [s1]
  have h2 := h.moved b2
  have u0 : w2.cell? ⟨pb, 0, none⟩ = some (.int .i64 0) := (cell_of h2.box).trans rfl
  have l1 : w2.cell? ⟨lb, 1, none⟩ = some (.slice (some ⟨b, 0, none⟩) 1 1) := (cell_of h2.lines).trans rfl
  have K55 := hid (least_one w2 b g gr gm h2.line h2.rcv)
  have HG2 := hid G2
  have B2 := hid b2
  have S2 := hid s2
  clear h G1 b1 s1 h1 G2 b2 s2 h2
  go_enter Tryd.func32, Tryd.ntmps32
  go_upto_region 2 with (fail)
  rw [← hw1]
  clear hw1
  go_wp2
  refine wp_loop_rounds 3 ?_
  rw [rounds_succ]
  go_wp2
  rw [← hw2, rounds_succ]
  clear hw2
  go_wp2_with fail
  refine K55.out.mono ?_
  rintro e w3 ⟨rfl, hb3⟩
  have G3 : w3.heap[w.heap.size]? = _ := (hb3.block _ (by have := S2.out; omega)).trans HG2.out
  have q1 : w3.cell? ⟨w.heap.size, 1, none⟩ = some (.int .i64 0) := (cell_of G3).trans rfl
  have z1 : w3.frozen? ⟨w.heap.size, 1, none⟩ = false := free_of G3
  obtain ⟨w4, hw4⟩ : ∃ w4, w4 = w3.setCell ⟨w.heap.size, 1, none⟩ (.int .i64 0) := ⟨_, rfl⟩
  have G4 : Hid (w4.heap[w.heap.size]? = some (.cells #[.int .i64 ck, .int .i64 0] 3 (0, 0))) := (show _ = _ from by rw [hw4]; exact (heap_set G3 _).trans rfl)
  have B4 : Hid (Below w.heap.size w w4) := (show Below _ _ _ from by rw [hw4]; exact (B2.out.trans (hb3.mono (by have := S2.out; omega))).setCell (Nat.le_refl _) _)
  clear G3 hb3
  go_wp2
  rw [← hw4, rounds_succ]
  clear hw4
  go_wp2
  go_ret
  exact ⟨rfl, G4.out, B4.out⟩
/-- What is asked is within the snapshot. -/
theorem checkAt_ok (A : Nat → Addr) (w : World) (hE : E4 A w) (h12 : 12 ≤ w.heap.size) {pb p lb b g gr gm : Nat} (h : PlA w pb p lb b g gr gm 0) (va : Option Addr) (vc : Nat) (hv : IntsAt w (.slice va 2 vc) [0, 0]) : Calls Tryd.prog 20 #[.pointer (some ⟨pb, 0, none⟩), .slice va 2 vc] w fun e w' => e = .returned .nilIface ∧ Below w.heap.size w w' := by
  have K32 := hid (snapshot_two w h)
  have HV := hid hv
  have HE := hid hE
  clear hv h hE
  go_enter Tryd.func20, Tryd.ntmps20
  go_wp2_with fail
  refine K32.out.mono ?_
  rintro e w1 ⟨rfl, hG, hb1⟩
  have HI : Hid (IntsAt w1 (.slice (some ⟨w.heap.size, 0, none⟩) 2 2) [0, 0]) := (show IntsAt _ _ _ from ⟨_, _, rfl, by simp, .inr ⟨_, _, rfl, fun t ht => by
    have : t = 0 ∨ t = 1 := by simp at ht; omega
    rcases this with rfl | rfl
    · exact (cell_of hG).trans rfl
    · exact (cell_of hG).trans rfl⟩⟩)
  have K31 := hid (Within_ok A w1 (HE.out.below hb1 h12) _ _ _ _ (HV.out.mono hb1 (Nat.le_refl _)) HI.out (by decide))
  rw [show leB [0, 0] [0, 0] = true from by decide] at K31
  have B1 := hid hb1
  clear hG hb1
  go_wp2_with fail
  refine K31.out.mono ?_
  rintro e w2 ⟨rfl, q, hw2⟩
  have B2 : Hid (Below w.heap.size w w2) := (show Below _ _ _ from by rw [hw2]; exact below_draws B1.out q)
  clear hw2
  go_wp2
  go_ret
  exact ⟨rfl, B2.out⟩
end Go.Proofs.YtefpnojanldkeaaDoor
