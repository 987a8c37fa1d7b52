/- The sums of texts, the program's and the reference's; The reference's sum; A place's small functions: isShards, shardOf, Shard; the reference's ShardOf; The document's answer's In, SameInts, Most, NewVersions; Base; filled; VersionsActs: what stands between two acts; each call by what it leaves; A place as it lies in memory: its box, its lines, its store; what it stands on (foot); newLines of any number of shards. -/
import Derived.Test.YtefpnojanldkeaaGreatDoorJXRd
import Derived.Test.YtefpnojanldkeaaGreatDoorJVOp
import Derived.Test.YtefpnojanldkeaaGreatDoorJWPart
import Derived.Test.YtefpnojanldkeaaGreatDoorJVStandM
import Derived.Test.YtefpnojanldkeaaGreatDoorJVVec
import Derived.Test.YtefpnojanldkeaaGreatDoorJVMap
import Derived.Test.YtefpnojanldkeaaGreatDoorJVOnceM
import Derived.Test.YtefpnojanldkeaaGreatDoorJVRow
import Derived.Test.YtefpnojanldkeaaGreatDoorJTD
import Derived.Test.YtefpnojanldkeaaGreatDoorJCA
import Derived.Test.YtefpnojanldkeaaGreatDoorJECode
import Derived.Test.YtefpnojanldkeaaGreatDoorJVRefN
import Derived.Test.YtefpnojanldkeaaGreatDoorJVOwnM
import Derived.Test.YtefpnojanldkeaaGreatDoorJWState
import Derived.Test.YtefpnojanldkeaaGreatDoorJWMath
import Derived.WalkSpells
import Derived.WalkLawsBesides
import Derived.Deep.RegionWith
import Derived.Laws.AppendOwnNone
import Derived.Test.YtefpnojanldkeaaGreatDoorJWPut
import Derived.Test.YtefpnojanldkeaaGreatDoorJWPutN
import Derived.Test.YtefpnojanldkeaaGreatDoorJVOf
import Derived.Test.YtefpnojanldkeaaGreatDoorJWPutB
import Derived.Test.YtefpnojanldkeaaGreatDoorJSDel
import Derived.Test.YtefpnojanldkeaaGreatDoorJSCome
import Derived.Test.YtefpnojanldkeaaGreatDoorJHF
import Derived.Test.YtefpnojanldkeaaGreatDoorJHR
import Derived.Deep.RegionHeldLaw
import Derived.Maps.RangeWalk
import Derived.Deep.RegionHeld
import Derived.Maps.AppendAt
import Derived.Deep.Slices
import Derived.Deep.Fields
import Derived.Test.YtefpnojanldkeaaGreatDoorJTC2
import Derived.Test.YtefpnojanldkeaaGreatDoorJTA
import Derived.Deep.Cut
import Derived.Deep.CutBlock
import Derived.Deep.DeepCutAuto
namespace Go.Proofs.YtefpnojanldkeaaGreatDoor
open Go.RowKit
set_option maxRecDepth 100000
set_option linter.unusedSectionVars false
variable [Inhabited ComV] [DecidableEq D3] [Inhabited D3] [Inhabited Dd] [Inhabited Dn] [Inhabited OpV]

theorem crc_take {l : List UInt8} {k : Nat} (h : k < l.length) : (l.take (k + 1)).foldl crcByte 4294967295 = crcByte ((l.take k).foldl crcByte 4294967295) l[k] := by
  rw [List.take_succ_eq_append_getElem h, List.foldl_append]
  rfl
theorem crcStep_odd {x : Nat} (h : x % 2 = 1) : crcStep x = (x / 2) ^^^ 3988292384 := if_pos h
theorem crcStep_even {x : Nat} (h : ¬ x % 2 = 1) : crcStep x = x / 2 := if_neg h
set_option maxHeartbeats 4000000 in
theorem remainder_any (w : World) (l : List UInt8) (hl : l.length ≤ 7000) :
    Calls Tryz.prog 102 #[.string ⟨l.toArray⟩] w fun e w' => e = .returned (.int .u32 (sumNX l : Nat)) ∧ w' = w := by
  go_enter Tryz.func102, Tryz.ntmps102
  go_wp2
  go_loopw [3, 8] (fun a i wr => ∃ k : Nat, k ≤ l.length ∧ i = .int .i64 k ∧ a = .int .u32 ((l.take k).foldl crcByte 4294967295 : Nat) ∧ wr = w) (fun _ i _ => l.length - (intOf i).toNat)
  case atStart => exact ⟨0, Nat.zero_le _, rfl, rfl, rfl⟩
  case round =>
    obtain ⟨k, hk, rfl, rfl, rfl⟩ := hrel
    by_cases hlt : k < l.length
    · have HT := hid (crc_take hlt)
      have HX := hid (crc_lt (l.take k) 4294967295 (by decide))
      obtain ⟨x, hx⟩ : ∃ x, x = (l.take k).foldl crcByte 4294967295 := ⟨_, rfl⟩
      rw [← hx] at HT HX ⊢
      clear hx
      have hz := l[k].toNat_lt
      obtain ⟨c, hc⟩ : ∃ c, c = l[k] := ⟨_, rfl⟩
      have e1 : (⟨l.toArray⟩ : ByteArray)[k]'hlt = c := hc.symm
      rw [← hc] at HT hz
      have HZ := hid hz
      clear hz hc
      go_wp2
      go_loopw [3, 17] (fun a i u => ∃ j : Nat, j ≤ 8 ∧ i = .int .i64 j ∧ a = .int .u32 (crcSteps j (x ^^^ c.toNat) : Nat) ∧ u = wr) (fun _ i _ => 8 - (intOf i).toNat)
      case atStart =>
        refine ⟨0, Nat.zero_le _, rfl, ?_, rfl⟩
        rw [show ((c.toNat : Int) % 4294967296) = (c.toNat : Int) by have := HZ.out; omega, xor_u32 x c.toNat HX.out (by have := HZ.out; omega)]
        rfl
      case round =>
        obtain ⟨j, hj, rfl, rfl, rfl⟩ := hrel
        by_cases hlt8 : j < 8
        · have HS := hid (crcSteps_lt (x := x ^^^ c.toNat) (Nat.xor_lt_two_pow (n := 32) HX.out (by have := HZ.out; omega)) j)
          have HE : Hid (crcSteps (j + 1) (x ^^^ c.toNat) = crcStep (crcSteps j (x ^^^ c.toNat))) := rfl
          obtain ⟨y, hy⟩ : ∃ y, y = crcSteps j (x ^^^ c.toNat) := ⟨_, rfl⟩
          rw [← hy] at HS HE ⊢
          clear hy
          have ha := and_u32 y HS.out
          by_cases ho : y % 2 = 1
          · rw [ho] at ha
            have HO := hid ho
            go_wp2
            go_roundw
            case rel =>
              refine ⟨j + 1, by omega, by go_num, ?_, trivial⟩
              rw [HE.out, crcStep_odd HO.out, show ((y : Int) / 2) = ((y / 2 : Nat) : Int) by omega, show (3988292384 : Int) = ((3988292384 : Nat) : Int) from rfl, xor_u32 (y / 2) 3988292384 (by have := HS.out; omega) (by decide)]
            case measure => simp [intOf]; omega
          · rw [show y % 2 = 0 by omega] at ha
            have HO := hid ho
            go_wp2
            go_roundw
            case rel =>
              refine ⟨j + 1, by omega, by go_num, ?_, trivial⟩
              rw [HE.out, crcStep_even HO.out, show ((y : Int) / 2) = ((y / 2 : Nat) : Int) by omega]
            case measure => simp [intOf]; omega
        · obtain rfl : j = 8 := by omega
          have HB : Hid (crcByte x c = crcSteps 8 (x ^^^ c.toNat)) := rfl
          obtain ⟨y, hy⟩ : ∃ y, y = crcSteps 8 (x ^^^ c.toNat) := ⟨_, rfl⟩
          rw [← hy] at HB ⊢
          clear hy
          go_wp2
          go_roundw
          case rel =>
            refine ⟨k + 1, by omega, by go_num, ?_, trivial⟩
            rw [HT.out, HB.out]
          case measure => simp [intOf]; omega
    · obtain rfl : k = l.length := by omega
      rw [List.take_length]
      obtain ⟨n, hn⟩ : ∃ n, n = l.foldl crcByte 4294967295 := ⟨_, rfl⟩
      rw [← hn]
      have HN : Hid (n = crcOf l) := hn
      clear hn
      obtain ⟨m, hm⟩ : ∃ m, m = n ^^^ 4294967295 := ⟨_, rfl⟩
      have hx : bits .xor .u32 IntKind.u32.max (n : Int) = (m : Int) := by
        rw [show IntKind.u32.max = ((4294967295 : Nat) : Int) by decide, xor_u32 _ _ (by decide) (by rw [HN.out]; exact crcOf_lt l), Nat.xor_comm, hm]
      have HM : Hid (m = sumNX l) := (show m = _ from by rw [hm, HN.out]; rfl)
      clear hm
      go_wp2
      go_ret
      exact ⟨congrArg (fun x : Nat => Ending.returned (.int .u32 (x : Int))) HM.out, rfl⟩
end Go.Proofs.YtefpnojanldkeaaGreatDoor
namespace Go.Proofs.YtefpnojanldkeaaGreatDoor
open Go.RowKit
set_option maxRecDepth 100000
set_option linter.unusedSectionVars false
variable [Inhabited ComV] [DecidableEq D3] [Inhabited D3] [Inhabited Dd] [Inhabited Dn] [Inhabited OpV]

theorem refStep_lt {c : UInt8} {k x : Nat} (h : x < 4294967296) : refStep c k x < 4294967296 := by
  unfold refStep
  split
  · exact Nat.xor_lt_two_pow (n := 32) (by omega) (by decide)
  · omega
theorem refSteps_lt {c : UInt8} {x : Nat} (h : x < 4294967296) : ∀ k, refSteps c k x < 4294967296
  | 0 => h
  | k + 1 => refStep_lt (refSteps_lt h k)
end Go.Proofs.YtefpnojanldkeaaGreatDoor
namespace Go.Proofs.YtefpnojanldkeaaGreatDoor
open Go.RowKit
set_option maxRecDepth 100000
set_option linter.unusedSectionVars false
variable [Inhabited ComV] [DecidableEq D3] [Inhabited D3] [Inhabited Dd] [Inhabited Dn] [Inhabited OpV]

def shB (n : Int) : Bool := decide (1 ≤ n ∧ n ≤ 6)
theorem isShards_any (n : Int) (w : World) : Calls Tryz.prog 22 #[.int .i64 n] w fun e w' => e = .returned (.bool (shB n)) ∧ w' = w := by
  by_cases h1 : 1 ≤ n
  · by_cases h6 : n ≤ 6
    · have hb : shB n = true := decide_eq_true ⟨h1, h6⟩
      rw [hb]
      clear hb
      go_enter Tryz.func22, Tryz.ntmps22
      go_wp2
      go_ret
      exact ⟨rfl, rfl⟩
    · have hb : shB n = false := decide_eq_false fun h => h6 h.2
      rw [hb]
      clear hb
      go_enter Tryz.func22, Tryz.ntmps22
      go_wp2
      go_ret
      exact ⟨rfl, rfl⟩
  · have hb : shB n = false := decide_eq_false fun h => h1 h.1
    rw [hb]
    clear hb
    go_enter Tryz.func22, Tryz.ntmps22
    go_wp2
    go_ret
    exact ⟨rfl, rfl⟩
theorem shardOf_any (w : World) (l : List UInt8) (hl : l.length ≤ 7000) (k : Int) (h1 : 1 ≤ k) (h6 : k ≤ 6) :
    Calls Tryz.prog 81 #[.string ⟨l.toArray⟩, .int .i64 k] w fun e w' => e = .returned (.int .i64 ((sumNX l : Nat) % k)) ∧ w' = w := by
  have K := hid (remainder_any w l hl)
  have hlt : sumNX l < 4294967296 := Nat.xor_lt_two_pow (n := 32) (crcOf_lt l) (by decide)
  obtain ⟨n, hn⟩ : ∃ n : Nat, n = sumNX l := ⟨_, rfl⟩
  rw [← hn] at K hlt ⊢
  clear hn
  have e1 : k % 4294967296 = k := by omega
  have b1 : 0 ≤ (n : Int) % k := Int.emod_nonneg _ (by omega)
  have b2 : (n : Int) % k < 6 := Int.lt_of_lt_of_le (Int.emod_lt_of_pos _ (by omega)) h6
  go_enter Tryz.func81, Tryz.ntmps81
  go_wp2_with fail
  refine K.out.mono ?_
  rintro e w1 ⟨rfl, rfl⟩
  go_wp2
  go_ret
  exact ⟨rfl, rfl⟩
end Go.Proofs.YtefpnojanldkeaaGreatDoor
namespace Go.Proofs.YtefpnojanldkeaaGreatDoor
open Go.RowKit
set_option maxRecDepth 100000
set_option linter.unusedSectionVars false
variable [Inhabited ComV] [DecidableEq D3] [Inhabited D3] [Inhabited Dd] [Inhabited Dn] [Inhabited OpV]

set_option maxHeartbeats 1000000 in
theorem sameInts_n (w : World) (b1 o1 c1 b2 o2 c2 n : Nat) (zs ys : List Int) (hz : zs.length = n) (hy : ys.length = n) (hl : n ≤ 1000000)
    (h1 : ∀ t, t < n → w.cell? ⟨b1, o1 + t, none⟩ = some (.int .i64 (zs.getD t 0)))
    (h2 : ∀ t, t < n → w.cell? ⟨b2, o2 + t, none⟩ = some (.int .i64 (ys.getD t 0))) :
    Calls Tryz.prog 18 #[.slice (some ⟨b1, o1, none⟩) n c1, .slice (some ⟨b2, o2, none⟩) n c2] w fun e w' => e = .returned (.bool (decide (zs = ys))) ∧ ∃ q, w' = w.drewN q := by
  have HZ : Hid (zs.length = n) := hz
  have HY : Hid (ys.length = n) := hy
  have H1 : Hid (∀ t, t < n → w.cell? ⟨b1, o1 + t, none⟩ = some (.int .i64 (zs.getD t 0))) := h1
  have H2 : Hid (∀ t, t < n → w.cell? ⟨b2, o2 + t, none⟩ = some (.int .i64 (ys.getD t 0))) := h2
  clear hz hy h1 h2
  go_enter Tryz.func18, Tryz.ntmps18
  go_wp2
  go_loopw [5] (fun i wr => ∃ k q : Nat, k ≤ n ∧ i = .int .i64 k ∧ (∀ t, t < k → zs.getD t 0 = ys.getD t 0) ∧ wr = w.drewN q) (fun i _ => n - (intOf i).toNat)
  case atStart => exact ⟨0, 0, Nat.zero_le _, rfl, fun t ht => absurd ht (Nat.not_lt_zero _), rfl⟩
  case round =>
    obtain ⟨k, q, hk, rfl, heq, rfl⟩ := hrel
    have HE : Hid (∀ t, t < k → zs.getD t 0 = ys.getD t 0) := heq
    clear heq
    by_cases hlt : k < n
    · have e1 := H1.out k hlt
      have e2 := H2.out k hlt
      by_cases hd : zs.getD k 0 = ys.getD k 0
      · have hb : (zs[k]?.getD 0 != ys[k]?.getD 0) = false := by simpa using hd
        have hi : (k : Int) < (n : Int) := by omega
        go_wp2
        go_quiet (fail)
        go_wp2
        go_roundw
        case rel => exact ⟨k + 1, _, by omega, by go_num, fun t ht => by rcases Nat.lt_succ_iff_lt_or_eq.1 ht with h | rfl; exact HE.out t h; exact hd, rfl⟩
        case measure => simp [intOf]; omega
      · have hb : (zs[k]?.getD 0 != ys[k]?.getD 0) = true := by simpa using hd
        have hi : (k : Int) < (n : Int) := by omega
        go_wp2
        go_quiet (fail)
        go_wp2
        go_ret
        exact ⟨ret_bool (decide_eq_false (fun e => hd (by rw [e]))).symm, _, World.drewN_drewN _ _ _⟩
    · obtain rfl : k = n := by omega
      go_wp2
      go_ret
      exact ⟨ret_bool (decide_eq_true (getD_ext HZ.out HY.out HE.out)).symm, _, rfl⟩
theorem sameInts_ne (w : World) (a1 a2 : Option Addr) (c1 c2 n m : Nat) (hne : n ≠ m) :
    Calls Tryz.prog 18 #[.slice a1 n c1, .slice a2 m c2] w fun e w' => e = .returned (.bool false) ∧ w' = w := by
  have hb : ((n : Int) != (m : Int)) = true := by rw [bne_iff_ne]; omega
  go_enter Tryz.func18, Tryz.ntmps18
  go_wp2
  go_ret
  exact ⟨rfl, rfl⟩
theorem sameInts_nil (w : World) (a1 a2 : Option Addr) (c1 c2 : Nat) :
    Calls Tryz.prog 18 #[.slice a1 0 c1, .slice a2 0 c2] w fun e w' => e = .returned (.bool true) ∧ w' = w := by
  go_enter Tryz.func18, Tryz.ntmps18
  go_wp2
  refine wp_loop_rounds 1 ?_
  rw [rounds_succ]
  go_wp2
  go_ret
  exact ⟨rfl, rfl⟩
/-- SameInts, at any two slices. -/
theorem sameInts (w : World) (v1 v2 : Value) (zs ys : List Int) (h1 : IntsAt w v1 zs) (h2 : IntsAt w v2 ys) (hl : zs.length ≤ 1000000) :
    Calls Tryz.prog 18 #[v1, v2] w fun e w' => e = .returned (.bool (decide (zs = ys))) ∧ ∃ q, w' = w.drewN q := by
  obtain ⟨a1, c1, rfl, _, h1⟩ := h1
  obtain ⟨a2, c2, rfl, _, h2⟩ := h2
  by_cases hn : zs.length = ys.length
  · rcases h1 with rfl | ⟨b1, o1, rfl, h1⟩
    · obtain rfl : ys = [] := List.eq_nil_of_length_eq_zero hn.symm
      refine (sameInts_nil w a1 a2 c1 c2).mono ?_
      rintro e w' ⟨rfl, rfl⟩
      exact ⟨rfl, 0, rfl⟩
    · rcases h2 with rfl | ⟨b2, o2, rfl, h2⟩
      · obtain rfl : zs = [] := List.eq_nil_of_length_eq_zero hn
        refine (sameInts_nil w _ a2 c1 c2).mono ?_
        rintro e w' ⟨rfl, rfl⟩
        exact ⟨rfl, 0, rfl⟩
      · have h := sameInts_n w b1 o1 c1 b2 o2 c2 zs.length zs ys rfl hn.symm hl h1 (fun t ht => h2 t (by omega))
        rw [hn] at h
        rw [hn]
        exact h
  · refine (sameInts_ne w a1 a2 c1 c2 _ _ hn).mono ?_
    rintro e w' ⟨rfl, rfl⟩
    exact ⟨ret_bool (decide_eq_false (fun e => hn (by rw [e]))).symm, 0, rfl⟩
end Go.Proofs.YtefpnojanldkeaaGreatDoor
namespace Go.Proofs.YtefpnojanldkeaaGreatDoor
open Go.RowKit Go.Sort Go.Maps
set_option maxRecDepth 100000
set_option linter.unusedSectionVars false
variable [Inhabited ComV] [DecidableEq D3] [Inhabited D3] [Inhabited Dd] [Inhabited Dn] [Inhabited OpV]

theorem sameInts_same (w : World) (v v' : Value) (zs : List Int) (h : IntsAt w v zs) (h' : IntsAt w v' zs) (hl : zs.length ≤ 1000000) : Calls Tryz.prog 18 #[v, v'] w fun e w' => e = .returned (.bool true) ∧ Below w.heap.size w w' := by
  refine (sameInts w v v' zs zs h h' hl).mono ?_
  rintro e w' ⟨rfl, q, rfl⟩
  exact ⟨by simp, below_draws (Below.refl _ _) q⟩
end Go.Proofs.YtefpnojanldkeaaGreatDoor
namespace Go.Proofs.YtefpnojanldkeaaGreatDoor
open Go.RowKit Go.Maps
set_option maxRecDepth 100000
set_option linter.unusedSectionVars false
variable [Inhabited ComV] [DecidableEq D3] [Inhabited D3] [Inhabited Dd] [Inhabited Dn] [Inhabited OpV]

theorem cell_ne {w : World} {a b : Nat} {cs ds : Array Value} {t u : TypeId} (h : w.heap[a]? = some (.cells cs t (0, 0))) (h' : w.heap[b]? = some (.cells ds u (0, 0))) (hne : t ≠ u) : a ≠ b := fun e => by
  rw [e, h'] at h
  injection h with h
  injection h with _ h
  exact hne h.symm
theorem owns_cells {w : World} {base e size n c : Nat} {a : Option Addr} {xs : List Value} (h : w.ownsRow base e size (.slice a n c) n xs) (hn : 0 < n) : ∃ b cs, a = some ⟨b, 0, none⟩ ∧ base ≤ b ∧ w.heap[b]? = some (.cells cs e (0, 0)) ∧ cs.toList.take (n * size) = xs ∧ n * size ≤ cs.size := by
  rcases h.2 with ⟨hv, h0⟩ | ⟨b, cap, cur, hv, hb, hh, hc, hm, hs, ht⟩
  · omega
  · injection hv with hv _ _
    exact ⟨b, cur, hv, hb, hh, ht, by rw [hs]; exact Nat.mul_le_mul_right _ hc⟩
theorem comT_own {base : Nat} {w : World} {wv ov : Value} {c : ComV} (h : ComOwn base w wv ov c) : ComT w [wv, .int .i64 c.place, ov] c := by
  obtain ⟨h1, rows, h2, h3⟩ := h
  refine ⟨wv, ov, rfl, intsT_of_owns h1, rows, rowT_of_owns h2 (f2_len h3).symm (rows7 (f2_opRow h3)), f2_mono (fun r o q => ?_) h3⟩
  obtain ⟨dv, rfl, hd⟩ := q
  exact ⟨dv, rfl, rowT_of_owns (by rw [← List.flatMap_def]; exact hd) (by simp) (fun r hr => by obtain ⟨d, _, rfl⟩ := List.mem_map.1 hr; rfl)⟩
/-- A line's blocks: a sender (box g, row v of l), a receiver (box gr, map gm). -/
structure Ln where
  g : Nat
  v : Value
  l : List Raw
  gr : Nat
  gm : Nat
  n : Nat
  M : Int → Option Raw
/-- What a line tells: the last sent (number, time), what is unacked; the last come (number, time), what is kept. -/
structure LnV where
  sq : Int
  st : Int
  ms : List MsgV
  rq : Int
  rt : Int
  mm : Int → Option MsgV
def OptR (R : Raw → MsgV → Prop) : Option Raw → Option MsgV → Prop
  | some r, some m => R r m
  | none, none => True
  | _, _ => False
theorem OptR.mono {R S : Raw → MsgV → Prop} (h : ∀ r m, R r m → S r m) : ∀ {a : Option Raw} {b : Option MsgV}, OptR R a b → OptR S a b
  | some _, some _, q => h _ _ q
  | none, none, _ => trivial
  | some _, none, q => q
  | none, some _, q => q
structure LnAt (w : World) (i j s : Int) (x : Ln) (y : LnV) : Prop where
  snd : SndR w x.g i j s y.sq y.st x.v x.l
  own : F2 (RawOwn 0 w) x.l y.ms
  rcv : RcvM w x.gr x.gm x.n j i s y.rq y.rt x.M
  maps : ∀ q, OptR (RawOwn 0 w) (x.M q) (y.mm q)
def Ln.foot (x : Ln) (b : Nat) : Prop := b = x.g ∨ x.v.ownBlock = some b ∨ b = x.gr ∨ b = x.gm
theorem LnAt.keep {w w' : World} {i j s : Int} {x : Ln} {y : LnV} (h : LnAt w i j s x y) (hf : ∀ b, x.foot b → w'.heap[b]? = w.heap[b]?) (hk : Keeps w w') : LnAt w' i j s x y :=
  ⟨⟨(hf _ (.inl rfl)).trans h.snd.box, own_keep h.snd.row fun b hb => hf b (.inr (.inl hb))⟩, f2_mono (fun _ _ q => q.kept hk) h.own, h.rcv.moved (hf _ (.inr (.inr (.inl rfl)))) (hf _ (.inr (.inr (.inr rfl)))), fun q => (h.maps q).mono fun _ _ p => p.kept hk⟩
theorem LnAt.lt {w : World} {i j s : Int} {x : Ln} {y : LnV} (h : LnAt w i j s x y) {b : Nat} (hb : x.foot b) : b < w.heap.size := by
  rcases hb with rfl | hb | rfl | rfl
  · exact lt_of_heap h.snd.box
  · exact (h.snd.row.lt b hb).2
  · exact lt_of_heap h.rcv.box
  · exact h.rcv.mlt
/-- A place's blocks. -/
structure PlH where
  pb : Nat
  p : Nat
  lb : Nat
  b : Nat → Nat
  X : Nat → Nat → Ln
  mb : Nat
  db : Nat
  f : ByteArray → Value
  nn : Nat
/-- What a place is: its number, of n places and k shards, its clock, its lines, its store. -/
structure PlV where
  id : Nat
  n : Nat
  k : Nat
  ck : Int
  Y : Nat → Nat → LnV
  st : St
/-- The number of a line that there is. -/
def PlV.line (v : PlV) (j s : Nat) : Prop := j < v.n ∧ j ≠ v.id ∧ s < v.k
/-- The row of lines by place: none to itself. -/
def lineV (h : PlH) (v : PlV) (j : Nat) : Value := if j = v.id then .slice none 0 0 else .slice (some ⟨h.b j, 0, none⟩) v.k v.k
structure Apart (x x' : Ln) : Prop where
  g : x.g ≠ x'.g
  gr : x.gr ≠ x'.gr
  gm : x.gm ≠ x'.gm
  v : ∀ b, x.v.ownBlock = some b → x'.v.ownBlock ≠ some b
structure PlAt (w : World) (h : PlH) (v : PlV) : Prop where
  idn : v.id < v.n
  n6 : v.n ≤ 6
  k1 : 1 ≤ v.k
  k6 : v.k ≤ 6
  box : w.heap[h.pb]? = some (.cells #[.int .i64 v.id, .int .i64 v.k, .int .i64 v.ck, .pointer (some ⟨h.p, 0, none⟩), .slice (some ⟨h.lb, 0, none⟩) v.n v.n] 68 (0, 0))
  lines : ∃ cs, w.heap[h.lb]? = some (.cells cs 69 (0, 0)) ∧ ∀ j, j < v.n → cs[j]? = some (lineV h v j)
  line : ∀ j, j < v.n → j ≠ v.id → ∃ cs, w.heap[h.b j]? = some (.cells cs 80 (0, 0)) ∧ ∀ s, s < v.k → cs[s * 2]? = some (.pointer (some ⟨(h.X j s).g, 0, none⟩)) ∧ cs[s * 2 + 1]? = some (.pointer (some ⟨(h.X j s).gr, 0, none⟩))
  each : ∀ j s, v.line j s → LnAt w v.id j s (h.X j s) (v.Y j s)
  apart : ∀ j s j' s', v.line j s → v.line j' s' → (j, s) ≠ (j', s') → Apart (h.X j s) (h.X j' s')
  mapne : ∀ j s, v.line j s → (h.X j s).gm ≠ h.mb ∧ (h.X j s).gm ≠ h.db
  store : VerAt w h.p h.mb h.db h.f v.st h.nn
def PlH.foot (h : PlH) (v : PlV) (b : Nat) : Prop := b = h.pb ∨ b = h.p ∨ b = h.mb ∨ b = h.db ∨ b = h.lb ∨ (∃ k, (h.f k).ownBlock = some b) ∨ (∃ j, j < v.n ∧ j ≠ v.id ∧ b = h.b j) ∨ ∃ j s, v.line j s ∧ (h.X j s).foot b
/-- A store stands where its blocks do. -/
theorem VerAt.keep {w w' : World} {p mb db n : Nat} {f : ByteArray → Value} {s : St} (h : VerAt w p mb db f s n) (h1 : w'.heap[p]? = w.heap[p]?) (h2 : w'.heap[mb]? = w.heap[mb]?) (h3 : w'.heap[db]? = w.heap[db]?) (h4 : ∀ k b, (f k).ownBlock = some b → w'.heap[b]? = w.heap[b]?) (hk : Keep3 w w') : VerAt w' p mb db f s n := by
  have keepm : ∀ {kt b nn R} {D : DataW Unit}, w'.heap[b]? = w.heap[b]? → w.ownsMap Tryz.prog kt R b nn D → w'.ownsMap Tryz.prog kt R b nn D := fun {kt b nn R D} e hD => by
    obtain ⟨es, clock, hb, F, hs, hD⟩ := hD
    exact ⟨es, clock, e.trans hb, F, hs, hD⟩
  refine ⟨?_, ?_, ?_, fun k => ?_, h.apart, h.ne⟩
  · obtain ⟨bv, q1, q2⟩ := h.box
    exact ⟨bv, h1.trans q1, intsT_keep q2 hk⟩
  · obtain ⟨D, q1, q2⟩ := h.dots
    exact ⟨D, keepm h3 q1, q2⟩
  · obtain ⟨D, q1, q2⟩ := h.map
    exact ⟨D, keepm h2 q1, q2⟩
  · obtain ⟨rs, q1, q2⟩ := h.rows k
    exact ⟨rs, own_keep q1 fun b hb => h4 k b hb, f2_keep q2 hk⟩
theorem keep3_of {w w' : World} (h : Keeps w w') : Keep3 w w' := ⟨h 3 (.inl rfl), h 34 (.inr (.inl rfl)), h 90 (.inr (.inr rfl))⟩
theorem PlAt.keep {w w' : World} {h : PlH} {v : PlV} (a : PlAt w h v) (hf : ∀ b, h.foot v b → w'.heap[b]? = w.heap[b]?) (hk : Keeps w w') : PlAt w' h v := by
  refine ⟨a.idn, a.n6, a.k1, a.k6, (hf _ (.inl rfl)).trans a.box, ?_, fun j h1 h2 => ?_, fun j s q => (a.each j s q).keep (fun b hb => hf b (.inr (.inr (.inr (.inr (.inr (.inr (.inr ⟨j, s, q, hb⟩)))))))) hk, a.apart, a.mapne,
   a.store.keep (hf _ (.inr (.inl rfl))) (hf _ (.inr (.inr (.inl rfl)))) (hf _ (.inr (.inr (.inr (.inl rfl))))) (fun k b hb => hf b (.inr (.inr (.inr (.inr (.inr (.inl ⟨k, hb⟩))))))) (keep3_of hk)⟩
  · obtain ⟨cs, q1, q2⟩ := a.lines
    exact ⟨cs, (hf _ (.inr (.inr (.inr (.inr (.inl rfl)))))).trans q1, q2⟩
  · obtain ⟨cs, q1, q2⟩ := a.line j h1 h2
    exact ⟨cs, (hf _ (.inr (.inr (.inr (.inr (.inr (.inr (.inl ⟨j, h1, h2, rfl⟩)))))))).trans q1, q2⟩
theorem PlAt.lt {w : World} {h : PlH} {v : PlV} (a : PlAt w h v) {b : Nat} (hb : h.foot v b) : b < w.heap.size := by
  rcases hb with rfl | rfl | rfl | rfl | rfl | ⟨k, hb⟩ | ⟨j, h1, h2, rfl⟩ | ⟨j, s, q, hb⟩
  · exact lt_of_heap a.box
  · obtain ⟨bv, q, _⟩ := a.store.box; exact lt_of_heap q
  · obtain ⟨D, q, _⟩ := a.store.map; exact q.lt
  · obtain ⟨D, q, _⟩ := a.store.dots; exact q.lt
  · obtain ⟨cs, q, _⟩ := a.lines; exact lt_of_heap q
  · obtain ⟨rs, q, _⟩ := a.store.rows k; exact (q.lt b hb).2
  · obtain ⟨cs, q, _⟩ := a.line j h1 h2; exact lt_of_heap q
  · exact (a.each j s q).lt hb
theorem PlAt.below {w w' : World} {h : PlH} {v : PlV} (a : PlAt w h v) (hb : Below w.heap.size w w') : PlAt w' h v := a.keep (fun b q => hb.block b (a.lt q)) (Keeps.bel hb)
/-- What a step of a place leaves as it was, and where it stands then. -/
structure PlMoves (w w' : World) (h : PlH) (v : PlV) (h' : PlH) (v' : PlV) : Prop where
  os : w'.os = w.os
  tape : w'.tape = w.tape
  output : w'.output = w.output
  size : w.heap.size ≤ w'.heap.size
  block : ∀ b, b < w.heap.size → ¬ h.foot v b → w'.heap[b]? = w.heap[b]?
  foot : ∀ b, h'.foot v' b → h.foot v b ∨ w.heap.size ≤ b
  keeps : Keeps w w'
end Go.Proofs.YtefpnojanldkeaaGreatDoor
namespace Go.Proofs.YtefpnojanldkeaaGreatDoor
open Go.RowKit Go.Maps
set_option maxRecDepth 100000
set_option linter.unusedSectionVars false
variable [Inhabited ComV] [DecidableEq D3] [Inhabited D3] [Inhabited Dd] [Inhabited Dn] [Inhabited OpV]

def lnv0 : LnV := ⟨0, 0, [], 0, 0, fun _ => none⟩
theorem keeps_but {w w' : World} {g : Nat} {cs : Array Value} {t : TypeId} (h : w.heap[g]? = some (.cells cs t (0, 0))) (h1 : 3 ≠ t) (h2 : 34 ≠ t) (h3 : 90 ≠ t) (hk : ∀ i, i < w.heap.size → i ≠ g → w'.heap[i]? = w.heap[i]?) : Keeps w w' := fun t' ht b cs hc => hk b (lt_of_heap hc) (cell_ne hc h (by rcases ht with rfl | rfl | rfl <;> assumption))
structure NlI (w : World) (f t : Int) (k i : Nat) (X : Nat → Ln) (wr : World) : Prop where
  row : ∃ cs, wr.heap[w.heap.size]? = some (.cells cs 80 (0, 0)) ∧ cs.size = k * 2 ∧ ∀ s, s < i → cs[s * 2]? = some (.pointer (some ⟨(X s).g, 0, none⟩)) ∧ cs[s * 2 + 1]? = some (.pointer (some ⟨(X s).gr, 0, none⟩))
  each : ∀ s, s < i → LnAt wr f t s (X s) lnv0
  ge : ∀ s, s < i → ∀ b, (X s).foot b → w.heap.size < b
  apart : ∀ s s', s < i → s' < i → s ≠ s' → Apart (X s) (X s')
  below : Below w.heap.size w wr
  nz : ∀ s, s < i → (X s).n = 0
def updX (X : Nat → Ln) (i : Nat) (x : Ln) : Nat → Ln := fun s => if s = i then x else X s
theorem updX_at (X : Nat → Ln) (i : Nat) (x : Ln) : updX X i x i = x := if_pos rfl
theorem updX_ne (X : Nat → Ln) {i s : Nat} (x : Ln) (h : s ≠ i) : updX X i x s = X s := if_neg h
def ln0 (g gr gm : Nat) : Ln := ⟨g, .slice none 0 0, [], gr, gm, 0, fun _ => none⟩
theorem ln0_foot {g gr gm b : Nat} (h : (ln0 g gr gm).foot b) : b = g ∨ b = gr ∨ b = gm := by
  rcases h with h | h | h | h
  · exact .inl h
  · simp [ln0, Value.ownBlock] at h
  · exact .inr (.inl h)
  · exact .inr (.inr h)
theorem set_get {cs : Array Value} {i j : Nat} {v : Value} (hi : i < cs.size) : (cs.setIfInBounds i v)[j]? = if i = j then some v else cs[j]? := by
  rw [Array.getElem?_setIfInBounds]
  split
  · rename_i e; subst e; simp
  · rfl
theorem NlI.next {w wr w2 w3 w4 : World} {f t : Int} {k i : Nat} {X : Nat → Ln} (h : NlI w f t k i X wr) (hi : i < k) {g gr gm : Nat} (hb2 : Below wr.heap.size wr w2) (hg : wr.heap.size ≤ g) (hS : SndBox w2 g f t i 0 0 (.slice none 0 0)) (hb3 : Below w2.heap.size w2 w3) (hgr : w2.heap.size ≤ gr) (hgm : w2.heap.size ≤ gm) (hR : RcvM w3 gr gm 0 t f i 0 0 (fun _ => none))
    (hw4 : w4 = (w3.setCell ⟨w.heap.size, i * 2, none⟩ (.pointer (some ⟨g, 0, none⟩))).setCell ⟨w.heap.size, i * 2 + 1, none⟩ (.pointer (some ⟨gr, 0, none⟩))) : NlI w f t k (i + 1) (updX X i (ln0 g gr gm)) w4 := by
  obtain ⟨cs, hc, hz, hp⟩ := h.row
  have hlt := lt_of_heap hc
  have hb13 : Below wr.heap.size wr w3 := hb2.trans (hb3.mono hb2.size)
  have hc3 := (hb13.block _ hlt).trans hc
  have ho : ∀ q, q ≠ w.heap.size → w4.heap[q]? = w3.heap[q]? := fun q hq => by rw [hw4, Below.heap_setCell _ _ _ _ hq, Below.heap_setCell _ _ _ _ hq]
  have hs2 := hb2.size
  have hs3 := hb3.size
  have hgl := lt_of_heap hS
  have hk : Keeps wr w4 := (Keeps.bel hb13).trans (keeps_but hc3 (by decide) (by decide) (by decide) fun q _ hq => ho q hq)
  refine ⟨⟨(cs.setIfInBounds (i * 2) (.pointer (some ⟨g, 0, none⟩))).setIfInBounds (i * 2 + 1) (.pointer (some ⟨gr, 0, none⟩)), by rw [hw4]; exact heap_set (heap_set hc3 _) _, by simp [hz], fun s hs => ?_⟩, fun s hs => ?_, fun s hs b hb => ?_, fun s s' hs hs' hne => ?_, ?_, fun s hs => ?_⟩
  · have e1 : ∀ j, ((cs.setIfInBounds (i * 2) (.pointer (some ⟨g, 0, none⟩))).setIfInBounds (i * 2 + 1) (.pointer (some ⟨gr, 0, none⟩)))[j]? = if i * 2 + 1 = j then some (.pointer (some ⟨gr, 0, none⟩)) else if i * 2 = j then some (.pointer (some ⟨g, 0, none⟩)) else cs[j]? := fun j => by rw [set_get (by simp; omega), set_get (by omega)]
    rw [e1, e1]
    by_cases e : s = i
    · subst e
      rw [updX_at, if_neg (by omega), if_pos rfl, if_pos rfl]
      exact ⟨rfl, rfl⟩
    · rw [updX_ne _ _ e, if_neg (by omega), if_neg (by omega), if_neg (by omega), if_neg (by omega)]
      exact hp s (by omega)
  · by_cases e : s = i
    · subst e
      rw [updX_at]
      exact ⟨⟨(ho g (by omega)).trans ((hb3.block g hgl).trans hS), World.ownsRow_nil _ _ _ _⟩, trivial, hR.moved (ho gr (by omega)) (ho gm (by omega)), fun _ => trivial⟩
    · rw [updX_ne _ _ e]
      have a := h.each s (by omega)
      exact a.keep (fun b hb => (ho b (by have := h.ge s (by omega) b hb; omega)).trans (hb13.block b (a.lt hb))) hk
  · by_cases e : s = i
    · subst e
      rw [updX_at] at hb
      rcases ln0_foot hb with rfl | rfl | rfl <;> omega
    · rw [updX_ne _ _ e] at hb
      exact h.ge s (by omega) b hb
  · have key : ∀ s, s < i → (X s).g < wr.heap.size ∧ (X s).gr < wr.heap.size ∧ (X s).gm < wr.heap.size := fun s hs => ⟨(h.each s hs).lt (.inl rfl), (h.each s hs).lt (.inr (.inr (.inl rfl))), (h.each s hs).lt (.inr (.inr (.inr rfl)))⟩
    by_cases e : s = i
    · subst e
      rw [updX_at, updX_ne _ _ (Ne.symm hne)]
      obtain ⟨k1, k2, k3⟩ := key s' (by omega)
      exact ⟨by show g ≠ _; omega, by show gr ≠ _; omega, by show gm ≠ _; omega, fun b hb => by simp [ln0, Value.ownBlock] at hb⟩
    · by_cases e' : s' = i
      · subst e'
        rw [updX_at, updX_ne _ _ e]
        obtain ⟨k1, k2, k3⟩ := key s (by omega)
        exact ⟨by show _ ≠ g; omega, by show _ ≠ gr; omega, by show _ ≠ gm; omega, fun b _ => by simp [ln0, Value.ownBlock]⟩
      · rw [updX_ne _ _ e, updX_ne _ _ e']
        exact h.apart s s' (by omega) (by omega) hne
  · rw [hw4]
    exact ((h.below.trans (hb13.mono h.below.size)).setCell (Nat.le_refl _) _).setCell (Nat.le_refl _) _
  · by_cases e : s = i
    · subst e
      rw [updX_at]
      rfl
    · rw [updX_ne _ _ e]
      exact h.nz s (by omega)
theorem mk69 (W : World) (k : Nat) (h1 : 1 ≤ k) (h6 : k ≤ 6) : (Instr.makeSlice 69 (.int .i64 k) (.int .i64 k)).run Tryz.prog W = .ok (.slice (some ⟨W.heap.size, 0, none⟩) k k) (W.alloc (.cells (Array.replicate (k * 2) (.pointer none)) 80)) := by
  rcases (by omega : k = 1 ∨ k = 2 ∨ k = 3 ∨ k = 4 ∨ k = 5 ∨ k = 6) with rfl | rfl | rfl | rfl | rfl | rfl <;> kernel_rfl
set_option maxHeartbeats 4000000 in
theorem newLines_any (w : World) (f t : Int) (k : Nat) (h1 : 1 ≤ k) (h6 : k ≤ 6) (hw : ∀ s : Nat, s < k → WayOk f t s ∧ WayOk t f s) :
    Calls Tryz.prog 24 #[.int .i64 f, .int .i64 t, .int .i64 k] w fun e w' => ∃ X, e = .returned (.tuple #[.slice (some ⟨w.heap.size, 0, none⟩) k k, .nilIface]) ∧ NlI w f t k k X w' := by
  have hmk := mk69 w k h1 h6
  obtain ⟨w1, hw1⟩ : ∃ w1, w1 = w.alloc (.cells (Array.replicate (k * 2) (.pointer none)) 80) := ⟨_, rfl⟩
  have I1 : Hid (NlI w f t k 0 (fun _ => ln0 0 0 0) w1) := (show NlI _ _ _ _ _ _ _ from ⟨⟨Array.replicate (k * 2) (.pointer none), by rw [hw1]; exact heap_new _ _, by simp, fun s hs => by omega⟩, fun s hs => by omega, fun s hs => by omega, fun s s' hs => by omega, (by rw [hw1]; exact below_alloc _ _), fun s hs => by omega⟩)
  have HW := hid hw
  clear hw
  go_enter Tryz.func24, Tryz.ntmps24
  go_wp2
  rw [← hw1]
  clear hw1
  go_loopw [17] (fun i wr => ∃ (m : Nat) (X : Nat → Ln), m ≤ k ∧ i = .int .i64 m ∧ Hid (NlI w f t k m X wr)) (fun i _ => k - (intOf i).toNat)
  case atStart => exact ⟨0, _, Nat.zero_le _, rfl, I1⟩
  case round =>
    obtain ⟨m, X, hm, rfl, HI⟩ := hrel
    by_cases hlt : m < k
    · have hi1 : (m : Int) < (k : Int) := by omega
      have K46 := hid (newSender_ok f t m wr (HW.out m hlt).1)
      have K47 := hid (fun W => newReceiver_raw t f m W (HW.out m hlt).2)
      go_wp2_with fail
      refine K46.out.mono ?_
      rintro e w2 ⟨g, hg, rfl, hS, hb2⟩
      have S2 := hid hS
      have B2 := hid hb2
      have HG := hid hg
      clear hS hb2 hg
      go_wp2_with fail
      refine (K47.out w2).mono ?_
      rintro e w3 ⟨gr, gm, hgr, hgm, hne, rfl, hR, hb3⟩
      obtain ⟨w4, hw4⟩ : ∃ w4, w4 = (w3.setCell ⟨w.heap.size, m * 2, none⟩ (.pointer (some ⟨g, 0, none⟩))).setCell ⟨w.heap.size, m * 2 + 1, none⟩ (.pointer (some ⟨gr, 0, none⟩)) := ⟨_, rfl⟩
      have N4 := hid (HI.out.next hlt B2.out HG.out S2.out hb3 hgr hgm hR hw4)
      obtain ⟨cs, hc, hz, _⟩ := HI.out.row
      have hc3 : w3.heap[w.heap.size]? = some (.cells cs 80 (0, 0)) := (hb3.block _ (Nat.lt_of_lt_of_le (lt_of_heap hc) B2.out.size)).trans ((B2.out.block _ (lt_of_heap hc)).trans hc)
      have q0 : w3.cell? ⟨w.heap.size, m * 2, none⟩ = some (cs[m * 2]'(by omega)) := (cell_of hc3).trans (Array.getElem?_eq_getElem _)
      have q1 : w3.cell? ⟨w.heap.size, m * 2 + 1, none⟩ = some (cs[m * 2 + 1]'(by omega)) := (cell_of hc3).trans (Array.getElem?_eq_getElem _)
      have z0 : w3.frozen? ⟨w.heap.size, m * 2, none⟩ = false := free_of hc3
      have z1 : w3.frozen? ⟨w.heap.size, m * 2 + 1, none⟩ = false := free_of hc3
      clear hR hb3 hgr hgm hne hc hc3 K46 K47
      go_wp2_with fail
      rw [← hw4]
      exact ⟨⟨m + 1, _, by omega, by go_num, N4⟩, by simp [intOf]; omega⟩
    · obtain rfl : m = k := by omega
      go_wp2
      go_ret2
      exact ⟨X, rfl, HI.out⟩
end Go.Proofs.YtefpnojanldkeaaGreatDoor
