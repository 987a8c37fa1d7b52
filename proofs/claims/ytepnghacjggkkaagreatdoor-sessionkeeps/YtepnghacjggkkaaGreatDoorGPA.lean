/- newLines of any number of shards; The bytes of messages, and their reading: plain mathematics; Words of bits as the model has them, as numbers; The sums of texts, the program's and the reference's; A place's small functions: isShards, shardOf, Shard; the reference's ShardOf. -/
import Derived.Test.YtepnghacjggkkaaGreatDoorGLJ
import Derived.BigQuiet
import Derived.Deep.Cut
import Derived.Deep.CutBlock
import Derived.Deep.DeepCutAuto
import Derived.Deep.Draws
import Derived.Deep.QuietTactic
import Derived.Deep.RegionHeld
import Derived.Deep.RegionLaw
import Derived.Handy
import Derived.LaidEql
import Derived.LaidHandle
import Derived.LaidLaws
import Derived.LaidSub
import Derived.Laws.AppendOwnNone
import Derived.Laws.IdiomStrings
import Derived.Laws.OwnMore
import Derived.Laws.ResultCell
import Derived.Lib.SliceRun
import Derived.Maps.AppendAt
import Derived.OpenShut
import Derived.ProofKit
import Derived.RowKitTokens
import Derived.Shelf.SlicesQ.IndexFunc
import Derived.Sort.Grow
import Derived.StillTailTactics
import Derived.Stop.Asserts
import Derived.Test.YtepnghacjggkkaaGreatDoorProg
import Derived.Test.YtepnghacjggkkaaGreatDoorRows
import Derived.WalkKit
import Derived.WalkLawsBesides
import Derived.WalkSpells
import Derived.Deep.Fields
import Derived.Deep.RegionHeldLaw
import Derived.Deep.Slices
import Derived.DeepKeys5
import Derived.Ground.SlsfProg
import Derived.Laws.IdiomCopy
import Derived.Laws.MakeOwn
import Derived.Lib.SlKept
import Derived.Maps.OwnSet
import Derived.Shelf.GgSortFunc.RowK
import Derived.Shelf.SlGeneric
import Derived.Shelf.SlIter.Nil
import Derived.Shelf.Slices.CompactS
import Derived.Shelf.Slices.In.SortNone
import Derived.Shelf.SlicesE.DeleteFunc
import Derived.Shelf.SlicesQ.Load
import Derived.Shelf.Sort.Plain
import Derived.Sort.KeysCollected
import Derived.Test.YtepnghacjggkkaaGreatDoorChecked
import Derived.Test.YtepnghacjggkkaaGreatDoorGVOpM
namespace Go.Proofs.YtepnghacjggkkaaGreatDoor
open Go.RowKit Go.Maps
set_option maxRecDepth 100000
set_option linter.unusedSectionVars false
variable [Inhabited ComV] [DecidableEq D3] [Inhabited D3] [Inhabited Dd] [Inhabited Dn] [Inhabited OpV]

def lnv0 : LnV := ⟨0, 0, [], 0, 0, fun _ => none⟩
theorem keeps_but {w w' : World} {g : Nat} {cs : Array Value} {t : TypeId} (h : w.heap[g]? = some (.cells cs t (0, 0))) (h1 : 3 ≠ t) (h2 : 97 ≠ t) (h3 : 175 ≠ t) (hk : ∀ i, i < w.heap.size → i ≠ g → w'.heap[i]? = w.heap[i]?) : Keeps w w' := fun t' ht b cs hc => hk b (lt_of_heap hc) (cell_ne hc h (by rcases ht with rfl | rfl | rfl <;> assumption))
structure NlI (w : World) (f t : Int) (k i : Nat) (X : Nat → Ln) (wr : World) : Prop where
  row : ∃ cs, wr.heap[w.heap.size]? = some (.cells cs 81 (0, 0)) ∧ cs.size = k * 2 ∧ ∀ s, s < i → cs[s * 2]? = some (.pointer (some ⟨(X s).g, 0, none⟩)) ∧ cs[s * 2 + 1]? = some (.pointer (some ⟨(X s).gr, 0, none⟩))
  each : ∀ s, s < i → LnAt wr f t s (X s) lnv0
  ge : ∀ s, s < i → ∀ b, (X s).foot b → w.heap.size < b
  apart : ∀ s s', s < i → s' < i → s ≠ s' → Apart (X s) (X s')
  below : Below w.heap.size w wr
  nz : ∀ s, s < i → (X s).n = 0
def updX (X : Nat → Ln) (i : Nat) (x : Ln) : Nat → Ln := fun s => if s = i then x else X s
theorem updX_at (X : Nat → Ln) (i : Nat) (x : Ln) : updX X i x i = x := if_pos rfl
theorem updX_ne (X : Nat → Ln) {i s : Nat} (x : Ln) (h : s ≠ i) : updX X i x s = X s := if_neg h
def ln0 (g gr gm : Nat) : Ln := ⟨g, .slice none 0 0, [], gr, gm, 0, fun _ => none⟩
theorem ln0_foot {g gr gm b : Nat} (h : (ln0 g gr gm).foot b) : b = g ∨ b = gr ∨ b = gm := by
  rcases h with h | h | h | h
  · exact .inl h
  · simp [ln0, Value.ownBlock] at h
  · exact .inr (.inl h)
  · exact .inr (.inr h)
theorem set_get {cs : Array Value} {i j : Nat} {v : Value} (hi : i < cs.size) : (cs.setIfInBounds i v)[j]? = if i = j then some v else cs[j]? := by
  rw [Array.getElem?_setIfInBounds]
  split
  · rename_i e; subst e; simp
  · rfl
theorem NlI.next {w wr w2 w3 w4 : World} {f t : Int} {k i : Nat} {X : Nat → Ln} (h : NlI w f t k i X wr) (hi : i < k) {g gr gm : Nat} (hb2 : Below wr.heap.size wr w2) (hg : wr.heap.size ≤ g) (hS : SndBox w2 g f t i 0 0 (.slice none 0 0)) (hb3 : Below w2.heap.size w2 w3) (hgr : w2.heap.size ≤ gr) (hgm : w2.heap.size ≤ gm) (hR : RcvM w3 gr gm 0 t f i 0 0 (fun _ => none))
    (hw4 : w4 = (w3.setCell ⟨w.heap.size, i * 2, none⟩ (.pointer (some ⟨g, 0, none⟩))).setCell ⟨w.heap.size, i * 2 + 1, none⟩ (.pointer (some ⟨gr, 0, none⟩))) : NlI w f t k (i + 1) (updX X i (ln0 g gr gm)) w4 := by
  obtain ⟨cs, hc, hz, hp⟩ := h.row
  have hlt := lt_of_heap hc
  have hb13 : Below wr.heap.size wr w3 := hb2.trans (hb3.mono hb2.size)
  have hc3 := (hb13.block _ hlt).trans hc
  have ho : ∀ q, q ≠ w.heap.size → w4.heap[q]? = w3.heap[q]? := fun q hq => by rw [hw4, Below.heap_setCell _ _ _ _ hq, Below.heap_setCell _ _ _ _ hq]
  have hs2 := hb2.size
  have hs3 := hb3.size
  have hgl := lt_of_heap hS
  have hk : Keeps wr w4 := (Keeps.bel hb13).trans (keeps_but hc3 (by decide) (by decide) (by decide) fun q _ hq => ho q hq)
  refine ⟨⟨(cs.setIfInBounds (i * 2) (.pointer (some ⟨g, 0, none⟩))).setIfInBounds (i * 2 + 1) (.pointer (some ⟨gr, 0, none⟩)), by rw [hw4]; exact heap_set (heap_set hc3 _) _, by simp [hz], fun s hs => ?_⟩, fun s hs => ?_, fun s hs b hb => ?_, fun s s' hs hs' hne => ?_, ?_, fun s hs => ?_⟩
  · have e1 : ∀ j, ((cs.setIfInBounds (i * 2) (.pointer (some ⟨g, 0, none⟩))).setIfInBounds (i * 2 + 1) (.pointer (some ⟨gr, 0, none⟩)))[j]? = if i * 2 + 1 = j then some (.pointer (some ⟨gr, 0, none⟩)) else if i * 2 = j then some (.pointer (some ⟨g, 0, none⟩)) else cs[j]? := fun j => by rw [set_get (by simp; omega), set_get (by omega)]
    rw [e1, e1]
    by_cases e : s = i
    · subst e
      rw [updX_at, if_neg (by omega), if_pos rfl, if_pos rfl]
      exact ⟨rfl, rfl⟩
    · rw [updX_ne _ _ e, if_neg (by omega), if_neg (by omega), if_neg (by omega), if_neg (by omega)]
      exact hp s (by omega)
  · by_cases e : s = i
    · subst e
      rw [updX_at]
      exact ⟨⟨(ho g (by omega)).trans ((hb3.block g hgl).trans hS), World.ownsRow_nil _ _ _ _⟩, trivial, hR.moved (ho gr (by omega)) (ho gm (by omega)), fun _ => trivial⟩
    · rw [updX_ne _ _ e]
      have a := h.each s (by omega)
      exact a.keep (fun b hb => (ho b (by have := h.ge s (by omega) b hb; omega)).trans (hb13.block b (a.lt hb))) hk
  · by_cases e : s = i
    · subst e
      rw [updX_at] at hb
      rcases ln0_foot hb with rfl | rfl | rfl <;> omega
    · rw [updX_ne _ _ e] at hb
      exact h.ge s (by omega) b hb
  · have key : ∀ s, s < i → (X s).g < wr.heap.size ∧ (X s).gr < wr.heap.size ∧ (X s).gm < wr.heap.size := fun s hs => ⟨(h.each s hs).lt (.inl rfl), (h.each s hs).lt (.inr (.inr (.inl rfl))), (h.each s hs).lt (.inr (.inr (.inr rfl)))⟩
    by_cases e : s = i
    · subst e
      rw [updX_at, updX_ne _ _ (Ne.symm hne)]
      obtain ⟨k1, k2, k3⟩ := key s' (by omega)
      exact ⟨by show g ≠ _; omega, by show gr ≠ _; omega, by show gm ≠ _; omega, fun b hb => by simp [ln0, Value.ownBlock] at hb⟩
    · by_cases e' : s' = i
      · subst e'
        rw [updX_at, updX_ne _ _ e]
        obtain ⟨k1, k2, k3⟩ := key s (by omega)
        exact ⟨by show _ ≠ g; omega, by show _ ≠ gr; omega, by show _ ≠ gm; omega, fun b _ => by simp [ln0, Value.ownBlock]⟩
      · rw [updX_ne _ _ e, updX_ne _ _ e']
        exact h.apart s s' (by omega) (by omega) hne
  · rw [hw4]
    exact ((h.below.trans (hb13.mono h.below.size)).setCell (Nat.le_refl _) _).setCell (Nat.le_refl _) _
  · by_cases e : s = i
    · subst e
      rw [updX_at]
      rfl
    · rw [updX_ne _ _ e]
      exact h.nz s (by omega)
theorem mk69 (W : World) (k : Nat) (h1 : 1 ≤ k) (h6 : k ≤ 6) : (Instr.makeSlice 70 (.int .i64 k) (.int .i64 k)).run Tryz.prog W = .ok (.slice (some ⟨W.heap.size, 0, none⟩) k k) (W.alloc (.cells (Array.replicate (k * 2) (.pointer none)) 81)) := by
  rcases (by omega : k = 1 ∨ k = 2 ∨ k = 3 ∨ k = 4 ∨ k = 5 ∨ k = 6) with rfl | rfl | rfl | rfl | rfl | rfl <;> kernel_rfl
set_option maxHeartbeats 4000000 in
theorem newLines_any (w : World) (f t : Int) (k : Nat) (h1 : 1 ≤ k) (h6 : k ≤ 6) (hw : ∀ s : Nat, s < k → WayOk f t s ∧ WayOk t f s) :
    Calls Tryz.prog 23 #[.int .i64 f, .int .i64 t, .int .i64 k] w fun e w' => ∃ X, e = .returned (.tuple #[.slice (some ⟨w.heap.size, 0, none⟩) k k, .nilIface]) ∧ NlI w f t k k X w' := by
  have hmk := mk69 w k h1 h6
  obtain ⟨w1, hw1⟩ : ∃ w1, w1 = w.alloc (.cells (Array.replicate (k * 2) (.pointer none)) 81) := ⟨_, rfl⟩
  have I1 : Hid (NlI w f t k 0 (fun _ => ln0 0 0 0) w1) := (show NlI _ _ _ _ _ _ _ from ⟨⟨Array.replicate (k * 2) (.pointer none), by rw [hw1]; exact heap_new _ _, by simp, fun s hs => by omega⟩, fun s hs => by omega, fun s hs => by omega, fun s s' hs => by omega, (by rw [hw1]; exact below_alloc _ _), fun s hs => by omega⟩)
  have HW := hid hw
  clear hw
  go_enter Tryz.func23, Tryz.ntmps23
  go_wp2
  rw [← hw1]
  clear hw1
  go_loopw [17] (fun i wr => ∃ (m : Nat) (X : Nat → Ln), m ≤ k ∧ i = .int .i64 m ∧ Hid (NlI w f t k m X wr)) (fun i _ => k - (intOf i).toNat)
  case atStart => exact ⟨0, _, Nat.zero_le _, rfl, I1⟩
  case round =>
    obtain ⟨m, X, hm, rfl, HI⟩ := hrel
    by_cases hlt : m < k
    · have hi1 : (m : Int) < (k : Int) := by omega
      have K46 := hid (newSender_ok f t m wr (HW.out m hlt).1)
      have K47 := hid (fun W => newReceiver_raw t f m W (HW.out m hlt).2)
      go_wp2_with fail
      refine K46.out.mono ?_
      rintro e w2 ⟨g, hg, rfl, hS, hb2⟩
      have S2 := hid hS
      have B2 := hid hb2
      have HG := hid hg
      clear hS hb2 hg
      go_wp2_with fail
      refine (K47.out w2).mono ?_
      rintro e w3 ⟨gr, gm, hgr, hgm, hne, rfl, hR, hb3⟩
      obtain ⟨w4, hw4⟩ : ∃ w4, w4 = (w3.setCell ⟨w.heap.size, m * 2, none⟩ (.pointer (some ⟨g, 0, none⟩))).setCell ⟨w.heap.size, m * 2 + 1, none⟩ (.pointer (some ⟨gr, 0, none⟩)) := ⟨_, rfl⟩
      have N4 := hid (HI.out.next hlt B2.out HG.out S2.out hb3 hgr hgm hR hw4)
      obtain ⟨cs, hc, hz, _⟩ := HI.out.row
      have hc3 : w3.heap[w.heap.size]? = some (.cells cs 81 (0, 0)) := (hb3.block _ (Nat.lt_of_lt_of_le (lt_of_heap hc) B2.out.size)).trans ((B2.out.block _ (lt_of_heap hc)).trans hc)
      have q0 : w3.cell? ⟨w.heap.size, m * 2, none⟩ = some (cs[m * 2]'(by omega)) := (cell_of hc3).trans (Array.getElem?_eq_getElem _)
      have q1 : w3.cell? ⟨w.heap.size, m * 2 + 1, none⟩ = some (cs[m * 2 + 1]'(by omega)) := (cell_of hc3).trans (Array.getElem?_eq_getElem _)
      have z0 : w3.frozen? ⟨w.heap.size, m * 2, none⟩ = false := free_of hc3
      have z1 : w3.frozen? ⟨w.heap.size, m * 2 + 1, none⟩ = false := free_of hc3
      clear hR hb3 hgr hgm hne hc hc3 K46 K47
      go_wp2_with fail
      rw [← hw4]
      exact ⟨⟨m + 1, _, by omega, by go_num, N4⟩, by simp [intOf]; omega⟩
    · obtain rfl : m = k := by omega
      go_wp2
      go_ret2
      exact ⟨X, rfl, HI.out⟩
end Go.Proofs.YtepnghacjggkkaaGreatDoor
namespace Go.Proofs.YtepnghacjggkkaaGreatDoor
set_option maxRecDepth 100000

def i64 (n : Int) : Int := (n + 9223372036854775808) % 18446744073709551616 - 9223372036854775808
abbrev Pa (α : Type) := List UInt8 → Option (α × List UInt8)
end Go.Proofs.YtepnghacjggkkaaGreatDoor
namespace Go.Proofs.YtepnghacjggkkaaGreatDoor
open Go.RowKit

theorem wr_u32 (n : Int) : IntKind.u32.wrap n = n % 4294967296 := by simp [IntKind.wrap, IntKind.bits, IntKind.signed]
theorem bv32 (n : Int) : (BitVec.ofInt 32 n).toNat = (n % 4294967296).toNat := by rw [BitVec.toNat_ofInt]; rfl
theorem xor_u32 (a b : Nat) (ha : a < 4294967296) (hb : b < 4294967296) : bits .xor .u32 (a : Int) (b : Int) = ((a ^^^ b : Nat) : Int) := by
  have hx : a ^^^ b < 2 ^ 32 := Nat.xor_lt_two_pow (by omega) (by omega)
  show IntKind.u32.wrap ((BitVec.ofInt 32 (a : Int) ^^^ BitVec.ofInt 32 (b : Int)).toNat : Int) = _
  rw [BitVec.toNat_xor, bv32, bv32, wr_u32, show ((a : Int) % 4294967296).toNat = a by omega, show ((b : Int) % 4294967296).toNat = b by omega]
  omega
theorem and_u32 (a : Nat) (ha : a < 4294967296) : bits .and .u32 (a : Int) 1 = ((a % 2 : Nat) : Int) := by
  show IntKind.u32.wrap ((BitVec.ofInt 32 (a : Int) &&& BitVec.ofInt 32 1).toNat : Int) = _
  rw [BitVec.toNat_and, bv32, bv32, wr_u32, show ((a : Int) % 4294967296).toNat = a by omega, show ((1 : Int) % 4294967296).toNat = 1 by decide, Nat.and_one_is_mod]
  omega
def crcStep (x : Nat) : Nat := if x % 2 = 1 then (x / 2) ^^^ 3988292384 else x / 2
def crcSteps : Nat → Nat → Nat
  | 0, x => x
  | k + 1, x => crcStep (crcSteps k x)
def crcByte (x : Nat) (c : UInt8) : Nat := crcSteps 8 (x ^^^ c.toNat)
def crcOf (l : List UInt8) : Nat := l.foldl crcByte 4294967295
def sumNX (l : List UInt8) : Nat := crcOf l ^^^ 4294967295
theorem crcStep_lt {x : Nat} (h : x < 4294967296) : crcStep x < 4294967296 := by
  unfold crcStep
  split
  · exact Nat.xor_lt_two_pow (n := 32) (by omega) (by decide)
  · omega
theorem crcSteps_lt {x : Nat} (h : x < 4294967296) : ∀ k, crcSteps k x < 4294967296
  | 0 => h
  | k + 1 => crcStep_lt (crcSteps_lt h k)
theorem crcByte_lt {x : Nat} (h : x < 4294967296) (c : UInt8) : crcByte x c < 4294967296 := crcSteps_lt (Nat.xor_lt_two_pow (n := 32) h (by have := c.toNat_lt; omega)) 8
theorem crc_lt : ∀ (l : List UInt8) (x : Nat), x < 4294967296 → l.foldl crcByte x < 4294967296
  | [], _, h => h
  | c :: l, _, h => crc_lt l _ (crcByte_lt h c)
theorem crcOf_lt (l : List UInt8) : crcOf l < 4294967296 := crc_lt l _ (by decide)
end Go.Proofs.YtepnghacjggkkaaGreatDoor
namespace Go.Proofs.YtepnghacjggkkaaGreatDoor
open Go.RowKit
set_option maxRecDepth 100000

theorem crc_take {l : List UInt8} {k : Nat} (h : k < l.length) : (l.take (k + 1)).foldl crcByte 4294967295 = crcByte ((l.take k).foldl crcByte 4294967295) l[k] := by
  rw [List.take_succ_eq_append_getElem h, List.foldl_append]
  rfl
theorem crcStep_odd {x : Nat} (h : x % 2 = 1) : crcStep x = (x / 2) ^^^ 3988292384 := if_pos h
theorem crcStep_even {x : Nat} (h : ¬ x % 2 = 1) : crcStep x = x / 2 := if_neg h
set_option maxHeartbeats 4000000 in
theorem remainder_any (w : World) (l : List UInt8) (hl : l.length ≤ 7000) :
    Calls Tryz.prog 154 #[.string ⟨l.toArray⟩] w fun e w' => e = .returned (.int .u32 (sumNX l : Nat)) ∧ w' = w := by
  go_enter Tryz.func154, Tryz.ntmps154
  go_wp2
  go_loopw [3, 8] (fun a i wr => ∃ k : Nat, k ≤ l.length ∧ i = .int .i64 k ∧ a = .int .u32 ((l.take k).foldl crcByte 4294967295 : Nat) ∧ wr = w) (fun _ i _ => l.length - (intOf i).toNat)
  case atStart => exact ⟨0, Nat.zero_le _, rfl, rfl, rfl⟩
  case round =>
    obtain ⟨k, hk, rfl, rfl, rfl⟩ := hrel
    by_cases hlt : k < l.length
    · have HT := hid (crc_take hlt)
      have HX := hid (crc_lt (l.take k) 4294967295 (by decide))
      obtain ⟨x, hx⟩ : ∃ x, x = (l.take k).foldl crcByte 4294967295 := ⟨_, rfl⟩
      rw [← hx] at HT HX ⊢
      clear hx
      have hz := l[k].toNat_lt
      obtain ⟨c, hc⟩ : ∃ c, c = l[k] := ⟨_, rfl⟩
      have e1 : (⟨l.toArray⟩ : ByteArray)[k]'hlt = c := hc.symm
      rw [← hc] at HT hz
      have HZ := hid hz
      clear hz hc
      go_wp2
      go_loopw [3, 17] (fun a i u => ∃ j : Nat, j ≤ 8 ∧ i = .int .i64 j ∧ a = .int .u32 (crcSteps j (x ^^^ c.toNat) : Nat) ∧ u = wr) (fun _ i _ => 8 - (intOf i).toNat)
      case atStart =>
        refine ⟨0, Nat.zero_le _, rfl, ?_, rfl⟩
        rw [show ((c.toNat : Int) % 4294967296) = (c.toNat : Int) by have := HZ.out; omega, xor_u32 x c.toNat HX.out (by have := HZ.out; omega)]
        rfl
      case round =>
        obtain ⟨j, hj, rfl, rfl, rfl⟩ := hrel
        by_cases hlt8 : j < 8
        · have HS := hid (crcSteps_lt (x := x ^^^ c.toNat) (Nat.xor_lt_two_pow (n := 32) HX.out (by have := HZ.out; omega)) j)
          have HE : Hid (crcSteps (j + 1) (x ^^^ c.toNat) = crcStep (crcSteps j (x ^^^ c.toNat))) := rfl
          obtain ⟨y, hy⟩ : ∃ y, y = crcSteps j (x ^^^ c.toNat) := ⟨_, rfl⟩
          rw [← hy] at HS HE ⊢
          clear hy
          have ha := and_u32 y HS.out
          by_cases ho : y % 2 = 1
          · rw [ho] at ha
            have HO := hid ho
            go_wp2
            go_roundw
            case rel =>
              refine ⟨j + 1, by omega, by go_num, ?_, trivial⟩
              rw [HE.out, crcStep_odd HO.out, show ((y : Int) / 2) = ((y / 2 : Nat) : Int) by omega, show (3988292384 : Int) = ((3988292384 : Nat) : Int) from rfl, xor_u32 (y / 2) 3988292384 (by have := HS.out; omega) (by decide)]
            case measure => simp [intOf]; omega
          · rw [show y % 2 = 0 by omega] at ha
            have HO := hid ho
            go_wp2
            go_roundw
            case rel =>
              refine ⟨j + 1, by omega, by go_num, ?_, trivial⟩
              rw [HE.out, crcStep_even HO.out, show ((y : Int) / 2) = ((y / 2 : Nat) : Int) by omega]
            case measure => simp [intOf]; omega
        · obtain rfl : j = 8 := by omega
          have HB : Hid (crcByte x c = crcSteps 8 (x ^^^ c.toNat)) := rfl
          obtain ⟨y, hy⟩ : ∃ y, y = crcSteps 8 (x ^^^ c.toNat) := ⟨_, rfl⟩
          rw [← hy] at HB ⊢
          clear hy
          go_wp2
          go_roundw
          case rel =>
            refine ⟨k + 1, by omega, by go_num, ?_, trivial⟩
            rw [HT.out, HB.out]
          case measure => simp [intOf]; omega
    · obtain rfl : k = l.length := by omega
      rw [List.take_length]
      obtain ⟨n, hn⟩ : ∃ n, n = l.foldl crcByte 4294967295 := ⟨_, rfl⟩
      rw [← hn]
      have HN : Hid (n = crcOf l) := hn
      clear hn
      obtain ⟨m, hm⟩ : ∃ m, m = n ^^^ 4294967295 := ⟨_, rfl⟩
      have hx : bits .xor .u32 IntKind.u32.max (n : Int) = (m : Int) := by
        rw [show IntKind.u32.max = ((4294967295 : Nat) : Int) by decide, xor_u32 _ _ (by decide) (by rw [HN.out]; exact crcOf_lt l), Nat.xor_comm, hm]
      have HM : Hid (m = sumNX l) := (show m = _ from by rw [hm, HN.out]; rfl)
      clear hm
      go_wp2
      go_ret
      exact ⟨congrArg (fun x : Nat => Ending.returned (.int .u32 (x : Int))) HM.out, rfl⟩
end Go.Proofs.YtepnghacjggkkaaGreatDoor
namespace Go.Proofs.YtepnghacjggkkaaGreatDoor
open Go.RowKit
set_option maxRecDepth 100000

def shB (n : Int) : Bool := decide (1 ≤ n ∧ n ≤ 6)
theorem isShards_any (n : Int) (w : World) : Calls Tryz.prog 21 #[.int .i64 n] w fun e w' => e = .returned (.bool (shB n)) ∧ w' = w := by
  by_cases h1 : 1 ≤ n
  · by_cases h6 : n ≤ 6
    · have hb : shB n = true := decide_eq_true ⟨h1, h6⟩
      rw [hb]
      clear hb
      go_enter Tryz.func21, Tryz.ntmps21
      go_wp2
      go_ret
      exact ⟨rfl, rfl⟩
    · have hb : shB n = false := decide_eq_false fun h => h6 h.2
      rw [hb]
      clear hb
      go_enter Tryz.func21, Tryz.ntmps21
      go_wp2
      go_ret
      exact ⟨rfl, rfl⟩
  · have hb : shB n = false := decide_eq_false fun h => h1 h.1
    rw [hb]
    clear hb
    go_enter Tryz.func21, Tryz.ntmps21
    go_wp2
    go_ret
    exact ⟨rfl, rfl⟩
theorem shardOf_any (w : World) (l : List UInt8) (hl : l.length ≤ 7000) (k : Int) (h1 : 1 ≤ k) (h6 : k ≤ 6) :
    Calls Tryz.prog 136 #[.string ⟨l.toArray⟩, .int .i64 k] w fun e w' => e = .returned (.int .i64 ((sumNX l : Nat) % k)) ∧ w' = w := by
  have K := hid (remainder_any w l hl)
  have hlt : sumNX l < 4294967296 := Nat.xor_lt_two_pow (n := 32) (crcOf_lt l) (by decide)
  obtain ⟨n, hn⟩ : ∃ n : Nat, n = sumNX l := ⟨_, rfl⟩
  rw [← hn] at K hlt ⊢
  clear hn
  have e1 : k % 4294967296 = k := by omega
  have b1 : 0 ≤ (n : Int) % k := Int.emod_nonneg _ (by omega)
  have b2 : (n : Int) % k < 6 := Int.lt_of_lt_of_le (Int.emod_lt_of_pos _ (by omega)) h6
  go_enter Tryz.func136, Tryz.ntmps136
  go_wp2_with fail
  refine K.out.mono ?_
  rintro e w1 ⟨rfl, rfl⟩
  go_wp2
  go_ret
  exact ⟨rfl, rfl⟩
end Go.Proofs.YtepnghacjggkkaaGreatDoor
