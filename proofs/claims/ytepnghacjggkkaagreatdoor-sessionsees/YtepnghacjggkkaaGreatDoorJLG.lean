/- A place's small functions: isShards, shardOf, Shard; the reference's ShardOf; A place is made: any number of places, of shards; One line of a place turns, the others stand. -/
import Derived.Test.YtepnghacjggkkaaGreatDoorJXSum
import Derived.BigQuiet
import Derived.Deep.Cut
import Derived.Deep.Draws
import Derived.Deep.Fields
import Derived.Deep.QuietTactic
import Derived.Deep.RegionHeld
import Derived.Deep.RegionHeldLaw
import Derived.Deep.RegionLaw
import Derived.Deep.Slices
import Derived.DeepKeys5
import Derived.Ground.SlsfProg
import Derived.Handy
import Derived.LaidEql
import Derived.LaidHandle
import Derived.LaidLaws
import Derived.LaidSub
import Derived.Laws.AppendOwnNone
import Derived.Laws.IdiomCopy
import Derived.Laws.IdiomStrings
import Derived.Laws.MakeOwn
import Derived.Laws.OwnMore
import Derived.Laws.ResultCell
import Derived.Lib.SlKept
import Derived.Lib.SliceRun
import Derived.Maps.AppendAt
import Derived.Maps.OwnSet
import Derived.OpenShut
import Derived.ProofKit
import Derived.RowKitTokens
import Derived.Shelf.GgSortFunc.RowK
import Derived.Shelf.SlGeneric
import Derived.Shelf.SlIter.Nil
import Derived.Shelf.Slices.CompactS
import Derived.Shelf.Slices.In.SortNone
import Derived.Shelf.SlicesE.DeleteFunc
import Derived.Shelf.SlicesQ.IndexFunc
import Derived.Shelf.SlicesQ.Load
import Derived.Shelf.Sort.Plain
import Derived.Sort.Grow
import Derived.Sort.KeysCollected
import Derived.StillTailTactics
import Derived.Stop.Asserts
import Derived.Test.YtepnghacjggkkaaGreatDoorChecked
import Derived.Test.YtepnghacjggkkaaGreatDoorProg
import Derived.Test.YtepnghacjggkkaaGreatDoorRows
import Derived.WalkKit
import Derived.WalkLawsBesides
import Derived.WalkSpells
namespace Go.Proofs.YtepnghacjggkkaaGreatDoor
open Go.RowKit
set_option maxRecDepth 100000

def shB (n : Int) : Bool := decide (1 ≤ n ∧ n ≤ 6)
theorem isShards_any (n : Int) (w : World) : Calls Tryz.prog 21 #[.int .i64 n] w fun e w' => e = .returned (.bool (shB n)) ∧ w' = w := by
  by_cases h1 : 1 ≤ n
  · by_cases h6 : n ≤ 6
    · have hb : shB n = true := decide_eq_true ⟨h1, h6⟩
      rw [hb]
      clear hb
      go_enter Tryz.func21, Tryz.ntmps21
      go_wp2
      go_ret
      exact ⟨rfl, rfl⟩
    · have hb : shB n = false := decide_eq_false fun h => h6 h.2
      rw [hb]
      clear hb
      go_enter Tryz.func21, Tryz.ntmps21
      go_wp2
      go_ret
      exact ⟨rfl, rfl⟩
  · have hb : shB n = false := decide_eq_false fun h => h1 h.1
    rw [hb]
    clear hb
    go_enter Tryz.func21, Tryz.ntmps21
    go_wp2
    go_ret
    exact ⟨rfl, rfl⟩
theorem shardOf_any (w : World) (l : List UInt8) (hl : l.length ≤ 7000) (k : Int) (h1 : 1 ≤ k) (h6 : k ≤ 6) :
    Calls Tryz.prog 136 #[.string ⟨l.toArray⟩, .int .i64 k] w fun e w' => e = .returned (.int .i64 ((sumNX l : Nat) % k)) ∧ w' = w := by
  have K := hid (remainder_any w l hl)
  have hlt : sumNX l < 4294967296 := Nat.xor_lt_two_pow (n := 32) (crcOf_lt l) (by decide)
  obtain ⟨n, hn⟩ : ∃ n : Nat, n = sumNX l := ⟨_, rfl⟩
  rw [← hn] at K hlt ⊢
  clear hn
  have e1 : k % 4294967296 = k := by omega
  have b1 : 0 ≤ (n : Int) % k := Int.emod_nonneg _ (by omega)
  have b2 : (n : Int) % k < 6 := Int.lt_of_lt_of_le (Int.emod_lt_of_pos _ (by omega)) h6
  go_enter Tryz.func136, Tryz.ntmps136
  go_wp2_with fail
  refine K.out.mono ?_
  rintro e w1 ⟨rfl, rfl⟩
  go_wp2
  go_ret
  exact ⟨rfl, rfl⟩
end Go.Proofs.YtepnghacjggkkaaGreatDoor
namespace Go.Proofs.YtepnghacjggkkaaGreatDoor
open Go.RowKit Go.Maps
set_option maxRecDepth 100000
set_option linter.unusedSectionVars false
variable [Inhabited ComV] [DecidableEq D3] [Inhabited D3] [Inhabited Dd] [Inhabited Dn] [Inhabited OpV]

def pv0 (id n k : Nat) : PlV := ⟨id, n, k, 0, fun _ _ => lnv0, ⟨List.replicate n 0, [], []⟩⟩
theorem mk66 (W : World) (n : Nat) (h1 : 1 ≤ n) (h6 : n ≤ 6) : (Instr.makeSlice 67 (.int .i64 n) (.int .i64 n)).run Tryz.prog W = .ok (.slice (some ⟨W.heap.size, 0, none⟩) n n) (W.alloc (.cells (Array.replicate n (.slice none 0 0)) 70)) := by
  rcases (by omega : n = 1 ∨ n = 2 ∨ n = 3 ∨ n = 4 ∨ n = 5 ∨ n = 6) with rfl | rfl | rfl | rfl | rfl | rfl <;> kernel_rfl
abbrev nil0 : ByteArray → Value := fun _ => .slice none 0 0
def updN (b : Nat → Nat) (i x : Nat) : Nat → Nat := fun s => if s = i then x else b s
theorem updN_at (b : Nat → Nat) (i x : Nat) : updN b i x i = x := if_pos rfl
theorem updN_ne (b : Nat → Nat) {i s : Nat} (x : Nat) (h : s ≠ i) : updN b i x s = b s := if_neg h
def updXX (X : Nat → Nat → Ln) (i : Nat) (x : Nat → Ln) : Nat → Nat → Ln := fun j => if j = i then x else X j
theorem updXX_at (X : Nat → Nat → Ln) (i : Nat) (x : Nat → Ln) : updXX X i x i = x := if_pos rfl
theorem updXX_ne (X : Nat → Nat → Ln) {i s : Nat} (x : Nat → Ln) (h : s ≠ i) : updXX X i x s = X s := if_neg h
structure NwI (w : World) (id n k p mb db L m : Nat) (b : Nat → Nat) (X : Nat → Nat → Ln) (wr : World) : Prop where
  box : wr.heap[L + 1]? = some (.cells #[.int .i64 id, .int .i64 k, .int .i64 0, .pointer (some ⟨p, 0, none⟩), .slice (some ⟨L, 0, none⟩) n n] 69 (0, 0))
  lines : ∃ cs, wr.heap[L]? = some (.cells cs 70 (0, 0)) ∧ cs.size = n ∧ (∀ j, j < m → cs[j]? = some (if j = id then .slice none 0 0 else .slice (some ⟨b j, 0, none⟩) k k)) ∧ ∀ j, m ≤ j → j < n → cs[j]? = some (.slice none 0 0)
  line : ∀ j, j < m → j ≠ id → L + 2 ≤ b j ∧ ∃ cs, wr.heap[b j]? = some (.cells cs 81 (0, 0)) ∧ ∀ s, s < k → cs[s * 2]? = some (.pointer (some ⟨(X j s).g, 0, none⟩)) ∧ cs[s * 2 + 1]? = some (.pointer (some ⟨(X j s).gr, 0, none⟩))
  each : ∀ j s, j < m → j ≠ id → s < k → LnAt wr id j s (X j s) lnv0
  ge : ∀ j s, j < m → j ≠ id → s < k → ∀ x, (X j s).foot x → L + 2 ≤ x
  apart : ∀ j s j' s', j < m → j ≠ id → s < k → j' < m → j' ≠ id → s' < k → (j, s) ≠ (j', s') → Apart (X j s) (X j' s')
  store : VerAt wr p mb db nil0 ⟨List.replicate n 0, [], []⟩ 0
  low : w.heap.size ≤ p ∧ w.heap.size ≤ mb ∧ w.heap.size ≤ db ∧ mb < L ∧ db < L ∧ w.heap.size ≤ L
  below : Below w.heap.size w wr
  nz : ∀ j s, j < m → j ≠ id → s < k → (X j s).n = 0
theorem apart_ge {x x' : Ln} {B : Nat} (h1 : ∀ b, x.foot b → b < B) (h2 : ∀ b, x'.foot b → B ≤ b) : Apart x x' :=
  ⟨fun e => by have := h1 x.g (.inl rfl); have := h2 x'.g (.inl rfl); omega, fun e => by have := h1 x.gr (.inr (.inr (.inl rfl))); have := h2 x'.gr (.inr (.inr (.inl rfl))); omega, fun e => by have := h1 x.gm (.inr (.inr (.inr rfl))); have := h2 x'.gm (.inr (.inr (.inr rfl))); omega, fun b hb hb' => by have := h1 b (.inr (.inl hb)); have := h2 b (.inr (.inl hb')); omega⟩
theorem Apart.symm {x x' : Ln} (h : Apart x x') : Apart x' x := ⟨fun e => h.g e.symm, fun e => h.gr e.symm, fun e => h.gm e.symm, fun b hb hb' => h.v b hb' hb⟩
theorem NlI.undrew {w w4 : World} {f t : Int} {k i : Nat} {X : Nat → Ln} (h : NlI w.drew f t k i X w4) : NlI w f t k i X w4 := ⟨h.row, h.each, h.ge, h.apart, (Below.refl _ _).drew.trans h.below, h.nz⟩
theorem NwI.skip {w wr : World} {n k p mb db L m : Nat} {b : Nat → Nat} {X : Nat → Nat → Ln} (h : NwI w m n k p mb db L m b X wr) (hm : m < n) : NwI w m n k p mb db L (m + 1) b X wr := by
  obtain ⟨cs, c1, c2, c3, c4⟩ := h.lines
  refine ⟨h.box, ⟨cs, c1, c2, fun j hj => ?_, fun j h1 h2 => c4 j (by omega) h2⟩, fun j hj hn => h.line j (by omega) hn, fun j s hj hn => h.each j s (by omega) hn, fun j s hj hn => h.ge j s (by omega) hn, fun j s j' s' hj hn hs hj' hn' => h.apart j s j' s' (by omega) hn hs (by omega) hn', h.store, h.low, h.below, fun j s hj hn => h.nz j s (by omega) hn⟩
  by_cases e : j = m
  · subst e
    rw [if_pos rfl]
    exact c4 j (Nat.le_refl _) hm
  · exact c3 j (by omega)
theorem NwI.next {w wr w4 w5 : World} {id n k p mb db L m : Nat} {b : Nat → Nat} {X : Nat → Nat → Ln} {Y : Nat → Ln} (h : NwI w id n k p mb db L m b X wr) (hm : m < n) (hne : m ≠ id) (hN : NlI wr id m k k Y w4) (hw5 : w5 = w4.setCell ⟨L, m, none⟩ (.slice (some ⟨wr.heap.size, 0, none⟩) k k)) : NwI w id n k p mb db L (m + 1) (updN b m wr.heap.size) (updXX X m Y) w5 := by
  obtain ⟨cs, c1, c2, c3, c4⟩ := h.lines
  have hb4 := hN.below
  have hL := lt_of_heap c1
  have hL1 := lt_of_heap h.box
  have k4 := (hb4.block _ hL).trans c1
  have ho : ∀ q, q ≠ L → w5.heap[q]? = w4.heap[q]? := fun q hq => by rw [hw5]; exact Below.heap_setCell _ _ _ _ hq
  have hk45 : Keeps w4 w5 := keeps_but k4 (by decide) (by decide) (by decide) fun q _ hq => ho q hq
  have hk : Keeps wr w5 := (Keeps.bel hb4).trans hk45
  have old : ∀ q, q ≠ L → q < wr.heap.size → w5.heap[q]? = wr.heap[q]? := fun q h1 h2 => (ho q h1).trans (hb4.block q h2)
  have hlow := h.low
  refine ⟨(old _ (by omega) hL1).trans h.box, ⟨cs.setIfInBounds m (.slice (some ⟨wr.heap.size, 0, none⟩) k k), by rw [hw5]; exact heap_set k4 _, by simp [c2], fun j hj => ?_, fun j h1 h2 => ?_⟩, fun j hj hn => ?_, fun j s hj hn hs => ?_, fun j s hj hn hs x hx => ?_, fun j s j' s' hj hn hs hj' hn' hs' hjj => ?_, ?_, h.low, ?_, fun j s hj hn hs => ?_⟩
  · rw [set_get (by omega)]
    by_cases e : j = m
    · subst e
      rw [if_pos rfl, if_neg hne, updN_at]
    · rw [if_neg (Ne.symm e), updN_ne _ _ e]
      exact c3 j (by omega)
  · rw [set_get (by omega), if_neg (by omega)]
    exact c4 j (by omega) h2
  · by_cases e : j = m
    · subst e
      rw [updN_at, updXX_at]
      obtain ⟨ds, d1, _, d3⟩ := hN.row
      exact ⟨by omega, ds, (ho _ (by omega)).trans d1, d3⟩
    · rw [updN_ne _ _ e, updXX_ne _ _ e]
      obtain ⟨g, ds, d1, d3⟩ := h.line j (by omega) hn
      exact ⟨g, ds, (old _ (by omega) (lt_of_heap d1)).trans d1, d3⟩
  · by_cases e : j = m
    · subst e
      rw [updXX_at]
      exact (hN.each s hs).keep (fun x hx => ho x (by have := hN.ge s hs x hx; omega)) hk45
    · rw [updXX_ne _ _ e]
      have a := h.each j s (by omega) hn hs
      exact a.keep (fun x hx => old x (by have := h.ge j s (by omega) hn hs x hx; omega) (a.lt hx)) hk
  · by_cases e : j = m
    · subst e
      rw [updXX_at] at hx
      have := hN.ge s hs x hx
      omega
    · rw [updXX_ne _ _ e] at hx
      exact h.ge j s (by omega) hn hs x hx
  · have hi : ∀ j s, j < m → j ≠ id → s < k → ∀ x, (X j s).foot x → x < wr.heap.size := fun j s h1 h2 h3 x hx => (h.each j s h1 h2 h3).lt hx
    have hJ : ∀ s, s < k → ∀ x, (Y s).foot x → wr.heap.size ≤ x := fun s hs x hx => by have := hN.ge s hs x hx; omega
    by_cases e : j = m
    · subst e
      by_cases e' : j' = j
      · subst e'
        rw [updXX_at]
        exact hN.apart s s' hs hs' fun q => hjj (by rw [q])
      · rw [updXX_at, updXX_ne _ _ e']
        exact (apart_ge (hi j' s' (by omega) hn' hs') (hJ s hs)).symm
    · by_cases e' : j' = m
      · subst e'
        rw [updXX_at, updXX_ne _ _ e]
        exact apart_ge (hi j s (by omega) hn hs) (hJ s' hs')
      · rw [updXX_ne _ _ e, updXX_ne _ _ e']
        exact h.apart j s j' s' (by omega) hn hs (by omega) hn' hs' hjj
  · have q : ∀ x, x ≠ L → x < wr.heap.size → w5.heap[x]? = wr.heap[x]? := old
    obtain ⟨bv, v1, _⟩ := h.store.box
    obtain ⟨D, v2, _⟩ := h.store.map
    obtain ⟨D', v3, _⟩ := h.store.dots
    exact h.store.keep (q p (cell_ne v1 c1 (by decide)) (lt_of_heap v1)) (q mb (by omega) v2.lt) (q db (by omega) v3.lt) (fun k x hx => by simp [Value.ownBlock] at hx) (keep3_of hk)
  · rw [hw5]
    exact (h.below.trans (hb4.mono h.below.size)).setCell (show w.heap.size ≤ L by omega) _
  · by_cases e : j = m
    · subst e
      rw [updXX_at]
      exact hN.nz s hs
    · rw [updXX_ne _ _ e]
      exact h.nz j s (by omega) hn hs
theorem NwI.done {w wr : World} {id n k p mb db L : Nat} {b : Nat → Nat} {X : Nat → Nat → Ln} (h : NwI w id n k p mb db L n b X wr) (hi : id < n) (h6 : n ≤ 6) (k1 : 1 ≤ k) (k6 : k ≤ 6) : PlAt wr ⟨L + 1, p, L, b, X, mb, db, nil0, 0⟩ (pv0 id n k) ∧ ∀ x, PlH.foot ⟨L + 1, p, L, b, X, mb, db, nil0, 0⟩ (pv0 id n k) x → w.heap.size ≤ x := by
  have hlow := h.low
  refine ⟨⟨hi, h6, k1, k6, h.box, ?_, fun j h1 h2 => (h.line j h1 h2).2, fun j s q => h.each j s q.1 q.2.1 q.2.2, fun j s j' s' q q' => h.apart j s j' s' q.1 q.2.1 q.2.2 q'.1 q'.2.1 q'.2.2, fun j s q => ?_, h.store⟩, fun x hx => ?_⟩
  · obtain ⟨cs, c1, _, c3, _⟩ := h.lines
    exact ⟨cs, c1, c3⟩
  · have := h.ge j s q.1 q.2.1 q.2.2 (X j s).gm (.inr (.inr (.inr rfl)))
    exact ⟨by show (X j s).gm ≠ mb; omega, by show (X j s).gm ≠ db; omega⟩
  · rcases hx with e | e | e | e | e | ⟨q, hq⟩ | ⟨j, h1, h2, e⟩ | ⟨j, s, q, hq⟩
    · have e' : x = L + 1 := e
      omega
    · have e' : x = p := e
      omega
    · have e' : x = mb := e
      omega
    · have e' : x = db := e
      omega
    · have e' : x = L := e
      omega
    · simp [Value.ownBlock] at hq
    · have := (h.line j h1 h2).1
      have e' : x = b j := e
      omega
    · have := h.ge j s q.1 q.2.1 q.2.2 x hq
      omega
set_option maxHeartbeats 4000000 in
theorem new_any (w : World) (id n k : Nat) (hid' : id < n) (h6 : n ≤ 6) (k1 : 1 ≤ k) (k6 : k ≤ 6) :
    Calls Tryz.prog 7 #[.int .i64 id, .int .i64 n, .int .i64 k] w fun e w' => ∃ h : PlH, e = .returned (.tuple #[.pointer (some ⟨h.pb, 0, none⟩), .nilIface]) ∧ PlAt w' h (pv0 id n k) ∧ (∀ b, h.foot (pv0 id n k) b → w.heap.size ≤ b) ∧ Below w.heap.size w w' ∧ h.nn = 0 ∧ ∀ j s, (pv0 id n k).line j s → (h.X j s).n = 0 := by
  have h1 : 1 ≤ n := by omega
  have hmk := fun W => mk66 W n h1 h6
  have K22 := hid (isShards_any k w)
  rw [show shB k = true from decide_eq_true ⟨by omega, by omega⟩] at K22
  have n1 : (1 : Int) ≤ n := by omega
  have n6 : (n : Int) ≤ 6 := by omega
  have i0 : (0 : Int) ≤ id := by omega
  have i1 : (id : Int) < n := by omega
  go_enter Tryz.func7, Tryz.ntmps7
  go_wp2_with (go_at_call 21; refine K22.out.mono ?_; rintro e w' ⟨rfl, hw'⟩; rw [hw']; clear hw')
  refine (known_ok w n h1 h6).mono ?_
  rintro e w1 ⟨p, mb, db, rfl, hp, hm, hd, hV, hb1⟩
  obtain ⟨w2, hw2⟩ : ∃ w2, w2 = w1.alloc (.cells #[.pointer (some ⟨p, 0, none⟩)] 64) := ⟨_, rfl⟩
  have b2 : Below w1.heap.size w1 w2 := by rw [hw2]; exact below_alloc _ _
  have k0 : w2.cell? ⟨w1.heap.size, 0, none⟩ = some (.pointer (some ⟨p, 0, none⟩)) := by rw [hw2]; exact (cell_of (heap_new _ _)).trans rfl
  have V2 := hid (hV.moved b2)
  have B2 : Hid (Below w.heap.size w w2) := (show Below _ _ _ from hb1.trans (b2.mono hb1.size))
  have HP : Hid (w.heap.size ≤ p ∧ w.heap.size ≤ mb ∧ w.heap.size ≤ db) := (show _ ∧ _ from ⟨hp, hm, hd⟩)
  clear b2 hV hb1 hp hm hd
  go_upto_region 4 with (fail)
  rw [← hw2]
  clear hw2
  go_upto_region 6 with (fail)
  go_region_held (fun u => u.cell? ⟨w1.heap.size, 0, none⟩ = some (.pointer (some ⟨p, 0, none⟩))) (go_keep) (fail)
  obtain ⟨L, hL⟩ : ∃ L, L = w2.heap.size := ⟨_, rfl⟩
  obtain ⟨w3, hw3⟩ : ∃ w3, w3 = ((w2.alloc (.cells (Array.replicate n (.slice none 0 0)) 70)).alloc (.cells #[.int .i64 id, .int .i64 k, .int .i64 0, .pointer (some ⟨p, 0, none⟩), .slice (some ⟨w2.heap.size, 0, none⟩) n n] 69)).drew := ⟨_, rfl⟩
  have I3 : Hid (NwI w id n k p mb db L 0 (fun _ => 0) (fun _ _ => ln0 0 0 0) w3) := (show NwI _ _ _ _ _ _ _ _ _ _ _ _ from by
    have b3 : Below w2.heap.size w2 w3 := by rw [hw3]; exact (below2 _ _ _).drew
    have e1 : mb < w2.heap.size := by obtain ⟨D, q, _⟩ := V2.out.map; exact q.lt
    have e2 : db < w2.heap.size := by obtain ⟨D, q, _⟩ := V2.out.dots; exact q.lt
    have e3 := HP.out
    have e4 := B2.out.size
    refine ⟨by rw [hw3, hL]; exact heap_new2 _ _ _, ⟨Array.replicate n (.slice none 0 0), by rw [hw3, hL]; exact heap_old (heap_new _ _) _, by simp, fun j hj => by omega, fun j _ h2 => by simp [h2]⟩, fun j hj => by omega, fun j s hj => by omega, fun j s hj => by omega, fun j s j' s' hj => by omega, V2.out.moved b3, by omega, B2.out.trans (b3.mono B2.out.size), fun j s hj => by omega⟩)
  rw [← hw3, ← hL]
  clear hw3 hL V2 B2 k0 hmk HP
  have hK := hid (fun (m : Nat) (hm : m < n) (hne : m ≠ id) W => newLines_any W id m k k1 k6 (fun s hs => ⟨⟨by omega, by omega, by omega, by omega, by omega, by omega, by omega⟩, by constructor <;> omega⟩))
  go_wp2
  go_loopw [49] (fun i wr => ∃ (m : Nat) (b : Nat → Nat) (X : Nat → Nat → Ln), m ≤ n ∧ i = .int .i64 m ∧ Hid (NwI w id n k p mb db L m b X wr)) (fun i _ => n - (intOf i).toNat)
  case atStart => exact ⟨0, _, _, Nat.zero_le _, rfl, I3⟩
  case round =>
    obtain ⟨m, b, X, hm, rfl, HI⟩ := hrel
    by_cases hlt : m < n
    · have hi1 : (m : Int) < (n : Int) := by omega
      by_cases hne : m = id
      · subst hne
        have N5 := hid (HI.out.skip hlt)
        go_wp2
        exact ⟨⟨m + 1, _, _, by omega, by go_num, N5⟩, by simp [intOf]; omega⟩
      · have hne' : (m : Int) ≠ (id : Int) := by omega
        have c4 : wr.cell? ⟨L + 1, 4, none⟩ = some (.slice (some ⟨L, 0, none⟩) n n) := (cell_of HI.out.box).trans rfl
        have K24 := hid (hK.out m hlt hne)
        go_upto_region 11 with (fail)
        go_region_held (fun u => u.cell? ⟨L + 1, 4, none⟩ = some (.slice (some ⟨L, 0, none⟩) n n)) (go_keep) ((go_at_call 23; refine (K24.out _).mono ?_; rintro e w4 ⟨Y, rfl, hN⟩; have hN' := NlI.undrew hN; have hb4 : Below wr.heap.size wr w4 := hN'.below; have c4' := (hb4.cell (lt_of_cell c4)).trans c4; have HN := hid hN'; obtain ⟨cs, k1', k2', _, _⟩ := HI.out.lines; have k4 := (hb4.block _ (lt_of_heap k1')).trans k1'; have q1 : w4.cell? ⟨L, m, none⟩ = some (cs[m]'(by omega)) := (cell_of k4).trans (Array.getElem?_eq_getElem _); have z1 : w4.frozen? ⟨L, m, none⟩ = false := free_of k4; clear hN hN' hb4 k1' k4))
        obtain ⟨w5, hw5⟩ : ∃ w5, w5 = w4.setCell ⟨L, m, none⟩ (.slice (some ⟨wr.heap.size, 0, none⟩) k k) := ⟨_, rfl⟩
        have N5 := hid (HI.out.next hlt hne HN.out hw5)
        rw [← hw5]
        clear hw5 c4 c4' q1 z1
        go_wp2
        exact ⟨⟨m + 1, _, _, by omega, by go_num, N5⟩, by simp [intOf]; omega⟩
    · obtain rfl : m = n := by omega
      obtain ⟨E1, E2⟩ := HI.out.done hid' h6 k1 k6
      have HE1 := hid E1
      have HE2 := hid E2
      clear E1 E2
      go_wp2
      go_ret2
      exact ⟨_, rfl, HE1.out, HE2.out, HI.out.below, rfl, fun j s q => HI.out.nz j s q.1 q.2.1 q.2.2⟩
end Go.Proofs.YtepnghacjggkkaaGreatDoor
namespace Go.Proofs.YtepnghacjggkkaaGreatDoor
open Go.RowKit Go.Maps
set_option maxRecDepth 100000
set_option linter.unusedSectionVars false
variable [Inhabited ComV] [DecidableEq D3] [Inhabited D3] [Inhabited Dd] [Inhabited Dn] [Inhabited OpV]

def tyAt (W : World) (b : Nat) : Nat := match W.heap[b]? with
  | some (.cells _ t _) => t + 1
  | _ => 0
theorem tyAt_cells {W : World} {b : Nat} {cs : Array Value} {t : TypeId} (h : W.heap[b]? = some (.cells cs t (0, 0))) : tyAt W b = t + 1 := by unfold tyAt; rw [h]
theorem tyAt_map {W : World} {b : Nat} {kt n : Nat} {α : Type} {R : Value → Option (DataW α × List MemPlace)} {D : DataW α} (h : W.ownsMap Tryz.prog kt R b n D) : tyAt W b = 0 := by
  obtain ⟨es, clock, hb, _⟩ := h
  unfold tyAt
  rw [hb]
theorem tyAt_own {W : World} {base e size n b : Nat} {v : Value} {xs : List Value} (h : W.ownsRow base e size v n xs) (hb : v.ownBlock = some b) : tyAt W b = e + 1 := by
  obtain ⟨cs, hc⟩ := own_type h hb
  exact tyAt_cells hc
theorem LnAt.ty {w : World} {i j s : Int} {x : Ln} {y : LnV} (h : LnAt w i j s x y) : tyAt w x.g = 112 ∧ tyAt w x.gr = 139 ∧ tyAt w x.gm = 0 ∧ ∀ b, x.v.ownBlock = some b → tyAt w b = 75 := by
  obtain ⟨D, hm, _⟩ := h.rcv.map
  exact ⟨tyAt_cells h.snd.box, tyAt_cells h.rcv.box, tyAt_map hm, fun b hb => tyAt_own h.snd.row hb⟩
theorem PlAt.off {w : World} {h : PlH} {v : PlV} (a : PlAt w h v) {j s : Nat} (q : v.line j s) {b : Nat} (hb : (h.X j s).foot b) : b ≠ h.pb ∧ b ≠ h.p ∧ b ≠ h.mb ∧ b ≠ h.db ∧ b ≠ h.lb ∧ (∀ k, (h.f k).ownBlock ≠ some b) ∧ ∀ j', j' < v.n → j' ≠ v.id → b ≠ h.b j' := by
  obtain ⟨t1, t2, t3, t4⟩ := (a.each j s q).ty
  have hty : tyAt w b = 112 ∨ tyAt w b = 75 ∨ tyAt w b = 139 ∨ b = (h.X j s).gm := by
    rcases hb with rfl | hb | rfl | rfl
    · exact .inl t1
    · exact .inr (.inl (t4 b hb))
    · exact .inr (.inr (.inl t2))
    · exact .inr (.inr (.inr rfl))
  have e1 : tyAt w h.pb = 70 := tyAt_cells a.box
  have e2 : tyAt w h.p = 134 := by obtain ⟨bv, q, _⟩ := a.store.box; exact tyAt_cells q
  have e3 : tyAt w h.mb = 0 := by obtain ⟨D, q, _⟩ := a.store.map; exact tyAt_map q
  have e4 : tyAt w h.db = 0 := by obtain ⟨D, q, _⟩ := a.store.dots; exact tyAt_map q
  have e5 : tyAt w h.lb = 71 := by obtain ⟨cs, q, _⟩ := a.lines; exact tyAt_cells q
  have m := a.mapne j s q
  refine ⟨fun e => ?_, fun e => ?_, fun e => ?_, fun e => ?_, fun e => ?_, fun k e => ?_, fun j' h1 h2 e => ?_⟩
  · rcases hty with h | h | h | h
    · rw [e, e1] at h; omega
    · rw [e, e1] at h; omega
    · rw [e, e1] at h; omega
    · rw [← h, e, e1] at t3; omega
  · rcases hty with h | h | h | h
    · rw [e, e2] at h; omega
    · rw [e, e2] at h; omega
    · rw [e, e2] at h; omega
    · rw [← h, e, e2] at t3; omega
  · rcases hty with h | h | h | h
    · rw [e, e3] at h; omega
    · rw [e, e3] at h; omega
    · rw [e, e3] at h; omega
    · exact m.1 (h.symm.trans e)
  · rcases hty with h | h | h | h
    · rw [e, e4] at h; omega
    · rw [e, e4] at h; omega
    · rw [e, e4] at h; omega
    · exact m.2 (h.symm.trans e)
  · rcases hty with h | h | h | h
    · rw [e, e5] at h; omega
    · rw [e, e5] at h; omega
    · rw [e, e5] at h; omega
    · rw [← h, e, e5] at t3; omega
  · obtain ⟨rs, r1, _⟩ := a.store.rows k
    have e6 : tyAt w b = 48 := tyAt_own r1 e
    rcases hty with h | h | h | h
    · omega
    · omega
    · omega
    · rw [← h] at t3; omega
  · have e7 : tyAt w b = 82 := by obtain ⟨cs, q, _⟩ := a.line j' h1 h2; rw [e]; exact tyAt_cells q
    rcases hty with h | h | h | h
    · omega
    · omega
    · omega
    · rw [← h] at t3; omega
theorem LnAt.apart {w : World} {i j s i' j' s' : Int} {x x' : Ln} {y y' : LnV} (h : LnAt w i j s x y) (h' : LnAt w i' j' s' x' y') (ha : Apart x x') {b : Nat} (hb : x.foot b) : ¬ x'.foot b := by
  obtain ⟨t1, t2, t3, t4⟩ := h.ty
  obtain ⟨u1, u2, u3, u4⟩ := h'.ty
  intro hb'
  rcases hb with rfl | hb | rfl | rfl <;> rcases hb' with e | e | e | e
  · exact ha.g e
  · have := u4 _ e; omega
  · rw [e] at t1; omega
  · rw [e] at t1; omega
  · have := t4 _ hb; rw [e] at this; omega
  · exact ha.v b hb e
  · have := t4 _ hb; rw [e] at this; omega
  · have := t4 _ hb; rw [e] at this; omega
  · rw [e] at t2; omega
  · have := u4 _ e; omega
  · exact ha.gr e
  · rw [e] at t2; omega
  · rw [e] at t3; omega
  · have := u4 _ e; omega
  · rw [e] at t3; omega
  · exact ha.gm e
def updL {α : Type} (X : Nat → Nat → α) (j s : Nat) (x : α) : Nat → Nat → α := fun j' s' => if j' = j ∧ s' = s then x else X j' s'
theorem updL_at {α : Type} (X : Nat → Nat → α) (j s : Nat) (x : α) : updL X j s x j s = x := if_pos ⟨rfl, rfl⟩
theorem updL_ne {α : Type} (X : Nat → Nat → α) {j s j' s' : Nat} (x : α) (h : (j', s') ≠ (j, s)) : updL X j s x j' s' = X j' s' := if_neg fun e => h (by rw [e.1, e.2])
theorem PlAt.turn {w w' : World} {h : PlH} {v : PlV} (a : PlAt w h v) {j s : Nat} (q : v.line j s) {x' : Ln} {y' : LnV} (hx : LnAt w' v.id j s x' y') (hg : x'.g = (h.X j s).g) (hgr : x'.gr = (h.X j s).gr) (hgm : x'.gm = (h.X j s).gm) (hv : x'.v.ownBlock = (h.X j s).v.ownBlock ∨ ∃ c, x'.v.ownBlock = some c ∧ w.heap.size ≤ c)
    (ho : ∀ b, b < w.heap.size → ¬ (h.X j s).foot b → w'.heap[b]? = w.heap[b]?) (hk : Keeps w w') : PlAt w' { h with X := updL h.X j s x' } { v with Y := updL v.Y j s y' } := by
  have hs : ∀ b, b < w.heap.size → (∀ b', (h.X j s).foot b' → b' ≠ b) → w'.heap[b]? = w.heap[b]? := fun b h1 h2 => ho b h1 fun e => h2 b e rfl
  have same : ∀ j' s', v.line j' s' → (updL h.X j s x' j' s').g = (h.X j' s').g ∧ (updL h.X j s x' j' s').gr = (h.X j' s').gr ∧ (updL h.X j s x' j' s').gm = (h.X j' s').gm := fun j' s' _ => by
    by_cases e : (j', s') = (j, s)
    · obtain ⟨rfl, rfl⟩ := Prod.mk.inj e
      rw [updL_at]
      exact ⟨hg, hgr, hgm⟩
    · rw [updL_ne _ _ e]
      exact ⟨rfl, rfl, rfl⟩
  refine ⟨a.idn, a.n6, a.k1, a.k6, (hs _ (lt_of_heap a.box) fun b' hb' => (a.off q hb').1).trans a.box, ?_, fun j' h1 h2 => ?_, fun j' s' q' => ?_, fun j1 s1 j2 s2 q1 q2 hne => ?_, fun j' s' q' => ?_, ?_⟩
  · obtain ⟨cs, c1, c2⟩ := a.lines
    exact ⟨cs, (hs _ (lt_of_heap c1) fun b' hb' => (a.off q hb').2.2.2.2.1).trans c1, c2⟩
  · obtain ⟨cs, c1, c2⟩ := a.line j' h1 h2
    refine ⟨cs, (hs _ (lt_of_heap c1) fun b' hb' => (a.off q hb').2.2.2.2.2.2 j' h1 h2).trans c1, fun s' hs' => ?_⟩
    obtain ⟨g1, g2, _⟩ := same j' s' ⟨h1, h2, hs'⟩
    show cs[s' * 2]? = some (.pointer (some ⟨(updL h.X j s x' j' s').g, 0, none⟩)) ∧ cs[s' * 2 + 1]? = some (.pointer (some ⟨(updL h.X j s x' j' s').gr, 0, none⟩))
    rw [g1, g2]
    exact c2 s' hs'
  · show LnAt w' v.id j' s' (updL h.X j s x' j' s') (updL v.Y j s y' j' s')
    by_cases e : (j', s') = (j, s)
    · obtain ⟨rfl, rfl⟩ := Prod.mk.inj e
      rw [updL_at, updL_at]
      exact hx
    · rw [updL_ne _ _ e, updL_ne _ _ e]
      have l := a.each j' s' q'
      exact l.keep (fun b hb => ho b (l.lt hb) (l.apart (a.each j s q) (a.apart j' s' j s q' q e) hb)) hk
  · show Apart (updL h.X j s x' j1 s1) (updL h.X j s x' j2 s2)
    have hva : ∀ j2 s2, v.line j2 s2 → (j2, s2) ≠ (j, s) → Apart x' (h.X j2 s2) := fun j2 s2 q2 hne => by
      have p := a.apart j s j2 s2 q q2 (Ne.symm hne)
      refine ⟨hg ▸ p.g, hgr ▸ p.gr, hgm ▸ p.gm, fun b hb hb' => ?_⟩
      rcases hv with e | ⟨c, e, hc⟩
      · rw [e] at hb
        exact p.v b hb hb'
      · rw [e] at hb
        obtain rfl := Option.some.inj hb
        have := (a.each j2 s2 q2).lt (.inr (.inl hb'))
        omega
    by_cases e1 : (j1, s1) = (j, s)
    · obtain ⟨rfl, rfl⟩ := Prod.mk.inj e1
      rw [updL_at, updL_ne _ _ (Ne.symm hne)]
      exact hva j2 s2 q2 (Ne.symm hne)
    · by_cases e2 : (j2, s2) = (j, s)
      · obtain ⟨rfl, rfl⟩ := Prod.mk.inj e2
        rw [updL_at, updL_ne _ _ e1]
        exact (hva j1 s1 q1 hne).symm
      · rw [updL_ne _ _ e1, updL_ne _ _ e2]
        exact a.apart j1 s1 j2 s2 q1 q2 hne
  · show (updL h.X j s x' j' s').gm ≠ h.mb ∧ (updL h.X j s x' j' s').gm ≠ h.db
    rw [(same j' s' q').2.2]
    exact a.mapne j' s' q'
  · have lt : ∀ {b}, h.foot v b → b < w.heap.size := fun hb => a.lt hb
    exact a.store.keep (hs _ (lt (.inr (.inl rfl))) fun b' hb' => (a.off q hb').2.1) (hs _ (lt (.inr (.inr (.inl rfl)))) fun b' hb' => (a.off q hb').2.2.1) (hs _ (lt (.inr (.inr (.inr (.inl rfl))))) fun b' hb' => (a.off q hb').2.2.2.1)
      (fun k b hb => hs b (lt (.inr (.inr (.inr (.inr (.inr (.inl ⟨k, hb⟩))))))) fun b' hb' e => (a.off q hb').2.2.2.2.2.1 k (by rw [e]; exact hb)) (keep3_of hk)
theorem PlH.foot_turn {h : PlH} {v : PlV} {j s B : Nat} {x' : Ln} {y' : LnV} (q : v.line j s) (hg : x'.g = (h.X j s).g) (hgr : x'.gr = (h.X j s).gr) (hgm : x'.gm = (h.X j s).gm) (hv : x'.v.ownBlock = (h.X j s).v.ownBlock ∨ ∃ c, x'.v.ownBlock = some c ∧ B ≤ c) {b : Nat} (hb : PlH.foot { h with X := updL h.X j s x' } { v with Y := updL v.Y j s y' } b) : h.foot v b ∨ B ≤ b := by
  rcases hb with e | e | e | e | e | e | e | ⟨j', s', q', e⟩
  · exact .inl (.inl e)
  · exact .inl (.inr (.inl e))
  · exact .inl (.inr (.inr (.inl e)))
  · exact .inl (.inr (.inr (.inr (.inl e))))
  · exact .inl (.inr (.inr (.inr (.inr (.inl e)))))
  · exact .inl (.inr (.inr (.inr (.inr (.inr (.inl e))))))
  · exact .inl (.inr (.inr (.inr (.inr (.inr (.inr (.inl e)))))))
  · have up : ∀ j s, v.line j s → (h.X j s).foot b → h.foot v b := fun j s q hb => .inr (.inr (.inr (.inr (.inr (.inr (.inr ⟨j, s, q, hb⟩))))))
    have e' : (updL h.X j s x' j' s').foot b := e
    by_cases k : (j', s') = (j, s)
    · obtain ⟨rfl, rfl⟩ := Prod.mk.inj k
      rw [updL_at] at e'
      rcases e' with e | e | e | e
      · exact .inl (up j' s' q (.inl (e.trans hg)))
      · rcases hv with p | ⟨c, p, hc⟩
        · exact .inl (up j' s' q (.inr (.inl (p.symm.trans e))))
        · rw [p] at e
          exact .inr (by have := Option.some.inj e; omega)
      · exact .inl (up j' s' q (.inr (.inr (.inl (e.trans hgr)))))
      · exact .inl (up j' s' q (.inr (.inr (.inr (e.trans hgm)))))
    · rw [updL_ne _ _ k] at e'
      exact .inl (up j' s' q' e')
end Go.Proofs.YtepnghacjggkkaaGreatDoor
