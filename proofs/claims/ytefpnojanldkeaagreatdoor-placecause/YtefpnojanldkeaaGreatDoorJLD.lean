/- A place is made: any number of places, of shards; The snapshot of a place. -/
import Derived.Test.YtefpnojanldkeaaGreatDoorJLB
namespace Go.Proofs.YtefpnojanldkeaaGreatDoor
open Go.RowKit Go.Maps
set_option maxRecDepth 100000
set_option linter.unusedSectionVars false
variable [Inhabited ComV] [DecidableEq D3] [Inhabited D3] [Inhabited Dd] [Inhabited Dn] [Inhabited OpV]

def pv0 (id n k : Nat) : PlV := ⟨id, n, k, 0, fun _ _ => lnv0, ⟨List.replicate n 0, [], []⟩⟩
theorem mk66 (W : World) (n : Nat) (h1 : 1 ≤ n) (h6 : n ≤ 6) : (Instr.makeSlice 66 (.int .i64 n) (.int .i64 n)).run Tryz.prog W = .ok (.slice (some ⟨W.heap.size, 0, none⟩) n n) (W.alloc (.cells (Array.replicate n (.slice none 0 0)) 69)) := by
  rcases (by omega : n = 1 ∨ n = 2 ∨ n = 3 ∨ n = 4 ∨ n = 5 ∨ n = 6) with rfl | rfl | rfl | rfl | rfl | rfl <;> kernel_rfl
abbrev nil0 : ByteArray → Value := fun _ => .slice none 0 0
def updN (b : Nat → Nat) (i x : Nat) : Nat → Nat := fun s => if s = i then x else b s
theorem updN_at (b : Nat → Nat) (i x : Nat) : updN b i x i = x := if_pos rfl
theorem updN_ne (b : Nat → Nat) {i s : Nat} (x : Nat) (h : s ≠ i) : updN b i x s = b s := if_neg h
def updXX (X : Nat → Nat → Ln) (i : Nat) (x : Nat → Ln) : Nat → Nat → Ln := fun j => if j = i then x else X j
theorem updXX_at (X : Nat → Nat → Ln) (i : Nat) (x : Nat → Ln) : updXX X i x i = x := if_pos rfl
theorem updXX_ne (X : Nat → Nat → Ln) {i s : Nat} (x : Nat → Ln) (h : s ≠ i) : updXX X i x s = X s := if_neg h
structure NwI (w : World) (id n k p mb db L m : Nat) (b : Nat → Nat) (X : Nat → Nat → Ln) (wr : World) : Prop where
  box : wr.heap[L + 1]? = some (.cells #[.int .i64 id, .int .i64 k, .int .i64 0, .pointer (some ⟨p, 0, none⟩), .slice (some ⟨L, 0, none⟩) n n] 68 (0, 0))
  lines : ∃ cs, wr.heap[L]? = some (.cells cs 69 (0, 0)) ∧ cs.size = n ∧ (∀ j, j < m → cs[j]? = some (if j = id then .slice none 0 0 else .slice (some ⟨b j, 0, none⟩) k k)) ∧ ∀ j, m ≤ j → j < n → cs[j]? = some (.slice none 0 0)
  line : ∀ j, j < m → j ≠ id → L + 2 ≤ b j ∧ ∃ cs, wr.heap[b j]? = some (.cells cs 80 (0, 0)) ∧ ∀ s, s < k → cs[s * 2]? = some (.pointer (some ⟨(X j s).g, 0, none⟩)) ∧ cs[s * 2 + 1]? = some (.pointer (some ⟨(X j s).gr, 0, none⟩))
  each : ∀ j s, j < m → j ≠ id → s < k → LnAt wr id j s (X j s) lnv0
  ge : ∀ j s, j < m → j ≠ id → s < k → ∀ x, (X j s).foot x → L + 2 ≤ x
  apart : ∀ j s j' s', j < m → j ≠ id → s < k → j' < m → j' ≠ id → s' < k → (j, s) ≠ (j', s') → Apart (X j s) (X j' s')
  store : VerAt wr p mb db nil0 ⟨List.replicate n 0, [], []⟩ 0
  low : w.heap.size ≤ p ∧ w.heap.size ≤ mb ∧ w.heap.size ≤ db ∧ mb < L ∧ db < L ∧ w.heap.size ≤ L
  below : Below w.heap.size w wr
  nz : ∀ j s, j < m → j ≠ id → s < k → (X j s).n = 0
theorem apart_ge {x x' : Ln} {B : Nat} (h1 : ∀ b, x.foot b → b < B) (h2 : ∀ b, x'.foot b → B ≤ b) : Apart x x' :=
  ⟨fun e => by have := h1 x.g (.inl rfl); have := h2 x'.g (.inl rfl); omega, fun e => by have := h1 x.gr (.inr (.inr (.inl rfl))); have := h2 x'.gr (.inr (.inr (.inl rfl))); omega, fun e => by have := h1 x.gm (.inr (.inr (.inr rfl))); have := h2 x'.gm (.inr (.inr (.inr rfl))); omega, fun b hb hb' => by have := h1 b (.inr (.inl hb)); have := h2 b (.inr (.inl hb')); omega⟩
theorem Apart.symm {x x' : Ln} (h : Apart x x') : Apart x' x := ⟨fun e => h.g e.symm, fun e => h.gr e.symm, fun e => h.gm e.symm, fun b hb hb' => h.v b hb' hb⟩
theorem NlI.undrew {w w4 : World} {f t : Int} {k i : Nat} {X : Nat → Ln} (h : NlI w.drew f t k i X w4) : NlI w f t k i X w4 := ⟨h.row, h.each, h.ge, h.apart, (Below.refl _ _).drew.trans h.below, h.nz⟩
theorem NwI.skip {w wr : World} {n k p mb db L m : Nat} {b : Nat → Nat} {X : Nat → Nat → Ln} (h : NwI w m n k p mb db L m b X wr) (hm : m < n) : NwI w m n k p mb db L (m + 1) b X wr := by
  obtain ⟨cs, c1, c2, c3, c4⟩ := h.lines
  refine ⟨h.box, ⟨cs, c1, c2, fun j hj => ?_, fun j h1 h2 => c4 j (by omega) h2⟩, fun j hj hn => h.line j (by omega) hn, fun j s hj hn => h.each j s (by omega) hn, fun j s hj hn => h.ge j s (by omega) hn, fun j s j' s' hj hn hs hj' hn' => h.apart j s j' s' (by omega) hn hs (by omega) hn', h.store, h.low, h.below, fun j s hj hn => h.nz j s (by omega) hn⟩
  by_cases e : j = m
  · subst e
    rw [if_pos rfl]
    exact c4 j (Nat.le_refl _) hm
  · exact c3 j (by omega)
theorem NwI.next {w wr w4 w5 : World} {id n k p mb db L m : Nat} {b : Nat → Nat} {X : Nat → Nat → Ln} {Y : Nat → Ln} (h : NwI w id n k p mb db L m b X wr) (hm : m < n) (hne : m ≠ id) (hN : NlI wr id m k k Y w4) (hw5 : w5 = w4.setCell ⟨L, m, none⟩ (.slice (some ⟨wr.heap.size, 0, none⟩) k k)) : NwI w id n k p mb db L (m + 1) (updN b m wr.heap.size) (updXX X m Y) w5 := by
  obtain ⟨cs, c1, c2, c3, c4⟩ := h.lines
  have hb4 := hN.below
  have hL := lt_of_heap c1
  have hL1 := lt_of_heap h.box
  have k4 := (hb4.block _ hL).trans c1
  have ho : ∀ q, q ≠ L → w5.heap[q]? = w4.heap[q]? := fun q hq => by rw [hw5]; exact Below.heap_setCell _ _ _ _ hq
  have hk45 : Keeps w4 w5 := keeps_but k4 (by decide) (by decide) (by decide) fun q _ hq => ho q hq
  have hk : Keeps wr w5 := (Keeps.bel hb4).trans hk45
  have old : ∀ q, q ≠ L → q < wr.heap.size → w5.heap[q]? = wr.heap[q]? := fun q h1 h2 => (ho q h1).trans (hb4.block q h2)
  have hlow := h.low
  refine ⟨(old _ (by omega) hL1).trans h.box, ⟨cs.setIfInBounds m (.slice (some ⟨wr.heap.size, 0, none⟩) k k), by rw [hw5]; exact heap_set k4 _, by simp [c2], fun j hj => ?_, fun j h1 h2 => ?_⟩, fun j hj hn => ?_, fun j s hj hn hs => ?_, fun j s hj hn hs x hx => ?_, fun j s j' s' hj hn hs hj' hn' hs' hjj => ?_, ?_, h.low, ?_, fun j s hj hn hs => ?_⟩
  · rw [set_get (by omega)]
    by_cases e : j = m
    · subst e
      rw [if_pos rfl, if_neg hne, updN_at]
    · rw [if_neg (Ne.symm e), updN_ne _ _ e]
      exact c3 j (by omega)
  · rw [set_get (by omega), if_neg (by omega)]
    exact c4 j (by omega) h2
  · by_cases e : j = m
    · subst e
      rw [updN_at, updXX_at]
      obtain ⟨ds, d1, _, d3⟩ := hN.row
      exact ⟨by omega, ds, (ho _ (by omega)).trans d1, d3⟩
    · rw [updN_ne _ _ e, updXX_ne _ _ e]
      obtain ⟨g, ds, d1, d3⟩ := h.line j (by omega) hn
      exact ⟨g, ds, (old _ (by omega) (lt_of_heap d1)).trans d1, d3⟩
  · by_cases e : j = m
    · subst e
      rw [updXX_at]
      exact (hN.each s hs).keep (fun x hx => ho x (by have := hN.ge s hs x hx; omega)) hk45
    · rw [updXX_ne _ _ e]
      have a := h.each j s (by omega) hn hs
      exact a.keep (fun x hx => old x (by have := h.ge j s (by omega) hn hs x hx; omega) (a.lt hx)) hk
  · by_cases e : j = m
    · subst e
      rw [updXX_at] at hx
      have := hN.ge s hs x hx
      omega
    · rw [updXX_ne _ _ e] at hx
      exact h.ge j s (by omega) hn hs x hx
  · have hi : ∀ j s, j < m → j ≠ id → s < k → ∀ x, (X j s).foot x → x < wr.heap.size := fun j s h1 h2 h3 x hx => (h.each j s h1 h2 h3).lt hx
    have hJ : ∀ s, s < k → ∀ x, (Y s).foot x → wr.heap.size ≤ x := fun s hs x hx => by have := hN.ge s hs x hx; omega
    by_cases e : j = m
    · subst e
      by_cases e' : j' = j
      · subst e'
        rw [updXX_at]
        exact hN.apart s s' hs hs' fun q => hjj (by rw [q])
      · rw [updXX_at, updXX_ne _ _ e']
        exact (apart_ge (hi j' s' (by omega) hn' hs') (hJ s hs)).symm
    · by_cases e' : j' = m
      · subst e'
        rw [updXX_at, updXX_ne _ _ e]
        exact apart_ge (hi j s (by omega) hn hs) (hJ s' hs')
      · rw [updXX_ne _ _ e, updXX_ne _ _ e']
        exact h.apart j s j' s' (by omega) hn hs (by omega) hn' hs' hjj
  · have q : ∀ x, x ≠ L → x < wr.heap.size → w5.heap[x]? = wr.heap[x]? := old
    obtain ⟨bv, v1, _⟩ := h.store.box
    obtain ⟨D, v2, _⟩ := h.store.map
    obtain ⟨D', v3, _⟩ := h.store.dots
    exact h.store.keep (q p (cell_ne v1 c1 (by decide)) (lt_of_heap v1)) (q mb (by omega) v2.lt) (q db (by omega) v3.lt) (fun k x hx => by simp [Value.ownBlock] at hx) (keep3_of hk)
  · rw [hw5]
    exact (h.below.trans (hb4.mono h.below.size)).setCell (show w.heap.size ≤ L by omega) _
  · by_cases e : j = m
    · subst e
      rw [updXX_at]
      exact hN.nz s hs
    · rw [updXX_ne _ _ e]
      exact h.nz j s (by omega) hn hs
theorem NwI.done {w wr : World} {id n k p mb db L : Nat} {b : Nat → Nat} {X : Nat → Nat → Ln} (h : NwI w id n k p mb db L n b X wr) (hi : id < n) (h6 : n ≤ 6) (k1 : 1 ≤ k) (k6 : k ≤ 6) : PlAt wr ⟨L + 1, p, L, b, X, mb, db, nil0, 0⟩ (pv0 id n k) ∧ ∀ x, PlH.foot ⟨L + 1, p, L, b, X, mb, db, nil0, 0⟩ (pv0 id n k) x → w.heap.size ≤ x := by
  have hlow := h.low
  refine ⟨⟨hi, h6, k1, k6, h.box, ?_, fun j h1 h2 => (h.line j h1 h2).2, fun j s q => h.each j s q.1 q.2.1 q.2.2, fun j s j' s' q q' => h.apart j s j' s' q.1 q.2.1 q.2.2 q'.1 q'.2.1 q'.2.2, fun j s q => ?_, h.store⟩, fun x hx => ?_⟩
  · obtain ⟨cs, c1, _, c3, _⟩ := h.lines
    exact ⟨cs, c1, c3⟩
  · have := h.ge j s q.1 q.2.1 q.2.2 (X j s).gm (.inr (.inr (.inr rfl)))
    exact ⟨by show (X j s).gm ≠ mb; omega, by show (X j s).gm ≠ db; omega⟩
  · rcases hx with e | e | e | e | e | ⟨q, hq⟩ | ⟨j, h1, h2, e⟩ | ⟨j, s, q, hq⟩
    · have e' : x = L + 1 := e
      omega
    · have e' : x = p := e
      omega
    · have e' : x = mb := e
      omega
    · have e' : x = db := e
      omega
    · have e' : x = L := e
      omega
    · simp [Value.ownBlock] at hq
    · have := (h.line j h1 h2).1
      have e' : x = b j := e
      omega
    · have := h.ge j s q.1 q.2.1 q.2.2 x hq
      omega
set_option maxHeartbeats 4000000 in
theorem new_any (w : World) (id n k : Nat) (hid' : id < n) (h6 : n ≤ 6) (k1 : 1 ≤ k) (k6 : k ≤ 6) :
    Calls Tryz.prog 7 #[.int .i64 id, .int .i64 n, .int .i64 k] w fun e w' => ∃ h : PlH, e = .returned (.tuple #[.pointer (some ⟨h.pb, 0, none⟩), .nilIface]) ∧ PlAt w' h (pv0 id n k) ∧ (∀ b, h.foot (pv0 id n k) b → w.heap.size ≤ b) ∧ Below w.heap.size w w' ∧ h.nn = 0 ∧ ∀ j s, (pv0 id n k).line j s → (h.X j s).n = 0 := by
  have h1 : 1 ≤ n := by omega
  have hmk := fun W => mk66 W n h1 h6
  have K22 := hid (isShards_any k w)
  rw [show shB k = true from decide_eq_true ⟨by omega, by omega⟩] at K22
  have n1 : (1 : Int) ≤ n := by omega
  have n6 : (n : Int) ≤ 6 := by omega
  have i0 : (0 : Int) ≤ id := by omega
  have i1 : (id : Int) < n := by omega
  go_enter Tryz.func7, Tryz.ntmps7
  go_wp2_with (go_at_call 22; refine K22.out.mono ?_; rintro e w' ⟨rfl, hw'⟩; rw [hw']; clear hw')
  refine (known_ok w n h1 h6).mono ?_
  rintro e w1 ⟨p, mb, db, rfl, hp, hm, hd, hV, hb1⟩
  obtain ⟨w2, hw2⟩ : ∃ w2, w2 = w1.alloc (.cells #[.pointer (some ⟨p, 0, none⟩)] 63) := ⟨_, rfl⟩
  have b2 : Below w1.heap.size w1 w2 := by rw [hw2]; exact below_alloc _ _
  have k0 : w2.cell? ⟨w1.heap.size, 0, none⟩ = some (.pointer (some ⟨p, 0, none⟩)) := by rw [hw2]; exact (cell_of (heap_new _ _)).trans rfl
  have V2 := hid (hV.moved b2)
  have B2 : Hid (Below w.heap.size w w2) := (show Below _ _ _ from hb1.trans (b2.mono hb1.size))
  have HP : Hid (w.heap.size ≤ p ∧ w.heap.size ≤ mb ∧ w.heap.size ≤ db) := (show _ ∧ _ from ⟨hp, hm, hd⟩)
  clear b2 hV hb1 hp hm hd
  go_upto_region 4 with (fail)
  rw [← hw2]
  clear hw2
  go_upto_region 6 with (fail)
  go_region_held (fun u => u.cell? ⟨w1.heap.size, 0, none⟩ = some (.pointer (some ⟨p, 0, none⟩))) (go_keep) (fail)
  obtain ⟨L, hL⟩ : ∃ L, L = w2.heap.size := ⟨_, rfl⟩
  obtain ⟨w3, hw3⟩ : ∃ w3, w3 = ((w2.alloc (.cells (Array.replicate n (.slice none 0 0)) 69)).alloc (.cells #[.int .i64 id, .int .i64 k, .int .i64 0, .pointer (some ⟨p, 0, none⟩), .slice (some ⟨w2.heap.size, 0, none⟩) n n] 68)).drew := ⟨_, rfl⟩
  have I3 : Hid (NwI w id n k p mb db L 0 (fun _ => 0) (fun _ _ => ln0 0 0 0) w3) := (show NwI _ _ _ _ _ _ _ _ _ _ _ _ from by
    have b3 : Below w2.heap.size w2 w3 := by rw [hw3]; exact (below2 _ _ _).drew
    have e1 : mb < w2.heap.size := by obtain ⟨D, q, _⟩ := V2.out.map; exact q.lt
    have e2 : db < w2.heap.size := by obtain ⟨D, q, _⟩ := V2.out.dots; exact q.lt
    have e3 := HP.out
    have e4 := B2.out.size
    refine ⟨by rw [hw3, hL]; exact heap_new2 _ _ _, ⟨Array.replicate n (.slice none 0 0), by rw [hw3, hL]; exact heap_old (heap_new _ _) _, by simp, fun j hj => by omega, fun j _ h2 => by simp [h2]⟩, fun j hj => by omega, fun j s hj => by omega, fun j s hj => by omega, fun j s j' s' hj => by omega, V2.out.moved b3, by omega, B2.out.trans (b3.mono B2.out.size), fun j s hj => by omega⟩)
  rw [← hw3, ← hL]
  clear hw3 hL V2 B2 k0 hmk HP
  have hK := hid (fun (m : Nat) (hm : m < n) (hne : m ≠ id) W => newLines_any W id m k k1 k6 (fun s hs => ⟨⟨by omega, by omega, by omega, by omega, by omega, by omega, by omega⟩, by constructor <;> omega⟩))
  go_wp2
  go_loopw [49] (fun i wr => ∃ (m : Nat) (b : Nat → Nat) (X : Nat → Nat → Ln), m ≤ n ∧ i = .int .i64 m ∧ Hid (NwI w id n k p mb db L m b X wr)) (fun i _ => n - (intOf i).toNat)
  case atStart => exact ⟨0, _, _, Nat.zero_le _, rfl, I3⟩
  case round =>
    obtain ⟨m, b, X, hm, rfl, HI⟩ := hrel
    by_cases hlt : m < n
    · have hi1 : (m : Int) < (n : Int) := by omega
      by_cases hne : m = id
      · subst hne
        have N5 := hid (HI.out.skip hlt)
        go_wp2
        exact ⟨⟨m + 1, _, _, by omega, by go_num, N5⟩, by simp [intOf]; omega⟩
      · have hne' : (m : Int) ≠ (id : Int) := by omega
        have c4 : wr.cell? ⟨L + 1, 4, none⟩ = some (.slice (some ⟨L, 0, none⟩) n n) := (cell_of HI.out.box).trans rfl
        have K24 := hid (hK.out m hlt hne)
        go_upto_region 11 with (fail)
        go_region_held (fun u => u.cell? ⟨L + 1, 4, none⟩ = some (.slice (some ⟨L, 0, none⟩) n n)) (go_keep) ((go_at_call 24; refine (K24.out _).mono ?_; rintro e w4 ⟨Y, rfl, hN⟩; have hN' := NlI.undrew hN; have hb4 : Below wr.heap.size wr w4 := hN'.below; have c4' := (hb4.cell (lt_of_cell c4)).trans c4; have HN := hid hN'; obtain ⟨cs, k1', k2', _, _⟩ := HI.out.lines; have k4 := (hb4.block _ (lt_of_heap k1')).trans k1'; have q1 : w4.cell? ⟨L, m, none⟩ = some (cs[m]'(by omega)) := (cell_of k4).trans (Array.getElem?_eq_getElem _); have z1 : w4.frozen? ⟨L, m, none⟩ = false := free_of k4; clear hN hN' hb4 k1' k4))
        obtain ⟨w5, hw5⟩ : ∃ w5, w5 = w4.setCell ⟨L, m, none⟩ (.slice (some ⟨wr.heap.size, 0, none⟩) k k) := ⟨_, rfl⟩
        have N5 := hid (HI.out.next hlt hne HN.out hw5)
        rw [← hw5]
        clear hw5 c4 c4' q1 z1
        go_wp2
        exact ⟨⟨m + 1, _, _, by omega, by go_num, N5⟩, by simp [intOf]; omega⟩
    · obtain rfl : m = n := by omega
      obtain ⟨E1, E2⟩ := HI.out.done hid' h6 k1 k6
      have HE1 := hid E1
      have HE2 := hid E2
      clear E1 E2
      go_wp2
      go_ret2
      exact ⟨_, rfl, HE1.out, HE2.out, HI.out.below, rfl, fun j s q => HI.out.nz j s q.1 q.2.1 q.2.2⟩
end Go.Proofs.YtefpnojanldkeaaGreatDoor
namespace Go.Proofs.YtefpnojanldkeaaGreatDoor
open Go.RowKit Go.Maps
set_option maxRecDepth 100000
set_option linter.unusedSectionVars false
variable [Inhabited ComV] [DecidableEq D3] [Inhabited D3] [Inhabited Dd] [Inhabited Dn] [Inhabited OpV]

/-- The least of the times, by shard. -/
def leastT (rt : Nat → Int) : Nat → Int
  | 0 => 1099511627776
  | k + 1 => min (leastT rt k) (rt k)
set_option maxHeartbeats 2000000 in
theorem least_any (w : World) (b k : Nat) (X : Nat → Ln) (i j : Int) (y : Nat → LnV) (hk : k ≤ 6) (hc : ∃ cs, w.heap[b]? = some (.cells cs 80 (0, 0)) ∧ ∀ s, s < k → cs[s * 2]? = some (.pointer (some ⟨(X s).g, 0, none⟩)) ∧ cs[s * 2 + 1]? = some (.pointer (some ⟨(X s).gr, 0, none⟩))) (ha : ∀ s : Nat, s < k → LnAt w i j s (X s) (y s)) :
    Calls Tryz.prog 38 #[.slice (some ⟨b, 0, none⟩) k k] w fun e w' => e = .returned (.int .i64 (leastT (fun s => (y s).rt) k)) ∧ Below w.heap.size w w' := by
  obtain ⟨cs, hb, hc⟩ := hc
  have HB := hid hb
  have HC := hid hc
  have HA := hid ha
  clear hb hc ha
  go_enter Tryz.func38, Tryz.ntmps38
  go_wp2
  go_loopw [3, 8] (fun x i wr => ∃ m : Nat, m ≤ k ∧ i = .int .i64 m ∧ x = .int .i64 (leastT (fun s => (y s).rt) m) ∧ Hid (Below w.heap.size w wr)) (fun _ i _ => k - (intOf i).toNat)
  case atStart => exact ⟨0, Nat.zero_le _, rfl, rfl, Below.refl _ _⟩
  case round =>
    obtain ⟨m, hm, rfl, rfl, HR⟩ := hrel
    by_cases hlt : m < k
    · have hi1 : (m : Int) < (k : Int) := by omega
      have hb := (HR.out.block _ (lt_of_heap HB.out)).trans HB.out
      have q0 : wr.cell? ⟨b, m * 2, none⟩ = some (.pointer (some ⟨(X m).g, 0, none⟩)) := (cell_of hb).trans (HC.out m hlt).1
      have q1 : wr.cell? ⟨b, m * 2 + 1, none⟩ = some (.pointer (some ⟨(X m).gr, 0, none⟩)) := (cell_of hb).trans (HC.out m hlt).2
      have hr := (HA.out m hlt).rcv.below HR.out
      have K68 := hid (fun o => rtime_raw (wr.alloc o) _ _ _ _ _ _ _ _ _ (hr.below (below_alloc _ o)))
      obtain ⟨z, hz⟩ : ∃ z, z = (y m).rt := ⟨_, rfl⟩
      obtain ⟨x, hx⟩ : ∃ x, x = leastT (fun s => (y s).rt) m := ⟨_, rfl⟩
      have HL : Hid (leastT (fun s => (y s).rt) (m + 1) = min x z) := (show _ = _ from by rw [hx, hz]; rfl)
      rw [← hz] at K68
      rw [← hx]
      clear hb hr hz hx
      go_wp2_with (go_at_call 68; refine (K68.out _).mono ?_; rintro e w2 ⟨rfl, hw2⟩; rw [hw2]; clear hw2)
      exact ⟨⟨m + 1, by omega, by go_num, by rw [HL.out], HR.out.alloc HR.out.size _⟩, by simp [intOf]; omega⟩
    · obtain rfl : m = k := by omega
      go_wp2
      go_ret
      exact ⟨rfl, HR.out⟩
def snapJ (v : PlV) (j : Nat) : Int := if j = v.id then v.ck else leastT (fun s => (v.Y j s).rt) v.k
/-- The snapshot: its own clock, of each other place the least time. -/
def snapV (v : PlV) : List Int := (List.range v.n).map (snapJ v)
theorem snapV_len (v : PlV) : (snapV v).length = v.n := by simp [snapV]
theorem mk23 (W : World) (n : Nat) (h1 : 1 ≤ n) (h6 : n ≤ 6) : (Instr.makeSlice 23 (.int .i64 n) (.int .i64 n)).run Tryz.prog W = .ok (.slice (some ⟨W.heap.size, 0, none⟩) n n) (W.alloc (.cells (Array.replicate n (.int .i64 0)) 3)) := by
  rcases (by omega : n = 1 ∨ n = 2 ∨ n = 3 ∨ n = 4 ∨ n = 5 ∨ n = 6) with rfl | rfl | rfl | rfl | rfl | rfl <;> kernel_rfl
structure SnI (w : World) (v : PlV) (m : Nat) (wr : World) : Prop where
  row : ∃ cs, wr.heap[w.heap.size]? = some (.cells cs 3 (0, 0)) ∧ cs.size = v.n ∧ ∀ j, j < m → cs[j]? = some (.int .i64 (snapJ v j))
  below : Below w.heap.size w wr
theorem SnI.next {w wr w2 w3 : World} {v : PlV} {m : Nat} (h : SnI w v m wr) (hm : m < v.n) (hb : Below wr.heap.size wr w2) (hw3 : w3 = w2.setCell ⟨w.heap.size, m, none⟩ (.int .i64 (snapJ v m))) : SnI w v (m + 1) w3 := by
  obtain ⟨cs, c1, c2, c3⟩ := h.row
  have k2 := (hb.block _ (lt_of_heap c1)).trans c1
  refine ⟨⟨cs.setIfInBounds m (.int .i64 (snapJ v m)), by rw [hw3]; exact heap_set k2 _, by simp [c2], fun j hj => ?_⟩, by rw [hw3]; exact (h.below.trans (hb.mono h.below.size)).setCell (Nat.le_refl _) _⟩
  rw [set_get (by omega)]
  by_cases e : m = j
  · rw [if_pos e, e]
  · rw [if_neg e]
    exact c3 j (by omega)
theorem SnI.done {w wr : World} {v : PlV} (h : SnI w v v.n wr) : wr.heap[w.heap.size]? = some (.cells ((snapV v).map (Value.int .i64)).toArray 3 (0, 0)) := by
  obtain ⟨cs, c1, c2, c3⟩ := h.row
  rw [c1]
  congr 2
  apply Array.ext_getElem?
  intro j
  by_cases hj : j < v.n
  · rw [c3 j hj]
    simp [snapV, hj]
  · rw [Array.getElem?_eq_none (by omega), Array.getElem?_eq_none (by simp [snapV]; omega)]
set_option maxHeartbeats 4000000 in
theorem snapshot_any (w : World) (h : PlH) (v : PlV) (a : PlAt w h v) : Calls Tryz.prog 12 #[.pointer (some ⟨h.pb, 0, none⟩)] w fun e w' => e = .returned (.slice (some ⟨w.heap.size, 0, none⟩) v.n v.n) ∧ w'.heap[w.heap.size]? = some (.cells ((snapV v).map (Value.int .i64)).toArray 3 (0, 0)) ∧ Below w.heap.size w w' := by
  have hmk := fun W => mk23 W v.n (by have := a.idn; omega) a.n6
  have x4 : w.cell? ⟨h.pb, 4, none⟩ = some (.slice (some ⟨h.lb, 0, none⟩) v.n v.n) := (cell_of a.box).trans rfl
  obtain ⟨w1, hw1⟩ : ∃ w1, w1 = w.alloc (.cells (Array.replicate v.n (.int .i64 0)) 3) := ⟨_, rfl⟩
  have hb1 : Below w.heap.size w w1 := by rw [hw1]; exact below_alloc _ _
  have I1 : Hid (SnI w v 0 w1) := (show SnI _ _ _ _ from ⟨⟨_, by rw [hw1]; exact heap_new _ _, by simp, fun j hj => by omega⟩, hb1⟩)
  have y4 : w1.cell? ⟨h.pb, 4, none⟩ = some (.slice (some ⟨h.lb, 0, none⟩) v.n v.n) := (cell_of (a.below hb1).box).trans rfl
  have H := hid a
  clear a hb1
  go_enter Tryz.func12, Tryz.ntmps12
  go_upto_region 2 with (fail)
  rw [← hw1]
  clear hw1
  go_wp2
  clear x4 y4 hmk
  go_loopw [17] (fun i wr => ∃ m : Nat, m ≤ v.n ∧ i = .int .i64 m ∧ Hid (SnI w v m wr)) (fun i _ => v.n - (intOf i).toNat)
  case atStart => exact ⟨0, Nat.zero_le _, rfl, I1⟩
  case round =>
    obtain ⟨m, hm, rfl, HI⟩ := hrel
    by_cases hlt : m < v.n
    · have hi1 : (m : Int) < (v.n : Int) := by omega
      have ar := H.out.below HI.out.below
      have AR := hid ar
      obtain ⟨ls, l1, l2⟩ := ar.lines
      have ql : wr.cell? ⟨h.lb, m, none⟩ = some (lineV h v m) := (cell_of l1).trans (l2 m hlt)
      have c0 : wr.cell? ⟨h.pb, 0, none⟩ = some (.int .i64 v.id) := (cell_of ar.box).trans rfl
      obtain ⟨cs, r1, r2, _⟩ := HI.out.row
      have hmc : m < cs.size := by omega
      have n6 := ar.n6
      clear r2
      by_cases hne : m = v.id
      · have hv : lineV h v m = .slice none 0 0 := if_pos hne
        rw [← hne] at c0
        rw [hv] at ql
        have c2 : wr.cell? ⟨h.pb, 2, none⟩ = some (.int .i64 v.ck) := (cell_of ar.box).trans rfl
        have q1 : wr.cell? ⟨w.heap.size, m, none⟩ = some (cs[m]'hmc) := (cell_of r1).trans (Array.getElem?_eq_getElem _)
        have z1 : wr.frozen? ⟨w.heap.size, m, none⟩ = false := free_of r1
        obtain ⟨w3, hw3⟩ : ∃ w3, w3 = wr.setCell ⟨w.heap.size, m, none⟩ (.int .i64 v.ck) := ⟨_, rfl⟩
        have N3 := hid (HI.out.next (w3 := w3) hlt (Below.refl _ _) (by rw [hw3, show snapJ v m = v.ck from if_pos hne]))
        clear ar l1 l2 r1 hv hne
        go_wp2
        rw [← hw3]
        exact ⟨⟨m + 1, by omega, by go_num, N3⟩, by simp [intOf]; omega⟩
      · have hv : lineV h v m = .slice (some ⟨h.b m, 0, none⟩) v.k v.k := if_neg hne
        have hne' : (m : Int) ≠ (v.id : Int) := by omega
        rw [hv] at ql
        have K38 := hid (least_any wr (h.b m) v.k (h.X m) v.id m (v.Y m) ar.k6 (ar.line m hlt hne) (fun s hs => ar.each m s ⟨hlt, hne, hs⟩))
        obtain ⟨z, hz⟩ : ∃ z, z = leastT (fun s => (v.Y m s).rt) v.k := ⟨_, rfl⟩
        rw [← hz] at K38
        have HZ : Hid (snapJ v m = z) := (show _ = _ from by rw [hz]; exact if_neg hne)
        have R1 := hid r1
        clear ar l1 l2 r1 hv hz
        go_wp2_with fail
        refine K38.out.mono ?_
        rintro e w2 ⟨rfl, hb2⟩
        have k2 := (hb2.block _ (lt_of_heap R1.out)).trans R1.out
        have q1 : w2.cell? ⟨w.heap.size, m, none⟩ = some (cs[m]'hmc) := (cell_of k2).trans (Array.getElem?_eq_getElem _)
        have z1 : w2.frozen? ⟨w.heap.size, m, none⟩ = false := free_of k2
        obtain ⟨w3, hw3⟩ : ∃ w3, w3 = w2.setCell ⟨w.heap.size, m, none⟩ (.int .i64 z) := ⟨_, rfl⟩
        have N3 := hid (HI.out.next (w3 := w3) hlt hb2 (by rw [hw3, HZ.out]))
        clear hb2 k2
        go_wp2
        rw [← hw3]
        exact ⟨⟨m + 1, by omega, by go_num, N3⟩, by simp [intOf]; omega⟩
    · obtain rfl : m = v.n := by omega
      go_wp2
      go_ret
      exact ⟨rfl, HI.out.done, HI.out.below⟩
end Go.Proofs.YtefpnojanldkeaaGreatDoor
