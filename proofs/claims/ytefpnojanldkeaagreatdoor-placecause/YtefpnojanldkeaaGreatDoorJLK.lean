/- partsOf: a commit's parts, by shard. -/
import Derived.Test.YtefpnojanldkeaaGreatDoorJLJ
namespace Go.Proofs.YtefpnojanldkeaaGreatDoor
open Go.RowKit Go.Maps
set_option maxRecDepth 100000
set_option linter.unusedSectionVars false
variable [Inhabited ComV] [DecidableEq D3] [Inhabited D3] [Inhabited Dd] [Inhabited Dn] [Inhabited OpV]

/-- The shard of a key. -/
def shardN (key : ByteArray) (k : Nat) : Nat := sumNX key.data.toList % k
theorem shardN_ok (w : World) (s : ByteArray) (hs : s.size ≤ 200) (k : Nat) (h1 : 1 ≤ k) (h6 : k ≤ 6) : Calls Tryz.prog 81 #[.string s, .int .i64 k] w fun e w' => e = .returned (.int .i64 (shardN s k : Nat)) ∧ w' = w := by
  have K := shardOf_any w s.data.toList (by have h : s.data.toList.length = s.size := Array.length_toList; omega) k (by omega) (by omega)
  rw [show (⟨s.data.toList.toArray⟩ : ByteArray) = s by simp] at K
  exact K
def partOps (os : List OpV) (k s : Nat) : List OpV := os.filter fun o => shardN o.key k = s
/-- A commit's part of a shard. -/
def partV (c : ComV) (k s : Nat) : ComV := ⟨c.when_, c.place, partOps c.ops k s⟩
theorem partOps_snoc (os : List OpV) (o : OpV) (k s : Nat) : partOps (os ++ [o]) k s = if shardN o.key k = s then partOps os k s ++ [o] else partOps os k s := by
  unfold partOps
  rw [List.filter_append]
  by_cases e : shardN o.key k = s
  · rw [if_pos e]; simp [e]
  · rw [if_neg e]; simp [e]
theorem ops_cell {w : World} {base n c q : Nat} {a : Option Addr} {rows : List (List Value)} {r : List Value} (h : w.ownsRow base 34 7 (.slice a n c) n rows.flatten) (h7 : ∀ y ∈ rows, y.length = 7) (hk : rows[q]? = some r) : ∃ b, a = some ⟨b, 0, none⟩ ∧ b < w.heap.size ∧ ∀ j u, r[j]? = some u → w.cell? ⟨b, q * 7 + j, none⟩ = some u := by
  have hl := h.1
  rw [flat7_len _ h7] at hl
  have hq := (List.getElem?_eq_some_iff.1 hk).1
  rcases h.2 with ⟨_, h0⟩ | ⟨b, cap, cur, hv, _, hh, _⟩
  · omega
  · injection hv with hv _ _
    subst hv
    refine ⟨b, rfl, lt_of_heap hh, fun j u hj => ?_⟩
    have h7' := h7 r (List.mem_of_getElem? hk)
    have hj7 : j < 7 := by rw [← h7']; exact (List.getElem?_eq_some_iff.1 hj).1
    rw [h.cellAt (q * 7 + j) (by omega), flat7_at _ q j r h7 hk hj7]
    exact hj
structure PaI (w : World) (bx : Array Value) (wv : Value) (p : Int) (os : List OpV) (k q : Nat) (V : Nat → Value) (wr : World) : Prop where
  below : Below w.heap.size w wr
  box : wr.heap[w.heap.size]? = some (.cells bx 36 (0, 0))
  row : ∃ cs, wr.heap[w.heap.size + 1]? = some (.cells cs 36 (0, 0)) ∧ cs.size = k * 3 ∧ ∀ s, s < k → cs[s * 3]? = some wv ∧ cs[s * 3 + 1]? = some (.int .i64 p) ∧ cs[s * 3 + 2]? = some (V s)
  ops : ∀ s, s < k → ∃ rows, wr.ownsRow (w.heap.size + 2) 34 7 (V s) (partOps (os.take q) k s).length rows.flatten ∧ F2 (OpOwn 0 wr) rows (partOps (os.take q) k s)
  apart : ∀ s s', s < k → s' < k → s ≠ s' → ∀ b, (V s).ownBlock = some b → (V s').ownBlock ≠ some b
def updVal (V : Nat → Value) (i : Nat) (x : Value) : Nat → Value := fun s => if s = i then x else V s
theorem updVal_at (V : Nat → Value) (i : Nat) (x : Value) : updVal V i x i = x := if_pos rfl
theorem updVal_ne (V : Nat → Value) {i s : Nat} (x : Value) (h : s ≠ i) : updVal V i x s = V s := if_neg h
theorem PaI.next {w wr w8 w9 wz : World} {bx : Array Value} {wv : Value} {p : Int} {os : List OpV} {k q : Nat} {V : Nat → Value} (h : PaI w bx wv p os k q V wr) {o : OpV} (ho : os[q]? = some o) {sh : Nat} (hsh : sh = shardN o.key k) (hk : sh < k) {r : List Value} (hro : OpOwn 0 wr r o) {rows : List (List Value)} {v9 : Value}
    (h1 : wr.ownsRow (w.heap.size + 2) 34 7 (V sh) (partOps (os.take q) k sh).length rows.flatten) (h2 : F2 (OpOwn 0 wr) rows (partOps (os.take q) k sh)) (hb : Below wr.heap.size wr w8) (hg : w8.grownBy w9 (V sh).ownBlock) (hrow : w9.ownsRow (w.heap.size + 2) 34 7 v9 ((partOps (os.take q) k sh).length + 1) (rows.flatten ++ r)) (hat : v9.ownBlock = (V sh).ownBlock ∨ v9.ownBlock = some w8.heap.size)
    (hwz : wz = w9.setCell ⟨w.heap.size + 1, sh * 3 + 2, none⟩ v9) : PaI w bx wv p os k (q + 1) (updVal V sh v9) wz := by
  obtain ⟨cs, c1, c2, c3⟩ := h.row
  have lt1 := lt_of_heap c1
  have s8 := hb.size
  have tk : os.take (q + 1) = os.take q ++ [o] := by rw [List.take_add_one, ho]; rfl
  have own34 : ∀ b, (V sh).ownBlock = some b → tyAt wr b = 35 ∧ w.heap.size + 2 ≤ b := fun b hb => ⟨tyAt_own h1 hb, (h1.lt b hb).1⟩
  have o9 : ∀ b, b < wr.heap.size → (V sh).ownBlock ≠ some b → w9.heap[b]? = wr.heap[b]? := fun b h1 h2 => (hg.block b (by omega) (fun e => h2 e.symm)).trans (hb.block b h1)
  have oz : ∀ b, b ≠ w.heap.size + 1 → wz.heap[b]? = w9.heap[b]? := fun b hb => by rw [hwz]; exact Below.heap_setCell _ _ _ _ hb
  have r9 : w9.heap[w.heap.size + 1]? = some (.cells cs 36 (0, 0)) := (o9 _ lt1 fun e => by have := (own34 _ e).2; omega).trans c1
  have kp : ∀ (b : Nat) (ds : Array Value), wr.heap[b]? = some (.cells ds 90 (0, 0)) → wz.heap[b]? = wr.heap[b]? := fun b ds hd => by
    have t := tyAt_cells hd
    rw [oz b (cell_ne hd c1 (by decide)), o9 b (lt_of_heap hd) fun e => by have := (own34 _ e).1; omega]
  refine ⟨?_, ?_, ⟨cs.setIfInBounds (sh * 3 + 2) v9, by rw [hwz]; exact heap_set r9 _, by simp [c2], fun s hs => ?_⟩, fun s hs => ?_, fun s s' hs hs' hne b hb1 hb2 => ?_⟩
  · have b9 : Below w.heap.size w w9 := ⟨hg.os.trans (hb.os.trans h.below.os), hg.tape.trans (hb.tape.trans h.below.tape), hg.output.trans (hb.output.trans h.below.output), Nat.le_trans h.below.size (Nat.le_trans s8 hg.size), fun b hlt => (o9 b (by have := h.below.size; omega) fun e => by have := (own34 _ e).2; omega).trans (h.below.block b hlt)⟩
    rw [hwz]
    exact b9.setCell (by show w.heap.size ≤ w.heap.size + 1; omega) _
  · rw [oz _ (by omega), o9 _ (lt_of_heap h.box) fun e => by have := (own34 _ e).2; omega]
    exact h.box
  · have e1 : ∀ j, (cs.setIfInBounds (sh * 3 + 2) v9)[j]? = if sh * 3 + 2 = j then some v9 else cs[j]? := fun j => set_get (by omega)
    rw [e1, e1, e1, if_neg (by omega), if_neg (by omega)]
    obtain ⟨d1, d2, d3⟩ := c3 s hs
    refine ⟨d1, d2, ?_⟩
    by_cases e : s = sh
    · rw [e, updVal_at, if_pos rfl]
    · rw [updVal_ne _ _ e, if_neg (by omega)]
      exact d3
  · rw [tk, partOps_snoc]
    by_cases e : s = sh
    · subst e
      rw [updVal_at, if_pos hsh.symm]
      refine ⟨rows ++ [r], ?_, ?_⟩
      · rw [List.length_append, List.flatten_append, show [r].flatten = r by simp]
        exact own_keep hrow fun b hb => oz b fun e => by
          have t := (hrow.lt b hb).1
          omega
      · exact f2_append (f2_mono (fun _ _ x => x.kept kp) h2) (hro.kept kp)
    · rw [updVal_ne _ _ e, if_neg (fun x => e (x.symm.trans hsh.symm))]
      obtain ⟨rs, g1, g2⟩ := h.ops s hs
      refine ⟨rs, own_keep g1 fun b hb => ?_, f2_mono (fun _ _ x => x.kept kp) g2⟩
      have t := g1.lt b hb
      rw [oz b (by omega), o9 b t.2 (h.apart s sh hs hk e b hb)]
  · have fresh : ∀ s, s < k → ∀ b, (V s).ownBlock = some b → b < wr.heap.size := fun s hs b hb => by
      obtain ⟨rs, g1, _⟩ := h.ops s hs
      exact (g1.lt b hb).2
    by_cases e : s = sh
    · subst e
      rw [updVal_at] at hb1
      rw [updVal_ne _ _ (Ne.symm hne)] at hb2
      rcases hat with t | t
      · rw [t] at hb1
        exact h.apart s s' hs hs' hne b hb1 hb2
      · rw [t] at hb1
        have := Option.some.inj hb1
        have := fresh s' hs' b hb2
        omega
    · rw [updVal_ne _ _ e] at hb1
      by_cases e' : s' = sh
      · subst e'
        rw [updVal_at] at hb2
        rcases hat with t | t
        · rw [t] at hb2
          exact h.apart s s' hs hs' hne b hb1 hb2
        · rw [t] at hb2
          have := Option.some.inj hb2
          have := fresh s hs b hb1
          omega
      · rw [updVal_ne _ _ e'] at hb2
        exact h.apart s s' hs hs' hne b hb1 hb2
theorem mk116 (W : World) (k : Nat) (h1 : 1 ≤ k) (h6 : k ≤ 6) : (Instr.makeSlice 116 (.int .i64 k) (.int .i64 k)).run Tryz.prog W = .ok (.slice (some ⟨W.heap.size, 0, none⟩) k k) (W.alloc (.cells (Array.ofFn (n := k * 3) fun i => if i.val % 3 = 1 then .int .i64 0 else .slice none 0 0) 36)) := by
  rcases (by omega : k = 1 ∨ k = 2 ∨ k = 3 ∨ k = 4 ∨ k = 5 ∨ k = 6) with rfl | rfl | rfl | rfl | rfl | rfl <;> kernel_rfl
/-- The parts' places and vectors are laid, up to i. -/
structure PbI (w : World) (bx : Array Value) (wv : Value) (p : Int) (k i : Nat) (wr : World) : Prop where
  below : Below w.heap.size w wr
  box : wr.heap[w.heap.size]? = some (.cells bx 36 (0, 0))
  row : ∃ cs, wr.heap[w.heap.size + 1]? = some (.cells cs 36 (0, 0)) ∧ cs.size = k * 3 ∧ (∀ s, s < i → cs[s * 3]? = some wv ∧ cs[s * 3 + 1]? = some (.int .i64 p)) ∧ ∀ s, s < k → cs[s * 3 + 2]? = some (.slice none 0 0)
theorem PbI.next {w wr wz : World} {bx : Array Value} {wv : Value} {p : Int} {k i : Nat} (h : PbI w bx wv p k i wr) (hi : i < k) (hwz : wz = ((wr.setCell ⟨w.heap.size + 1, i * 3, none⟩ wv).setCell ⟨w.heap.size + 1, i * 3 + 1, none⟩ (.int .i64 p)).drew) : PbI w bx wv p k (i + 1) wz := by
  obtain ⟨cs, c1, c2, c3, c4⟩ := h.row
  have oz : ∀ b, b ≠ w.heap.size + 1 → wz.heap[b]? = wr.heap[b]? := fun b hb => by rw [hwz]; exact (Below.heap_setCell _ _ _ _ hb).trans (Below.heap_setCell _ _ _ _ hb)
  have e1 : ∀ j, ((cs.setIfInBounds (i * 3) wv).setIfInBounds (i * 3 + 1) (.int .i64 p))[j]? = if i * 3 + 1 = j then some (.int .i64 p) else if i * 3 = j then some wv else cs[j]? := fun j => by rw [set_get (by simp; omega), set_get (by omega)]
  refine ⟨by rw [hwz]; exact ((h.below.setCell (by show w.heap.size ≤ w.heap.size + 1; omega) _).setCell (by show w.heap.size ≤ w.heap.size + 1; omega) _).drew, (oz _ (by omega)).trans h.box, (cs.setIfInBounds (i * 3) wv).setIfInBounds (i * 3 + 1) (.int .i64 p), by rw [hwz]; exact heap_set (heap_set c1 _) _, by simp [c2], fun s hs => ?_, fun s hs => ?_⟩
  · rw [e1, e1]
    by_cases e : s = i
    · subst e
      rw [if_neg (by omega), if_pos rfl, if_pos rfl]
      exact ⟨rfl, rfl⟩
    · rw [if_neg (by omega), if_neg (by omega), if_neg (by omega), if_neg (by omega)]
      exact c3 s (by omega)
  · rw [e1, if_neg (by omega), if_neg (by omega)]
    exact c4 s hs
theorem PbI.done {w wr : World} {bx : Array Value} {wv : Value} {p : Int} {k : Nat} (h : PbI w bx wv p k k wr) (os : List OpV) : PaI w bx wv p os k 0 (fun _ => .slice none 0 0) wr := by
  obtain ⟨cs, c1, c2, c3, c4⟩ := h.row
  refine ⟨h.below, h.box, ⟨cs, c1, c2, fun s hs => ⟨(c3 s hs).1, (c3 s hs).2, c4 s hs⟩⟩, fun s hs => ⟨[], ?_, ?_⟩, fun s s' _ _ _ b hb => by simp [Value.ownBlock] at hb⟩
  · simp [partOps]
    exact World.ownsRow_nil _ _ _ _
  · simp [partOps]
    trivial
set_option maxHeartbeats 8000000 in
theorem partsOf_any (w : World) (a1 a2 : Option Addr) (n1 c1 n2 c2 k : Nat) (c : ComV) (ho : ComOwn 0 w (.slice a1 n1 c1) (.slice a2 n2 c2) c) (hL : Light c) (k1 : 1 ≤ k) (k6 : k ≤ 6) :
    Calls Tryz.prog 57 #[.agg #[.slice a1 n1 c1, .int .i64 c.place, .slice a2 n2 c2], .int .i64 k] w fun e w' => ∃ V, e = .returned (.slice (some ⟨w.heap.size + 1, 0, none⟩) k k) ∧ PaI w #[.slice a1 n1 c1, .int .i64 c.place, .slice a2 n2 c2] (.slice a1 n1 c1) c.place c.ops k c.ops.length V w' := by
  obtain ⟨when_, p, os⟩ := c
  obtain ⟨_, rows0, hr0, hf0⟩ := ho
  simp only at hr0 hf0
  have hlm : n2 = os.length := by obtain ⟨_, _, hv⟩ := row_shape hr0; injection hv
  have hl2 := hL.ops
  have HLE := hid hL.each
  simp only at hl2
  have h7 := rows7 (f2_opRow hf0)
  have hmk := mk116 (w.alloc (.cells #[.slice a1 n1 c1, .int .i64 p, .slice a2 n2 c2] 36)) k k1 k6
  obtain ⟨w2, hw2⟩ : ∃ w2, w2 = (w.alloc (.cells #[.slice a1 n1 c1, .int .i64 p, .slice a2 n2 c2] 36)).alloc (.cells (Array.ofFn (n := k * 3) fun i => if i.val % 3 = 1 then .int .i64 0 else .slice none 0 0) 36) := ⟨_, rfl⟩
  have I2 : Hid (PbI w #[.slice a1 n1 c1, .int .i64 p, .slice a2 n2 c2] (.slice a1 n1 c1) p k 0 w2) := (show PbI _ _ _ _ _ _ _ from ⟨by rw [hw2]; exact below2 _ _ _, by rw [hw2]; exact heap_old (heap_new _ _) _, _, by rw [hw2]; exact heap_new2 _ _ _, by simp, fun s hs => by omega, fun s hs => by
    rw [Array.getElem?_ofFn, dif_pos (by omega), if_neg (by show ¬ (s * 3 + 2) % 3 = 1; omega)]⟩)
  rw [← hlm] at hr0
  have HR0 := hid hr0
  have HF0 := hid hf0
  have H7 := hid h7
  have HLM := hid hlm
  clear hr0 hf0 h7 hL
  rw [← hlm] at hl2
  clear hlm
  obtain ⟨i0, hi, hz0, hz1, hz2⟩ := info_parts Tryz.info34
  go_enter Tryz.func57, Tryz.ntmps57
  go_upto_region 2 with (fail)
  rw [← hw2]
  clear hw2 hmk
  go_wp2
  go_loopw [14] (fun i wr => ∃ m : Nat, m ≤ k ∧ i = .int .i64 m ∧ Hid (PbI w #[.slice a1 n1 c1, .int .i64 p, .slice a2 n2 c2] (.slice a1 n1 c1) p k m wr)) (fun i _ => k - (intOf i).toNat)
  case atStart => exact ⟨0, Nat.zero_le _, rfl, I2⟩
  case round =>
    obtain ⟨m, hm, rfl, HI⟩ := hrel
    by_cases hlt : m < k
    · have hi1 : (m : Int) < (k : Int) := by omega
      have x0 : wr.cell? ⟨w.heap.size, 0, none⟩ = some (.slice a1 n1 c1) := (cell_of HI.out.box).trans rfl
      have x1 : wr.cell? ⟨w.heap.size, 1, none⟩ = some (.int .i64 p) := (cell_of HI.out.box).trans rfl
      obtain ⟨cs, r1, r2, _, _⟩ := HI.out.row
      have hm0 : m * 3 < cs.size := by omega
      have hm1 : m * 3 + 1 < cs.size := by omega
      have y0 : wr.cell? ⟨w.heap.size + 1, m * 3, none⟩ = some (cs[m * 3]'hm0) := (cell_of r1).trans (Array.getElem?_eq_getElem _)
      have y1 : wr.cell? ⟨w.heap.size + 1, m * 3 + 1, none⟩ = some (cs[m * 3 + 1]'hm1) := (cell_of r1).trans (Array.getElem?_eq_getElem _)
      have z : ∀ j, wr.frozen? ⟨w.heap.size + 1, j, none⟩ = false := fun j => free_of r1
      obtain ⟨wz, hwz⟩ : ∃ wz, wz = ((wr.setCell ⟨w.heap.size + 1, m * 3, none⟩ (.slice a1 n1 c1)).setCell ⟨w.heap.size + 1, m * 3 + 1, none⟩ (.int .i64 p)).drew := ⟨_, rfl⟩
      have N := hid (HI.out.next hlt hwz)
      clear r1 r2
      go_upto_region 5 with (fail)
      go_region_held (fun u => u.cell? ⟨w.heap.size, 0, none⟩ = some (.slice a1 n1 c1) ∧ u.cell? ⟨w.heap.size, 1, none⟩ = some (.int .i64 p)) (go_keep) (fail)
      rw [← hwz]
      clear x0 x1 y0 y1 z hwz
      go_wp2
      exact ⟨⟨m + 1, by omega, by go_num, N⟩, by simp [intOf]; omega⟩
    · obtain rfl : m = k := by omega
      have J0 := hid (HI.out.done os)
      have x2 : wr.cell? ⟨w.heap.size, 2, none⟩ = some (.slice a2 n2 c2) := (cell_of HI.out.box).trans rfl
      obtain ⟨wq, hwq⟩ : ∃ wq, wq = wr := ⟨_, rfl⟩
      subst hwq
      go_wp2
      clear x2 HI
      go_loopw [33] (fun i wr => ∃ (q : Nat) (V : Nat → Value), q ≤ n2 ∧ i = .int .i64 q ∧ Hid (PaI w #[.slice a1 n1 c1, .int .i64 p, .slice a2 n2 c2] (.slice a1 n1 c1) p os m q V wr)) (fun i _ => n2 - (intOf i).toNat)
      case atStart => exact ⟨0, _, Nat.zero_le _, rfl, J0⟩
      case round =>
        obtain ⟨q, V, hq, rfl, HI⟩ := hrel
        by_cases hlq : q < n2
        · have hi2 : (q : Int) < (n2 : Int) := by omega
          obtain ⟨o, hoq⟩ : ∃ o, os[q]? = some o := ⟨_, List.getElem?_eq_getElem (by have := HLM.out; omega)⟩
          obtain ⟨r, hrq, dv, hrc, hdo⟩ := f2_get HF0.out q o hoq
          obtain ⟨b2, rfl, hb2, hcell⟩ := ops_cell HR0.out H7.out hrq
          obtain ⟨ko, hko⟩ : ∃ ko, ko = o.key := ⟨_, rfl⟩
          obtain ⟨sh, hsh⟩ : ∃ sh, sh = shardN o.key m := ⟨_, rfl⟩
          have hsk : sh < m := by rw [hsh]; exact Nat.mod_lt _ (by omega)
          have K81 := hid (fun W => shardN_ok W o.key (by have := (HLE.out o (List.mem_of_getElem? hoq)).1; omega) m (by omega) k6)
          rw [← hsh, ← hko] at K81
          obtain ⟨rows, g1, g2⟩ := HI.out.ops sh hsk
          obtain ⟨xa, xc, hV⟩ := row_shape g1
          obtain ⟨mn, hmn⟩ : ∃ mn, mn = (partOps (os.take q) m sh).length := ⟨_, rfl⟩
          have hmn20 : mn ≤ 20 := by
            rw [hmn]
            unfold partOps
            exact Nat.le_trans (List.length_filter_le _ _) (by rw [List.length_take]; omega)
          rw [← hmn] at hV
          have up : ∀ j u, r[j]? = some u → wr.cell? ⟨b2, q * 7 + j, none⟩ = some u := fun j u hu => by
            have e := hcell j u hu
            rw [HI.out.below.cell (p := ⟨b2, q * 7 + j, none⟩) (lt_of_cell e)]; exact e
          rw [hrc] at up
          obtain ⟨y1, hy1⟩ : ∃ y1, y1 = o.at_ := ⟨_, rfl⟩
          obtain ⟨y3, hy3⟩ : ∃ y3, y3 = o.kind := ⟨_, rfl⟩
          obtain ⟨y4, hy4⟩ : ∃ y4, y4 = o.text := ⟨_, rfl⟩
          obtain ⟨y5, hy5⟩ : ∃ y5, y5 = o.n := ⟨_, rfl⟩
          obtain ⟨y6, hy6⟩ : ∃ y6, y6 = o.rem := ⟨_, rfl⟩
          have hcs : opCells o dv = [.int .i64 y1, .string ko, .int .i64 y3, .string y4, .int .i64 y5, .bool y6, dv] := by rw [hy1, hko, hy3, hy4, hy5, hy6]; rfl
          rw [hcs] at up hrc
          obtain ⟨da, dn, dc, hdv⟩ : ∃ da dn dc, dv = .slice da dn dc := by obtain ⟨a, c, h⟩ := row_shape hdo; exact ⟨a, _, c, h⟩
          subst hdv
          have e0 : wr.cell? ⟨b2, q * 7, none⟩ = some (.int .i64 y1) := up 0 _ rfl
          have e1 := up 1 (.string ko) rfl
          have e2 := up 2 (.int .i64 y3) rfl
          have e3 := up 3 (.string y4) rfl
          have e4 := up 4 (.int .i64 y5) rfl
          have e5 := up 5 (.bool y6) rfl
          have e6 := up 6 (.slice da dn dc) rfl
          have HRO : Hid (OpOwn 0 wr [.int .i64 y1, .string ko, .int .i64 y3, .string y4, .int .i64 y5, .bool y6, .slice da dn dc] o) := (show OpOwn _ _ _ _ from OpOwn.at (w := w) ⟨_, hcs.symm, hdo⟩ fun g _ hg => HI.out.below.block g hg)
          obtain ⟨w4, hw4⟩ : ∃ w4, w4 = wr.alloc (.cells #[.int .i64 y1, .string ko, .int .i64 y3, .string y4, .int .i64 y5, .bool y6, .slice da dn dc] 34) := ⟨_, rfl⟩
          obtain ⟨X, hX⟩ : ∃ X, X = wr.heap.size := ⟨_, rfl⟩
          have A4 : w4.heap[X]? = some (.cells #[.int .i64 y1, .string ko, .int .i64 y3, .string y4, .int .i64 y5, .bool y6, .slice da dn dc] 34 (0, 0)) := by rw [hw4, hX]; exact heap_new _ _
          have b4 : Below wr.heap.size wr w4 := by rw [hw4]; exact below_alloc _ _
          obtain ⟨cs, r1, r2, r3⟩ := HI.out.row
          have r4 : w4.heap[w.heap.size + 1]? = some (.cells cs 36 (0, 0)) := (b4.block _ (lt_of_heap r1)).trans r1
          have p2 : w4.cell? ⟨w.heap.size + 1, sh * 3 + 2, none⟩ = some (.slice xa mn xc) := (cell_of r4).trans (by rw [(r3 sh hsk).2.2, hV])
          have u0 : w4.cell? ⟨X, 0, none⟩ = some (.int .i64 y1) := (cell_of A4).trans rfl
          have u1 : w4.cell? ⟨X, 1, none⟩ = some (.string ko) := (cell_of A4).trans rfl
          have u2 : w4.cell? ⟨X, 2, none⟩ = some (.int .i64 y3) := (cell_of A4).trans rfl
          have u3 : w4.cell? ⟨X, 3, none⟩ = some (.string y4) := (cell_of A4).trans rfl
          have u4 : w4.cell? ⟨X, 4, none⟩ = some (.int .i64 y5) := (cell_of A4).trans rfl
          have u5 : w4.cell? ⟨X, 5, none⟩ = some (.bool y6) := (cell_of A4).trans rfl
          have u6 : w4.cell? ⟨X, 6, none⟩ = some (.slice da dn dc) := (cell_of A4).trans rfl
          have p2a := fun o => cell_alloc p2 o
          have hsi : (sh : Int) < (m : Int) := by omega
          have sz4 : Hid (w.heap.size + 2 ≤ w4.heap.size) := (show _ ≤ _ from by have := lt_of_heap r1; have := b4.size; omega)
          have ow4 : Hid (w4.ownsRow (w.heap.size + 2) 34 7 (.slice xa mn xc) mn rows.flatten) := (show World.ownsRow _ _ _ _ _ _ _ from by have g1' := g1; rw [← hmn, hV] at g1'; exact owns_at g1' fun g _ hg => b4.block g hg)
          have hob : Hid ((.slice xa mn xc : Value).ownBlock = (V sh).ownBlock) := (show _ = _ from by rw [hV])
          have NX := hid (fun w8 w9 wz v9 => HI.out.next (w8 := w8) (w9 := w9) (wz := wz) (v9 := v9) hoq hsh hsk HRO.out g1 g2)
          rw [← hmn] at NX
          have R4 := hid r4
          have B4 := hid b4
          have TY : Hid (∀ b, (.slice xa mn xc : Value).ownBlock = some b → b ≠ w.heap.size + 1 ∧ b ≠ X) := (show ∀ b, _ from fun b hb => by
            have t1 := (ow4.out.lt b hb).1
            rw [hob.out] at hb
            have t2 := (g1.lt b hb).2
            exact ⟨by omega, by omega⟩)
          clear hcell up r1 r2 r3 r4 g1 g2 hV hmn hy1 hy3 hy4 hy5 hy6 hko hsh hrc hrq hdo hoq hcs A4 b4
          go_upto_region 10 with (fail)
          rw [← hw4, ← hX]
          clear hw4 hX e0 e1 e2 e3 e4 e5 e6
          go_upto_region 11 with (go_at_call 81; refine (K81.out _).mono ?_; rintro e w' ⟨rfl, hw'⟩; rw [hw']; clear hw')
          go_region_law ((refine step_append_at rfl _ _ 30 rfl (w.heap.size + 2) 34 i0 _ 7 88 Tryz.underlying30 hi hz0 hz1 hz2 rfl (by decide) (.slice xa mn xc) mn rows.flatten rfl ?hown _ 1 1 [.int .i64 y1, .string ko, .int .i64 y3, .string y4, .int .i64 y5, .bool y6, .slice da dn dc] rfl rfl (cells3_new _ _ _) (by simp [Value.oneCell']) ?hm2 ?hm3 ?hb ?_; (case hown => first | exact ow4.out.alloc _ | exact own_keep (ow4.out.alloc _) (fun _ _ => rfl)); (case hm2 => unfold maxLen; omega); (case hm3 => omega); (case hb => have := sz4.out; simp; omega); intro v9 w9 hrow9 hgr9 hat9; have hgr' := hgr9; rw [hob.out] at hgr'; have hat' := hat9; rw [hob.out] at hat'; have N := hid (NX.out _ w9 _ _ (by first | exact B4.out.alloc B4.out.size _ | exact (B4.out.alloc B4.out.size _).drew | exact B4.out.drew.alloc B4.out.size _) hgr' hrow9 hat' rfl); obtain ⟨a6, c6, hv9⟩ := row_shape hrow9; subst hv9; have neR : ∀ b, b = w.heap.size + 1 ∨ b = X → some b ≠ (.slice xa mn xc : Value).ownBlock := (fun b hb e => by have := TY.out b e.symm; omega); have P9 : w9.heap[w.heap.size + 1]? = some (.cells cs 36 (0, 0)) := (hgr9.block _ (by have := sz4.out; simp; omega) (neR _ (.inl rfl))).trans ((Below.heap_alloc _ _ _ (by show _ < w4.heap.size; have := sz4.out; omega)).trans R4.out); have z9 : w9.frozen? ⟨w.heap.size + 1, sh * 3 + 2, none⟩ = false := free_of P9; have n9 : w9.cell? ⟨w.heap.size + 1, sh * 3 + 2, none⟩ = some (.slice xa mn xc) := hgr9.cell (cell_alloc p2 _) (neR _ (.inl rfl)); have t0 := hgr9.cell (cell_alloc u0 _) (neR _ (.inr rfl)); have t1 := hgr9.cell (cell_alloc u1 _) (neR _ (.inr rfl)); have t2 := hgr9.cell (cell_alloc u2 _) (neR _ (.inr rfl)); have t3 := hgr9.cell (cell_alloc u3 _) (neR _ (.inr rfl)); have t4 := hgr9.cell (cell_alloc u4 _) (neR _ (.inr rfl)); have t5 := hgr9.cell (cell_alloc u5 _) (neR _ (.inr rfl)); have t6 := hgr9.cell (cell_alloc u6 _) (neR _ (.inr rfl)); clear hrow9 hgr9 hat9 hgr' hat' P9 neR))
          all_goals
            obtain ⟨wz, hwz⟩ : ∃ wz, wz = w9.setCell ⟨w.heap.size + 1, sh * 3 + 2, none⟩ (.slice a6 (mn + 1) c6) := ⟨_, rfl⟩
            rw [← hwz] at N
            clear n9 t0 t1 t2 t3 t4 t5 t6 z9 p2 p2a u0 u1 u2 u3 u4 u5 u6
            rw [← hwz]
            clear hwz
            go_wp2
            exact ⟨⟨q + 1, _, by omega, by go_num, N⟩, by simp [intOf]; omega⟩
        · obtain rfl : q = n2 := by omega
          have HQ : Hid (PaI w #[.slice a1 n1 c1, .int .i64 p, .slice a2 q c2] (.slice a1 n1 c1) p os m os.length V wr) := (show PaI _ _ _ _ _ _ _ _ _ from by rw [← HLM.out]; exact HI.out)
          go_wp2
          go_ret
          exact ⟨V, rfl, HQ.out⟩
end Go.Proofs.YtefpnojanldkeaaGreatDoor
