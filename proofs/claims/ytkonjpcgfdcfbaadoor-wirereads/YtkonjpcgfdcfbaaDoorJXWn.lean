/- The writer's leaves; The writer of numbers. -/
import Derived.Test.YtkonjpcgfdcfbaaDoorJXWhole
namespace Go.Proofs.YtkonjpcgfdcfbaaDoor
open Go.RowKit
set_option maxRecDepth 100000

def cellsB (bs : List UInt8) : List Value := bs.map fun c => .int .u8 (c.toNat : Int)
/-- The writer's box holds what was told; below it all is as it was. -/
structure Ws (a6 : Addr) (p : Nat) (w0 w : World) (bs : List UInt8) (v : Value) : Prop where
  below : Below p w0 w
  box : w.heap[p]? = some (.cells #[v] 55 (0, 0))
  row : w.ownsRow (p + 1) 5 1 v bs.length (cellsB bs)
  err : w.cell? ⟨7, 0, none⟩ = some (.iface 131 (.pointer (some a6)))
  lt : 7 < p
  len : bs.length ≤ 5996
theorem Ws.moved {a6 : Addr} {p : Nat} {w0 w w' : World} {bs : List UInt8} {v : Value} (h : Ws a6 p w0 w bs v) (hb : Below w.heap.size w w') : Ws a6 p w0 w' bs v :=
  have hp := lt_of_heap h.box
  ⟨h.below.trans (hb.mono (by omega)), by rw [hb.block _ hp]; exact h.box, owns_below h.row fun i _ hc => hb.block i (lt_of_heap hc), by rw [hb.cell (p := ⟨7, 0, none⟩) (by have := h.lt; show 7 < _; omega)]; exact h.err, h.lt, h.len⟩

theorem need_ok (w : World) (a6 : Addr) (p : Nat) (w0 : World) (bs : List UInt8) (v : Value) (n : Nat) (h : Ws a6 p w0 w bs v) (hn : bs.length + n ≤ 5996) :
    Calls Tryd.prog 43 #[.pointer (some ⟨p, 0, none⟩), .int .i64 n] w fun e w' => e = .returned (.tuple #[]) ∧ w' = w := by
  obtain ⟨ad, c, rfl⟩ := row_shape h.row
  have hc : w.cell? ⟨p, 0, none⟩ = some (.slice ad bs.length c) := by rw [cell_of h.box]; rfl
  have hl : ¬ 5996 - (bs.length : Int) < n := by omega
  go_enter Tryd.func43, Tryd.ntmps43
  go_wp2
  go_end0
  exact ⟨rfl, rfl⟩
theorem need_bad (w : World) (a6 : Addr) (p : Nat) (w0 : World) (bs : List UInt8) (v : Value) (n : Nat) (h : Ws a6 p w0 w bs v) (hn : 5996 < bs.length + n) :
    Calls Tryd.prog 43 #[.pointer (some ⟨p, 0, none⟩), .int .i64 n] w fun e w' => e = thrown (.iface 131 (.pointer (some a6))) ∧ w' = w := by
  obtain ⟨ad, c, rfl⟩ := row_shape h.row
  have hc : w.cell? ⟨p, 0, none⟩ = some (.slice ad bs.length c) := by rw [cell_of h.box]; rfl
  have he := h.err
  have h5 := h.len
  have hl : 5996 - (bs.length : Int) < n := by omega
  go_enter Tryd.func43, Tryd.ntmps43
  go_wp2_with (go_at_call 40; refine (throw_any _ _ _).mono ?_; rintro e w' ⟨rfl, rfl⟩)
  exact ⟨rfl, rfl, rfl⟩
end Go.Proofs.YtkonjpcgfdcfbaaDoor
namespace Go.Proofs.YtkonjpcgfdcfbaaDoor
open Go.RowKit
set_option maxRecDepth 100000

theorem Tryd.info5 : (Tryd.prog.info? 5).map (fun i => (i.zero, i.size, i.bytes)) = some (some (.int .u8 0), 1, 1) := by kernel_rfl
/-- Of what was there only the writer's box and rows of bytes may have turned. -/
structure Wk (p : Nat) (w w' : World) : Prop where
  size : w.heap.size ≤ w'.heap.size
  block : ∀ i, i < w.heap.size → i ≠ p → (∀ cs, w.heap[i]? ≠ some (.cells cs 5 (0, 0))) → w'.heap[i]? = w.heap[i]?
theorem Wk.refl (p : Nat) (w : World) : Wk p w w := ⟨Nat.le_refl _, fun _ _ _ _ => rfl⟩
theorem Wk.trans {p : Nat} {u v w : World} (h : Wk p u v) (k : Wk p v w) : Wk p u w := ⟨Nat.le_trans h.size k.size, fun i hi hp hc => by
  have e := h.block i hi hp hc
  rw [k.block i (by have := h.size; omega) hp (by rw [e]; exact hc), e]⟩
theorem Wk.of {p : Nat} {w w' : World} (h : Below w.heap.size w w') : Wk p w w' := ⟨h.size, fun i hi _ _ => h.block i hi⟩
theorem Wk.heap {p : Nat} {w w' : World} (h : Wk p w w') {i : Nat} {cs : Array Value} {t : TypeId} (hc : w.heap[i]? = some (.cells cs t (0, 0))) (hp : i ≠ p) (ht : t ≠ 5) : w'.heap[i]? = some (.cells cs t (0, 0)) := by
  rw [h.block i (lt_of_heap hc) hp fun cs' e => by
    rw [hc] at e
    injection e with e
    injection e with _ e
    exact ht e]
  exact hc
theorem Wk.grow {p base n : Nat} {w w2 : World} {v : Value} {xs : List Value} (hrow : w.ownsRow base 5 1 v n xs) (hg : w.grownBy w2 v.ownBlock) (u : Value) : Wk p w (w2.setCell ⟨p, 0, none⟩ u) :=
  ⟨by have := hg.size; simpa [World.setCell] using this, fun i hi hp hc => by
    rw [Below.heap_setCell _ _ _ _ hp, hg.block i hi fun e => by
      obtain ⟨cs, h⟩ := own_type hrow e.symm
      exact hc cs h]⟩
/-- Where a writing ends. -/
def WrPost (a6 : Addr) (p : Nat) (w0 w : World) (bs piece : List UInt8) (e : Ending) (w' : World) : Prop :=
  (bs.length + piece.length ≤ 5996 ∧ e = .returned (.tuple #[]) ∧ (∃ v, Ws a6 p w0 w' (bs ++ piece) v) ∧ Wk p w w') ∨ (5996 < bs.length + piece.length ∧ e = thrown (.iface 131 (.pointer (some a6))) ∧ (∃ v bs', Ws a6 p w0 w' bs' v) ∧ Wk p w w')
theorem be8_at (n : Int) {j : Nat} (h : j < 8) : (be8 n).take (j + 1) = (be8 n).take j ++ [oct n (56 - 8 * j)] := by
  rcases (by omega : j = 0 ∨ j = 1 ∨ j = 2 ∨ j = 3 ∨ j = 4 ∨ j = 5 ∨ j = 6 ∨ j = 7) with rfl | rfl | rfl | rfl | rfl | rfl | rfl | rfl <;> rfl
theorem one_byte (x : Int) : ∀ u ∈ ([.int .u8 x] : List Value), u.oneCell' = true := fun u hu => by simp at hu; subst hu; rfl
/-- A byte more is told. -/
theorem Ws.more {a6 : Addr} {p : Nat} {w0 w w2 : World} {bs : List UInt8} {v v' : Value} (h : Ws a6 p w0 w bs v) (c : UInt8) (hl : bs.length + 1 ≤ 5996) {o' : Obj} (hn : w2.ownsRow (p + 1) 5 1 v' (bs.length + 1) (cellsB bs ++ [.int .u8 (c.toNat : Int)])) (hg : (w.alloc o').grownBy w2 v.ownBlock) :
    (w2.cell? ⟨p, 0, none⟩ = some v ∧ w2.frozen? ⟨p, 0, none⟩ = false) ∧ Ws a6 p w0 (w2.setCell ⟨p, 0, none⟩ v') (bs ++ [c]) v' ∧ Wk p w (w2.setCell ⟨p, 0, none⟩ v') := by
  have hp := lt_of_heap h.box
  have hlow : ∀ i, i < p + 1 → w2.heap[i]? = w.heap[i]? := fun i hi => by
    rw [hg.block i (by simp; omega) fun e => by
      have := (h.row.lt i e.symm).1
      omega, Below.heap_alloc _ _ _ (by omega)]
  have hb : w2.heap[p]? = some (.cells #[v] 55 (0, 0)) := by rw [hlow p (by omega)]; exact h.box
  refine ⟨⟨(cell_of hb).trans rfl, free_of hb⟩, ⟨?_, heap_set hb _, ?_, ?_, h.lt, by rw [List.length_append]; exact hl⟩, (Wk.of (below_alloc w o')).trans (.grow (h.row.alloc o') hg v')⟩
  · exact (h.below.trans ⟨hg.os, hg.tape, hg.output, by have := hg.size; simp at this; omega, fun k hk => hlow k (by omega)⟩).setCell (p := ⟨p, 0, none⟩) (Nat.le_refl _) _
  · have : cellsB (bs ++ [c]) = cellsB bs ++ [.int .u8 (c.toNat : Int)] := by unfold cellsB; rw [List.map_append]; rfl
    rw [this, List.length_append]
    exact ownsRow_setCell_below hn (Nat.lt_succ_self _) _
  · rw [World.cell?_of_block (w := w2) (Below.heap_setCell _ _ _ _ (by have := h.lt; show 7 ≠ p; omega)), World.cell?_of_block (w := w) (hlow 7 (by have := h.lt; omega))]
    exact h.err
theorem owns_drew {w : World} {base e size n : Nat} {v : Value} {xs : List Value} (h : w.ownsRow base e size v n xs) : w.drew.ownsRow base e size v n xs := h
theorem cells3_newd (w : World) (t : TypeId) (cs : List Value) : ∀ j u, cs[j]? = some u → (w.alloc (.cells cs.toArray t)).drew.cell? ((⟨w.heap.size, 0, none⟩ : Addr).add j) = some u := cells3_new w t cs
theorem grown_undrew {w w' : World} {r : Option Nat} (h : w.drew.grownBy w' r) : w.grownBy w' r := ⟨h.os, h.tape, h.output, h.size, h.block⟩
theorem Ws.drew {a6 : Addr} {p : Nat} {w0 w : World} {bs : List UInt8} {v : Value} (h : Ws a6 p w0 w bs v) : Ws a6 p w0 w.drew bs v := ⟨h.below.drew, h.box, h.row, h.err, h.lt, h.len⟩

set_option maxHeartbeats 4000000 in
theorem wnumber_ok (w : World) (a6 : Addr) (p : Nat) (w0 : World) (bs : List UInt8) (v : Value) (n : Int) (h : Ws a6 p w0 w bs v) (hn : bs.length + 8 ≤ 5996) :
    Calls Tryd.prog 33 #[.pointer (some ⟨p, 0, none⟩), .int .i64 n] w fun e w' => e = .returned (.tuple #[]) ∧ (∃ v', Ws a6 p w0 w' (bs ++ be8 n) v') ∧ Wk p w w' := by
  obtain ⟨i5, hi, hz0, hz1, hz2⟩ := info_parts Tryd.info5
  have K := hid (need_ok w a6 p w0 bs v 8 h hn)
  have H := hid h
  go_enter Tryd.func33, Tryd.ntmps33
  go_wp2_with (go_at_call 43; refine K.out.mono ?_; rintro e w1 ⟨rfl, rfl⟩)
  go_loopw [4] (fun i wr => ∃ (j : Nat) (v' : Value), j ≤ 8 ∧ i = .int .i64 (56 - 8 * j) ∧ Ws a6 p w0 wr (bs ++ (be8 n).take j) v' ∧ Wk p w1 wr) (fun i _ => ((intOf i) + 8).toNat)
  case atStart => exact ⟨0, v, Nat.zero_le _, rfl, by rw [List.take_zero, List.append_nil]; exact H.out, Wk.refl _ _⟩
  case round =>
    obtain ⟨j, v', hj, rfl, hI, hwk⟩ := hrel
    have HWK := hid hwk
    clear hwk
    by_cases hlt : j < 8
    · have hlen : (bs ++ (be8 n).take j).length + 1 ≤ 5996 := by rw [List.length_append, List.length_take, be8_len]; omega
      have HT := hid (be8_at n hlt)
      obtain ⟨cs, hcs⟩ : ∃ cs, cs = bs ++ (be8 n).take j := ⟨_, rfl⟩
      rw [← hcs] at hI hlen
      have HCS := hid hcs
      clear hcs
      obtain ⟨ad, cp, rfl⟩ := row_shape hI.row
      have HI := hid hI
      have hc : wr.cell? ⟨p, 0, none⟩ = some (.slice ad cs.length cp) := (cell_of hI.box).trans rfl
      have hge : ¬ (56 - 8 * (j : Int)) < 0 := by omega
      clear hI
      have ho : IntKind.u8.wrap (n / 2 ^ (56 - 8 * (j : Int)).toNat) = ((oct n (56 - 8 * j)).toNat : Int) := by
        rw [oct_nat, show (56 - 8 * (j : Int)).toNat = 56 - 8 * j by omega]
        simp [IntKind.wrap, IntKind.bits, IntKind.signed]
      obtain ⟨c, hcc⟩ : ∃ c, c = oct n (56 - 8 * j) := ⟨_, rfl⟩
      rw [← hcc] at ho
      have HC := hid hcc
      clear hcc
      have hm1 : cs.length + 1 ≤ maxLen := by unfold maxLen; omega
      have hb1 : ∀ o, p + 1 ≤ (wr.alloc o).drew.heap.size := fun o => by have := lt_of_heap HI.out.box; simp; omega
      have hca := fun o => cell_alloc hc o
      go_wp2_with fail
      go_region_law (refine step_append_own rfl _ _ 53 rfl (p + 1) 5 i5 _ 1 1 Tryd.underlying53 hi hz0 hz1 hz2 rfl (by decide) (.slice ad cs.length cp) _ _ rfl (owns_drew (HI.out.row.alloc _)) ⟨wr.heap.size, 0, none⟩ 1 1 [.int .u8 (c.toNat : Int)] rfl rfl (cells3_newd _ _ _) (one_byte _) hm1 (by omega) (hb1 _) ?_; intro v' w9 hrow hgr; obtain ⟨av, cv, hv9⟩ := row_shape hrow; subst hv9; obtain ⟨⟨c9, z9⟩, h9, k9⟩ := HI.out.more c hlen hrow (grown_undrew hgr); have HI9 := hid h9; have HK9 := hid k9; clear hrow hgr h9 k9)
      all_goals
        go_wp2
        refine ⟨⟨j + 1, _, by omega, by go_num, by rw [HT.out, ← List.append_assoc, ← HCS.out, ← HC.out]; exact HI9.out, HWK.out.trans HK9.out⟩, by simp [intOf]; omega⟩
    · obtain rfl : j = 8 := by omega
      have HI := hid hI
      clear hI
      go_wp2
      go_end0
      exact ⟨rfl, ⟨v', HI.out⟩, HWK.out⟩
theorem wnumber_any (w : World) (a6 : Addr) (p : Nat) (w0 : World) (bs : List UInt8) (v : Value) (n : Int) (h : Ws a6 p w0 w bs v) :
    Calls Tryd.prog 33 #[.pointer (some ⟨p, 0, none⟩), .int .i64 n] w (WrPost a6 p w0 w bs (be8 n)) := by
  by_cases hn : bs.length + 8 ≤ 5996
  · exact (wnumber_ok w a6 p w0 bs v n h hn).mono fun e w' h => .inl ⟨hn, h⟩
  · have K := hid (need_bad w a6 p w0 bs v 8 h (by omega))
    have H := hid h
    go_enter Tryd.func33, Tryd.ntmps33
    go_wp2_with (go_at_call 43; refine K.out.mono ?_; rintro e w1 ⟨rfl, rfl⟩)
    exact ⟨rfl, .inr ⟨by rw [be8_len]; omega, rfl, ⟨v, bs, H.out⟩, Wk.refl _ _⟩⟩
theorem wtruth_any (w : World) (a6 : Addr) (p : Nat) (w0 : World) (bs : List UInt8) (v : Value) (b : Bool) (h : Ws a6 p w0 w bs v) :
    Calls Tryd.prog 34 #[.pointer (some ⟨p, 0, none⟩), .bool b] w (WrPost a6 p w0 w bs (bit8 b)) := by
  have K := hid (wnumber_any w a6 p w0 bs v (if b then 1 else 0) h)
  cases b
  · go_enter Tryd.func34, Tryd.ntmps34
    go_wp2_with fail
    refine K.out.mono ?_
    rintro e w1 (⟨h1, rfl, h2⟩ | ⟨h1, rfl, h2⟩)
    · go_wp2
      go_end0
      exact .inl ⟨h1, rfl, h2⟩
    · go_wp2
      exact ⟨rfl, .inr ⟨h1, rfl, h2⟩⟩
  · go_enter Tryd.func34, Tryd.ntmps34
    go_wp2_with fail
    refine K.out.mono ?_
    rintro e w1 (⟨h1, rfl, h2⟩ | ⟨h1, rfl, h2⟩)
    · go_wp2
      go_end0
      exact .inl ⟨h1, rfl, h2⟩
    · go_wp2
      exact ⟨rfl, .inr ⟨h1, rfl, h2⟩⟩
end Go.Proofs.YtkonjpcgfdcfbaaDoor
