/- Put's mathematics: what a commit adds to a store; what turns; seen: the parts on a key that a read sees. -/
import Derived.Test.YtdnebclemngdcaaGreatDoorJWState
import Derived.Test.YtdnebclemngdcaaGreatDoorJVList
import Derived.Test.YtdnebclemngdcaaGreatDoorJVSame
namespace Go.Proofs.YtdnebclemngdcaaGreatDoor
open Go.RowKit Go.Sort Go.Maps
set_option maxRecDepth 100000
set_option linter.unusedSectionVars false
variable [Inhabited ComV] [DecidableEq D3] [Inhabited D3] [Inhabited Dd] [Inhabited Dn] [Inhabited OpV]

def partC (c : ComV) (o : OpV) : ComV := ⟨c.when_, c.place, [o]⟩
def dotC (c : ComV) (o : OpV) : D3 := ⟨c.place, c.when_.getD c.place.toNat 0, o.at_⟩
theorem keyOf_partC (c : ComV) (o : OpV) : keyOfC (partC c o) = o.key := rfl
def putTo (s : St) (c : ComV) (j : Nat) : St := ⟨s.base, s.parts ++ (c.ops.take j).map (partC c), s.dots ++ (c.ops.take j).map (dotC c)⟩
theorem putTo_zero (s : St) (c : ComV) : putTo s c 0 = s := by
  unfold putTo; simp
theorem putTo_succ (s : St) (c : ComV) {j : Nat} (h : j < c.ops.length) : putTo s c (j + 1) = ⟨s.base, (putTo s c j).parts ++ [partC c c.ops[j]!], (putTo s c j).dots ++ [dotC c c.ops[j]!]⟩ := by
  unfold putTo; rw [List.take_succ_eq_append_getElem h, getElem!_pos c.ops j h, List.map_append, List.map_append, ← List.append_assoc, ← List.append_assoc]; rfl
structure Turn (w w' : World) (mb db : Nat) (f f' : ByteArray → Value) : Prop where
  os : w'.os = w.os
  tape : w'.tape = w.tape
  output : w'.output = w.output
  size : w.heap.size ≤ w'.heap.size
  block : ∀ b, b < w.heap.size → b ≠ mb → b ≠ db → (∀ k, (f k).ownBlock ≠ some b) → w'.heap[b]? = w.heap[b]?
  fresh : ∀ k b, (f' k).ownBlock = some b → (∃ k', (f k').ownBlock = some b) ∨ w.heap.size ≤ b
theorem Turn.refl (w : World) (mb db : Nat) (f : ByteArray → Value) : Turn w w mb db f f := ⟨rfl, rfl, rfl, Nat.le_refl _, fun _ _ _ _ _ => rfl, fun k _ h => .inl ⟨k, h⟩⟩
theorem Turn.below {w w1 w2 : World} {mb db : Nat} {f f' : ByteArray → Value} (h : Turn w w1 mb db f f') (hb : Below w1.heap.size w1 w2) : Turn w w2 mb db f f' :=
  ⟨hb.os.trans h.os, hb.tape.trans h.tape, hb.output.trans h.output, Nat.le_trans h.size hb.size, fun b h1 h2 h3 h4 => (hb.block b (Nat.lt_of_lt_of_le h1 h.size)).trans (h.block b h1 h2 h3 h4), h.fresh⟩
theorem Turn.grown {w w1 w2 : World} {mb db : Nat} {f f' : ByteArray → Value} {r : Option Nat} (h : Turn w w1 mb db f f') (hg : w1.grownBy w2 r) (hr : ∀ b, b < w.heap.size → b ≠ mb → b ≠ db → (∀ k, (f k).ownBlock ≠ some b) → some b ≠ r) : Turn w w2 mb db f f' :=
  ⟨hg.os.trans h.os, hg.tape.trans h.tape, hg.output.trans h.output, Nat.le_trans h.size hg.size, fun b h1 h2 h3 h4 => (hg.block b (Nat.lt_of_lt_of_le h1 h.size) (hr b h1 h2 h3 h4)).trans (h.block b h1 h2 h3 h4), h.fresh⟩
theorem Turn.upd {w w1 : World} {mb db : Nat} {f f' : ByteArray → Value} {k0 : ByteArray} {v' : Value} {wx : World} (h : Turn w w1 mb db f f') (hloc : v'.ownBlock = (f' k0).ownBlock ∨ v'.ownBlock = some wx.heap.size) (hx : w.heap.size ≤ wx.heap.size) : Turn w w1 mb db f (updF f' k0 v') :=
  ⟨h.os, h.tape, h.output, h.size, h.block, fun k b hb => by
    unfold updF at hb
    split at hb
    · rcases hloc with e | e
      · rw [e] at hb; exact h.fresh k0 b hb
      · rw [e] at hb; have := Option.some.inj hb; exact .inr (by omega)
    · exact h.fresh k b hb⟩
theorem keyOf_str (k : ByteArray) (h : k.size ≤ 1000000) : keyOf Tryz.prog 9 (.string k) = some (klS k) := WideMaps.keyOf_string_mk (P := Tryz.prog) Tryz.underlying9 (by unfold maxLen; omega)
theorem Tryz.zero43 (w : World) : (zeroValue 22).run Tryz.prog w = .ok (.slice none 0 0) w := by kernel_rfl
theorem Tryz.zero111 (w : World) : (zeroValue 84).run Tryz.prog w = .ok (.agg #[]) w := by kernel_rfl
theorem VerAt.look {w : World} {p mb db n : Nat} {f : ByteArray → Value} {s : St} (h : VerAt w p mb db f s n) (d : D3) (hd : wf3 d) : (Instr.lookup 81 (.map (some db)) (.agg #[.int .i64 d.p, .int .i64 d.t, .int .i64 d.a]) true).run Tryz.prog w = .ok (.tuple #[.agg #[], .bool (decide (d ∈ s.dots))]) w := by
  obtain ⟨D, h1, h2⟩ := h.dots; obtain ⟨v, ps, hrun, hR⟩ := h1.look_ok keyed65 Tryz.underlying81 (Tryz.zero111 w) unitElem_mk (key_dot d hd); obtain ⟨rfl, _⟩ := unitElem_inv hR; rw [hrun, h2 d hd]
theorem VerAt.row {w : World} {p mb db n : Nat} {f : ByteArray → Value} {s : St} (h : VerAt w p mb db f s n) (k : ByteArray) (hk : k.size ≤ 1000000) : (Instr.lookup 80 (.map (some mb)) (.string k) false).run Tryz.prog w = .ok (f k) w := by
  obtain ⟨D, h1, h2⟩ := h.map; obtain ⟨v, ps, hrun, hR⟩ := h1.lookup keyed9 Tryz.underlying80 (Tryz.zero43 w) (zd := .nil) (zp := []) rfl (keyOf_str k hk); obtain ⟨rows, hr, _⟩ := h.rows k; have : v = f k := sliceElem_inj hR (sliceElem_row hr) (h2 k).2; rw [hrun, this]
theorem VerAt.boxAt {w : World} {p mb db n : Nat} {f : ByteArray → Value} {s : St} (h : VerAt w p mb db f s n) : ∃ a c, w.cell? ⟨p, 0, none⟩ = some (.slice a s.base.length c) ∧ w.cell? ⟨p, 1, none⟩ = some (.map (some mb)) ∧ w.cell? ⟨p, 2, none⟩ = some (.map (some db)) ∧ IntsT w (.slice a s.base.length c) s.base ∧ w.heap[p]? = some (.cells #[.slice a s.base.length c, .map (some mb), .map (some db)] 83 (0, 0)) := by
  obtain ⟨bv, h1, h2⟩ := h.box; obtain ⟨a, c, rfl⟩ := h2.at.slice; refine ⟨a, c, ?_, ?_, ?_, h2, h1⟩ <;> (simp only [World.cell?, h1]; rfl)
theorem name_of_opErr {o : OpV} {n : Int} (h : opErr o n = 0) : o.key.size ≤ 16 := by
  unfold opErr at h
  split at h
  · exact absurd h (by decide)
  · split at h
    · exact absurd h (by decide)
    · rename_i _ hn
      have : nameB o.key = true := by simpa using hn
      unfold nameB at this; simp only [Bool.and_eq_true, decide_eq_true_eq] at this; exact this.2.1
theorem ints_cell {w : World} {b o n c : Nat} {zs : List Int} (h : IntsT w (.slice (some ⟨b, o, none⟩) n c) zs) {t : Nat} (ht : t < zs.length) : w.cell? ⟨b, o + t, none⟩ = some (.int .i64 (zs.getD t 0)) := by
  obtain ⟨ad, cap, he, _, hc⟩ := h.at; injection he with e1 _ _; rcases hc with hc | ⟨b', o', e2, hc⟩
  · rw [hc] at ht; simp at ht
  · rw [e2] at e1; injection e1 with e1; injection e1 with e3 e4 _; subst e3 e4; exact hc t ht
theorem cell_ne_map {w : World} {k b n : Nat} {R : Value → Option (DataW Unit × List MemPlace)} {D : DataW Unit} {a : Addr} {v : Value} (h : w.ownsMap Tryz.prog k R b n D) (hc : w.cell? a = some v) : a.block ≠ b := fun e => by
  obtain ⟨es, clock, hb⟩ := map_obj h; rw [← e] at hb; simp [World.cell?, hb] at hc
theorem rowAt_cells {k : Nat} {w w' : World} {v : Value} {rows : List (List Value)} (h : RowAt k w v rows) (hk : ∀ a u, w.cell? a = some u → w'.cell? a = some u) : RowAt k w' v rows := by
  obtain ⟨ad, cap, rfl, hn, hc, h⟩ := h; refine ⟨ad, cap, rfl, hn, hc, ?_⟩; rcases h with h | ⟨b, off, rfl, h⟩
  · exact .inl h
  · exact .inr ⟨b, off, rfl, fun j r hr => ⟨(h j r hr).1, fun i u hu => hk _ _ ((h j r hr).2 i u hu)⟩⟩
structure PutInv (s : St) (c : ComV) (p mb db n : Nat) (f : ByteArray → Value) (w : World) (j : Nat) (wr : World) (fj : ByteArray → Value) : Prop where
  ver : VerAt wr p mb db fj (putTo s c j) (n + 2 * j)
  turn : Turn w wr mb db f fj
  keep : Keep3 w wr
  off : ∀ k, (fj k).ownBlock ≠ some w.heap.size
  size : w.heap.size < wr.heap.size
theorem VerAt.few {w : World} {p mb db n : Nat} {f : ByteArray → Value} {s : St} (h : VerAt w p mb db f s n) (k : ByteArray) {b : Nat} (hb : (f k).ownBlock = some b) : b < w.heap.size := by
  obtain ⟨rows, h1, _⟩ := h.rows k; exact (h1.lt b hb).2
theorem rowOf_putTo (s : St) (c : ComV) (j : Nat) (k : ByteArray) : (rowOf (putTo s c j) k).length ≤ (rowOf s k).length + j := by
  unfold rowOf putTo; rw [List.filter_append, List.length_append]; have := List.length_filter_le (fun c => decide (keyOfC c = k)) ((c.ops.take j).map (partC c)); simp at this ⊢; omega
end Go.Proofs.YtdnebclemngdcaaGreatDoor
namespace Go.Proofs.YtdnebclemngdcaaGreatDoor
open Go.RowKit Go.Sort Go.Maps
set_option maxRecDepth 100000
set_option linter.unusedSectionVars false
variable [Inhabited ComV] [DecidableEq D3] [Inhabited D3] [Inhabited Dd] [Inhabited Dn] [Inhabited OpV]

def seenL (s : St) (key : ByteArray) (at_ : List Int) : List ComV := (rowOf s key).filter fun c => leB c.when_ at_
structure StOk (s : St) (nb : Nat) : Prop where
  base : chk s.base = 0
  len : s.base.length = nb
  ok : ∀ c ∈ s.parts, ComOk c
  when_ : ∀ c ∈ s.parts, c.when_.length = nb
  small : ∀ c ∈ s.parts, SmallC c
theorem mem_rowOf {s : St} {k : ByteArray} {c : ComV} (h : c ∈ rowOf s k) : c ∈ s.parts := (List.mem_filter.1 h).1
theorem flat3_at : ∀ (rows : List (List Value)) (k : Nat) (a b c : Value), (∀ r ∈ rows, r.length = 3) → rows[k]? = some [a, b, c] → rows.flatten[k * 3]? = some a ∧ rows.flatten[k * 3 + 1]? = some b ∧ rows.flatten[k * 3 + 2]? = some c
  | [], _, _, _, _, _, h => by simp at h
  | r :: rs, 0, a, b, c, _, h => by
    simp at h; subst h; simp
  | r :: rs, k + 1, a, b, c, hl, h => by
    have hr : r.length = 3 := hl r (by simp); have := flat3_at rs k a b c (fun x hx => hl x (by simp [hx])) (by simpa using h); rw [List.flatten_cons, List.getElem?_append_right (by omega), List.getElem?_append_right (by omega), List.getElem?_append_right (by omega), hr, show (k + 1) * 3 - 3 = k * 3 by omega, show (k + 1) * 3 + 1 - 3 = k * 3 + 1 by omega, show (k + 1) * 3 + 2 - 3 = k * 3 + 2 by omega]; exact this
theorem f2_len3 {w : World} : ∀ {rows : List (List Value)} {l : List ComV}, F2 (ComT w) rows l → ∀ r ∈ rows, r.length = 3
  | [], _, _, r, hr => by cases hr
  | x :: xs, [], h, _, _ => by cases h
  | x :: xs, c :: cs, h, r, hr => by
    obtain ⟨h1, h2⟩ := h; rcases List.mem_cons.1 hr with rfl | hr
    · obtain ⟨wv, ov, e, _⟩ := h1; rw [e]; rfl
    · exact f2_len3 h2 r hr
theorem f2_at {w : World} : ∀ {rows : List (List Value)} {l : List ComV} {k : Nat}, F2 (ComT w) rows l → k < l.length → ∃ r, rows[k]? = some r ∧ ComT w r l[k]!
  | [], [], _, _, hk => by simp at hk
  | [], _ :: _, _, h, _ => by cases h
  | _ :: _, [], _, h, _ => by cases h
  | x :: xs, c :: cs, 0, h, _ => ⟨x, rfl, h.1⟩
  | x :: xs, c :: cs, k + 1, h, hk => by
    obtain ⟨r, h1, h2⟩ := f2_at (k := k) h.2 (by simpa using hk); exact ⟨r, by simpa using h1, by simpa using h2⟩
theorem part_at {w : World} {base : Nat} {v : Value} {rows : List (List Value)} {l : List ComV} (h : w.ownsRow base 34 3 v l.length rows.flatten) (hF : F2 (ComT w) rows l) {k : Nat} (hk : k < l.length) :
    ∃ b cap wv ov, v = .slice (some ⟨b, 0, none⟩) l.length cap ∧ ComT w [wv, .int .i64 l[k]!.place, ov] l[k]! ∧ w.cell? ⟨b, k * 3, none⟩ = some wv ∧ w.cell? ⟨b, k * 3 + 1, none⟩ = some (.int .i64 l[k]!.place) ∧ w.cell? ⟨b, k * 3 + 2, none⟩ = some ov := by
  obtain ⟨r, h1, h2⟩ := f2_at hF hk; have h3 := h2; obtain ⟨wv, ov, e, _, _⟩ := h3; subst e; obtain ⟨f0, f1, f2⟩ := flat3_at rows k _ _ _ (f2_len3 hF) h1; rcases h.2 with ⟨_, h0⟩ | ⟨b, cap, cur, hv, _, hh, hc, _, hs, ht⟩
  · omega
  · have cell : ∀ i u, i < l.length * 3 → rows.flatten[i]? = some u → w.cell? ⟨b, i, none⟩ = some u := fun i u hi hu => by
      rw [← ht, List.getElem?_take, if_pos hi, Array.getElem?_toList] at hu; simp only [World.cell?, hh]; exact hu
    exact ⟨b, cap, wv, ov, hv, h2, cell _ _ (by omega) f0, cell _ _ (by omega) f1, cell _ _ (by omega) f2⟩
theorem filter_take_succ {l : List ComV} {k : Nat} (hk : k < l.length) (p : ComV → Bool) : (l.take (k + 1)).filter p = (l.take k).filter p ++ (if p l[k]! then [l[k]!] else []) := by
  rw [List.take_succ_eq_append_getElem hk, List.filter_append, getElem!_pos l k hk]
  congr 1
  by_cases h : p l[k]
  · simp [h]
  · simp [h]
end Go.Proofs.YtdnebclemngdcaaGreatDoor
