/- Worlds, rows, ops and commits in memory; The bytes of messages, and their reading: plain mathematics; What is read is what was written, and the other way around: plain mathematics; Where the reader stands: its box, and what a reading leaves alone. -/
import Derived.Test.YtkonjpcgfdcfbaaDoorProg
import Derived.WalkKit
import Derived.Deep.Draws
import Derived.Handy
import Derived.Deep.QuietTactic
import Derived.BigQuiet
import Derived.Laws.AppendOwnNone
import Derived.WalkLawsBesides
import Derived.WalkSpells
namespace Go.Proofs.YtkonjpcgfdcfbaaDoor
open Go.RowKit

theorem hid {p : Prop} (h : p) : Hid p := h

theorem lt_of_cell {w : World} {p : Addr} {v : Value} (h : w.cell? p = some v) : p.block < w.heap.size := by
  rcases Nat.lt_or_ge p.block w.heap.size with h' | h'
  · exact h'
  · simp [World.cell?, Array.getElem?_eq_none h'] at h
theorem cell_alloc {w : World} {p : Addr} {v : Value} (h : w.cell? p = some v) (o : Obj) : (w.alloc o).cell? p = some v := by
  rw [World.cell?_alloc_lt _ _ p (lt_of_cell h)]; exact h
theorem below_alloc (w : World) (o : Obj) : Below w.heap.size w (w.alloc o) := (Below.refl _ _).alloc (Nat.le_refl _) _
theorem below_draws {B : Nat} {a w : World} (h : Below B a w) (n : Nat) : Below B a (w.drewN n) := h.trans ⟨rfl, rfl, rfl, Nat.le_refl _, fun _ _ => rfl⟩

theorem ret_bool {a b : Bool} (h : a = b) : Ending.returned (.bool a) = .returned (.bool b) := by rw [h]
theorem ret_int {k : IntKind} {a b : Int} (h : a = b) : Ending.returned (.int k a) = .returned (.int k b) := by rw [h]
theorem getD_ext {zs ys : List Int} {n : Nat} (h1 : zs.length = n) (h2 : ys.length = n) (h : ∀ t, t < n → zs.getD t 0 = ys.getD t 0) : zs = ys := by
  refine List.ext_getElem (by omega) fun i a b => ?_
  have := h i (by omega)
  simpa [List.getD_eq_getElem?_getD, List.getElem?_eq_getElem a, List.getElem?_eq_getElem b] using this

/-- The slice v reads, in the world w, as the numbers zs. -/
def IntsAt (w : World) (v : Value) (zs : List Int) : Prop :=
  ∃ ad cap, v = .slice ad zs.length cap ∧ (ad = none → cap = 0) ∧ (zs = [] ∨ ∃ b off, ad = some ⟨b, off, none⟩ ∧ ∀ t, t < zs.length → w.cell? ⟨b, off + t, none⟩ = some (.int .i64 (zs.getD t 0)))
theorem IntsAt.mono {w w' : World} {v : Value} {zs : List Int} {B : Nat} (h : IntsAt w v zs) (hb : Below B w w') (hB : w.heap.size ≤ B) : IntsAt w' v zs := by
  obtain ⟨ad, cap, rfl, hn, h⟩ := h
  refine ⟨ad, cap, rfl, hn, ?_⟩
  rcases h with h | ⟨b, off, rfl, h⟩
  · exact .inl h
  · exact .inr ⟨b, off, rfl, fun t ht => by rw [hb.cell (p := ⟨b, off + t, none⟩) (by have := lt_of_cell (h t ht); simp only at this ⊢; omega)]; exact h t ht⟩
theorem lit_ints (w : World) (cs : Array Value) (t : TypeId) (zs : List Int) (hcs : cs.toList = zs.map (Value.int .i64)) (n m c : Nat) (hn : n = w.heap.size) (hm : m = zs.length) : IntsAt (w.alloc (.cells cs t)) (.slice (some ⟨n, 0, none⟩) m c) zs := by
  subst hm
  refine ⟨_, c, rfl, (fun h => by cases h), .inr ⟨n, 0, rfl, fun j hj => ?_⟩⟩
  rw [World.cell?_alloc_at _ _ _ _ hn, ← Array.getElem?_toList, hcs]
  simp [List.getElem?_map, List.getD_eq_getElem?_getD, List.getElem?_eq_getElem hj]

/-- A dot. -/
structure D3 where
  p : Int
  t : Int
  a : Int
def D3.cells (d : D3) : List Value := [.int .i64 d.p, .int .i64 d.t, .int .i64 d.a]

/-- An op. -/
structure OpV where
  at_ : Int
  key : ByteArray
  kind : Int
  text : ByteArray
  n : Int
  rem : Bool
  dots : List D3
/-- A commit. -/
structure ComV where
  when_ : List Int
  place : Int
  ops : List OpV

/-- The slice v reads, in the world w, as rows of k cells. -/
def RowAt (k : Nat) (w : World) (v : Value) (rows : List (List Value)) : Prop :=
  ∃ ad cap, v = .slice ad rows.length cap ∧ (ad = none → cap = 0) ∧ rows.length ≤ cap ∧ (rows = [] ∨ ∃ b off, ad = some ⟨b, off, none⟩ ∧ ∀ j r, rows[j]? = some r → r.length = k ∧ ∀ i u, r[i]? = some u → w.cell? ⟨b, off + j * k + i, none⟩ = some u)
theorem RowAt.mono {k : Nat} {w w' : World} {v : Value} {rows : List (List Value)} {B : Nat} (h : RowAt k w v rows) (hb : Below B w w') (hB : w.heap.size ≤ B) : RowAt k w' v rows := by
  obtain ⟨ad, cap, rfl, hn, hc, h⟩ := h
  refine ⟨ad, cap, rfl, hn, hc, ?_⟩
  rcases h with h | ⟨b, off, rfl, h⟩
  · exact .inl h
  · exact .inr ⟨b, off, rfl, fun j r hr => ⟨(h j r hr).1, fun i u hu => by
      have := (h j r hr).2 i u hu
      rw [hb.cell (p := ⟨b, off + j * k + i, none⟩) (by have := lt_of_cell this; simp only at this ⊢; omega)]; exact this⟩⟩
def DotsAt (w : World) (v : Value) (ds : List D3) : Prop := RowAt 3 w v (ds.map D3.cells)
theorem DotsAt.mono {w w' : World} {v : Value} {ds : List D3} {B : Nat} (h : DotsAt w v ds) (hb : Below B w w') (hB : w.heap.size ≤ B) : DotsAt w' v ds := RowAt.mono h hb hB
theorem DotsAt.len {w : World} {v : Value} {ds : List D3} (h : DotsAt w v ds) : ∃ ad cap, v = .slice ad ds.length cap := by
  obtain ⟨ad, cap, rfl, _⟩ := h
  exact ⟨ad, cap, by simp⟩


/-- Two lists go along with one another. -/
def F2 {α β : Type} (R : α → β → Prop) : List α → List β → Prop
  | [], [] => True
  | a :: l, b :: m => R a b ∧ F2 R l m
  | _, _ => False
theorem f2_mono {α β : Type} {R S : α → β → Prop} (h : ∀ a b, R a b → S a b) : ∀ {l : List α} {m : List β}, F2 R l m → F2 S l m
  | [], [], _ => trivial
  | _ :: _, _ :: _, ⟨h1, h2⟩ => ⟨h _ _ h1, f2_mono h h2⟩
theorem f2_len {α β : Type} {R : α → β → Prop} : ∀ {l : List α} {m : List β}, F2 R l m → l.length = m.length
  | [], [], _ => rfl
  | _ :: _, _ :: _, ⟨_, h2⟩ => by simp [f2_len h2]
theorem f2_get {α β : Type} {R : α → β → Prop} : ∀ {l : List α} {m : List β}, F2 R l m → ∀ (j : Nat) (y : β), m[j]? = some y → ∃ x, l[j]? = some x ∧ R x y
  | [], [], _, _, _, h => by simp at h
  | _ :: _, _ :: _, ⟨h1, h2⟩, j, y, h => by
    cases j with
    | zero => simp at h; subst h; exact ⟨_, rfl, h1⟩
    | succ j => exact f2_get h2 j y (by simpa using h)

def opCells (o : OpV) (dv : Value) : List Value := [.int .i64 o.at_, .string o.key, .int .i64 o.kind, .string o.text, .int .i64 o.n, .bool o.rem, dv]
def OpRow (w : World) (cs : List Value) (o : OpV) : Prop := ∃ dv, cs = opCells o dv ∧ DotsAt w dv o.dots
def OpsAt (w : World) (v : Value) (os : List OpV) : Prop := ∃ rows, RowAt 7 w v rows ∧ F2 (OpRow w) rows os
def ComRow (w : World) (cs : List Value) (c : ComV) : Prop := ∃ wv ov, cs = [wv, .int .i64 c.place, ov] ∧ IntsAt w wv c.when_ ∧ OpsAt w ov c.ops
def ComsAt (w : World) (v : Value) (l : List ComV) : Prop := ∃ rows, RowAt 3 w v rows ∧ F2 (ComRow w) rows l

theorem OpRow.mono {w w' : World} {cs : List Value} {o : OpV} {B : Nat} (h : OpRow w cs o) (hb : Below B w w') (hB : w.heap.size ≤ B) : OpRow w' cs o :=
  let ⟨dv, h1, h2⟩ := h; ⟨dv, h1, h2.mono hb hB⟩
theorem OpsAt.mono {w w' : World} {v : Value} {os : List OpV} {B : Nat} (h : OpsAt w v os) (hb : Below B w w') (hB : w.heap.size ≤ B) : OpsAt w' v os :=
  let ⟨r, h1, h2⟩ := h; ⟨r, h1.mono hb hB, f2_mono (fun _ _ h => h.mono hb hB) h2⟩
theorem ComRow.mono {w w' : World} {cs : List Value} {c : ComV} {B : Nat} (h : ComRow w cs c) (hb : Below B w w') (hB : w.heap.size ≤ B) : ComRow w' cs c :=
  let ⟨a, b, h1, h2, h3⟩ := h; ⟨a, b, h1, h2.mono hb hB, h3.mono hb hB⟩
theorem ComsAt.mono {w w' : World} {v : Value} {l : List ComV} {B : Nat} (h : ComsAt w v l) (hb : Below B w w') (hB : w.heap.size ≤ B) : ComsAt w' v l :=
  let ⟨r, h1, h2⟩ := h; ⟨r, h1.mono hb hB, f2_mono (fun _ _ h => h.mono hb hB) h2⟩

/-- The shape of a slice of ops, and its op j. -/
theorem OpsAt.shape {w : World} {v : Value} {os : List OpV} (h : OpsAt w v os) : ∃ ad cap, v = .slice ad os.length cap ∧ (ad = none → cap = 0) ∧ os.length ≤ cap ∧
    (os = [] ∨ ∃ b off, ad = some ⟨b, off, none⟩ ∧ ∀ j o, os[j]? = some o → ∃ dp dc, DotsAt w (.slice dp o.dots.length dc) o.dots ∧
      w.cell? ⟨b, off + j * 7, none⟩ = some (.int .i64 o.at_) ∧ w.cell? ⟨b, off + j * 7 + 1, none⟩ = some (.string o.key) ∧ w.cell? ⟨b, off + j * 7 + 2, none⟩ = some (.int .i64 o.kind) ∧ w.cell? ⟨b, off + j * 7 + 3, none⟩ = some (.string o.text) ∧
      w.cell? ⟨b, off + j * 7 + 4, none⟩ = some (.int .i64 o.n) ∧ w.cell? ⟨b, off + j * 7 + 5, none⟩ = some (.bool o.rem) ∧ w.cell? ⟨b, off + j * 7 + 6, none⟩ = some (.slice dp o.dots.length dc)) := by
  obtain ⟨rows, ⟨ad, cap, rfl, h1, h2, h3⟩, hf⟩ := h
  have hl := f2_len hf
  refine ⟨ad, cap, by rw [hl], h1, by omega, ?_⟩
  rcases h3 with rfl | ⟨b, off, rfl, h3⟩
  · exact .inl (List.eq_nil_of_length_eq_zero hl.symm)
  · refine .inr ⟨b, off, rfl, fun j o hj => ?_⟩
    obtain ⟨r, hr, dv, rfl, hd⟩ := f2_get hf j o hj
    obtain ⟨dp, dc, rfl⟩ := hd.len
    have hc := (h3 j _ hr).2
    exact ⟨dp, dc, hd, hc 0 _ rfl, hc 1 _ rfl, hc 2 _ rfl, hc 3 _ rfl, hc 4 _ rfl, hc 5 _ rfl, hc 6 _ rfl⟩
theorem ComsAt.shape {w : World} {v : Value} {l : List ComV} (h : ComsAt w v l) : ∃ ad cap, v = .slice ad l.length cap ∧ (ad = none → cap = 0) ∧ l.length ≤ cap ∧
    (l = [] ∨ ∃ b off, ad = some ⟨b, off, none⟩ ∧ ∀ j c, l[j]? = some c → ∃ wv ov, IntsAt w wv c.when_ ∧ OpsAt w ov c.ops ∧
      w.cell? ⟨b, off + j * 3, none⟩ = some wv ∧ w.cell? ⟨b, off + j * 3 + 1, none⟩ = some (.int .i64 c.place) ∧ w.cell? ⟨b, off + j * 3 + 2, none⟩ = some ov) := by
  obtain ⟨rows, ⟨ad, cap, rfl, h1, h2, h3⟩, hf⟩ := h
  have hl := f2_len hf
  refine ⟨ad, cap, by rw [hl], h1, by omega, ?_⟩
  rcases h3 with rfl | ⟨b, off, rfl, h3⟩
  · exact .inl (List.eq_nil_of_length_eq_zero hl.symm)
  · refine .inr ⟨b, off, rfl, fun j c hj => ?_⟩
    obtain ⟨r, hr, wv, ov, rfl, hw, ho⟩ := f2_get hf j c hj
    have hc := (h3 j _ hr).2
    exact ⟨wv, ov, hw, ho, hc 0 _ rfl, hc 1 _ rfl, hc 2 _ rfl⟩

end Go.Proofs.YtkonjpcgfdcfbaaDoor
namespace Go.Proofs.YtkonjpcgfdcfbaaDoor
set_option maxRecDepth 100000

/-- A message. -/
structure MsgV where
  frm : Int
  to_ : Int
  shard : Int
  seq : Int
  time : Int
  beat : Bool
  c : ComV

/-- The whole number of eight bytes, as Go's int has it. -/
def i64 (n : Int) : Int := (n + 9223372036854775808) % 18446744073709551616 - 9223372036854775808
def In64 (n : Int) : Prop := -9223372036854775808 ≤ n ∧ n < 9223372036854775808
theorem i64_in (n : Int) : In64 (i64 n) := by unfold In64 i64; omega
theorem i64_of {n : Int} (h : In64 n) : i64 n = n := by unfold In64 at h; unfold i64; omega

/-- The byte at bit k. -/
def oct (n : Int) (k : Nat) : UInt8 := UInt8.ofNat (n / 2 ^ k % 256).toNat
theorem oct_nat (n : Int) (k : Nat) : ((oct n k).toNat : Int) = n / 2 ^ k % 256 := by
  have h0 : 0 ≤ n / 2 ^ k % 256 := Int.emod_nonneg _ (by decide)
  have h1 : n / 2 ^ k % 256 < 256 := Int.emod_lt_of_pos _ (by decide)
  unfold oct
  rw [UInt8.toNat_ofNat']
  omega
def be8 (n : Int) : List UInt8 := [oct n 56, oct n 48, oct n 40, oct n 32, oct n 24, oct n 16, oct n 8, oct n 0]
theorem be8_len (n : Int) : (be8 n).length = 8 := rfl
def bit8 (b : Bool) : List UInt8 := be8 (if b then 1 else 0)
def txt8 (s : ByteArray) : List UInt8 := be8 s.size ++ s.data.toList
def dot8 (d : D3) : List UInt8 := be8 d.p ++ (be8 d.t ++ be8 d.a)
def op8 (o : OpV) : List UInt8 := be8 o.at_ ++ (txt8 o.key ++ (be8 o.kind ++ (txt8 o.text ++ (be8 o.n ++ (bit8 o.rem ++ (be8 o.dots.length ++ o.dots.flatMap dot8))))))
def com8 (c : ComV) : List UInt8 := be8 c.when_.length ++ (c.when_.flatMap be8 ++ (be8 c.place ++ (be8 c.ops.length ++ c.ops.flatMap op8)))
def msg8 (m : MsgV) : List UInt8 := be8 m.frm ++ (be8 m.to_ ++ (be8 m.shard ++ (be8 m.seq ++ (be8 m.time ++ (bit8 m.beat ++ com8 m.c)))))

/-- A reading: what was read, and what is left. -/
abbrev Pa (α : Type) := List UInt8 → Option (α × List UInt8)
def val (l : List UInt8) : Nat := l.foldl (fun a b => a * 256 + b.toNat) 0
def num8 (l : List UInt8) : Int := i64 (val l)
def numP : Pa Int := fun l => if 8 ≤ l.length then some (num8 (l.take 8), l.drop 8) else none
def bitP : Pa Bool := fun l => (numP l).bind fun x => if x.1 = 0 ∨ x.1 = 1 then some (decide (x.1 = 1), x.2) else none
def cntP : Pa Nat := fun l => (numP l).bind fun x => if x.1 < 0 ∨ (x.2.length : Int) < x.1 then none else some (x.1.toNat, x.2)
def txtP : Pa ByteArray := fun l => (cntP l).bind fun x => some (⟨(x.2.take x.1).toArray⟩, x.2.drop x.1)
def manyP {α : Type} (p : Pa α) : Nat → Pa (List α)
  | 0, l => some ([], l)
  | n + 1, l => (p l).bind fun x => (manyP p n x.2).bind fun y => some (x.1 :: y.1, y.2)
def dotP : Pa D3 := fun l => (numP l).bind fun p => (numP p.2).bind fun t => (numP t.2).bind fun a => some (⟨p.1, t.1, a.1⟩, a.2)
def opP : Pa OpV := fun l => (numP l).bind fun a => (txtP a.2).bind fun k => (numP k.2).bind fun d => (txtP d.2).bind fun t => (numP t.2).bind fun n => (bitP n.2).bind fun r =>
  (cntP r.2).bind fun c => (manyP dotP c.1 c.2).bind fun ds => some (⟨a.1, k.1, d.1, t.1, n.1, r.1, ds.1⟩, ds.2)
def comP : Pa ComV := fun l => (cntP l).bind fun c => (manyP numP c.1 c.2).bind fun ws => (numP ws.2).bind fun p => (cntP p.2).bind fun d => (manyP opP d.1 d.2).bind fun os => some (⟨ws.1, p.1, os.1⟩, os.2)
def msgP : Pa MsgV := fun l => (numP l).bind fun f => (numP f.2).bind fun t => (numP t.2).bind fun s => (numP s.2).bind fun q => (numP q.2).bind fun i => (bitP i.2).bind fun b => (comP b.2).bind fun c =>
  some (⟨f.1, t.1, s.1, q.1, i.1, b.1, c.1⟩, c.2)
/-- The message that a text is. -/
def wholeP (l : List UInt8) : Option MsgV := (msgP l).bind fun m => if m.2 = [] then some m.1 else none

/-! ### what is read is what was written -/
theorem val8 (a b c d e f g h : UInt8) : val [a, b, c, d, e, f, g, h] = ((((((a.toNat * 256 + b.toNat) * 256 + c.toNat) * 256 + d.toNat) * 256 + e.toNat) * 256 + f.toNat) * 256 + g.toNat) * 256 + h.toNat := by
  simp [val]
theorem list8 {l : List UInt8} (h : l.length = 8) : ∃ a b c d e f g i, l = [a, b, c, d, e, f, g, i] := by
  match l, h with
  | [a, b, c, d, e, f, g, i], _ => exact ⟨a, b, c, d, e, f, g, i, rfl⟩
theorem num_be {n : Int} (h : In64 n) : num8 (be8 n) = n := by
  unfold In64 at h
  have e := fun k => oct_nat n k
  unfold num8 be8
  rw [val8]
  have e0 := e 0
  have e1 := e 8
  have e2 := e 16
  have e3 := e 24
  have e4 := e 32
  have e5 := e 40
  have e6 := e 48
  have e7 := e 56
  generalize (oct n 0).toNat = x0 at *
  generalize (oct n 8).toNat = x1 at *
  generalize (oct n 16).toNat = x2 at *
  generalize (oct n 24).toNat = x3 at *
  generalize (oct n 32).toNat = x4 at *
  generalize (oct n 40).toNat = x5 at *
  generalize (oct n 48).toNat = x6 at *
  generalize (oct n 56).toNat = x7 at *
  simp only [Int.reducePow] at e0 e1 e2 e3 e4 e5 e6 e7
  unfold i64
  omega
theorem dig {V A x : Nat} (h : V = A * 256 + x) (hx : x < 256) : V / 256 = A ∧ V % 256 = x := by omega
theorem i64_dig {V : Nat} (h : V < 18446744073709551616) : i64 V / 2 ^ 0 % 256 = ((V % 256 : Nat) : Int) ∧ i64 V / 2 ^ 8 % 256 = ((V / 256 % 256 : Nat) : Int) ∧ i64 V / 2 ^ 16 % 256 = ((V / 65536 % 256 : Nat) : Int) ∧ i64 V / 2 ^ 24 % 256 = ((V / 16777216 % 256 : Nat) : Int) ∧
    i64 V / 2 ^ 32 % 256 = ((V / 4294967296 % 256 : Nat) : Int) ∧ i64 V / 2 ^ 40 % 256 = ((V / 1099511627776 % 256 : Nat) : Int) ∧ i64 V / 2 ^ 48 % 256 = ((V / 281474976710656 % 256 : Nat) : Int) ∧ i64 V / 2 ^ 56 % 256 = ((V / 72057594037927936 % 256 : Nat) : Int) := by
  have e : i64 V = V ∨ i64 V = V - 18446744073709551616 := by unfold i64; omega
  simp only [Int.reducePow]
  rcases e with e | e <;> rw [e] <;> refine ⟨?_, ?_, ?_, ?_, ?_, ?_, ?_, ?_⟩ <;> omega
theorem val_lt : ∀ (l : List UInt8) (a n : Nat), a < 256 ^ n → l.foldl (fun a b => a * 256 + b.toNat) a < 256 ^ (n + l.length)
  | [], _, _, h => h
  | b :: l, a, n, h => by
    have hb := b.toNat_lt
    have := val_lt l (a * 256 + b.toNat) (n + 1) (by rw [Nat.pow_succ]; omega)
    rw [List.foldl_cons, List.length_cons, show n + (l.length + 1) = n + 1 + l.length by omega]
    exact this
theorem be_num {l : List UInt8} (h : l.length = 8) : be8 (num8 l) = l := by
  have hV : val l < 18446744073709551616 := by
    have := val_lt l 0 0 (by decide)
    rw [h] at this
    exact this
  obtain ⟨a, b, c, d, e, f, g, i, rfl⟩ := list8 h
  have e0 := val8 a b c d e f g i
  obtain ⟨V, hVe⟩ : ∃ V, V = val [a, b, c, d, e, f, g, i] := ⟨_, rfl⟩
  have hn : num8 [a, b, c, d, e, f, g, i] = i64 V := by rw [hVe]; rfl
  rw [← hVe] at e0 hV
  rw [hn]
  obtain ⟨d0, d1, d2, d3, d4, d5, d6, d7⟩ := i64_dig hV
  have q0 := dig e0 i.toNat_lt
  have q1 := dig (V := V / 256) q0.1 g.toNat_lt
  have q2 := dig (V := V / 256 / 256) q1.1 f.toNat_lt
  have q3 := dig (V := V / 256 / 256 / 256) q2.1 e.toNat_lt
  have q4 := dig (V := V / 256 / 256 / 256 / 256) q3.1 d.toNat_lt
  have q5 := dig (V := V / 256 / 256 / 256 / 256 / 256) q4.1 c.toNat_lt
  have q6 := dig (V := V / 256 / 256 / 256 / 256 / 256 / 256) q5.1 b.toNat_lt
  have q7 : V / 256 / 256 / 256 / 256 / 256 / 256 / 256 % 256 = a.toNat := by rw [q6.1]; exact Nat.mod_eq_of_lt a.toNat_lt
  have key : ∀ (k : Nat) (x : UInt8) (m : Nat), i64 V / 2 ^ k % 256 = (m : Int) → m = x.toNat → oct (i64 V) k = x := fun k x m hx hm => by
    apply UInt8.toNat.inj
    have := oct_nat (i64 V) k
    rw [hx, hm] at this
    omega
  have dd : ∀ m, V / m / 256 = V / (m * 256) := fun m => Nat.div_div_eq_div_mul _ _ _
  simp only [dd, Nat.reduceMul] at q0 q1 q2 q3 q4 q5 q6 q7
  unfold be8
  simp only [List.cons.injEq, and_true]
  exact ⟨key _ _ _ d7 q7, key _ _ _ d6 q6.2, key _ _ _ d5 q5.2, key _ _ _ d4 q4.2, key _ _ _ d3 q3.2, key _ _ _ d2 q2.2, key _ _ _ d1 q1.2, key _ _ _ d0 q0.2⟩
end Go.Proofs.YtkonjpcgfdcfbaaDoor
namespace Go.Proofs.YtkonjpcgfdcfbaaDoor

/-- What is read by p is, written by e, what it was read from. -/
def RB {α : Type} (p : Pa α) (e : α → List UInt8) : Prop := ∀ l x r, p l = some (x, r) → l = e x ++ r
theorem bind_some {α β : Type} {o : Option α} {f : α → Option β} {y : β} (h : o.bind f = some y) : ∃ x, o = some x ∧ f x = some y := Option.bind_eq_some_iff.1 h
theorem num_some {l : List UInt8} {x : Int} {r : List UInt8} (h : numP l = some (x, r)) : 8 ≤ l.length ∧ x = num8 (l.take 8) ∧ r = l.drop 8 := by
  unfold numP at h
  split at h
  · next h8 =>
    have e := Prod.mk.inj (Option.some.inj h)
    exact ⟨h8, e.1.symm, e.2.symm⟩
  · cases h
theorem num_none {l : List UInt8} (h : ¬ 8 ≤ l.length) : numP l = none := by unfold numP; rw [if_neg h]
theorem num_yes {l : List UInt8} (h : 8 ≤ l.length) : numP l = some (num8 (l.take 8), l.drop 8) := by unfold numP; rw [if_pos h]
theorem num_rb : RB numP be8 := fun l x r h => by
  have e := num_some h
  rw [e.2.1, e.2.2, be_num (by rw [List.length_take]; omega), List.take_append_drop]
theorem num_in {l : List UInt8} {x : Int} {r : List UInt8} (h : numP l = some (x, r)) : In64 x := by
  have e := num_some h
  rw [e.2.1]
  exact i64_in _
theorem num_len {l : List UInt8} {x : Int} {r : List UInt8} (h : numP l = some (x, r)) : l.length = r.length + 8 := by
  rw [num_rb _ _ _ h, List.length_append, be8_len]; omega
theorem bit_rb : RB bitP bit8 := fun l x r h => by
  obtain ⟨y, h1, h2⟩ := bind_some h
  split at h2
  · next hc =>
    have e := Option.some.inj h2
    obtain ⟨rfl, rfl⟩ := Prod.mk.inj e
    rw [num_rb _ _ _ h1]
    rcases hc with hc | hc <;> rw [hc] <;> rfl
  · cases h2
theorem cnt_some {l : List UInt8} {x : Nat} {r : List UInt8} (h : cntP l = some (x, r)) : numP l = some ((x : Int), r) ∧ x ≤ r.length := by
  obtain ⟨y, h1, h2⟩ := bind_some h
  split at h2
  · cases h2
  · next hc =>
    have e := Option.some.inj h2
    obtain ⟨e1, e2⟩ := Prod.mk.inj e
    obtain ⟨y1, y2⟩ := y
    simp only at e1 e2 hc
    subst e2
    have : (x : Int) = y1 := by omega
    rw [this]
    exact ⟨h1, by omega⟩
theorem cnt_rb : RB cntP (fun n => be8 n) := fun _ _ _ h => num_rb _ _ _ (cnt_some h).1
theorem txt_some {l : List UInt8} {x : ByteArray} {r : List UInt8} (h : txtP l = some (x, r)) : ∃ n q, cntP l = some (n, q) ∧ x = ⟨(q.take n).toArray⟩ ∧ r = q.drop n := by
  obtain ⟨y, h1, h2⟩ := bind_some h
  have e := Option.some.inj h2
  obtain ⟨e1, e2⟩ := Prod.mk.inj e
  exact ⟨y.1, y.2, h1, e1.symm, e2.symm⟩
theorem txt_rb : RB txtP txt8 := fun l x r h => by
  obtain ⟨n, q, h1, rfl, rfl⟩ := txt_some h
  have h2 := (cnt_some h1).2
  rw [cnt_rb _ _ _ h1]
  unfold txt8
  have e : (⟨(q.take n).toArray⟩ : ByteArray).size = n := by show (q.take n).toArray.size = n; rw [List.size_toArray, List.length_take]; omega
  rw [e]
  show _ = be8 (n : Int) ++ (q.take n) ++ q.drop n
  rw [List.append_assoc, List.take_append_drop]
theorem many_rb {α : Type} {p : Pa α} {e : α → List UInt8} (h : RB p e) : ∀ n, ∀ l xs r, manyP p n l = some (xs, r) → l = xs.flatMap e ++ r ∧ xs.length = n
  | 0, l, xs, r, hm => by
    have e := Option.some.inj hm
    obtain ⟨rfl, rfl⟩ := Prod.mk.inj e
    exact ⟨rfl, rfl⟩
  | n + 1, l, xs, r, hm => by
    obtain ⟨x, h1, h2⟩ := bind_some hm
    obtain ⟨y, h3, h4⟩ := bind_some h2
    have e := Option.some.inj h4
    obtain ⟨rfl, rfl⟩ := Prod.mk.inj e
    obtain ⟨q1, q2⟩ := many_rb h n _ _ _ h3
    refine ⟨?_, by simp [q2]⟩
    rw [h _ _ _ h1, List.flatMap_cons, List.append_assoc, ← q1]
theorem dot_rb : RB dotP dot8 := fun l x r h => by
  obtain ⟨a, h1, h⟩ := bind_some h
  obtain ⟨b, h2, h⟩ := bind_some h
  obtain ⟨c, h3, h⟩ := bind_some h
  have e := Option.some.inj h
  obtain ⟨rfl, rfl⟩ := Prod.mk.inj e
  rw [num_rb _ _ _ h1, num_rb _ _ _ h2, num_rb _ _ _ h3]
  simp only [dot8, List.append_assoc]
theorem op_rb : RB opP op8 := fun l x r h => by
  obtain ⟨a, h1, h⟩ := bind_some h
  obtain ⟨b, h2, h⟩ := bind_some h
  obtain ⟨c, h3, h⟩ := bind_some h
  obtain ⟨d, h4, h⟩ := bind_some h
  obtain ⟨f, h5, h⟩ := bind_some h
  obtain ⟨g, h6, h⟩ := bind_some h
  obtain ⟨i, h7, h⟩ := bind_some h
  obtain ⟨j, h8, h⟩ := bind_some h
  have e := Option.some.inj h
  obtain ⟨rfl, rfl⟩ := Prod.mk.inj e
  obtain ⟨m1, m2⟩ := many_rb dot_rb _ _ _ _ h8
  rw [num_rb _ _ _ h1, txt_rb _ _ _ h2, num_rb _ _ _ h3, txt_rb _ _ _ h4, num_rb _ _ _ h5, bit_rb _ _ _ h6, cnt_rb _ _ _ h7, m1]
  simp only [op8, List.append_assoc, m2]
theorem com_rb : RB comP com8 := fun l x r h => by
  obtain ⟨a, h1, h⟩ := bind_some h
  obtain ⟨b, h2, h⟩ := bind_some h
  obtain ⟨c, h3, h⟩ := bind_some h
  obtain ⟨d, h4, h⟩ := bind_some h
  obtain ⟨f, h5, h⟩ := bind_some h
  have e := Option.some.inj h
  obtain ⟨rfl, rfl⟩ := Prod.mk.inj e
  obtain ⟨m1, m2⟩ := many_rb num_rb _ _ _ _ h2
  obtain ⟨n1, n2⟩ := many_rb op_rb _ _ _ _ h5
  rw [cnt_rb _ _ _ h1, m1, num_rb _ _ _ h3, cnt_rb _ _ _ h4, n1]
  simp only [com8, List.append_assoc, m2, n2]
theorem msg_rb : RB msgP msg8 := fun l x r h => by
  obtain ⟨a, h1, h⟩ := bind_some h
  obtain ⟨b, h2, h⟩ := bind_some h
  obtain ⟨c, h3, h⟩ := bind_some h
  obtain ⟨d, h4, h⟩ := bind_some h
  obtain ⟨f, h5, h⟩ := bind_some h
  obtain ⟨g, h6, h⟩ := bind_some h
  obtain ⟨i, h7, h⟩ := bind_some h
  have e := Option.some.inj h
  obtain ⟨rfl, rfl⟩ := Prod.mk.inj e
  rw [num_rb _ _ _ h1, num_rb _ _ _ h2, num_rb _ _ _ h3, num_rb _ _ _ h4, num_rb _ _ _ h5, bit_rb _ _ _ h6, com_rb _ _ _ h7]
  simp only [msg8, List.append_assoc]
theorem whole_rb {l : List UInt8} {m : MsgV} (h : wholeP l = some m) : l = msg8 m := by
  obtain ⟨a, h1, h⟩ := bind_some h
  split at h
  · next hn =>
    obtain rfl := Option.some.inj h
    rw [msg_rb _ _ _ h1, hn, List.append_nil]
  · cases h

/-! ### and the other way around -/
def RA {α : Type} (p : Pa α) (e : α → List UInt8) (ok : α → Prop) : Prop := ∀ x r, ok x → p (e x ++ r) = some (x, r)
theorem take8 (n : Int) (r : List UInt8) : (be8 n ++ r).take 8 = be8 n := by rw [List.take_append_of_le_length (by rw [be8_len]; omega)]; exact List.take_of_length_le (by rw [be8_len]; omega)
theorem drop8 (n : Int) (r : List UInt8) : (be8 n ++ r).drop 8 = r := by rw [show (8 : Nat) = (be8 n).length from rfl, List.drop_left]
theorem num_ra : RA numP be8 In64 := fun x r h => by
  rw [num_yes (by rw [List.length_append, be8_len]; omega), take8, drop8, num_be h]
theorem bit_ra : RA bitP bit8 (fun _ => True) := fun x r _ => by
  unfold bitP bit8
  rw [num_ra _ _ (by unfold In64; cases x <;> simp)]
  cases x <;> rfl
def InLen (n : Nat) : Prop := n < 9223372036854775808
theorem cnt_ra {n : Nat} {r : List UInt8} (h : InLen n) (hr : n ≤ r.length) : cntP (be8 n ++ r) = some (n, r) := by
  unfold cntP InLen at *
  rw [num_ra _ _ (by unfold In64; omega), Option.bind_some, if_neg (by simp only; omega)]
  rfl
theorem txt_ra : RA txtP txt8 (fun s => InLen s.size) := fun x r h => by
  unfold txtP txt8
  rw [List.append_assoc, cnt_ra h (by rw [List.length_append, Array.length_toList]; show x.data.size ≤ _; omega), Option.bind_some]
  have e : x.size = x.data.toList.length := by rw [Array.length_toList]; rfl
  rw [e, List.take_left, List.drop_left]
theorem many_ra {α : Type} {p : Pa α} {e : α → List UInt8} {ok : α → Prop} (h : RA p e ok) : ∀ (xs : List α) (r : List UInt8), (∀ x ∈ xs, ok x) → manyP p xs.length (xs.flatMap e ++ r) = some (xs, r)
  | [], _, _ => rfl
  | x :: xs, r, hk => by
    show (p _).bind _ = _
    rw [List.flatMap_cons, List.append_assoc, h x _ (hk x (List.mem_cons_self ..)), Option.bind_some]
    show (manyP p xs.length _).bind _ = _
    rw [many_ra h xs r fun y hy => hk y (List.mem_cons_of_mem _ hy)]
    rfl
structure OkD (d : D3) : Prop where
  p : In64 d.p
  t : In64 d.t
  a : In64 d.a
structure OkO (o : OpV) : Prop where
  at_ : In64 o.at_
  key : InLen o.key.size
  kind : In64 o.kind
  text : InLen o.text.size
  n : In64 o.n
  len : InLen o.dots.length
  dots : ∀ d ∈ o.dots, OkD d
structure OkC (c : ComV) : Prop where
  wl : InLen c.when_.length
  ws : ∀ x ∈ c.when_, In64 x
  place : In64 c.place
  len : InLen c.ops.length
  ops : ∀ o ∈ c.ops, OkO o
structure OkM (m : MsgV) : Prop where
  frm : In64 m.frm
  to_ : In64 m.to_
  shard : In64 m.shard
  seq : In64 m.seq
  time : In64 m.time
  c : OkC m.c
theorem step {α β : Type} {p : Pa α} {l : List UInt8} {x : α} {r : List UInt8} {f : α × List UInt8 → Option β} (h : p l = some (x, r)) : (p l).bind f = f (x, r) := by rw [h]; rfl
theorem dot_ra : RA dotP dot8 OkD := fun x r h => by
  unfold dotP dot8
  rw [List.append_assoc, List.append_assoc]
  refine (step (num_ra _ _ h.p)).trans ?_
  refine (step (num_ra _ _ h.t)).trans ?_
  exact step (num_ra _ _ h.a)
theorem flat_len {α : Type} (e : α → List UInt8) (h : ∀ x, 1 ≤ (e x).length) : ∀ xs : List α, xs.length ≤ (xs.flatMap e).length
  | [] => Nat.le_refl _
  | x :: xs => by
    have := flat_len e h xs
    have := h x
    rw [List.flatMap_cons, List.length_append, List.length_cons]
    omega
theorem dot8_pos (d : D3) : 1 ≤ (dot8 d).length := by unfold dot8; rw [List.length_append, be8_len]; omega
theorem op8_pos (o : OpV) : 1 ≤ (op8 o).length := by unfold op8; rw [List.length_append, be8_len]; omega
theorem op_ra : RA opP op8 OkO := fun x r h => by
  have hc : cntP (be8 x.dots.length ++ (x.dots.flatMap dot8 ++ r)) = some (x.dots.length, x.dots.flatMap dot8 ++ r) := cnt_ra h.len (by
    have := flat_len dot8 dot8_pos x.dots
    rw [List.length_append]; omega)
  unfold opP op8
  repeat rw [List.append_assoc]
  refine (step (num_ra _ _ h.at_)).trans ?_
  refine (step (txt_ra _ _ h.key)).trans ?_
  refine (step (num_ra _ _ h.kind)).trans ?_
  refine (step (txt_ra _ _ h.text)).trans ?_
  refine (step (num_ra _ _ h.n)).trans ?_
  refine (step (bit_ra _ _ trivial)).trans ?_
  refine (step hc).trans ?_
  exact step (many_ra dot_ra _ _ h.dots)
theorem com_ra : RA comP com8 OkC := fun x r h => by
  have hc : cntP (be8 x.when_.length ++ (x.when_.flatMap be8 ++ (be8 x.place ++ (be8 x.ops.length ++ (x.ops.flatMap op8 ++ r))))) = some (x.when_.length, x.when_.flatMap be8 ++ (be8 x.place ++ (be8 x.ops.length ++ (x.ops.flatMap op8 ++ r)))) := cnt_ra h.wl (by
    have := flat_len be8 (fun d => by rw [be8_len]; omega) x.when_
    rw [List.length_append]; omega)
  have hd : cntP (be8 x.ops.length ++ (x.ops.flatMap op8 ++ r)) = some (x.ops.length, x.ops.flatMap op8 ++ r) := cnt_ra h.len (by
    have := flat_len op8 op8_pos x.ops
    rw [List.length_append]; omega)
  unfold comP com8
  repeat rw [List.append_assoc]
  refine (step hc).trans ?_
  refine (step (many_ra num_ra _ _ h.ws)).trans ?_
  refine (step (num_ra _ _ h.place)).trans ?_
  refine (step hd).trans ?_
  exact step (many_ra op_ra _ _ h.ops)
theorem msg_ra : RA msgP msg8 OkM := fun x r h => by
  unfold msgP msg8
  repeat rw [List.append_assoc]
  refine (step (num_ra _ _ h.frm)).trans ?_
  refine (step (num_ra _ _ h.to_)).trans ?_
  refine (step (num_ra _ _ h.shard)).trans ?_
  refine (step (num_ra _ _ h.seq)).trans ?_
  refine (step (num_ra _ _ h.time)).trans ?_
  refine (step (bit_ra _ _ trivial)).trans ?_
  exact step (com_ra _ _ h.c)
theorem whole_ra {m : MsgV} (h : OkM m) : wholeP (msg8 m) = some m := by
  have e := msg_ra m [] h
  rw [List.append_nil] at e
  exact (step e).trans (if_pos rfl)
end Go.Proofs.YtkonjpcgfdcfbaaDoor
namespace Go.Proofs.YtkonjpcgfdcfbaaDoor
open Go.RowKit

/-- The panic that carries the error v. -/
abbrev thrown (v : Value) : Ending := .panicked [{ v := .iface 75 (.agg #[v]), recovered := false }]

/-- Of what lies below B only block b may have turned. -/
structure Aside (b B : Nat) (w w' : World) : Prop where
  os : w'.os = w.os
  tape : w'.tape = w.tape
  output : w'.output = w.output
  size : w.heap.size ≤ w'.heap.size
  block : ∀ k, k < B → k ≠ b → w'.heap[k]? = w.heap[k]?
theorem Aside.refl (b B : Nat) (w : World) : Aside b B w w := ⟨rfl, rfl, rfl, Nat.le_refl _, fun _ _ _ => rfl⟩
theorem Aside.trans {b B B' : Nat} {u v w : World} (h : Aside b B u v) (k : Aside b B' v w) (hB : B ≤ B') : Aside b B u w :=
  ⟨k.os.trans h.os, k.tape.trans h.tape, k.output.trans h.output, Nat.le_trans h.size k.size, fun i hi hb => (k.block i (by omega) hb).trans (h.block i hi hb)⟩
theorem Aside.mono {b B B' : Nat} {w w' : World} (h : Aside b B w w') (hB : B' ≤ B) : Aside b B' w w' := ⟨h.os, h.tape, h.output, h.size, fun k hk hb => h.block k (by omega) hb⟩
theorem Aside.of {b B : Nat} {w w' : World} (h : Below B w w') : Aside b B w w' := ⟨h.os, h.tape, h.output, h.size, fun k hk _ => h.block k hk⟩
theorem Aside.then {b B B' : Nat} {u v w : World} (h : Aside b B u v) (k : Below B' v w) (hB : B ≤ B') : Aside b B u w := h.trans (.of k) hB
theorem Aside.alloc {b B : Nat} {u w : World} (h : Aside b B u w) (hB : B ≤ w.heap.size) (o : Obj) : Aside b B u (w.alloc o) := h.then (below_alloc w o) hB
theorem Aside.set {b B : Nat} {u w : World} (h : Aside b B u w) {p : Addr} (hp : p.block = b ∨ B ≤ p.block) (v : Value) : Aside b B u (w.setCell p v) :=
  ⟨h.os, h.tape, h.output, by simpa [World.setCell] using h.size, fun k hk hb => by rw [Below.heap_setCell _ _ _ _ (by omega)]; exact h.block k hk hb⟩
theorem Aside.cell {b B : Nat} {w w' : World} (h : Aside b B w w') {p : Addr} (hp : p.block < B) (hb : p.block ≠ b) : w'.cell? p = w.cell? p := World.cell?_of_block (w := w) (h.block p.block hp hb)
/-- Nothing below b has turned. -/
theorem Aside.below {b B : Nat} {w w' : World} (h : Aside b B w w') (hb : b ≤ B) : Below b w w' := ⟨h.os, h.tape, h.output, h.size, fun k hk => h.block k (by omega) (by omega)⟩

theorem heap_set {w : World} {b j : Nat} {cs : Array Value} {t : TypeId} (h : w.heap[b]? = some (.cells cs t (0, 0))) (v : Value) : (w.setCell ⟨b, j, none⟩ v).heap[b]? = some (.cells (cs.setIfInBounds j v) t (0, 0)) := by
  simp [World.setCell, Array.getElem?_modify, h]
theorem lt_of_heap {w : World} {b : Nat} {o : Obj} (h : w.heap[b]? = some o) : b < w.heap.size := (Array.getElem?_eq_some_iff.1 h).1
theorem cell_of {w : World} {b j : Nat} {cs : Array Value} {t : TypeId} (h : w.heap[b]? = some (.cells cs t (0, 0))) : w.cell? ⟨b, j, none⟩ = cs[j]? := by simp [World.cell?, h]
theorem free_of {w : World} {b j : Nat} {cs : Array Value} {t : TypeId} (h : w.heap[b]? = some (.cells cs t (0, 0))) : w.frozen? ⟨b, j, none⟩ = false := by simp [World.frozen?, h]
theorem heap_new (w : World) (o : Obj) : (w.alloc o).heap[w.heap.size]? = some o := (MapKept.heap_alloc _ _).1
theorem heap_old {w : World} {b : Nat} {o : Obj} (h : w.heap[b]? = some o) (o' : Obj) : (w.alloc o').heap[b]? = some o := by rw [Below.heap_alloc _ _ _ (lt_of_heap h)]; exact h

/-- The reader's box holds what is left to read; ErrText is where it is. -/
structure Rs (a0 : Addr) (b : Nat) (w : World) (l : List UInt8) : Prop where
  me : w.heap[b]? = some (.cells #[.string ⟨l.toArray⟩] 66 (0, 0))
  err : w.cell? ⟨0, 0, none⟩ = some (.iface 131 (.pointer (some a0)))
  ne : 0 < b
  len : l.length ≤ 6000
theorem Rs.lt {a0 : Addr} {b : Nat} {w : World} {l : List UInt8} (h : Rs a0 b w l) : b < w.heap.size := lt_of_heap h.me
theorem Rs.cell {a0 : Addr} {b : Nat} {w : World} {l : List UInt8} (h : Rs a0 b w l) : w.cell? ⟨b, 0, none⟩ = some (.string ⟨l.toArray⟩) := by rw [cell_of h.me]; rfl
theorem Rs.free {a0 : Addr} {b : Nat} {w : World} {l : List UInt8} (h : Rs a0 b w l) : w.frozen? ⟨b, 0, none⟩ = false := free_of h.me
theorem Rs.moved {a0 : Addr} {b B : Nat} {w w' : World} {l : List UInt8} (h : Rs a0 b w l) (hb : Below B w w') (hB : b < B) : Rs a0 b w' l :=
  ⟨by rw [hb.block _ hB]; exact h.me, by rw [hb.cell (p := ⟨0, 0, none⟩) (by have := h.ne; show 0 < B; omega)]; exact h.err, h.ne, h.len⟩
theorem Rs.alloc {a0 : Addr} {b : Nat} {w : World} {l : List UInt8} (h : Rs a0 b w l) (o : Obj) : Rs a0 b (w.alloc o) l := h.moved (below_alloc w o) h.lt
theorem Rs.set {a0 : Addr} {b : Nat} {w : World} {l : List UInt8} (h : Rs a0 b w l) {p : Addr} (hp : b < p.block) (v : Value) : Rs a0 b (w.setCell p v) l :=
  h.moved (B := p.block) ((Below.refl _ w).setCell (Nat.le_refl _) v) hp
theorem Rs.put {a0 : Addr} {b : Nat} {w : World} {l l' : List UInt8} (h : Rs a0 b w l) (hl : l'.length ≤ 6000) : Rs a0 b (w.setCell ⟨b, 0, none⟩ (.string ⟨l'.toArray⟩)) l' := by
  refine ⟨heap_set h.me _, ?_, h.ne, hl⟩
  rw [World.cell?_of_block (w := w) (Below.heap_setCell _ _ _ _ (Nat.ne_of_lt h.ne))]
  exact h.err

def takeP (n : Nat) : Pa (List UInt8) := fun l => if n ≤ l.length then some (l.take n, l.drop n) else none
/-- How a reading ends: with what it read, or thrown. -/
def RdPost {α : Type} (a0 : Addr) (b : Nat) (w : World) (q : Option (α × List UInt8)) (ret : α → Ending → World → Prop) (e : Ending) (w' : World) : Prop :=
  (∃ x l', q = some (x, l') ∧ ret x e w' ∧ Rs a0 b w' l' ∧ Aside b w.heap.size w w') ∨ (q = none ∧ e = thrown (.iface 131 (.pointer (some a0))) ∧ Aside b w.heap.size w w')

theorem ext_take (l : List UInt8) (n : Nat) : (⟨l.toArray⟩ : ByteArray).extract 0 n = ⟨(l.take n).toArray⟩ := by
  apply ByteArray.ext
  simp [ByteArray.data_extract]
theorem ext_drop (l : List UInt8) (n : Nat) : (⟨l.toArray⟩ : ByteArray).extract n l.length = ⟨(l.drop n).toArray⟩ := by
  apply ByteArray.ext
  simp [ByteArray.data_extract]
  exact List.take_of_length_le (by simp)
theorem ret_str {x y : ByteArray} (h : x = y) : Ending.returned (.string x) = .returned (.string y) := by rw [h]
end Go.Proofs.YtkonjpcgfdcfbaaDoor
