/- vector.checkPair and Within by their contracts; Put's mathematics: what a commit adds to a store; what turns; Put's step: a part goes to its key's row: what append leaves, and the map behind it; seen: the parts on a key that a read sees; For the reference's enter: appending to a row of one's own; where a text's place is; For package versions: slices.Clone, within, checkVector, dotOf, partOf by their contracts. -/
import Derived.Test.YtepnghacjggkkaaGreatDoorGVCom
import Derived.Deep.RegionHeld
import Derived.DeepKeys5
import Derived.Ground.SlsfProg
import Derived.Laws.MakeOwn
import Derived.Lib.SlKept
import Derived.Lib.SliceRun
import Derived.Maps.AppendAt
import Derived.Maps.OwnSet
import Derived.Shelf.GgSortFunc.RowK
import Derived.Shelf.SlGeneric
import Derived.Shelf.SlicesE.DeleteFunc
import Derived.Shelf.SlicesQ.IndexFunc
import Derived.Sort.Grow
import Derived.Test.YtepnghacjggkkaaGreatDoorChecked
import Derived.Test.YtepnghacjggkkaaGreatDoorProg
import Derived.Test.YtepnghacjggkkaaGreatDoorGWState
import Derived.LaidEql
import Derived.Laws.AppendOwnNone
import Derived.Laws.ResultCell
import Derived.RowKitTokens
import Derived.Shelf.Slices.CompactS
import Derived.Shelf.Slices.In.SortNone
import Derived.Shelf.Sort.Plain
import Derived.Stop.Asserts
import Derived.WalkKit
import Derived.Deep.RegionHeldLaw
import Derived.Test.YtepnghacjggkkaaGreatDoorGVSortN
import Derived.Test.YtepnghacjggkkaaGreatDoorGVOnce
import Derived.Test.YtepnghacjggkkaaGreatDoorGHF
namespace Go.Proofs.YtepnghacjggkkaaGreatDoor
open Go.RowKit

theorem IntsAt.slice {w : World} {v : Value} {zs : List Int} (h : IntsAt w v zs) : ∃ ad c, v = .slice ad zs.length c := by
  obtain ⟨ad, c, rfl, _⟩ := h
  exact ⟨ad, c, rfl⟩
set_option maxHeartbeats 1000000 in
theorem checkPair_ok (A : Nat → Addr) (w : World) (hE : E4 A w) (v u : Value) (zs ys : List Int) (h1 : IntsAt w v zs) (h2 : IntsAt w u ys) (h0 : two zs ys = 0) :
    Calls Tryz.prog 48 #[v, u] w fun e w' => e = .returned .nilIface ∧ w' = w := by
  obtain ⟨hz, hy, hn⟩ := two_zero.1 h0
  have k1 := check_ok A w hE v zs h1 hz
  have k2 := check_ok A w hE u ys h2 hy
  obtain ⟨a1, c1, rfl⟩ := h1.slice
  obtain ⟨a2, c2, rfl⟩ := h2.slice
  have K1 := hid k1
  have K2 := hid k2
  have hb : ((zs.length : Int) != (ys.length : Int)) = false := by rw [bne_eq_false_iff_eq]; omega
  clear k1 k2 h0 hz hy hn
  go_enter Tryz.func48, Tryz.ntmps48
  go_wp2_with fail
  refine K1.out.mono ?_
  rintro e w' ⟨rfl, rfl⟩
  go_wp2_with fail
  refine K2.out.mono ?_
  rintro e w' ⟨rfl, rfl⟩
  go_wp2
  go_ret
  exact ⟨rfl, rfl⟩
theorem draws2 {w wr : World} {q n : Nat} (h : wr = w.drewN q) : wr.drewN n = w.drewN (q + n) := by rw [h]; exact World.drewN_drewN _ _ _
theorem le_any (x y : Int) (w : World) : Calls Tryz.prog 71 #[.int .i64 x, .int .i64 y] w fun e w' => e = .returned (.bool (decide (x ≤ y))) ∧ w' = w := by
  go_enter Tryz.func71, Tryz.ntmps71
  go_wp2
  go_ret
  exact ⟨rfl, rfl⟩
set_option maxHeartbeats 1000000 in
theorem within_n (w : World) (b1 o1 c1 b2 o2 c2 n : Nat) (zs ys : List Int) (hz : zs.length = n) (hy : ys.length = n) (hl : n ≤ 1000000)
    (h1 : ∀ t, t < n → w.cell? ⟨b1, o1 + t, none⟩ = some (.int .i64 (zs.getD t 0)))
    (h2 : ∀ t, t < n → w.cell? ⟨b2, o2 + t, none⟩ = some (.int .i64 (ys.getD t 0))) :
    Calls Tryz.prog 49 #[.slice (some ⟨b1, o1, none⟩) n c1, .slice (some ⟨b2, o2, none⟩) n c2] w fun e w' => e = .returned (.bool (leB zs ys)) ∧ ∃ q, w' = w.drewN q := by
  have HZ : Hid (zs.length = n) := hz
  have HY : Hid (ys.length = n) := hy
  have H1 := hid h1
  have H2 := hid h2
  clear hz hy h1 h2
  go_enter Tryz.func49, Tryz.ntmps49
  go_wp2
  go_loopw [10] (fun i wr => ∃ k q : Nat, k ≤ n ∧ i = .int .i64 k ∧ (∀ t, t < k → zs.getD t 0 ≤ ys.getD t 0) ∧ wr = w.drewN q) (fun i _ => n - (intOf i).toNat)
  case atStart => exact ⟨0, 0, Nat.zero_le _, rfl, fun t ht => absurd ht (Nat.not_lt_zero _), rfl⟩
  case round =>
    obtain ⟨k, q, hk, rfl, heq, hq⟩ := hrel
    have HE := hid heq
    have HQ := hid hq
    have e1' : k < n → wr.cell? ⟨b1, o1 + k, none⟩ = some (.int .i64 (zs.getD k 0)) := fun h => by rw [hq]; exact H1.out k h
    have e2' : k < n → wr.cell? ⟨b2, o2 + k, none⟩ = some (.int .i64 (ys.getD k 0)) := fun h => by rw [hq]; exact H2.out k h
    clear heq hq
    by_cases hlt : k < n
    · have e1 := e1' hlt
      have e2 := e2' hlt
      clear e1' e2'
      obtain ⟨x, hx⟩ : ∃ x, x = zs.getD k 0 := ⟨_, rfl⟩
      obtain ⟨y, hy⟩ : ∃ y, y = ys.getD k 0 := ⟨_, rfl⟩
      rw [← hx] at e1
      rw [← hy] at e2
      have HX := hid hx
      have HYY := hid hy
      have hi : (k : Int) < (n : Int) := by omega
      clear hx hy
      by_cases hd : x ≤ y
      · have hb : decide (x ≤ y) = true := decide_eq_true hd
        go_wp2
        go_quiet ((go_at_call 71; exact Calls.quiet_of_same (le_any _ _ _)))
        go_wp2
        go_roundw
        case rel =>
          refine ⟨k + 1, _, by omega, by go_num, fun t ht => ?_, draws2 HQ.out⟩
          rcases Nat.lt_succ_iff_lt_or_eq.1 ht with h | rfl
          · exact HE.out t h
          · rw [← HX.out, ← HYY.out]; exact hd
        case measure => simp [intOf]; omega
      · have hb : decide (x ≤ y) = false := decide_eq_false hd
        go_wp2
        go_quiet ((go_at_call 71; exact Calls.quiet_of_same (le_any _ _ _)))
        go_wp2
        go_ret
        refine ⟨ret_bool ?_, _, draws2 HQ.out⟩
        rw [eq_comm, Bool.eq_false_iff]
        intro h
        have := leB_iff.1 h k (by have := HZ.out; omega)
        rw [← HX.out, ← HYY.out] at this
        omega
    · obtain rfl : k = n := by omega
      go_wp2
      go_ret
      exact ⟨ret_bool (leB_iff.2 (fun i hi => HE.out i (by have := HZ.out; omega))).symm, _, HQ.out⟩
theorem within_any (w : World) (v u : Value) (zs ys : List Int) (h1 : IntsAt w v zs) (h2 : IntsAt w u ys) (hn : zs.length = ys.length) (h0 : 1 ≤ zs.length) (hl : zs.length ≤ 1000000) :
    Calls Tryz.prog 49 #[v, u] w fun e w' => e = .returned (.bool (leB zs ys)) ∧ ∃ q, w' = w.drewN q := by
  obtain ⟨a1, c1, rfl, _, h1⟩ := h1
  obtain ⟨a2, c2, rfl, _, h2⟩ := h2
  rcases h1 with rfl | ⟨b1, o1, rfl, h1⟩
  · simp at h0
  rcases h2 with rfl | ⟨b2, o2, rfl, h2⟩
  · rw [hn] at h0; simp at h0
  rw [← hn] at h2 ⊢
  exact within_n w b1 o1 c1 b2 o2 c2 zs.length zs ys rfl hn.symm hl h1 h2
set_option maxHeartbeats 1000000 in
theorem Within_ok (A : Nat → Addr) (w : World) (hE : E4 A w) (v u : Value) (zs ys : List Int) (h1 : IntsAt w v zs) (h2 : IntsAt w u ys) (h0 : two zs ys = 0) :
    Calls Tryz.prog 30 #[v, u] w fun e w' => e = .returned (.tuple #[.bool (leB zs ys), .nilIface]) ∧ ∃ q, w' = w.drewN q := by
  obtain ⟨hz, hy, hn⟩ := two_zero.1 h0
  have hz' := chk_zero.1 hz
  have K1 := hid (checkPair_ok A w hE v u zs ys h1 h2 h0)
  have K2 := hid (within_any w v u zs ys h1 h2 hn hz'.1 (by omega))
  clear h0 hz hy hn hz'
  go_enter Tryz.func30, Tryz.ntmps30
  go_wp2_with fail
  refine K1.out.mono ?_
  rintro e w' ⟨rfl, rfl⟩
  go_wp2_with fail
  refine K2.out.mono ?_
  rintro e w' ⟨rfl, hq⟩
  go_wp2
  go_ret2
  exact ⟨rfl, hq⟩
end Go.Proofs.YtepnghacjggkkaaGreatDoor
namespace Go.Proofs.YtepnghacjggkkaaGreatDoor
open Go.RowKit Go.Sort Go.Maps
set_option maxRecDepth 100000
set_option linter.unusedSectionVars false
variable [Inhabited ComV] [DecidableEq D3] [Inhabited D3] [Inhabited Dd] [Inhabited Dn] [Inhabited OpV]

def partC (c : ComV) (o : OpV) : ComV := ⟨c.when_, c.place, [o]⟩
def dotC (c : ComV) (o : OpV) : D3 := ⟨c.place, c.when_.getD c.place.toNat 0, o.at_⟩
def putTo (s : St) (c : ComV) (j : Nat) : St := ⟨s.base, s.parts ++ (c.ops.take j).map (partC c), s.dots ++ (c.ops.take j).map (dotC c)⟩
theorem putTo_zero (s : St) (c : ComV) : putTo s c 0 = s := by
  unfold putTo
  simp
theorem putTo_succ (s : St) (c : ComV) {j : Nat} (h : j < c.ops.length) : putTo s c (j + 1) = ⟨s.base, (putTo s c j).parts ++ [partC c c.ops[j]!], (putTo s c j).dots ++ [dotC c c.ops[j]!]⟩ := by
  unfold putTo
  rw [List.take_succ_eq_append_getElem h, getElem!_pos c.ops j h, List.map_append, List.map_append, ← List.append_assoc, ← List.append_assoc]
  rfl
structure Turn (w w' : World) (mb db : Nat) (f f' : ByteArray → Value) : Prop where
  os : w'.os = w.os
  tape : w'.tape = w.tape
  output : w'.output = w.output
  size : w.heap.size ≤ w'.heap.size
  block : ∀ b, b < w.heap.size → b ≠ mb → b ≠ db → (∀ k, (f k).ownBlock ≠ some b) → w'.heap[b]? = w.heap[b]?
  fresh : ∀ k b, (f' k).ownBlock = some b → (∃ k', (f k').ownBlock = some b) ∨ w.heap.size ≤ b
theorem Turn.refl (w : World) (mb db : Nat) (f : ByteArray → Value) : Turn w w mb db f f := ⟨rfl, rfl, rfl, Nat.le_refl _, fun _ _ _ _ _ => rfl, fun k _ h => .inl ⟨k, h⟩⟩
theorem Turn.below {w w1 w2 : World} {mb db : Nat} {f f' : ByteArray → Value} (h : Turn w w1 mb db f f') (hb : Below w1.heap.size w1 w2) : Turn w w2 mb db f f' :=
  ⟨hb.os.trans h.os, hb.tape.trans h.tape, hb.output.trans h.output, Nat.le_trans h.size hb.size, fun b h1 h2 h3 h4 => (hb.block b (Nat.lt_of_lt_of_le h1 h.size)).trans (h.block b h1 h2 h3 h4), h.fresh⟩
theorem Turn.grown {w w1 w2 : World} {mb db : Nat} {f f' : ByteArray → Value} {r : Option Nat} (h : Turn w w1 mb db f f') (hg : w1.grownBy w2 r) (hr : ∀ b, b < w.heap.size → b ≠ mb → b ≠ db → (∀ k, (f k).ownBlock ≠ some b) → some b ≠ r) : Turn w w2 mb db f f' :=
  ⟨hg.os.trans h.os, hg.tape.trans h.tape, hg.output.trans h.output, Nat.le_trans h.size hg.size, fun b h1 h2 h3 h4 => (hg.block b (Nat.lt_of_lt_of_le h1 h.size) (hr b h1 h2 h3 h4)).trans (h.block b h1 h2 h3 h4), h.fresh⟩
theorem Turn.upd {w w1 : World} {mb db : Nat} {f f' : ByteArray → Value} {k0 : ByteArray} {v' : Value} {wx : World} (h : Turn w w1 mb db f f') (hloc : v'.ownBlock = (f' k0).ownBlock ∨ v'.ownBlock = some wx.heap.size) (hx : w.heap.size ≤ wx.heap.size) : Turn w w1 mb db f (updF f' k0 v') :=
  ⟨h.os, h.tape, h.output, h.size, h.block, fun k b hb => by
    unfold updF at hb
    split at hb
    · rcases hloc with e | e
      · rw [e] at hb; exact h.fresh k0 b hb
      · rw [e] at hb
        have := Option.some.inj hb
        exact .inr (by omega)
    · exact h.fresh k b hb⟩
theorem keyOf_str (k : ByteArray) (h : k.size ≤ 1000000) : keyOf Tryz.prog 9 (.string k) = some (klS k) := WideMaps.keyOf_string_mk (P := Tryz.prog) Tryz.underlying9 (by unfold maxLen; omega)
theorem Tryz.zero43 (w : World) : (zeroValue 177).run Tryz.prog w = .ok (.slice none 0 0) w := by kernel_rfl
theorem Tryz.zero111 (w : World) : (zeroValue 172).run Tryz.prog w = .ok (.agg #[]) w := by kernel_rfl
theorem VerAt.look {w : World} {p mb db n : Nat} {f : ByteArray → Value} {s : St} (h : VerAt w p mb db f s n) (d : D3) (hd : wf3 d) : (Instr.lookup 131 (.map (some db)) (.agg #[.int .i64 d.p, .int .i64 d.t, .int .i64 d.a]) true).run Tryz.prog w = .ok (.tuple #[.agg #[], .bool (decide (d ∈ s.dots))]) w := by
  obtain ⟨D, h1, h2⟩ := h.dots
  obtain ⟨v, ps, hrun, hR⟩ := h1.look_ok keyed65 Tryz.underlying131 (Tryz.zero111 w) unitElem_mk (key_dot d hd)
  obtain ⟨rfl, _⟩ := unitElem_inv hR
  rw [hrun, h2 d hd]
theorem VerAt.row {w : World} {p mb db n : Nat} {f : ByteArray → Value} {s : St} (h : VerAt w p mb db f s n) (k : ByteArray) (hk : k.size ≤ 1000000) : (Instr.lookup 130 (.map (some mb)) (.string k) false).run Tryz.prog w = .ok (f k) w := by
  obtain ⟨D, h1, h2⟩ := h.map
  obtain ⟨v, ps, hrun, hR⟩ := h1.lookup keyed9 Tryz.underlying130 (Tryz.zero43 w) (zd := .nil) (zp := []) rfl (keyOf_str k hk)
  obtain ⟨rows, hr, _⟩ := h.rows k
  have : v = f k := sliceElem_inj hR (sliceElem_row hr) (h2 k).2
  rw [hrun, this]
theorem VerAt.boxAt {w : World} {p mb db n : Nat} {f : ByteArray → Value} {s : St} (h : VerAt w p mb db f s n) : ∃ a c, w.cell? ⟨p, 0, none⟩ = some (.slice a s.base.length c) ∧ w.cell? ⟨p, 1, none⟩ = some (.map (some mb)) ∧ w.cell? ⟨p, 2, none⟩ = some (.map (some db)) ∧ IntsT w (.slice a s.base.length c) s.base ∧ w.heap[p]? = some (.cells #[.slice a s.base.length c, .map (some mb), .map (some db)] 133 (0, 0)) := by
  obtain ⟨bv, h1, h2⟩ := h.box
  obtain ⟨a, c, rfl⟩ := h2.at.slice
  refine ⟨a, c, ?_, ?_, ?_, h2, h1⟩ <;> (simp only [World.cell?, h1]; rfl)
theorem name_of_opErr {o : OpV} {n : Int} (h : opErr o n = 0) : o.key.size ≤ 16 := by
  unfold opErr at h
  split at h
  · exact absurd h (by decide)
  · split at h
    · exact absurd h (by decide)
    · rename_i _ hn
      have : nameB o.key = true := by simpa using hn
      unfold nameB at this
      simp only [Bool.and_eq_true, decide_eq_true_eq] at this
      exact this.2.1
theorem ints_cell {w : World} {b o n c : Nat} {zs : List Int} (h : IntsT w (.slice (some ⟨b, o, none⟩) n c) zs) {t : Nat} (ht : t < zs.length) : w.cell? ⟨b, o + t, none⟩ = some (.int .i64 (zs.getD t 0)) := by
  obtain ⟨ad, cap, he, _, hc⟩ := h.at
  injection he with e1 _ _
  rcases hc with hc | ⟨b', o', e2, hc⟩
  · rw [hc] at ht; simp at ht
  · rw [e2] at e1
    injection e1 with e1
    injection e1 with e3 e4 _
    subst e3 e4
    exact hc t ht
theorem cell_ne_map {w : World} {k b n : Nat} {R : Value → Option (DataW Unit × List MemPlace)} {D : DataW Unit} {a : Addr} {v : Value} (h : w.ownsMap Tryz.prog k R b n D) (hc : w.cell? a = some v) : a.block ≠ b := fun e => by
  obtain ⟨es, clock, hb⟩ := map_obj h
  rw [← e] at hb
  simp [World.cell?, hb] at hc
theorem rowAt_cells {k : Nat} {w w' : World} {v : Value} {rows : List (List Value)} (h : RowAt k w v rows) (hk : ∀ a u, w.cell? a = some u → w'.cell? a = some u) : RowAt k w' v rows := by
  obtain ⟨ad, cap, rfl, hn, hc, h⟩ := h
  refine ⟨ad, cap, rfl, hn, hc, ?_⟩
  rcases h with h | ⟨b, off, rfl, h⟩
  · exact .inl h
  · exact .inr ⟨b, off, rfl, fun j r hr => ⟨(h j r hr).1, fun i u hu => hk _ _ ((h j r hr).2 i u hu)⟩⟩
structure PutInv (s : St) (c : ComV) (p mb db n : Nat) (f : ByteArray → Value) (w : World) (j : Nat) (wr : World) (fj : ByteArray → Value) : Prop where
  ver : VerAt wr p mb db fj (putTo s c j) (n + 2 * j)
  turn : Turn w wr mb db f fj
  keep : Keep3 w wr
  off : ∀ k, (fj k).ownBlock ≠ some w.heap.size
  size : w.heap.size < wr.heap.size
theorem VerAt.few {w : World} {p mb db n : Nat} {f : ByteArray → Value} {s : St} (h : VerAt w p mb db f s n) (k : ByteArray) {b : Nat} (hb : (f k).ownBlock = some b) : b < w.heap.size := by
  obtain ⟨rows, h1, _⟩ := h.rows k
  exact (h1.lt b hb).2
theorem rowOf_putTo (s : St) (c : ComV) (j : Nat) (k : ByteArray) : (rowOf (putTo s c j) k).length ≤ (rowOf s k).length + j := by
  unfold rowOf putTo
  rw [List.filter_append, List.length_append]
  have := List.length_filter_le (fun c => decide (keyOfC c = k)) ((c.ops.take j).map (partC c))
  simp at this ⊢
  omega
end Go.Proofs.YtepnghacjggkkaaGreatDoor
namespace Go.Proofs.YtepnghacjggkkaaGreatDoor
open Go.RowKit Go.Sort Go.Maps
set_option maxRecDepth 100000
set_option linter.unusedSectionVars false
variable [Inhabited ComV] [DecidableEq D3] [Inhabited D3] [Inhabited Dd] [Inhabited Dn] [Inhabited OpV]

theorem step_append_at {ops : Array Oper} {o : Oper} {a : Act} {w : World} {K : Act → World → Prop} {Q : Exit → Act → World → Prop} {E : Prop} (hgd : o.guard = none) (s x : Operand) (t : TypeId)
    (ho : o.op = .call { callee := .builtin .append, args := #[s, x], argTypes := #[t, t] })
    (base : Nat) (e : TypeId) (i : TypeInfo) (z : Value) (size bytes : Nat) (ht : Tryz.prog.underlying t = some (.slice e)) (hi : Tryz.prog.info? e = some i) (hz : i.zero = some z)
    (hsize : i.size = size) (hby : i.bytes = bytes) (hzs : z.cells.size = size) (hsz : 0 < size)
    (v : Value) (n : Nat) (xs : List Value) (hs : a.eval s = v) (hown : w.ownsRow base e size v n xs)
    (ad : Addr) (m c : Nat) (news : List Value) (hx : a.eval x = .slice (some ad) m c) (hl : news.length = m * size) (hnews : ∀ j u, news[j]? = some u → w.cell? (ad.add j) = some u) (h1 : ∀ u ∈ news, u.oneCell' = true)
    (h63 : n + m ≤ maxLen) (hbytes : (n + m) * bytes ≤ 140737488355328) (hbase : base ≤ w.heap.size)
    (h : ∀ v' w', w'.ownsRow base e size v' (n + m) (xs ++ news) → w.grownBy w' v.ownBlock → (v'.ownBlock = v.ownBlock ∨ v'.ownBlock = some w.heap.size) → K (a.put o.dst v') w') :
    if Region.wanted o (yielded ops a.tmps) = true then Oper.wp Tryz.prog o a w K Q else E := by
  have hw : Region.wanted o (yielded ops a.tmps) = true := by simp [Region.wanted, hgd]
  rw [if_pos hw]
  obtain ⟨v', w', hr, h2, h3, _, h5⟩ := run_append_own_at (P := Tryz.prog) w base t o.type e i z size bytes ht hi hz hsize hby hzs hsz v n xs hown ad m c news hl hnews h1 h63 hbytes hbase
  unfold Oper.wp execOp
  simp only [ho, resolve, invoke, builtin, Sem.run_bind, Sem.run_pure, Result.andThen_ok, List.map_toArray, List.map_cons, List.map_nil, hs, hx, hr]
  exact h v' w' h2 h3 h5
theorem cells3_new (w : World) (t : TypeId) (cs : List Value) : ∀ j u, cs[j]? = some u → (w.alloc (.cells cs.toArray t)).cell? ((⟨w.heap.size, 0, none⟩ : Addr).add j) = some u := fun j u hj => by
  rw [Addr.add_lit, Nat.zero_add, World.cell?_alloc_at _ _ _ _ rfl]
  simpa using hj
structure Stepped (w8 : World) (p mb db n : Nat) (f : ByteArray → Value) (s : St) (c : ComV) (fv v9 : Value) (w9 w10 : World) : Prop where
  ver : VerAt w10 p mb db (updF f (keyOfC c) v9) ⟨s.base, s.parts ++ [c], s.dots⟩ (n + 1)
  grown : w9.grownBy w10 (some mb)
  keep : Keep3 w8 w10
  old9 : ∀ b, b < w8.heap.size → fv.ownBlock ≠ some b → w9.heap[b]? = w8.heap[b]?
  old10 : ∀ b, b < w8.heap.size → b ≠ mb → fv.ownBlock ≠ some b → w10.heap[b]? = w8.heap[b]?
theorem VerAt.step2 {w8 : World} {p mb db n : Nat} {f : ByteArray → Value} {s : St} (V8 : VerAt w8 p mb db f s n) (hn : n ≤ 4000000) (c : ComV) (r0 r1 r2 : Value) (hc : ComT w8 [r0, r1, r2] c) (hk : (keyOfC c).size ≤ 1000000) (fv : Value) (hfv : f (keyOfC c) = fv) (L : Nat) (hL : (rowOf s (keyOfC c)).length = L) :
    ∃ rs, w8.ownsRow 0 47 3 fv L rs ∧ ∀ v9 w9, w9.ownsRow 0 47 3 v9 (L + 1) (rs ++ [r0, r1, r2]) → w8.grownBy w9 fv.ownBlock → (v9.ownBlock = fv.ownBlock ∨ v9.ownBlock = some w8.heap.size) →
      ∃ w10, (Instr.mapUpdate 130 (.map (some mb)) (.string (keyOfC c)) v9).run Tryz.prog w9 = .ok () w10 ∧ Stepped w8 p mb db n f s c fv v9 w9 w10 := by
  subst hfv
  subst hL
  obtain ⟨rows, hrow, hF⟩ := V8.rows (keyOfC c)
  refine ⟨rows.flatten, hrow, fun v9 w9 hown9 hg9 hloc9 => ?_⟩
  obtain ⟨D8, hD8, hs8⟩ := V8.map
  have hD9 : w9.ownsMap Tryz.prog 9 sliceElem mb n D8 := hD8.kept hg9 (fun e => by
    obtain ⟨cs, hcs⟩ := own_type hrow e.symm
    exact cells_ne_map hD8 hcs rfl)
  obtain ⟨w10, hrun10, hm10, hg10⟩ := hD9.update keyed9 Tryz.underlying130 (show n < maxLen from (by unfold maxLen; omega)) (keyOf_str _ hk) (sliceElem_row hown9)
  have h9 : ∀ b, b < w8.heap.size → (f (keyOfC c)).ownBlock ≠ some b → w9.heap[b]? = w8.heap[b]? := fun b hb hv => hg9.block b hb (fun e => hv e.symm)
  exact ⟨w10, hrun10, ⟨V8.addPart hD8 hs8 hrow hF hc hg9 hown9 hloc9 hg10 hm10, hg10, (Keep3.grown hrow hg9).trans (keep3_map hD9 hg10), h9, fun b hb hm hv => (hg10.block b (Nat.lt_of_lt_of_le hb hg9.size) (fun e => hm (Option.some.inj e))).trans (h9 b hb hv)⟩⟩
end Go.Proofs.YtepnghacjggkkaaGreatDoor
namespace Go.Proofs.YtepnghacjggkkaaGreatDoor
open Go.RowKit Go.Sort Go.Maps
set_option maxRecDepth 100000
set_option linter.unusedSectionVars false
variable [Inhabited ComV] [DecidableEq D3] [Inhabited D3] [Inhabited Dd] [Inhabited Dn] [Inhabited OpV]

def seenL (s : St) (key : ByteArray) (at_ : List Int) : List ComV := (rowOf s key).filter fun c => leB c.when_ at_
structure StOk (s : St) (nb : Nat) : Prop where
  base : chk s.base = 0
  len : s.base.length = nb
  ok : ∀ c ∈ s.parts, ComOk c
  when_ : ∀ c ∈ s.parts, c.when_.length = nb
  small : ∀ c ∈ s.parts, SmallC c
theorem mem_rowOf {s : St} {k : ByteArray} {c : ComV} (h : c ∈ rowOf s k) : c ∈ s.parts := (List.mem_filter.1 h).1
theorem flat3_at : ∀ (rows : List (List Value)) (k : Nat) (a b c : Value), (∀ r ∈ rows, r.length = 3) → rows[k]? = some [a, b, c] → rows.flatten[k * 3]? = some a ∧ rows.flatten[k * 3 + 1]? = some b ∧ rows.flatten[k * 3 + 2]? = some c
  | [], _, _, _, _, _, h => by simp at h
  | r :: rs, 0, a, b, c, _, h => by
    simp at h
    subst h
    simp
  | r :: rs, k + 1, a, b, c, hl, h => by
    have hr : r.length = 3 := hl r (by simp)
    have := flat3_at rs k a b c (fun x hx => hl x (by simp [hx])) (by simpa using h)
    rw [List.flatten_cons, List.getElem?_append_right (by omega), List.getElem?_append_right (by omega), List.getElem?_append_right (by omega), hr, show (k + 1) * 3 - 3 = k * 3 by omega, show (k + 1) * 3 + 1 - 3 = k * 3 + 1 by omega, show (k + 1) * 3 + 2 - 3 = k * 3 + 2 by omega]
    exact this
theorem f2_len3 {w : World} : ∀ {rows : List (List Value)} {l : List ComV}, F2 (ComT w) rows l → ∀ r ∈ rows, r.length = 3
  | [], _, _, r, hr => by cases hr
  | x :: xs, [], h, _, _ => by cases h
  | x :: xs, c :: cs, h, r, hr => by
    obtain ⟨h1, h2⟩ := h
    rcases List.mem_cons.1 hr with rfl | hr
    · obtain ⟨wv, ov, e, _⟩ := h1
      rw [e]; rfl
    · exact f2_len3 h2 r hr
theorem f2_at {w : World} : ∀ {rows : List (List Value)} {l : List ComV} {k : Nat}, F2 (ComT w) rows l → k < l.length → ∃ r, rows[k]? = some r ∧ ComT w r l[k]!
  | [], [], _, _, hk => by simp at hk
  | [], _ :: _, _, h, _ => by cases h
  | _ :: _, [], _, h, _ => by cases h
  | x :: xs, c :: cs, 0, h, _ => ⟨x, rfl, h.1⟩
  | x :: xs, c :: cs, k + 1, h, hk => by
    obtain ⟨r, h1, h2⟩ := f2_at (k := k) h.2 (by simpa using hk)
    exact ⟨r, by simpa using h1, by simpa using h2⟩
theorem part_at {w : World} {base : Nat} {v : Value} {rows : List (List Value)} {l : List ComV} (h : w.ownsRow base 47 3 v l.length rows.flatten) (hF : F2 (ComT w) rows l) {k : Nat} (hk : k < l.length) :
    ∃ b cap wv ov, v = .slice (some ⟨b, 0, none⟩) l.length cap ∧ ComT w [wv, .int .i64 l[k]!.place, ov] l[k]! ∧ w.cell? ⟨b, k * 3, none⟩ = some wv ∧ w.cell? ⟨b, k * 3 + 1, none⟩ = some (.int .i64 l[k]!.place) ∧ w.cell? ⟨b, k * 3 + 2, none⟩ = some ov := by
  obtain ⟨r, h1, h2⟩ := f2_at hF hk
  have h3 := h2
  obtain ⟨wv, ov, e, _, _⟩ := h3
  subst e
  obtain ⟨f0, f1, f2⟩ := flat3_at rows k _ _ _ (f2_len3 hF) h1
  rcases h.2 with ⟨_, h0⟩ | ⟨b, cap, cur, hv, _, hh, hc, _, hs, ht⟩
  · omega
  · have cell : ∀ i u, i < l.length * 3 → rows.flatten[i]? = some u → w.cell? ⟨b, i, none⟩ = some u := fun i u hi hu => by
      rw [← ht, List.getElem?_take, if_pos hi, Array.getElem?_toList] at hu
      simp only [World.cell?, hh]
      exact hu
    exact ⟨b, cap, wv, ov, hv, h2, cell _ _ (by omega) f0, cell _ _ (by omega) f1, cell _ _ (by omega) f2⟩
theorem filter_take_succ {l : List ComV} {k : Nat} (hk : k < l.length) (p : ComV → Bool) : (l.take (k + 1)).filter p = (l.take k).filter p ++ (if p l[k]! then [l[k]!] else []) := by
  rw [List.take_succ_eq_append_getElem hk, List.filter_append, getElem!_pos l k hk]
  congr 1
  by_cases h : p l[k]
  · simp [h]
  · simp [h]
end Go.Proofs.YtepnghacjggkkaaGreatDoor
namespace Go.Proofs.YtepnghacjggkkaaGreatDoor
open Go.RowKit Go.Sort Go.Maps
set_option maxRecDepth 100000
set_option linter.unusedSectionVars false
variable [Inhabited ComV] [DecidableEq D3] [Inhabited D3] [Inhabited Dd] [Inhabited Dn] [Inhabited OpV]

theorem wpList_append_own_src {w : World} {ops : Array Oper} {rest : List Oper} {o : Oper} {a : Act} {Q : Exit → Act → World → Prop} (hgd : o.guard = none) (s x : Operand) (t : TypeId)
    (ho : o.op = .call { callee := .builtin .append, args := #[s, x], argTypes := #[t, t] })
    (base : Nat) (e : TypeId) (i : TypeInfo) (z : Value) (size bytes : Nat) (ht : Tryz.prog.underlying t = some (.slice e)) (hi : Tryz.prog.info? e = some i) (hz : i.zero = some z)
    (hsize : i.size = size) (hby : i.bytes = bytes) (hzs : z.cells.size = size) (hsz : 0 < size)
    (v0 : Value) (n : Nat) (xs : List Value) (hs : a.eval s = v0) (hown : w.ownsRow base e size v0 n xs) (v : Value) (m : Nat) (news : List Value) (hx : a.eval x = v) (hv : SrcAt w v m size news) (h1 : ∀ u ∈ news, u.oneCell' = true)
    (h63 : n + m ≤ maxLen) (hbytes : (n + m) * bytes ≤ 140737488355328) (hbase : base ≤ w.heap.size)
    (h : ∀ v' w', w'.ownsRow base e size v' (n + m) (xs ++ news) → w.grownBy w' v0.ownBlock → wpList Tryz.prog ops Q rest (a.put o.dst v') w') : wpList Tryz.prog ops Q (o :: rest) a w := by
  rcases hv with ⟨rfl, rfl, rfl⟩ | ⟨ad, c, rfl, hl, hn⟩
  · exact wpList_append_own_none hgd s x t ho base e i size ht hi v0 n xs hs hown hx (h _ _ (by simpa using hown) ⟨rfl, rfl, rfl, Nat.le_refl _, fun _ _ _ => rfl⟩)
  · exact wpList_append_own w hgd s x t ho base e i z size bytes ht hi hz hsize hby hzs hsz v0 n xs hs hown ad m c news hx hl hn h1 h63 hbytes hbase fun v' w' h2 h3 _ => h v' w' h2 h3
end Go.Proofs.YtepnghacjggkkaaGreatDoor
namespace Go.Proofs.YtepnghacjggkkaaGreatDoor
open Go.RowKit Go.Sort Go.Maps
set_option maxRecDepth 100000
set_option linter.unusedSectionVars false
variable [Inhabited ComV] [DecidableEq D3] [Inhabited D3] [Inhabited Dd] [Inhabited Dn] [Inhabited OpV]

set_option maxHeartbeats 2000000 in
theorem clone_ints (w : World) (v : Value) (zs : List Int) (h : IntsAt w v zs) (hl : zs.length ≤ 1000000) :
    Calls Tryz.prog 31 #[v] w fun e w' => ∃ a c, e = .returned (.slice a zs.length c) ∧ IntsT w' (.slice a zs.length c) zs ∧ Below w.heap.size w w' := by
  have q22 : ∀ (w : World) (a : Option Addr) (n c n' c' : Nat), (binOp .eql 22 (.slice a n c) (.slice none n' c')).run Tryz.prog w = .ok (.bool a.isNone) w := fun w a n c n' c' => Lib.run_eql_slice_nil w _ _ a n c n' c' Tryz.underlying22
  obtain ⟨i0, hi, hz0, hz1, hz2⟩ := info_parts Tryz.info3o
  have hsrc := src_ints h
  obtain ⟨ad, c, rfl, h0, hh⟩ := h
  obtain ⟨n, hn⟩ : ∃ n, n = zs.length := ⟨_, rfl⟩
  rw [← hn] at hsrc hl ⊢
  have HN := hid hn
  have HS := hid hsrc
  have HH := hid hh
  clear hn hsrc hh
  cases ad with
  | none =>
    obtain rfl := h0 rfl
    have hz : zs = [] := by
      rcases HH.out with h | ⟨b, o, he, _⟩
      · exact h
      · cases he
    subst hz
    obtain rfl : n = 0 := HN.out
    go_enter Tryz.func31, Tryz.ntmps31
    go_wp2
    go_ret
    exact ⟨none, 0, rfl, ⟨none, 0, rfl, fun _ => rfl, Nat.le_refl _, .inl rfl⟩, Below.refl _ _⟩
  | some ad =>
    go_enter Tryz.func31, Tryz.ntmps31
    go_wp2_with (at_builtin; refine wpList_append_own_src rfl _ _ 22 rfl w.heap.size 3 i0 _ 1 8 Tryz.underlying22 hi hz0 hz1 hz2 rfl (by decide) _ _ _ rfl (World.ownsRow_made w #[] 0 (Nat.le_refl _) (Nat.zero_le _) rfl) _ n (zs.map (Value.int .i64)) rfl ?hs1 (ints_one _) ?hm2 ?hm3 ?hm4 ?_; (case hs1 => exact HS.out.moved (fun a u h => cell_alloc h _)); (case hm2 => unfold maxLen; omega); (case hm3 => omega); (case hm4 => simp); intro v3 w3 hown3 hgrow3)
    rw [Nat.zero_add, List.nil_append] at hown3
    obtain ⟨a3, c3, rfl⟩ := row_shape hown3
    have HT : Hid (IntsT w3 (.slice a3 n c3) zs) := by
      have h := hown3
      rw [HN.out] at h ⊢
      exact intsT_of_owns h
    have HB : Hid (Below w.heap.size w w3) := ((Below.refl _ w).alloc (Nat.le_refl _) _).grown hgrow3 (by simp) (fun k hk => ((World.ownsRow_made (e := 3) (size := 1) (base := w.heap.size) w #[] 0 (Nat.le_refl _) (Nat.zero_le _) rfl).lt k hk).1)
    clear hown3 hgrow3
    go_wp2
    go_ret
    exact ⟨a3, c3, rfl, HT.out, HB.out⟩
set_option maxHeartbeats 2000000 in
theorem clone_dots (w : World) (v : Value) (ds : List D3) (h : DotsAt w v ds) (hl : ds.length ≤ 1000000) :
    Calls Tryz.prog 116 #[v] w fun e w' => ∃ a c, e = .returned (.slice a ds.length c) ∧ RowT 175 3 w' (.slice a ds.length c) (ds.map D3.cells) ∧ Below w.heap.size w w' := by
  have q22 : ∀ (w : World) (a : Option Addr) (n c n' c' : Nat), (binOp .eql 95 (.slice a n c) (.slice none n' c')).run Tryz.prog w = .ok (.bool a.isNone) w := fun w a n c n' c' => Lib.run_eql_slice_nil w _ _ a n c n' c' Tryz.underlying95
  obtain ⟨i0, hi, hz0, hz1, hz2⟩ := info_parts Tryz.info175
  have hsrc := src_dots h
  obtain ⟨ad, c, hv, h0, _, hh⟩ := h
  rw [List.length_map] at hv
  subst hv
  obtain ⟨n, hn⟩ : ∃ n, n = ds.length := ⟨_, rfl⟩
  rw [← hn] at hsrc hl ⊢
  have HN := hid hn
  have HS := hid hsrc
  have HH := hid hh
  clear hn hsrc hh
  cases ad with
  | none =>
    obtain rfl := h0 rfl
    have hz : ds = [] := by
      rcases HH.out with h | ⟨b, o, he, _⟩
      · simpa using h
      · cases he
    subst hz
    obtain rfl : n = 0 := HN.out
    go_enter Tryz.func116, Tryz.ntmps116
    go_wp2
    go_ret
    exact ⟨none, 0, rfl, ⟨none, 0, rfl, fun _ => rfl, Nat.le_refl _, .inl rfl⟩, Below.refl _ _⟩
  | some ad =>
    go_enter Tryz.func116, Tryz.ntmps116
    go_wp2_with (at_builtin; refine wpList_append_own_src rfl _ _ 95 rfl w.heap.size 175 i0 _ 3 24 Tryz.underlying95 hi hz0 hz1 hz2 rfl (by decide) _ _ _ rfl (World.ownsRow_made w #[] 0 (Nat.le_refl _) (Nat.zero_le _) rfl) _ n (ds.flatMap D3.cells) rfl ?hs1 (dots_one _) ?hm2 ?hm3 ?hm4 ?_; (case hs1 => exact HS.out.moved (fun a u h => cell_alloc h _)); (case hm2 => unfold maxLen; omega); (case hm3 => omega); (case hm4 => simp); intro v3 w3 hown3 hgrow3)
    rw [Nat.zero_add, List.nil_append] at hown3
    obtain ⟨a3, c3, rfl⟩ := row_shape hown3
    have HT : Hid (RowT 175 3 w3 (.slice a3 n c3) (ds.map D3.cells)) := by
      have h := hown3
      rw [HN.out] at h ⊢
      exact dotsT_of_owns h
    have HB : Hid (Below w.heap.size w w3) := ((Below.refl _ w).alloc (Nat.le_refl _) _).grown hgrow3 (by simp) (fun k hk => ((World.ownsRow_made (e := 175) (size := 3) (base := w.heap.size) w #[] 0 (Nat.le_refl _) (Nat.zero_le _) rfl).lt k hk).1)
    clear hown3 hgrow3
    go_wp2
    go_ret
    exact ⟨a3, c3, rfl, HT.out, HB.out⟩
theorem within_ok (A : Nat → Addr) (w : World) (hE : E4 A w) (v u : Value) (zs ys : List Int) (h1 : IntsAt w v zs) (h2 : IntsAt w u ys) (h0 : two zs ys = 0) :
    Calls Tryz.prog 94 #[v, u] w fun e w' => e = .returned (.bool (leB zs ys)) ∧ ∃ q, w' = w.drewN q := by
  have K := Within_ok A w hE v u zs ys h1 h2 h0
  obtain ⟨a1, c1, rfl⟩ := h1.slice
  obtain ⟨a2, c2, rfl⟩ := h2.slice
  obtain ⟨r, hr⟩ : ∃ r, r = leB zs ys := ⟨_, rfl⟩
  rw [← hr] at K ⊢
  clear hr
  go_enter Tryz.func94, Tryz.ntmps94
  go_wp2_with fail
  refine K.mono ?_
  rintro e w' ⟨rfl, q, rfl⟩
  go_wp2
  go_ret
  exact ⟨rfl, q, rfl⟩
theorem checkVector_ok (A : Nat → Addr) (w : World) (hE : E4 A w) (p : Nat) (bv : Value) (base : List Int) (m1 m2 : Value) (hp : w.heap[p]? = some (.cells #[bv, m1, m2] 133 (0, 0))) (hb : IntsAt w bv base) (v : Value) (zs : List Int) (h : IntsAt w v zs) (h0 : chk zs = 0) (hn : zs.length = base.length) :
    Calls Tryz.prog 93 #[.pointer (some ⟨p, 0, none⟩), v] w fun e w' => e = .returned .nilIface ∧ w' = w := by
  have K := check_ok A w hE v zs h h0
  obtain ⟨a1, c1, rfl⟩ := h.slice
  obtain ⟨a2, c2, rfl⟩ := hb.slice
  have c0 : w.cell? ⟨p, 0, none⟩ = some (.slice a2 base.length c2) := by simp only [World.cell?, hp]; rfl
  have hne : ((zs.length : Int) != (base.length : Int)) = false := by rw [bne_eq_false_iff_eq]; omega
  clear hn h h0 hb hp
  go_enter Tryz.func93, Tryz.ntmps93
  go_wp2_with fail
  refine K.mono ?_
  rintro e w' ⟨rfl, rfl⟩
  go_wp2
  go_ret
  exact ⟨rfl, rfl⟩
end Go.Proofs.YtepnghacjggkkaaGreatDoor
