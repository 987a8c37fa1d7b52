/- seen: the parts on a key that a read sees; Read: a key, at a vector that may be read; Worlds, boxes and rows in memory; A store stands while a block of another kind turns; newKnown; Ways, senders and receivers made; a beat copied; The sender's next: a beat; The sender's Beat. -/
import Derived.Test.YtefpnojanldkeaaDoorJWPutN
import Derived.Test.YtefpnojanldkeaaDoorJVOf
import Derived.Deep.RegionHeldLaw
import Derived.Laws.ResultCell
import Derived.Test.YtefpnojanldkeaaDoorProg
import Derived.Test.YtefpnojanldkeaaDoorJVOwnM
import Derived.Test.YtefpnojanldkeaaDoorJVRefN
import Derived.Test.YtefpnojanldkeaaDoorJWPart2
import Derived.Test.YtefpnojanldkeaaDoorJVOp2
import Derived.Test.YtefpnojanldkeaaDoorJVCmp
import Derived.WalkKit
import Derived.Deep.Draws
import Derived.Handy
import Derived.Deep.QuietTactic
import Derived.BigQuiet
import Derived.Laws.AppendOwnNone
import Derived.WalkLawsBesides
import Derived.WalkSpells
import Derived.Laws.IdiomCopy
import Derived.Shelf.SlicesQ.Load
import Derived.Test.YtefpnojanldkeaaDoorJWNew
import Derived.Test.YtefpnojanldkeaaDoorJWPut
import Derived.Test.YtefpnojanldkeaaDoorJVCom
import Derived.Lib.SliceRun
import Derived.Deep.Cut
import Derived.Deep.RegionLaw
import Derived.Maps.AppendAt
namespace Go.Proofs.YtefpnojanldkeaaDoor
open Go.RowKit Go.Sort Go.Maps
set_option maxRecDepth 100000
set_option linter.unusedSectionVars false
variable [Inhabited ComV] [DecidableEq D3] [Inhabited D3] [Inhabited Dn] [Inhabited OpV]

theorem flat3_at : ∀ (rows : List (List Value)) (k : Nat) (a b c : Value), (∀ r ∈ rows, r.length = 3) → rows[k]? = some [a, b, c] → rows.flatten[k * 3]? = some a ∧ rows.flatten[k * 3 + 1]? = some b ∧ rows.flatten[k * 3 + 2]? = some c
  | [], _, _, _, _, _, h => by simp at h
  | r :: rs, 0, a, b, c, _, h => by
    simp at h
    subst h
    simp
  | r :: rs, k + 1, a, b, c, hl, h => by
    have hr : r.length = 3 := hl r (by simp)
    have := flat3_at rs k a b c (fun x hx => hl x (by simp [hx])) (by simpa using h)
    rw [List.flatten_cons, List.getElem?_append_right (by omega), List.getElem?_append_right (by omega), List.getElem?_append_right (by omega), hr, show (k + 1) * 3 - 3 = k * 3 by omega, show (k + 1) * 3 + 1 - 3 = k * 3 + 1 by omega, show (k + 1) * 3 + 2 - 3 = k * 3 + 2 by omega]
    exact this
end Go.Proofs.YtefpnojanldkeaaDoor
namespace Go.Proofs.YtefpnojanldkeaaDoor
open Go.RowKit Go.Sort Go.Maps
set_option maxRecDepth 100000
set_option linter.unusedSectionVars false
variable [Inhabited ComV] [DecidableEq D3] [Inhabited D3] [Inhabited Dn] [Inhabited OpV]

theorem ret_cell_tmp {f : Func} {s t k s2 : Nat} (hf : f.results = #[ResultVar.cell s t, ResultVar.tmp s2]) (hag : ∀ w, (isAgg t).run Tryd.prog w = .ok true w) (hsz : ∀ w, (sizeOf t).run Tryd.prog w = .ok k w) (w : World) (tmps : Array Value) (g : Nat) (vs : List Value) (v2 : Value) (hk : vs.length = k) (h4 : tmps[s]?.getD undef = .pointer (some ⟨g, 0, none⟩)) (h5 : tmps[s2]?.getD undef = v2) (hc : ∀ j (hj : j < vs.length), w.cell? ⟨g, j, none⟩ = some vs[j]) :
    (results f tmps).run Tryd.prog w = .ok (.tuple #[.agg vs.toArray, v2]) w := by
  have hl := run_loadCellsFrom_list Tryd.prog w ⟨g, 0, none⟩ vs k hk (fun j v hj => by
    obtain ⟨h1, h2⟩ := List.getElem?_eq_some_iff.1 hj
    rw [Addr.add_lit, Nat.zero_add, hc j h1, h2])
  simp [results, hf, h4, h5, asAddr, loadVar, loadCells, hag, hsz, hl, Result.andThen]
end Go.Proofs.YtefpnojanldkeaaDoor
namespace Go.Proofs.YtefpnojanldkeaaDoor
open Go.RowKit
set_option maxRecDepth 100000
set_option linter.unusedSectionVars false
variable [Inhabited ComV] [DecidableEq D3] [Inhabited D3] [Inhabited Dn] [Inhabited OpV]

theorem cell_of {w : World} {b j : Nat} {cs : Array Value} {t : TypeId} (h : w.heap[b]? = some (.cells cs t (0, 0))) : w.cell? ⟨b, j, none⟩ = cs[j]? := by simp [World.cell?, h]
theorem free_of {w : World} {b j : Nat} {cs : Array Value} {t : TypeId} (h : w.heap[b]? = some (.cells cs t (0, 0))) : w.frozen? ⟨b, j, none⟩ = false := by simp [World.frozen?, h]
theorem heap_new (w : World) (o : Obj) : (w.alloc o).heap[w.heap.size]? = some o := (MapKept.heap_alloc _ _).1
theorem heap_old {w : World} {b : Nat} {o : Obj} (h : w.heap[b]? = some o) (o' : Obj) : (w.alloc o').heap[b]? = some o := by rw [Below.heap_alloc _ _ _ (lt_of_heap h)]; exact h
theorem heap_new2 (w : World) (o1 o2 : Obj) : ((w.alloc o1).alloc o2).heap[w.heap.size + 1]? = some o2 := by
  have := heap_new (w.alloc o1) o2
  rwa [World.size_alloc] at this
theorem setCells_other (b : Nat) : ∀ (vs : List Value) (o : Nat) (w : World) (k : Nat), k ≠ b → (w.setCells b o vs).heap[k]? = w.heap[k]?
  | [], _, _, _, _ => rfl
  | v :: r, o, w, k, h => (setCells_other b r (o + 1) (w.setCell ⟨b, o, none⟩ v) k h).trans (Below.heap_setCell _ _ _ _ h)
theorem rowk {w : World} {g : Nat} {cs : Array Value} {t : TypeId} (h : w.heap[g]? = some (.cells cs t (0, 0))) {n : Nat} (hn : cs.size = n) : (∀ j, j < n → (w.cell? ⟨g, 0 + j, none⟩).isSome = true) ∧ ∀ j, j < n → w.frozen? ⟨g, 0 + j, none⟩ = false := by
  subst hn
  refine ⟨fun j hj => ?_, fun j _ => free_of h⟩
  rw [cell_of h, Nat.zero_add, Array.getElem?_eq_getElem hj]
  rfl
theorem setk {w : World} {g : Nat} {cs : Array Value} {t : TypeId} (h : w.heap[g]? = some (.cells cs t (0, 0))) (vs : List Value) (hl : vs.length = cs.size) : ∀ j (hj : j < vs.length), (w.setCells g 0 vs).cell? ⟨g, j, none⟩ = some vs[j] := fun j hj => by
  have := World.cell?_setCells_in g vs 0 w (fun q hq => (rowk h rfl).1 q (by omega)) j hj
  rwa [Nat.zero_add] at this
theorem cells_heap {w : World} {g : Nat} {t : TypeId} (vs : List Value) (h : w.heap[g]? = some (.cells vs.toArray t (0, 0))) : ∀ j (hj : j < vs.length), w.cell? ⟨g, j, none⟩ = some vs[j] := fun j hj => by
  rw [cell_of h]
  simp
/-- A whole row of cells is stored. -/
theorem store_row {wr : World} {g : Nat} {cs : Array Value} {t : TypeId} (h : wr.heap[g]? = some (.cells cs t (0, 0))) (vs : List Value) (hl : vs.length = cs.size) (hone : vs.all (fun v => v.oneCell') = true) (ty n : Nat) (hn : vs.length = n) (hs : ∀ w, (sizeOf ty).run Tryd.prog w = .ok n w) :
    ∃ wz, (∀ (Q : Exit → Act → World → Prop) (ops : Array Oper) (o : Oper) (rest : List Oper) (a : Act) (x y : Operand), o.guard = none → o.op = .store ty x y → a.eval x = .pointer (some ⟨g, 0, none⟩) → a.eval y = .agg vs.toArray → wpList Tryd.prog ops Q rest (a.put o.dst undef) wz → wpList Tryd.prog ops Q (o :: rest) a wr) ∧
      Hid ((∀ j (hj : j < vs.length), wz.cell? ⟨g, j, none⟩ = some vs[j]) ∧ wz = wr.setCells g 0 vs) := by
  refine ⟨_, fun Q ops o rest a x y h1 h2 h3 h4 h5 => ?_, setk h vs hl, rfl⟩
  exact wpList_store_k _ h1 x y ty h2 g 0 vs h3 h4 n hn hs hone _ rfl (rowk h (by omega)).1 (rowk h (by omega)).2 h5
theorem owns_at {w w' : World} {base e size n : Nat} {v : Value} {xs : List Value} (h : w.ownsRow base e size v n xs) (hk : ∀ g, base ≤ g → g < w.heap.size → w'.heap[g]? = w.heap[g]?) : w'.ownsRow base e size v n xs := by
  obtain ⟨h1, h2⟩ := h
  refine ⟨h1, ?_⟩
  rcases h2 with h2 | ⟨g, cap, cur, hv, hg, hh, r⟩
  · exact .inl h2
  · exact .inr ⟨g, cap, cur, hv, hg, by rw [hk g hg (lt_of_heap hh)]; exact hh, r⟩
theorem owns_baseS {w : World} {base base' e size n : Nat} {v : Value} {xs : List Value} (h : w.ownsRow base e size v n xs) (hb : base' ≤ base) : w.ownsRow base' e size v n xs := by
  obtain ⟨h1, h2⟩ := h
  refine ⟨h1, ?_⟩
  rcases h2 with h2 | ⟨g, cap, cur, hv, hg, r⟩
  · exact .inl h2
  · exact .inr ⟨g, cap, cur, hv, by omega, r⟩
/-- A row of type t of one's own grows: nothing else turns. -/
theorem grown_ne {w1 w2 : World} {o' : Obj} {base e size n : Nat} {v : Value} {xs : List Value} (hown : w1.ownsRow base e size v n xs) (hg : (w1.alloc o').grownBy w2 v.ownBlock) : ∀ (b : Nat) (cs : Array Value) (t : TypeId), t ≠ e → w1.heap[b]? = some (.cells cs t (0, 0)) → w2.heap[b]? = w1.heap[b]? := fun b cs t ht hb => by
  rw [hg.block b (by have := lt_of_heap hb; simp; omega) fun he => by
    obtain ⟨cs', h'⟩ := own_type hown he.symm
    rw [hb] at h'
    injection h' with h'
    injection h' with _ h'
    exact ht h', Below.heap_alloc _ _ _ (lt_of_heap hb)]
theorem drew_heap (w : World) : w.drew.heap = w.heap := rfl
theorem size_set (w : World) (p : Addr) (v : Value) : (w.setCell p v).heap.size = w.heap.size := by simp
theorem below2S (w : World) (o1 o2 : Obj) : Below w.heap.size w ((w.alloc o1).alloc o2) := (below_alloc w o1).alloc (by simp) _
end Go.Proofs.YtefpnojanldkeaaDoor
namespace Go.Proofs.YtefpnojanldkeaaDoor
open Go.RowKit Go.Maps
set_option maxRecDepth 100000
set_option linter.unusedSectionVars false
variable [Inhabited ComV] [DecidableEq D3] [Inhabited D3] [Inhabited Dn] [Inhabited OpV]

theorem own_keep {w w' : World} {base e size n : Nat} {v : Value} {xs : List Value} (h : w.ownsRow base e size v n xs) (hk : ∀ b, v.ownBlock = some b → w'.heap[b]? = w.heap[b]?) : w'.ownsRow base e size v n xs := by
  obtain ⟨h1, h2⟩ := h
  refine ⟨h1, ?_⟩
  rcases h2 with h2 | ⟨b, cap, cur, hv, hg, hh, r⟩
  · exact .inl h2
  · exact .inr ⟨b, cap, cur, hv, hg, by rw [hk b (by rw [hv]; rfl)]; exact hh, r⟩
/-- Only block g, of the type T, turns: the store stands. -/
theorem VerAt.off {w w' : World} {p mb db n : Nat} {f : ByteArray → Value} {s : St} (h : VerAt w p mb db f s n) {g : Nat} {cs : Array Value} {T : TypeId} (hg : w.heap[g]? = some (.cells cs T (0, 0))) (h1 : T ≠ 100) (h2 : T ≠ 37) (h3 : T ≠ 3) (h4 : T ≠ 43) (h5 : T ≠ 96) (ho : ∀ q, q ≠ g → w'.heap[q]? = w.heap[q]?) : VerAt w' p mb db f s n := by
  have hne : ∀ (b : Nat) (ds : Array Value) (t : TypeId), t ≠ T → w.heap[b]? = some (.cells ds t (0, 0)) → w'.heap[b]? = w.heap[b]? := fun b ds t ht hb => ho b fun e => by
    rw [e, hg] at hb
    injection hb with hb
    injection hb with _ hb
    exact ht hb.symm
  have hk : Keep3 w w' := ⟨fun b ds hb => hne b ds _ (Ne.symm h3) hb, fun b ds hb => hne b ds _ (Ne.symm h4) hb, fun b ds hb => hne b ds _ (Ne.symm h5) hb⟩
  have keepm : ∀ {kt b nn R} {D : DataW Unit}, w.ownsMap Tryd.prog kt R b nn D → w'.ownsMap Tryd.prog kt R b nn D := fun {kt b nn R D} hD => by
    obtain ⟨es, clock, hb, F, hs, hD⟩ := hD
    exact ⟨es, clock, (ho b fun e => by rw [e, hg] at hb; cases hb).trans hb, F, hs, hD⟩
  refine ⟨?_, ?_, ?_, fun k => ?_, h.apart, h.ne⟩
  · obtain ⟨bv, q1, q2⟩ := h.box
    exact ⟨bv, (hne _ _ _ (Ne.symm h1) q1).trans q1, intsT_keep q2 hk⟩
  · obtain ⟨D, q1, q2⟩ := h.dots
    exact ⟨D, keepm q1, q2⟩
  · obtain ⟨D, q1, q2⟩ := h.map
    exact ⟨D, keepm q1, q2⟩
  · obtain ⟨rs, q1, q2⟩ := h.rows k
    refine ⟨rs, own_keep q1 fun b hb => ?_, f2_keep q2 hk⟩
    obtain ⟨ds, hcs⟩ := own_type q1 hb
    exact hne b ds _ (Ne.symm h2) hcs
set_option maxHeartbeats 1000000 in
theorem known_ok (w : World) (n : Nat) (h1 : 1 ≤ n) (h6 : n ≤ 6) : Calls Tryd.prog 18 #[.int .i64 n] w fun e w' => ∃ p mb db, e = .returned (.tuple #[.agg #[.pointer (some ⟨p, 0, none⟩)], .nilIface]) ∧ w.heap.size ≤ p ∧ w.heap.size ≤ mb ∧ w.heap.size ≤ db ∧ VerAt w' p mb db (fun _ => .slice none 0 0) ⟨List.replicate n 0, [], []⟩ 0 ∧ Below w.heap.size w w' := by
  obtain ⟨w1, hw1⟩ : ∃ w1, w1 = w.alloc (.cells #[.pointer none] 55) := ⟨_, rfl⟩
  have G1 : w1.heap[w.heap.size]? = some (.cells #[.pointer none] 55 (0, 0)) := by rw [hw1]; exact heap_new _ _
  have s1 : w1.heap.size = w.heap.size + 1 := by rw [hw1]; simp
  have b1 : Below w.heap.size w w1 := by rw [hw1]; exact below_alloc _ _
  have HG1 := hid G1
  have S1 := hid s1
  have B1 := hid b1
  clear G1 s1 b1
  go_enter Tryd.func18, Tryd.ntmps18
  go_wp2_with fail
  rw [← hw1]
  clear hw1
  refine (new_ok w1 n h1 h6).mono ?_
  rintro e w2 ⟨p, mb, db, rfl, hp, hm, hd, hV, hb2⟩
  have G2 : w2.heap[w.heap.size]? = _ := (hb2.block _ (by have := S1.out; omega)).trans HG1.out
  have q0 : w2.cell? ⟨w.heap.size, 0, none⟩ = some (.pointer none) := (cell_of G2).trans rfl
  have z0 : w2.frozen? ⟨w.heap.size, 0, none⟩ = false := free_of G2
  obtain ⟨w3, hw3⟩ : ∃ w3, w3 = w2.setCell ⟨w.heap.size, 0, none⟩ (.pointer (some ⟨p, 0, none⟩)) := ⟨_, rfl⟩
  have G3 : Hid (w3.heap[w.heap.size]? = some (.cells #[.pointer (some ⟨p, 0, none⟩)] 55 (0, 0))) := (show _ = _ from by rw [hw3]; exact (heap_set G2 _).trans rfl)
  have V3 : Hid (VerAt w3 p mb db (fun _ => .slice none 0 0) ⟨List.replicate n 0, [], []⟩ 0) := (show VerAt _ _ _ _ _ _ _ from hV.off G2 (by decide) (by decide) (by decide) (by decide) (by decide) fun q hq => by rw [hw3]; exact Below.heap_setCell _ _ _ _ hq)
  have B3 : Hid (Below w.heap.size w w3) := (show Below _ _ _ from by rw [hw3]; exact (B1.out.trans (hb2.mono (by have := S1.out; omega))).setCell (Nat.le_refl _) _)
  have HP : Hid (w.heap.size ≤ p ∧ w.heap.size ≤ mb ∧ w.heap.size ≤ db) := (show _ ∧ _ from by have := S1.out; omega)
  clear G2 hV hb2 hp hm hd
  go_wp2_with fail
  rw [← hw3]
  clear hw3
  refine bodyPost_ret (ret_cell_tmp (k := 1) Tryd.results18 Tryd.isAgg55 Tryd.sizeOf55 _ _ w.heap.size [.pointer (some ⟨p, 0, none⟩)] .nilIface rfl rfl rfl (cells_heap (t := 55) _ G3.out)) rfl ⟨p, mb, db, rfl, HP.out.1, HP.out.2.1, HP.out.2.2, V3.out, B3.out⟩
end Go.Proofs.YtefpnojanldkeaaDoor
namespace Go.Proofs.YtefpnojanldkeaaDoor
open Go.RowKit
set_option maxRecDepth 100000
set_option linter.unusedSectionVars false
variable [Inhabited ComV] [DecidableEq D3] [Inhabited D3] [Inhabited Dn] [Inhabited OpV]

theorem isPlace_yes (p : Int) (w : World) (h0 : 0 ≤ p) (h6 : p < 6) : Calls Tryd.prog 61 #[.int .i64 p] w fun e w' => e = .returned (.bool true) ∧ w' = w := by
  go_enter Tryd.func61, Tryd.ntmps61
  go_wp2
  go_ret
  exact ⟨rfl, rfl⟩
/-- Numbers of a stream. -/
structure WayOk (f t s : Int) : Prop where
  f0 : 0 ≤ f
  f6 : f < 6
  t0 : 0 ≤ t
  t6 : t < 6
  s0 : 0 ≤ s
  s6 : s < 6
  ne : f ≠ t
set_option maxHeartbeats 1000000 in
theorem newWay_ok (f t s : Int) (w : World) (h : WayOk f t s) : Calls Tryd.prog 52 #[.int .i64 f, .int .i64 t, .int .i64 s] w fun e w' => e = .returned (.tuple #[.agg #[.int .i64 f, .int .i64 t, .int .i64 s], .nilIface]) ∧ Below w.heap.size w w' := by
  obtain ⟨f0, f6, t0, t6, s0, s6, ne⟩ := h
  have hb : (f == t) = false := beq_eq_false_iff_ne.2 ne
  have s0' : ¬ s < 0 := by omega
  have s6' : ¬ 6 ≤ s := by omega
  clear ne
  go_enter Tryd.func52, Tryd.ntmps52
  go_wp2_with (go_at_call 61; refine (isPlace_yes _ _ (by assumption) (by assumption)).mono ?_; rintro e w' ⟨rfl, rfl⟩)
  refine bodyPost_ret (ret_cell_tmp (k := 3) Tryd.results52 Tryd.isAgg127 Tryd.sizeOf127 _ _ w.heap.size [.int .i64 f, .int .i64 t, .int .i64 s] _ rfl rfl rfl (cells_heap (t := 127) _ (heap_new _ _))) rfl ⟨rfl, below_alloc _ _⟩
/-- A sender's box. -/
def SndBox (w : World) (g : Nat) (f t s seq time : Int) (v : Value) : Prop := w.heap[g]? = some (.cells #[.int .i64 f, .int .i64 t, .int .i64 s, .int .i64 seq, .int .i64 time, v] 131 (0, 0))
set_option maxHeartbeats 1000000 in
theorem newSender_ok (f t s : Int) (w : World) (h : WayOk f t s) : Calls Tryd.prog 29 #[.int .i64 f, .int .i64 t, .int .i64 s] w fun e w' => ∃ g, w.heap.size ≤ g ∧ e = .returned (.tuple #[.pointer (some ⟨g, 0, none⟩), .nilIface]) ∧ SndBox w' g f t s 0 0 (.slice none 0 0) ∧ Below w.heap.size w w' := by
  have K := hid (newWay_ok f t s w h)
  clear h
  go_enter Tryd.func29, Tryd.ntmps29
  go_wp2_with fail
  refine K.out.mono ?_
  rintro e w1 ⟨rfl, hb1⟩
  have B1 := hid hb1
  clear hb1
  go_wp2
  go_ret2
  refine ⟨w1.heap.size + 1, ?_, rfl, heap_new2 _ _ _, ?_⟩
  · have := B1.out.size; omega
  · exact ((B1.out.alloc B1.out.size _).alloc (by have := B1.out.size; simp; omega) _)
end Go.Proofs.YtefpnojanldkeaaDoor
namespace Go.Proofs.YtefpnojanldkeaaDoor
open Go.RowKit
set_option maxRecDepth 100000
set_option linter.unusedSectionVars false
variable [Inhabited ComV] [DecidableEq D3] [Inhabited D3] [Inhabited Dn] [Inhabited OpV]

theorem Tryd.info45 : (Tryd.prog.info? 45).map (fun i => (i.zero, i.size, i.bytes)) = some (some (.agg #[.int .i64 0, .int .i64 0, .int .i64 0, .int .i64 0, .int .i64 0, .bool false, .slice none 0 0, .int .i64 0, .slice none 0 0]), 9, 104) := by kernel_rfl
/-- Only block g, and the row v, may have turned. -/
structure OnlyS (g : Nat) (v : Value) (w w' : World) : Prop where
  os : w'.os = w.os
  tape : w'.tape = w.tape
  output : w'.output = w.output
  size : w.heap.size ≤ w'.heap.size
  block : ∀ k, k < w.heap.size → k ≠ g → v.ownBlock ≠ some k → w'.heap[k]? = w.heap[k]?
theorem OnlyS.then {g : Nat} {v : Value} {w w1 w2 : World} (h : OnlyS g v w w1) (k : Below w1.heap.size w1 w2) : OnlyS g v w w2 :=
  ⟨k.os.trans h.os, k.tape.trans h.tape, k.output.trans h.output, Nat.le_trans h.size k.size, fun i hi hg hv => (k.block i (by have := h.size; omega)).trans (h.block i hi hg hv)⟩
end Go.Proofs.YtefpnojanldkeaaDoor
namespace Go.Proofs.YtefpnojanldkeaaDoor
open Go.RowKit
set_option maxRecDepth 100000
set_option linter.unusedSectionVars false
variable [Inhabited ComV] [DecidableEq D3] [Inhabited D3] [Inhabited Dn] [Inhabited OpV]

theorem OnlyS.box {g : Nat} {v : Value} {w w' : World} (h : OnlyS g v w w') {k : Nat} {o : Obj} (hk : w.heap[k]? = some o) (hg : k ≠ g) (hv : v.ownBlock ≠ some k) : w'.heap[k]? = some o := by rw [h.block k (lt_of_heap hk) hg hv]; exact hk
end Go.Proofs.YtefpnojanldkeaaDoor
