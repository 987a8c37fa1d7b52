/- Worlds, boxes and rows in memory; Ways, senders and receivers made; a beat copied; From what the rows list to what the walks ask: the sentinels that package values hands out; the start that the witness takes; The sender's next: a beat; The sender's Beat; The sender's Again: beats; slices.Delete, from the front, of a row of beats of one's own. -/
import Derived.Test.YtefpnojanldkeaaGreatDoorProg
import Derived.Test.YtefpnojanldkeaaGreatDoorJVOnceM
import Derived.Test.YtefpnojanldkeaaGreatDoorJVStandM
import Derived.Test.YtefpnojanldkeaaGreatDoorJVRefN
import Derived.Test.YtefpnojanldkeaaGreatDoorJVOwnM
import Derived.Test.YtefpnojanldkeaaGreatDoorJWState
import Derived.Test.YtefpnojanldkeaaGreatDoorJWMath
import Derived.Test.YtefpnojanldkeaaGreatDoorJVOp
import Derived.WalkKit
import Derived.Deep.Draws
import Derived.Handy
import Derived.Deep.QuietTactic
import Derived.BigQuiet
import Derived.Laws.AppendOwnNone
import Derived.WalkLawsBesides
import Derived.WalkSpells
import Derived.Laws.IdiomCopy
import Derived.Laws.ResultCell
import Derived.Shelf.SlicesQ.Load
import Derived.Test.YtefpnojanldkeaaGreatDoorJVVec
import Derived.Test.YtefpnojanldkeaaGreatDoorJVMap
import Derived.Test.YtefpnojanldkeaaGreatDoorJVRow
import Derived.Lib.SliceRun
import Derived.Deep.Cut
import Derived.Test.YtefpnojanldkeaaGreatDoorRows
import Derived.Test.YtefpnojanldkeaaGreatDoorJWPutN
import Derived.Test.YtefpnojanldkeaaGreatDoorJVErr2
import Derived.LaidLaws
import Derived.LaidSub
import Derived.LaidHandle
import Derived.ProofKit
import Derived.OpenShut
import Derived.Test.YtefpnojanldkeaaGreatDoorJWPut
import Derived.Deep.RegionLaw
import Derived.Maps.AppendAt
import Derived.Deep.RegionHeld
namespace Go.Proofs.YtefpnojanldkeaaGreatDoor
open Go.RowKit
set_option maxRecDepth 100000
set_option linter.unusedSectionVars false
variable [Inhabited ComV] [DecidableEq D3] [Inhabited D3] [Inhabited Dd] [Inhabited Dn] [Inhabited OpV]

theorem cell_of {w : World} {b j : Nat} {cs : Array Value} {t : TypeId} (h : w.heap[b]? = some (.cells cs t (0, 0))) : w.cell? ⟨b, j, none⟩ = cs[j]? := by simp [World.cell?, h]
theorem free_of {w : World} {b j : Nat} {cs : Array Value} {t : TypeId} (h : w.heap[b]? = some (.cells cs t (0, 0))) : w.frozen? ⟨b, j, none⟩ = false := by simp [World.frozen?, h]
theorem heap_new (w : World) (o : Obj) : (w.alloc o).heap[w.heap.size]? = some o := (MapKept.heap_alloc _ _).1
theorem heap_old {w : World} {b : Nat} {o : Obj} (h : w.heap[b]? = some o) (o' : Obj) : (w.alloc o').heap[b]? = some o := by rw [Below.heap_alloc _ _ _ (lt_of_heap h)]; exact h
theorem heap_new2 (w : World) (o1 o2 : Obj) : ((w.alloc o1).alloc o2).heap[w.heap.size + 1]? = some o2 := by
  have := heap_new (w.alloc o1) o2
  rwa [World.size_alloc] at this
theorem setCells_other (b : Nat) : ∀ (vs : List Value) (o : Nat) (w : World) (k : Nat), k ≠ b → (w.setCells b o vs).heap[k]? = w.heap[k]?
  | [], _, _, _, _ => rfl
  | v :: r, o, w, k, h => (setCells_other b r (o + 1) (w.setCell ⟨b, o, none⟩ v) k h).trans (Below.heap_setCell _ _ _ _ h)
theorem rowk {w : World} {g : Nat} {cs : Array Value} {t : TypeId} (h : w.heap[g]? = some (.cells cs t (0, 0))) {n : Nat} (hn : cs.size = n) : (∀ j, j < n → (w.cell? ⟨g, 0 + j, none⟩).isSome = true) ∧ ∀ j, j < n → w.frozen? ⟨g, 0 + j, none⟩ = false := by
  subst hn
  refine ⟨fun j hj => ?_, fun j _ => free_of h⟩
  rw [cell_of h, Nat.zero_add, Array.getElem?_eq_getElem hj]
  rfl
theorem setk {w : World} {g : Nat} {cs : Array Value} {t : TypeId} (h : w.heap[g]? = some (.cells cs t (0, 0))) (vs : List Value) (hl : vs.length = cs.size) : ∀ j (hj : j < vs.length), (w.setCells g 0 vs).cell? ⟨g, j, none⟩ = some vs[j] := fun j hj => by
  have := World.cell?_setCells_in g vs 0 w (fun q hq => (rowk h rfl).1 q (by omega)) j hj
  rwa [Nat.zero_add] at this
theorem cells_heap {w : World} {g : Nat} {t : TypeId} (vs : List Value) (h : w.heap[g]? = some (.cells vs.toArray t (0, 0))) : ∀ j (hj : j < vs.length), w.cell? ⟨g, j, none⟩ = some vs[j] := fun j hj => by
  rw [cell_of h]
  simp
/-- A whole row of cells is stored. -/
theorem store_row {wr : World} {g : Nat} {cs : Array Value} {t : TypeId} (h : wr.heap[g]? = some (.cells cs t (0, 0))) (vs : List Value) (hl : vs.length = cs.size) (hone : vs.all (fun v => v.oneCell') = true) (ty n : Nat) (hn : vs.length = n) (hs : ∀ w, (sizeOf ty).run Tryz.prog w = .ok n w) :
    ∃ wz, (∀ (Q : Exit → Act → World → Prop) (ops : Array Oper) (o : Oper) (rest : List Oper) (a : Act) (x y : Operand), o.guard = none → o.op = .store ty x y → a.eval x = .pointer (some ⟨g, 0, none⟩) → a.eval y = .agg vs.toArray → wpList Tryz.prog ops Q rest (a.put o.dst undef) wz → wpList Tryz.prog ops Q (o :: rest) a wr) ∧
      Hid ((∀ j (hj : j < vs.length), wz.cell? ⟨g, j, none⟩ = some vs[j]) ∧ wz = wr.setCells g 0 vs) := by
  refine ⟨_, fun Q ops o rest a x y h1 h2 h3 h4 h5 => ?_, setk h vs hl, rfl⟩
  exact wpList_store_k _ h1 x y ty h2 g 0 vs h3 h4 n hn hs hone _ rfl (rowk h (by omega)).1 (rowk h (by omega)).2 h5
theorem owns_at {w w' : World} {base e size n : Nat} {v : Value} {xs : List Value} (h : w.ownsRow base e size v n xs) (hk : ∀ g, base ≤ g → g < w.heap.size → w'.heap[g]? = w.heap[g]?) : w'.ownsRow base e size v n xs := by
  obtain ⟨h1, h2⟩ := h
  refine ⟨h1, ?_⟩
  rcases h2 with h2 | ⟨g, cap, cur, hv, hg, hh, r⟩
  · exact .inl h2
  · exact .inr ⟨g, cap, cur, hv, hg, by rw [hk g hg (lt_of_heap hh)]; exact hh, r⟩
theorem owns_base {w : World} {base base' e size n : Nat} {v : Value} {xs : List Value} (h : w.ownsRow base e size v n xs) (hb : base' ≤ base) : w.ownsRow base' e size v n xs := by
  obtain ⟨h1, h2⟩ := h
  refine ⟨h1, ?_⟩
  rcases h2 with h2 | ⟨g, cap, cur, hv, hg, r⟩
  · exact .inl h2
  · exact .inr ⟨g, cap, cur, hv, by omega, r⟩
/-- A row of type t of one's own grows: nothing else turns. -/
theorem grown_ne {w1 w2 : World} {o' : Obj} {base e size n : Nat} {v : Value} {xs : List Value} (hown : w1.ownsRow base e size v n xs) (hg : (w1.alloc o').grownBy w2 v.ownBlock) : ∀ (b : Nat) (cs : Array Value) (t : TypeId), t ≠ e → w1.heap[b]? = some (.cells cs t (0, 0)) → w2.heap[b]? = w1.heap[b]? := fun b cs t ht hb => by
  rw [hg.block b (by have := lt_of_heap hb; simp; omega) fun he => by
    obtain ⟨cs', h'⟩ := own_type hown he.symm
    rw [hb] at h'
    injection h' with h'
    injection h' with _ h'
    exact ht h', Below.heap_alloc _ _ _ (lt_of_heap hb)]
theorem fill9n {w : World} {g : Nat} {t : TypeId} {z0 z1 z2 z3 z4 z5 z6 z7 z8 : Value} (h : w.heap[g]? = some (.cells #[z0, z1, z2, z3, z4, z5, z6, z7, z8] t (0, 0))) (v0 v1 v2 v3 v4 v5 v6 v7 v8 : Value) : (((((((((w.setCell ⟨g, 0, none⟩ v0).setCell ⟨g, 1, none⟩ v1).setCell ⟨g, 2, none⟩ v2).setCell ⟨g, 3, none⟩ v3).setCell ⟨g, 4, none⟩ v4).setCell ⟨g, 5, none⟩ v5).setCell ⟨g, 6, none⟩ v6).setCell ⟨g, 7, none⟩ v7).setCell ⟨g, 8, none⟩ v8).heap[g]? = some (.cells #[v0, v1, v2, v3, v4, v5, v6, v7, v8] t (0, 0)) := by
  have h0 := heap_set (j := 0) h v0
  rw [show (#[z0, z1, z2, z3, z4, z5, z6, z7, z8] : Array Value).setIfInBounds 0 v0 = #[v0, z1, z2, z3, z4, z5, z6, z7, z8] from rfl] at h0
  have h1 := heap_set (j := 1) h0 v1
  rw [show (#[v0, z1, z2, z3, z4, z5, z6, z7, z8] : Array Value).setIfInBounds 1 v1 = #[v0, v1, z2, z3, z4, z5, z6, z7, z8] from rfl] at h1
  have h2 := heap_set (j := 2) h1 v2
  rw [show (#[v0, v1, z2, z3, z4, z5, z6, z7, z8] : Array Value).setIfInBounds 2 v2 = #[v0, v1, v2, z3, z4, z5, z6, z7, z8] from rfl] at h2
  have h3 := heap_set (j := 3) h2 v3
  rw [show (#[v0, v1, v2, z3, z4, z5, z6, z7, z8] : Array Value).setIfInBounds 3 v3 = #[v0, v1, v2, v3, z4, z5, z6, z7, z8] from rfl] at h3
  have h4 := heap_set (j := 4) h3 v4
  rw [show (#[v0, v1, v2, v3, z4, z5, z6, z7, z8] : Array Value).setIfInBounds 4 v4 = #[v0, v1, v2, v3, v4, z5, z6, z7, z8] from rfl] at h4
  have h5 := heap_set (j := 5) h4 v5
  rw [show (#[v0, v1, v2, v3, v4, z5, z6, z7, z8] : Array Value).setIfInBounds 5 v5 = #[v0, v1, v2, v3, v4, v5, z6, z7, z8] from rfl] at h5
  have h6 := heap_set (j := 6) h5 v6
  rw [show (#[v0, v1, v2, v3, v4, v5, z6, z7, z8] : Array Value).setIfInBounds 6 v6 = #[v0, v1, v2, v3, v4, v5, v6, z7, z8] from rfl] at h6
  have h7 := heap_set (j := 7) h6 v7
  rw [show (#[v0, v1, v2, v3, v4, v5, v6, z7, z8] : Array Value).setIfInBounds 7 v7 = #[v0, v1, v2, v3, v4, v5, v6, v7, z8] from rfl] at h7
  have h8 := heap_set (j := 8) h7 v8
  rw [show (#[v0, v1, v2, v3, v4, v5, v6, v7, z8] : Array Value).setIfInBounds 8 v8 = #[v0, v1, v2, v3, v4, v5, v6, v7, v8] from rfl] at h8
  exact h8
theorem below9 {B g : Nat} {a w : World} (h : Below B a w) (hg : B ≤ g) (v0 v1 v2 v3 v4 v5 v6 v7 v8 : Value) : Below B a (((((((((w.setCell ⟨g, 0, none⟩ v0).setCell ⟨g, 1, none⟩ v1).setCell ⟨g, 2, none⟩ v2).setCell ⟨g, 3, none⟩ v3).setCell ⟨g, 4, none⟩ v4).setCell ⟨g, 5, none⟩ v5).setCell ⟨g, 6, none⟩ v6).setCell ⟨g, 7, none⟩ v7).setCell ⟨g, 8, none⟩ v8) := ((((((((h.setCell hg _).setCell hg _).setCell hg _).setCell hg _).setCell hg _).setCell hg _).setCell hg _).setCell hg _).setCell hg _
theorem drew_heap (w : World) : w.drew.heap = w.heap := rfl
theorem size_set (w : World) (p : Addr) (v : Value) : (w.setCell p v).heap.size = w.heap.size := by simp
theorem below2S (w : World) (o1 o2 : Obj) : Below w.heap.size w ((w.alloc o1).alloc o2) := (below_alloc w o1).alloc (by simp) _
end Go.Proofs.YtefpnojanldkeaaGreatDoor
namespace Go.Proofs.YtefpnojanldkeaaGreatDoor
open Go.RowKit
set_option maxRecDepth 100000
set_option linter.unusedSectionVars false
variable [Inhabited ComV] [DecidableEq D3] [Inhabited D3] [Inhabited Dd] [Inhabited Dn] [Inhabited OpV]

theorem isPlace_yes (p : Int) (w : World) (h0 : 0 ≤ p) (h6 : p < 6) : Calls Tryz.prog 93 #[.int .i64 p] w fun e w' => e = .returned (.bool true) ∧ w' = w := by
  go_enter Tryz.func93, Tryz.ntmps93
  go_wp2
  go_ret
  exact ⟨rfl, rfl⟩
theorem isTime_yes (t : Int) (w : World) (h0 : 0 ≤ t) (h6 : t ≤ 1099511627776) : Calls Tryz.prog 60 #[.int .i64 t] w fun e w' => e = .returned (.bool true) ∧ w' = w := by
  go_enter Tryz.func60, Tryz.ntmps60
  go_wp2
  go_ret
  exact ⟨rfl, rfl⟩
/-- Numbers of a stream. -/
structure WayOk (f t s : Int) : Prop where
  f0 : 0 ≤ f
  f6 : f < 6
  t0 : 0 ≤ t
  t6 : t < 6
  s0 : 0 ≤ s
  s6 : s < 6
  ne : f ≠ t
set_option maxHeartbeats 1000000 in
theorem newWay_ok (f t s : Int) (w : World) (h : WayOk f t s) : Calls Tryz.prog 76 #[.int .i64 f, .int .i64 t, .int .i64 s] w fun e w' => e = .returned (.tuple #[.agg #[.int .i64 f, .int .i64 t, .int .i64 s], .nilIface]) ∧ Below w.heap.size w w' := by
  obtain ⟨f0, f6, t0, t6, s0, s6, ne⟩ := h
  have hb : (f == t) = false := beq_eq_false_iff_ne.2 ne
  have s0' : ¬ s < 0 := by omega
  have s6' : ¬ 6 ≤ s := by omega
  clear ne
  go_enter Tryz.func76, Tryz.ntmps76
  go_wp2_with (go_at_call 93; refine (isPlace_yes _ _ (by assumption) (by assumption)).mono ?_; rintro e w' ⟨rfl, rfl⟩)
  refine bodyPost_ret (ret_cell_tmp (k := 3) Tryz.results76 Tryz.isAgg121 Tryz.sizeOf121 _ _ w.heap.size [.int .i64 f, .int .i64 t, .int .i64 s] _ rfl rfl rfl (cells_heap (t := 121) _ (heap_new _ _))) rfl ⟨rfl, below_alloc _ _⟩
/-- A sender's box. -/
def SndBox (w : World) (g : Nat) (f t s seq time : Int) (v : Value) : Prop := w.heap[g]? = some (.cells #[.int .i64 f, .int .i64 t, .int .i64 s, .int .i64 seq, .int .i64 time, v] 123 (0, 0))
set_option maxHeartbeats 1000000 in
theorem newSender_ok (f t s : Int) (w : World) (h : WayOk f t s) : Calls Tryz.prog 46 #[.int .i64 f, .int .i64 t, .int .i64 s] w fun e w' => ∃ g, w.heap.size ≤ g ∧ e = .returned (.tuple #[.pointer (some ⟨g, 0, none⟩), .nilIface]) ∧ SndBox w' g f t s 0 0 (.slice none 0 0) ∧ Below w.heap.size w w' := by
  have K := hid (newWay_ok f t s w h)
  clear h
  go_enter Tryz.func46, Tryz.ntmps46
  go_wp2_with fail
  refine K.out.mono ?_
  rintro e w1 ⟨rfl, hb1⟩
  have B1 := hid hb1
  clear hb1
  go_wp2
  go_ret2
  refine ⟨w1.heap.size + 1, ?_, rfl, heap_new2 _ _ _, ?_⟩
  · have := B1.out.size; omega
  · exact ((B1.out.alloc B1.out.size _).alloc (by have := B1.out.size; simp; omega) _)
/-- A beat. -/
def beat9 (f t s seq time : Int) : List Value := [.int .i64 f, .int .i64 t, .int .i64 s, .int .i64 seq, .int .i64 time, .bool true, .slice none 0 0, .int .i64 0, .slice none 0 0]
end Go.Proofs.YtefpnojanldkeaaGreatDoor
namespace Go.Proofs.YtefpnojanldkeaaGreatDoor
open Go.RowKit Go.ChangeShapes Go.WideShapes Go.ChangeAt
set_option maxRecDepth 100000
set_option linter.unusedSectionVars false
variable [Inhabited ComV] [DecidableEq D3] [Inhabited D3] [Inhabited Dd] [Inhabited Dn] [Inhabited OpV]

def sent {H : Type} (t : List UInt8) : DataW H := .iface "*errors.errorString" (.ptr (.agg [.lit (.string t)]))
def listed (l : List (String × List UInt8)) : List (String × DataW Unit) := l.map fun x => (x.1, sent x.2)
section
variable {P : Program} {W : World} {ti tp te ts : TypeId} {ms : Array (String × TypeId)} {f : Field}

theorem laidVars_sents (hi : P.underlying ti = some (.interface ms)) (hrow : ∀ u, P.typeName? 3 u = some "*errors.errorString" → u = tp)
    (hp : P.underlying tp = some (.pointer te)) (he : P.underlying te = some (.struct #[f])) (hft : f.type = ts) (hfo : f.offset = 0) (hs : P.underlying ts = some .string) (hc : P.cellsOf te = 1) (hcs : P.cellsOf ts = 1) :
    ∀ (l : List (String × List UInt8)) (ps : List MemPlace),
    DataW.LaidVars P W (listed l) ps →
    (∀ x ∈ l, ∃ g, P.globalNamed x.1 = some g ∧ (P.globals[g]?).map (·.type) = some ti) →
    (∀ b off, MemPlace.cell b off ∈ ps → (∃ c t, W.heap[b]? = some (.cells c t (0, 0))) ∧ ∀ u v, W.cell? ⟨b, off, none⟩ = some (.iface u v) → Value.okWide P W .any 0 u v) →
    ∃ ad : List Addr, ad.length = l.length ∧ (∀ (k : Nat) (x : String × List UInt8) (a : Addr), l[k]? = some x → ad[k]? = some a → W.var? P x.1 = some #[.iface tp (.pointer (some a))]) ∧
      (ad.map fun a => MemPlace.cell a.block a.off).Sublist ps ∧ ∀ a ∈ ad, ∃ v, W.cell? a = some v := by
  intro l
  induction l with
  | nil => exact fun ps _ _ _ => ⟨[], rfl, fun k x a h => by simp at h, List.nil_sublist _, fun a h => by cases h⟩
  | cons x l ih =>
    intro ps h hg hrows
    obtain ⟨g, t, cs, fuel, p, q, h1, h2, h3, h4, h5, rfl⟩ := h
    obtain ⟨g', h1', h2'⟩ := hg x (List.mem_cons_self ..)
    obtain rfl := Option.some.inj (h1.symm.trans h1')
    obtain rfl := Option.some.inj (h2.symm.trans h2')
    obtain ⟨lc⟩ := cs
    have ok0 : ∀ u v, lc = [.iface u v] → Value.okWide P W .any 0 u v := fun u v e => by
      subst e
      exact (hrows g 0 (by simp [MemPlace.row])).2 u v (by simpa using World.var?_cell h1 h3 0)
    obtain ⟨a, s, rfl, hc0, hs0, hz0, rfl⟩ := errorString_of_trod hi hrow hp he hft hfo hs hc hcs h4 ok0
    obtain ⟨ad, e1, e2, e3, e4⟩ := ih q h5 (fun y hy => hg y (List.mem_cons_of_mem _ hy)) (fun b off hm => hrows b off (List.mem_append_right _ hm))
    refine ⟨a :: ad, by simp [e1], ?_, ?_, ?_⟩
    · intro k y b hy hb
      cases k with
      | zero =>
        simp only [List.getElem?_cons_zero, Option.some.injEq] at hy hb
        subst hy hb
        exact h3
      | succ k =>
        simp only [List.getElem?_cons_succ] at hy hb
        exact e2 k y b hy hb
    · simp only [List.map_cons]
      have : MemPlace.row a 1 = [MemPlace.cell a.block a.off] := by simp [MemPlace.row]
      rw [this, List.append_assoc]
      refine List.Sublist.trans ?_ (List.sublist_append_right _ _)
      exact List.Sublist.cons_cons _ e3
    · intro b hb
      rcases List.mem_cons.1 hb with rfl | hb
      · exact ⟨_, hc0⟩
      · exact e4 b hb
/-- THE LISTED SENTINELS: each variable holds a pointer of its own, to a row that bears no mark. -/
theorem laidMet_sents (hi : P.underlying ti = some (.interface ms)) (hrow : ∀ u, P.typeName? 3 u = some "*errors.errorString" → u = tp)
    (hp : P.underlying tp = some (.pointer te)) (he : P.underlying te = some (.struct #[f])) (hft : f.type = ts) (hfo : f.offset = 0) (hs : P.underlying ts = some .string) (hc : P.cellsOf te = 1) (hcs : P.cellsOf ts = 1)
    (l : List (String × List UInt8)) (h : laidMet P (listed l) W) (hg : ∀ x ∈ l, ∃ g, P.globalNamed x.1 = some g ∧ (P.globals[g]?).map (·.type) = some ti) :
    ∃ A : Nat → Addr, (∀ k x, l[k]? = some x → W.var? P x.1 = some #[.iface tp (.pointer (some (A k)))]) ∧ (∀ k, k < l.length → ∃ c t, W.heap[(A k).block]? = some (.cells c t (0, 0))) ∧
      (∀ k, k < l.length → ∃ v, W.cell? (A k) = some v) ∧ ∀ i j, i < l.length → j < l.length → i ≠ j → A i ≠ A j := by
  obtain ⟨ps, hv, hnd, hrows⟩ := h
  obtain ⟨ad, e1, e2, e3, e4⟩ := laidVars_sents hi hrow hp he hft hfo hs hc hcs l ps hv hg hrows
  have hget : ∀ k, k < l.length → ad[k]? = some (ad.getD k ⟨0, 0, none⟩) := fun k hk => by
    rw [List.getD_eq_getElem?_getD, List.getElem?_eq_getElem (by omega)]; rfl
  have hmem : ∀ k, k < l.length → ad.getD k ⟨0, 0, none⟩ ∈ ad := fun k hk => List.mem_of_getElem? (hget k hk)
  refine ⟨fun k => ad.getD k ⟨0, 0, none⟩, ?_, ?_, ?_, ?_⟩
  · intro k x hx
    have hk : k < l.length := (List.getElem?_eq_some_iff.1 hx).1
    exact e2 k x _ hx (hget k hk)
  · intro k hk
    exact (hrows _ _ (e3.subset (List.mem_map.2 ⟨_, hmem k hk, rfl⟩))).1
  · intro k hk
    exact e4 _ (hmem k hk)
  · intro i j hik hjk hne he
    have hnd' : (ad.map fun a => MemPlace.cell a.block a.off).Nodup := hnd.sublist e3
    have hi' : i < (ad.map fun a => MemPlace.cell a.block a.off).length := by simp; omega
    have hj' : j < (ad.map fun a => MemPlace.cell a.block a.off).length := by simp; omega
    have he' : ad.getD i ⟨0, 0, none⟩ = ad.getD j ⟨0, 0, none⟩ := he
    rw [List.getD_eq_getElem?_getD, List.getD_eq_getElem?_getD, List.getElem?_eq_getElem (by omega), List.getElem?_eq_getElem (by omega)] at he'
    simp only [Option.getD_some] at he'
    rcases Nat.lt_or_gt_of_ne hne with h | h
    · exact List.pairwise_iff_getElem.1 hnd' i j hi' hj' h (by rw [List.getElem_map, List.getElem_map, he'])
    · exact List.pairwise_iff_getElem.1 hnd' j i hj' hi' h (by rw [List.getElem_map, List.getElem_map, he'])
end

theorem ownKnobs : ownKnob Tryz.prog.godebug = none := by kernel_rfl
theorem Tryz.row238 : ∀ u, Tryz.prog.typeName? 3 u = some "*errors.errorString" → u = 238 := typeName_ptr_named (nm := "errors.errorString") (by kernel_rfl) (by kernel_rfl) (by decide)
theorem Tryz.cells258 : Tryz.prog.cellsOf 258 = 1 := by kernel_rfl
theorem Tryz.cells9 : Tryz.prog.cellsOf 9 = 1 := by kernel_rfl
end Go.Proofs.YtefpnojanldkeaaGreatDoor
namespace Go.Proofs.YtefpnojanldkeaaGreatDoor
open Go.RowKit
set_option maxRecDepth 100000
set_option linter.unusedSectionVars false
variable [Inhabited ComV] [DecidableEq D3] [Inhabited D3] [Inhabited Dd] [Inhabited Dn] [Inhabited OpV]

theorem Tryz.info44 : (Tryz.prog.info? 44).map (fun i => (i.zero, i.size, i.bytes)) = some (some (.agg #[.int .i64 0, .int .i64 0, .int .i64 0, .int .i64 0, .int .i64 0, .bool false, .slice none 0 0, .int .i64 0, .slice none 0 0]), 9, 104) := by kernel_rfl
/-- The cells of a list of beats (number, time). -/
def beats (f t s : Int) (l : List (Int × Int)) : List Value := l.flatMap fun p => beat9 f t s p.1 p.2
/-- A sender that has sent l (number, time) and has it all unacked: its box, and a row of its own. -/
structure Snd (w : World) (g : Nat) (f t s seq time : Int) (v : Value) (l : List (Int × Int)) : Prop where
  box : w.heap[g]? = some (.cells #[.int .i64 f, .int .i64 t, .int .i64 s, .int .i64 seq, .int .i64 time, v] 123 (0, 0))
  row : w.ownsRow (g + 1) 44 9 v l.length (beats f t s l)
/-- Only block g, and the row v, may have turned. -/
structure OnlyS (g : Nat) (v : Value) (w w' : World) : Prop where
  os : w'.os = w.os
  tape : w'.tape = w.tape
  output : w'.output = w.output
  size : w.heap.size ≤ w'.heap.size
  block : ∀ k, k < w.heap.size → k ≠ g → v.ownBlock ≠ some k → w'.heap[k]? = w.heap[k]?
theorem beats_snoc (f t s : Int) (l : List (Int × Int)) (p : Int × Int) : beats f t s (l ++ [p]) = beats f t s l ++ beat9 f t s p.1 p.2 := by
  unfold beats
  rw [List.flatMap_append]
  simp
/-- Inside next: the sender, the message's box and the result's. -/
structure Nx (w : World) (g : Nat) (f t s seq time : Int) (v0 v : Value) (l : List (Int × Int)) (w' : World) : Prop where
  snd : Snd w' g f t s seq time v l
  mbox : w'.heap[w.heap.size]? = some (.cells (beat9 f t s seq time).toArray 44 (0, 0))
  rbox : w'.heap[w.heap.size + 1]? = some (.cells #[.int .i64 0, .int .i64 0, .int .i64 0, .int .i64 0, .int .i64 0, .bool false, .slice none 0 0, .int .i64 0, .slice none 0 0] 44 (0, 0))
  only : OnlyS g v0 w w'
theorem Nx.size {w w' : World} {g : Nat} {f t s seq time : Int} {v0 v : Value} {l : List (Int × Int)} (h : Nx w g f t s seq time v0 v l w') : w.heap.size + 2 ≤ w'.heap.size := lt_of_heap h.rbox
theorem OnlyS.then {g : Nat} {v : Value} {w w1 w2 : World} (h : OnlyS g v w w1) (k : Below w1.heap.size w1 w2) : OnlyS g v w w2 :=
  ⟨k.os.trans h.os, k.tape.trans h.tape, k.output.trans h.output, Nat.le_trans h.size k.size, fun i hi hg hv => (k.block i (by have := h.size; omega)).trans (h.block i hi hg hv)⟩
theorem Snd.moved {w w' : World} {g : Nat} {f t s seq time : Int} {v : Value} {l : List (Int × Int)} (h : Snd w g f t s seq time v l) (hb : Below w.heap.size w w') : Snd w' g f t s seq time v l :=
  ⟨by rw [hb.block _ (lt_of_heap h.box)]; exact h.box, owns_at h.row fun k _ h2 => hb.block k h2⟩
theorem Nx.moved {w w1 w2 : World} {g : Nat} {f t s seq time : Int} {v0 v : Value} {l : List (Int × Int)} (h : Nx w g f t s seq time v0 v l w1) (hb : Below w1.heap.size w1 w2) : Nx w g f t s seq time v0 v l w2 := by
  have hs := h.size
  exact ⟨h.snd.moved hb, by rw [hb.block _ (by omega)]; exact h.mbox, by rw [hb.block _ (by omega)]; exact h.rbox, h.only.then hb⟩
theorem Nx.start {w : World} {g : Nat} {f t s seq time nt : Int} {v : Value} {l : List (Int × Int)} (h : Snd w g f t s seq time v l) (seq' : Int) :
    Nx w g f t s seq' nt v v l ((((w.setCell ⟨g, 3, none⟩ (.int .i64 seq')).setCell ⟨g, 4, none⟩ (.int .i64 nt)).alloc (.cells #[.int .i64 f, .int .i64 t, .int .i64 s, .int .i64 seq', .int .i64 nt, .bool true, .slice none 0 0, .int .i64 0, .slice none 0 0] 44)).alloc (.cells #[.int .i64 0, .int .i64 0, .int .i64 0, .int .i64 0, .int .i64 0, .bool false, .slice none 0 0, .int .i64 0, .slice none 0 0] 44)).drew := by
  have hg := lt_of_heap h.box
  have e0 : ((w.setCell ⟨g, 3, none⟩ (.int .i64 seq')).setCell ⟨g, 4, none⟩ (.int .i64 nt)).heap[g]? = some (.cells #[.int .i64 f, .int .i64 t, .int .i64 s, .int .i64 seq', .int .i64 nt, v] 123 (0, 0)) := by
    rw [heap_set (heap_set h.box _)]; rfl
  have hsz : ((w.setCell ⟨g, 3, none⟩ (.int .i64 seq')).setCell ⟨g, 4, none⟩ (.int .i64 nt)).heap.size = w.heap.size := by rw [size_set, size_set]
  have keep : ∀ k, k < w.heap.size → k ≠ g → ((((w.setCell ⟨g, 3, none⟩ (.int .i64 seq')).setCell ⟨g, 4, none⟩ (.int .i64 nt)).alloc (.cells #[.int .i64 f, .int .i64 t, .int .i64 s, .int .i64 seq', .int .i64 nt, .bool true, .slice none 0 0, .int .i64 0, .slice none 0 0] 44)).alloc (.cells #[.int .i64 0, .int .i64 0, .int .i64 0, .int .i64 0, .int .i64 0, .bool false, .slice none 0 0, .int .i64 0, .slice none 0 0] 44)).drew.heap[k]? = w.heap[k]? := fun k hk hkg => by
    rw [drew_heap, Below.heap_alloc _ _ _ (by rw [World.size_alloc, hsz]; omega), Below.heap_alloc _ _ _ (by rw [hsz]; omega), Below.heap_setCell _ _ _ _ hkg, Below.heap_setCell _ _ _ _ hkg]
  refine ⟨⟨?_, owns_at h.row fun k h1 h2 => keep k h2 (by omega)⟩, ?_, ?_, ⟨rfl, rfl, rfl, ?_, fun k hk hkg _ => keep k hk hkg⟩⟩
  · rw [drew_heap]
    exact heap_old (heap_old e0 _) _
  · rw [drew_heap]
    have := heap_new ((w.setCell ⟨g, 3, none⟩ (.int .i64 seq')).setCell ⟨g, 4, none⟩ (.int .i64 nt)) (.cells #[.int .i64 f, .int .i64 t, .int .i64 s, .int .i64 seq', .int .i64 nt, .bool true, .slice none 0 0, .int .i64 0, .slice none 0 0] 44)
    rw [hsz] at this
    exact heap_old this _
  · rw [drew_heap]
    have := heap_new2 ((w.setCell ⟨g, 3, none⟩ (.int .i64 seq')).setCell ⟨g, 4, none⟩ (.int .i64 nt)) (.cells #[.int .i64 f, .int .i64 t, .int .i64 s, .int .i64 seq', .int .i64 nt, .bool true, .slice none 0 0, .int .i64 0, .slice none 0 0] 44) (.cells #[.int .i64 0, .int .i64 0, .int .i64 0, .int .i64 0, .int .i64 0, .bool false, .slice none 0 0, .int .i64 0, .slice none 0 0] 44)
    rwa [hsz] at this
  · rw [drew_heap, World.size_alloc, World.size_alloc, hsz]; omega
/-- The copy is put behind the others. -/
theorem Nx.more {w w1 w2 : World} {g : Nat} {f t s seq time : Int} {v v' : Value} {l : List (Int × Int)} (h : Nx w g f t s seq time v v l w1) (hg : g < w.heap.size) {o' : Obj} (hn : w2.ownsRow (g + 1) 44 9 v' (l.length + 1) (beats f t s l ++ beat9 f t s seq time)) (hgr : (w1.alloc o').grownBy w2 v.ownBlock) (hv : ∀ b, v.ownBlock = some b → b < w.heap.size) (hat : v'.ownBlock = v.ownBlock ∨ v'.ownBlock = some (w1.alloc o').heap.size) :
    (w2.cell? ⟨g, 5, none⟩ = some v ∧ w2.frozen? ⟨g, 5, none⟩ = false) ∧ Nx w g f t s seq time v v' (l ++ [(seq, time)]) (w2.setCell ⟨g, 5, none⟩ v') ∧ (v'.ownBlock = v.ownBlock ∨ ∃ b, v'.ownBlock = some b ∧ w.heap.size + 2 ≤ b) := by
  have hs := h.size
  have keep : ∀ k, k < w1.heap.size → v.ownBlock ≠ some k → w2.heap[k]? = w1.heap[k]? := fun k hk hkv => by
    rw [hgr.block k (by simp; omega) hkv.symm, Below.heap_alloc _ _ _ hk]
  have hgv : v.ownBlock ≠ some g := fun e => by have := (h.snd.row.lt g e).1; omega
  have e0 := (keep g (by omega) hgv).trans h.snd.box
  have hm : v.ownBlock ≠ some w.heap.size := fun e => by have := hv _ e; omega
  have hr : v.ownBlock ≠ some (w.heap.size + 1) := fun e => by have := hv _ e; omega
  refine ⟨⟨(cell_of e0).trans rfl, free_of e0⟩, ⟨⟨by rw [heap_set e0]; rfl, ?_⟩, ?_, ?_, ?_⟩, ?_⟩
  · rw [beats_snoc, List.length_append]
    exact owns_at hn fun k h1 _ => Below.heap_setCell _ _ _ _ (by show k ≠ g; omega)
  · rw [Below.heap_setCell _ _ _ _ (by show w.heap.size ≠ g; omega), keep _ (by omega) hm]; exact h.mbox
  · rw [Below.heap_setCell _ _ _ _ (by show w.heap.size + 1 ≠ g; omega), keep _ (by omega) hr]; exact h.rbox
  · exact ⟨hgr.os.trans h.only.os, hgr.tape.trans h.only.tape, hgr.output.trans h.only.output, by have := hgr.size; have := h.only.size; rw [size_set]; simp at *; omega, fun k hk hkg hkv => by
      rw [Below.heap_setCell _ _ _ _ hkg, keep k (by omega) hkv]; exact h.only.block k hk hkg hkv⟩
  · rcases hat with h | h
    · exact .inl h
    · exact .inr ⟨_, h, by simp; omega⟩
end Go.Proofs.YtefpnojanldkeaaGreatDoor
namespace Go.Proofs.YtefpnojanldkeaaGreatDoor
open Go.RowKit
set_option maxRecDepth 100000
set_option linter.unusedSectionVars false
variable [Inhabited ComV] [DecidableEq D3] [Inhabited D3] [Inhabited Dd] [Inhabited Dn] [Inhabited OpV]

theorem OnlyS.box {g : Nat} {v : Value} {w w' : World} (h : OnlyS g v w w') {k : Nat} {o : Obj} (hk : w.heap[k]? = some o) (hg : k ≠ g) (hv : v.ownBlock ≠ some k) : w'.heap[k]? = some o := by rw [h.block k (lt_of_heap hk) hg hv]; exact hk
end Go.Proofs.YtefpnojanldkeaaGreatDoor
namespace Go.Proofs.YtefpnojanldkeaaGreatDoor
open Go.RowKit
set_option maxRecDepth 100000
set_option linter.unusedSectionVars false
variable [Inhabited ComV] [DecidableEq D3] [Inhabited D3] [Inhabited Dd] [Inhabited Dn] [Inhabited OpV]

/-- A row's room. -/
theorem row_room {w : World} {base e size : Nat} {v : Value} {n : Nat} {xs : List Value} (h : w.ownsRow base e size v n xs) : ∃ a c, v = .slice a n c ∧ n ≤ c := by
  rcases h.2 with ⟨rfl, rfl⟩ | ⟨g, cap, cur, rfl, _, _, hc, _⟩
  · exact ⟨_, _, rfl, Nat.le_refl _⟩
  · exact ⟨_, _, rfl, hc⟩
end Go.Proofs.YtefpnojanldkeaaGreatDoor
namespace Go.Proofs.YtefpnojanldkeaaGreatDoor
open Go.RowKit
set_option maxRecDepth 100000
set_option linter.unusedSectionVars false
variable [Inhabited ComV] [DecidableEq D3] [Inhabited D3] [Inhabited Dd] [Inhabited Dn] [Inhabited OpV]

/-- What a row holds once cells are laid over it. -/
theorem row_sets {e : TypeId} {b : Nat} : ∀ (vs : List Value) (o : Nat) (w : World) (cur : Array Value), w.heap[b]? = some (.cells cur e (0, 0)) → ∃ cur' : Array Value, (w.setCells b o vs).heap[b]? = some (.cells cur' e (0, 0)) ∧ cur'.size = cur.size ∧ (∀ i, i < o ∨ o + vs.length ≤ i → cur'[i]? = cur[i]?) ∧ ∀ i, i < vs.length → o + i < cur.size → cur'[o + i]? = vs[i]?
  | [], o, w, cur, h => ⟨cur, h, rfl, fun _ _ => rfl, fun i hi => by simp at hi⟩
  | v :: r, o, w, cur, h => by
    obtain ⟨c', h1, h2, h3, h4⟩ := row_sets r (o + 1) (w.setCell ⟨b, o, none⟩ v) _ (heap_set h v)
    refine ⟨c', h1, by simpa using h2, fun i hi => ?_, fun i hi hs => ?_⟩
    · rw [h3 i (by rw [List.length_cons] at hi; omega), Array.getElem?_setIfInBounds, if_neg (by rw [List.length_cons] at hi; omega)]
    · cases i with
      | zero =>
        rw [Nat.add_zero, h3 o (by omega), Array.getElem?_setIfInBounds, if_pos rfl, if_pos (by omega)]
        rfl
      | succ i =>
        have := h4 i (by rw [List.length_cons] at hi; omega) (by simp; omega)
        rw [show o + (i + 1) = o + 1 + i by omega, this]
        rfl
theorem zeros9_one (n : Nat) : ∀ v ∈ (Builtin.zeroCells (Value.cells (.agg #[.int .i64 0, .int .i64 0, .int .i64 0, .int .i64 0, .int .i64 0, .bool false, .slice none 0 0, .int .i64 0, .slice none 0 0])) n).toList, v.oneCell' = true := by
  intro v hv
  simp only [Builtin.zeroCells, Value.cells] at hv
  rw [Array.mem_toList_iff, Array.mem_map] at hv
  obtain ⟨i, _, rfl⟩ := hv
  obtain ⟨j, hj⟩ : ∃ j, j = i % 9 := ⟨_, rfl⟩
  have hl : j < 9 := by omega
  show (#[Value.int .i64 0, .int .i64 0, .int .i64 0, .int .i64 0, .int .i64 0, .bool false, .slice none 0 0, .int .i64 0, .slice none 0 0][i % 9]!).oneCell' = true
  rw [← hj]
  rcases (by omega : j = 0 ∨ j = 1 ∨ j = 2 ∨ j = 3 ∨ j = 4 ∨ j = 5 ∨ j = 6 ∨ j = 7 ∨ j = 8) with h | h | h | h | h | h | h | h | h <;> rw [h] <;> rfl
theorem zero37 : ∀ w, (zeroValue 44).run Tryz.prog w = .ok (.agg #[.int .i64 0, .int .i64 0, .int .i64 0, .int .i64 0, .int .i64 0, .bool false, .slice none 0 0, .int .i64 0, .slice none 0 0]) w := Tryz.zeroValue44
/-- Only block b may have turned. -/
structure OnlyB (b : Nat) (w w' : World) : Prop where
  os : w'.os = w.os
  tape : w'.tape = w.tape
  output : w'.output = w.output
  size : w.heap.size = w'.heap.size
  block : ∀ k, k ≠ b → w'.heap[k]? = w.heap[k]?
theorem OnlyB.sets {b : Nat} {w w' : World} (h : OnlyB b w w') (o : Nat) (vs : List Value) : OnlyB b w (w'.setCells b o vs) := by
  have hb := below_setCells (B := 0) (b := b) (a := w') (Nat.zero_le _) vs o (Below.refl _ _)
  exact ⟨hb.os.trans h.os, hb.tape.trans h.tape, hb.output.trans h.output, by rw [setCells_size]; exact h.size, fun k hk => by rw [setCells_other _ _ _ _ _ hk]; exact h.block k hk⟩
theorem OnlyB.drew {b : Nat} {w : World} : OnlyB b w w.drew := ⟨rfl, rfl, rfl, rfl, fun _ _ => rfl⟩
end Go.Proofs.YtefpnojanldkeaaGreatDoor
