/- Worlds, boxes and rows in memory. -/
import Derived.Test.YtcojglkjbbgoaaaDoorProg
import Derived.WalkKit
import Derived.Deep.Draws
import Derived.Handy
import Derived.Deep.QuietTactic
import Derived.BigQuiet
import Derived.Laws.AppendOwnNone
import Derived.WalkLawsBesides
import Derived.WalkSpells
import Derived.Laws.IdiomCopy
import Derived.Laws.ResultCell
import Derived.Shelf.SlicesQ.Load
namespace Go.Proofs.YtcojglkjbbgoaaaDoor
open Go.RowKit
set_option maxRecDepth 100000

theorem hid {p : Prop} (h : p) : Hid p := h
theorem lt_of_cell {w : World} {p : Addr} {v : Value} (h : w.cell? p = some v) : p.block < w.heap.size := by
  rcases Nat.lt_or_ge p.block w.heap.size with h' | h'
  · exact h'
  · simp [World.cell?, Array.getElem?_eq_none h'] at h
theorem cell_alloc {w : World} {p : Addr} {v : Value} (h : w.cell? p = some v) (o : Obj) : (w.alloc o).cell? p = some v := by
  rw [World.cell?_alloc_lt _ _ p (lt_of_cell h)]; exact h
theorem below_alloc (w : World) (o : Obj) : Below w.heap.size w (w.alloc o) := (Below.refl _ _).alloc (Nat.le_refl _) _
theorem below_draws {B : Nat} {a w : World} (h : Below B a w) (n : Nat) : Below B a (w.drewN n) := h.trans ⟨rfl, rfl, rfl, Nat.le_refl _, fun _ _ => rfl⟩
theorem ret_bool {a b : Bool} (h : a = b) : Ending.returned (.bool a) = .returned (.bool b) := by rw [h]
theorem ret_int {k : IntKind} {a b : Int} (h : a = b) : Ending.returned (.int k a) = .returned (.int k b) := by rw [h]
/-- Hidden also from 'contradiction' (great numerals). -/
structure Shut (p : Prop) : Prop where
  out : p
theorem shut {p : Prop} (h : p) : Shut p := ⟨h⟩
theorem heap_set {w : World} {b j : Nat} {cs : Array Value} {t : TypeId} (h : w.heap[b]? = some (.cells cs t (0, 0))) (v : Value) : (w.setCell ⟨b, j, none⟩ v).heap[b]? = some (.cells (cs.setIfInBounds j v) t (0, 0)) := by
  simp [World.setCell, Array.getElem?_modify, h]
theorem lt_of_heap {w : World} {b : Nat} {o : Obj} (h : w.heap[b]? = some o) : b < w.heap.size := (Array.getElem?_eq_some_iff.1 h).1
theorem cell_of {w : World} {b j : Nat} {cs : Array Value} {t : TypeId} (h : w.heap[b]? = some (.cells cs t (0, 0))) : w.cell? ⟨b, j, none⟩ = cs[j]? := by simp [World.cell?, h]
theorem free_of {w : World} {b j : Nat} {cs : Array Value} {t : TypeId} (h : w.heap[b]? = some (.cells cs t (0, 0))) : w.frozen? ⟨b, j, none⟩ = false := by simp [World.frozen?, h]
theorem heap_new (w : World) (o : Obj) : (w.alloc o).heap[w.heap.size]? = some o := (MapKept.heap_alloc _ _).1
theorem heap_old {w : World} {b : Nat} {o : Obj} (h : w.heap[b]? = some o) (o' : Obj) : (w.alloc o').heap[b]? = some o := by rw [Below.heap_alloc _ _ _ (lt_of_heap h)]; exact h
theorem heap_new2 (w : World) (o1 o2 : Obj) : ((w.alloc o1).alloc o2).heap[w.heap.size + 1]? = some o2 := by
  have := heap_new (w.alloc o1) o2
  rwa [World.size_alloc] at this
theorem below_setCells {B b : Nat} {a : World} (hb : B ≤ b) : ∀ (vs : List Value) (o : Nat) {w : World}, Below B a w → Below B a (w.setCells b o vs)
  | [], _, _, h => h
  | v :: r, o, _, h => below_setCells hb r (o + 1) (h.setCell (p := ⟨b, o, none⟩) hb v)
theorem setCells_size (b : Nat) : ∀ (vs : List Value) (o : Nat) (w : World), (w.setCells b o vs).heap.size = w.heap.size
  | [], _, _ => rfl
  | v :: r, o, w => by
    have h1 := setCells_size b r (o + 1) (w.setCell ⟨b, o, none⟩ v)
    have h2 : (w.setCell ⟨b, o, none⟩ v).heap.size = w.heap.size := by simp
    exact h1.trans h2
theorem setCells_other (b : Nat) : ∀ (vs : List Value) (o : Nat) (w : World) (k : Nat), k ≠ b → (w.setCells b o vs).heap[k]? = w.heap[k]?
  | [], _, _, _, _ => rfl
  | v :: r, o, w, k, h => (setCells_other b r (o + 1) (w.setCell ⟨b, o, none⟩ v) k h).trans (Below.heap_setCell _ _ _ _ h)
theorem wpList_store_k (w : World) {ops : Array Oper} {rest : List Oper} {o : Oper} {a : Act} {Q : Exit → Act → World → Prop} (hg : o.guard = none) (x y : Operand) (ty : TypeId) (hop : o.op = .store ty x y)
    (b off : Nat) (cs : List Value) (hx : a.eval x = .pointer (some ⟨b, off, none⟩)) (hy : a.eval y = .agg cs.toArray) (n : Nat) (hn : cs.length = n) (hs : ∀ w, (sizeOf ty).run Tryd.prog w = .ok n w) (hone : cs.all (fun v => v.oneCell') = true)
    (W : World) (hW : w = W) (hc : ∀ j, j < n → (W.cell? ⟨b, off + j, none⟩).isSome = true) (hf : ∀ j, j < n → W.frozen? ⟨b, off + j, none⟩ = false)
    (hK : wpList Tryd.prog ops Q rest (a.put o.dst undef) (w.setCells b off cs)) : wpList Tryd.prog ops Q (o :: rest) a w := by
  subst hn hW
  have h1 : ∀ v ∈ cs, v.oneCell' = true := List.all_eq_true.1 hone
  have hst := run_storeCells_cells (P := Tryd.prog) b off cs 0 w (by simpa using hc) (by simpa using hf) h1
  simp only [Nat.add_zero] at hst
  refine wpList_plain hg fun K' hK' => ?_
  unfold Oper.wp execOp
  simp only [hop, hx, hy, Instr.storeAt, Instr.sureAddr, Sem.run_bind, Sem.run_pure, Result.andThen_ok, storeVar, hs, Value.cells]
  simp [hst]
  exact hK' _ _ hK
theorem ret_cell {f : Func} {s t k : Nat} (hf : f.results = #[ResultVar.cell s t]) (hag : ∀ w, (isAgg t).run Tryd.prog w = .ok true w) (hsz : ∀ w, (sizeOf t).run Tryd.prog w = .ok k w) (w : World) (tmps : Array Value) (g : Nat) (vs : List Value) (hk : vs.length = k) (h4 : tmps[s]?.getD undef = .pointer (some ⟨g, 0, none⟩)) (hc : ∀ j (hj : j < vs.length), w.cell? ⟨g, j, none⟩ = some vs[j]) :
    (results f tmps).run Tryd.prog w = .ok (.agg vs.toArray) w := by
  have hl := run_loadCellsFrom_list Tryd.prog w ⟨g, 0, none⟩ vs k hk (fun j v hj => by
    obtain ⟨h1, h2⟩ := List.getElem?_eq_some_iff.1 hj
    rw [Addr.add_lit, Nat.zero_add, hc j h1, h2])
  simp [results, hf, h4, asAddr, loadVar, loadCells, hag, hsz, hl, Result.andThen]
theorem ret_cell_tmp {f : Func} {s t k s2 : Nat} (hf : f.results = #[ResultVar.cell s t, ResultVar.tmp s2]) (hag : ∀ w, (isAgg t).run Tryd.prog w = .ok true w) (hsz : ∀ w, (sizeOf t).run Tryd.prog w = .ok k w) (w : World) (tmps : Array Value) (g : Nat) (vs : List Value) (v2 : Value) (hk : vs.length = k) (h4 : tmps[s]?.getD undef = .pointer (some ⟨g, 0, none⟩)) (h5 : tmps[s2]?.getD undef = v2) (hc : ∀ j (hj : j < vs.length), w.cell? ⟨g, j, none⟩ = some vs[j]) :
    (results f tmps).run Tryd.prog w = .ok (.tuple #[.agg vs.toArray, v2]) w := by
  have hl := run_loadCellsFrom_list Tryd.prog w ⟨g, 0, none⟩ vs k hk (fun j v hj => by
    obtain ⟨h1, h2⟩ := List.getElem?_eq_some_iff.1 hj
    rw [Addr.add_lit, Nat.zero_add, hc j h1, h2])
  simp [results, hf, h4, h5, asAddr, loadVar, loadCells, hag, hsz, hl, Result.andThen]
theorem rowk {w : World} {g : Nat} {cs : Array Value} {t : TypeId} (h : w.heap[g]? = some (.cells cs t (0, 0))) {n : Nat} (hn : cs.size = n) : (∀ j, j < n → (w.cell? ⟨g, 0 + j, none⟩).isSome = true) ∧ ∀ j, j < n → w.frozen? ⟨g, 0 + j, none⟩ = false := by
  subst hn
  refine ⟨fun j hj => ?_, fun j _ => free_of h⟩
  rw [cell_of h, Nat.zero_add, Array.getElem?_eq_getElem hj]
  rfl
theorem setk {w : World} {g : Nat} {cs : Array Value} {t : TypeId} (h : w.heap[g]? = some (.cells cs t (0, 0))) (vs : List Value) (hl : vs.length = cs.size) : ∀ j (hj : j < vs.length), (w.setCells g 0 vs).cell? ⟨g, j, none⟩ = some vs[j] := fun j hj => by
  have := World.cell?_setCells_in g vs 0 w (fun q hq => (rowk h rfl).1 q (by omega)) j hj
  rwa [Nat.zero_add] at this
theorem cells_heap {w : World} {g : Nat} {t : TypeId} (vs : List Value) (h : w.heap[g]? = some (.cells vs.toArray t (0, 0))) : ∀ j (hj : j < vs.length), w.cell? ⟨g, j, none⟩ = some vs[j] := fun j hj => by
  rw [cell_of h]
  simp
/-- A whole row of cells is stored. -/
theorem store_row {wr : World} {g : Nat} {cs : Array Value} {t : TypeId} (h : wr.heap[g]? = some (.cells cs t (0, 0))) (vs : List Value) (hl : vs.length = cs.size) (hone : vs.all (fun v => v.oneCell') = true) (ty n : Nat) (hn : vs.length = n) (hs : ∀ w, (sizeOf ty).run Tryd.prog w = .ok n w) :
    ∃ wz, (∀ (Q : Exit → Act → World → Prop) (ops : Array Oper) (o : Oper) (rest : List Oper) (a : Act) (x y : Operand), o.guard = none → o.op = .store ty x y → a.eval x = .pointer (some ⟨g, 0, none⟩) → a.eval y = .agg vs.toArray → wpList Tryd.prog ops Q rest (a.put o.dst undef) wz → wpList Tryd.prog ops Q (o :: rest) a wr) ∧
      Hid ((∀ j (hj : j < vs.length), wz.cell? ⟨g, j, none⟩ = some vs[j]) ∧ wz = wr.setCells g 0 vs) := by
  refine ⟨_, fun Q ops o rest a x y h1 h2 h3 h4 h5 => ?_, setk h vs hl, rfl⟩
  exact wpList_store_k _ h1 x y ty h2 g 0 vs h3 h4 n hn hs hone _ rfl (rowk h (by omega)).1 (rowk h (by omega)).2 h5
theorem own_type {w : World} {base e size : Nat} {v : Value} {n : Nat} {xs : List Value} (h : w.ownsRow base e size v n xs) {b : Nat} (hb : v.ownBlock = some b) : ∃ cs, w.heap[b]? = some (.cells cs e (0, 0)) := by
  rcases h.2 with ⟨rfl, _⟩ | ⟨g, cap, cur, rfl, _, hh, _⟩
  · cases hb
  · obtain rfl := Option.some.inj hb
    exact ⟨_, hh⟩
theorem owns_below {w w' : World} {base e size : Nat} {v : Value} {n : Nat} {xs : List Value} (h : w.ownsRow base e size v n xs) (hb : ∀ (b : Nat) (cs : Array Value), w.heap[b]? = some (.cells cs e (0, 0)) → w'.heap[b]? = w.heap[b]?) : w'.ownsRow base e size v n xs := by
  obtain ⟨h1, h2⟩ := h
  refine ⟨h1, ?_⟩
  rcases h2 with h2 | ⟨g, cap, cur, hv, hg, hh, r⟩
  · exact .inl h2
  · exact .inr ⟨g, cap, cur, hv, hg, by rw [hb g _ hh]; exact hh, r⟩
theorem owns_at {w w' : World} {base e size n : Nat} {v : Value} {xs : List Value} (h : w.ownsRow base e size v n xs) (hk : ∀ g, base ≤ g → g < w.heap.size → w'.heap[g]? = w.heap[g]?) : w'.ownsRow base e size v n xs := by
  obtain ⟨h1, h2⟩ := h
  refine ⟨h1, ?_⟩
  rcases h2 with h2 | ⟨g, cap, cur, hv, hg, hh, r⟩
  · exact .inl h2
  · exact .inr ⟨g, cap, cur, hv, hg, by rw [hk g hg (lt_of_heap hh)]; exact hh, r⟩
theorem owns_base {w : World} {base base' e size n : Nat} {v : Value} {xs : List Value} (h : w.ownsRow base e size v n xs) (hb : base' ≤ base) : w.ownsRow base' e size v n xs := by
  obtain ⟨h1, h2⟩ := h
  refine ⟨h1, ?_⟩
  rcases h2 with h2 | ⟨g, cap, cur, hv, hg, r⟩
  · exact .inl h2
  · exact .inr ⟨g, cap, cur, hv, by omega, r⟩
theorem row_shape {w : World} {base e size : Nat} {v : Value} {n : Nat} {xs : List Value} (h : w.ownsRow base e size v n xs) : ∃ a c, v = .slice a n c := by
  rcases h.2 with ⟨rfl, rfl⟩ | ⟨g, cap, cur, rfl, _⟩
  · exact ⟨_, _, rfl⟩
  · exact ⟨_, _, rfl⟩
/-- A row of type t of one's own grows: nothing else turns. -/
theorem grown_ne {w1 w2 : World} {o' : Obj} {base e size n : Nat} {v : Value} {xs : List Value} (hown : w1.ownsRow base e size v n xs) (hg : (w1.alloc o').grownBy w2 v.ownBlock) : ∀ (b : Nat) (cs : Array Value) (t : TypeId), t ≠ e → w1.heap[b]? = some (.cells cs t (0, 0)) → w2.heap[b]? = w1.heap[b]? := fun b cs t ht hb => by
  rw [hg.block b (by have := lt_of_heap hb; simp; omega) fun he => by
    obtain ⟨cs', h'⟩ := own_type hown he.symm
    rw [hb] at h'
    injection h' with h'
    injection h' with _ h'
    exact ht h', Below.heap_alloc _ _ _ (lt_of_heap hb)]
theorem fill9n {w : World} {g : Nat} {t : TypeId} {z0 z1 z2 z3 z4 z5 z6 z7 z8 : Value} (h : w.heap[g]? = some (.cells #[z0, z1, z2, z3, z4, z5, z6, z7, z8] t (0, 0))) (v0 v1 v2 v3 v4 v5 v6 v7 v8 : Value) : (((((((((w.setCell ⟨g, 0, none⟩ v0).setCell ⟨g, 1, none⟩ v1).setCell ⟨g, 2, none⟩ v2).setCell ⟨g, 3, none⟩ v3).setCell ⟨g, 4, none⟩ v4).setCell ⟨g, 5, none⟩ v5).setCell ⟨g, 6, none⟩ v6).setCell ⟨g, 7, none⟩ v7).setCell ⟨g, 8, none⟩ v8).heap[g]? = some (.cells #[v0, v1, v2, v3, v4, v5, v6, v7, v8] t (0, 0)) := by
  have h0 := heap_set (j := 0) h v0
  rw [show (#[z0, z1, z2, z3, z4, z5, z6, z7, z8] : Array Value).setIfInBounds 0 v0 = #[v0, z1, z2, z3, z4, z5, z6, z7, z8] from rfl] at h0
  have h1 := heap_set (j := 1) h0 v1
  rw [show (#[v0, z1, z2, z3, z4, z5, z6, z7, z8] : Array Value).setIfInBounds 1 v1 = #[v0, v1, z2, z3, z4, z5, z6, z7, z8] from rfl] at h1
  have h2 := heap_set (j := 2) h1 v2
  rw [show (#[v0, v1, z2, z3, z4, z5, z6, z7, z8] : Array Value).setIfInBounds 2 v2 = #[v0, v1, v2, z3, z4, z5, z6, z7, z8] from rfl] at h2
  have h3 := heap_set (j := 3) h2 v3
  rw [show (#[v0, v1, v2, z3, z4, z5, z6, z7, z8] : Array Value).setIfInBounds 3 v3 = #[v0, v1, v2, v3, z4, z5, z6, z7, z8] from rfl] at h3
  have h4 := heap_set (j := 4) h3 v4
  rw [show (#[v0, v1, v2, v3, z4, z5, z6, z7, z8] : Array Value).setIfInBounds 4 v4 = #[v0, v1, v2, v3, v4, z5, z6, z7, z8] from rfl] at h4
  have h5 := heap_set (j := 5) h4 v5
  rw [show (#[v0, v1, v2, v3, v4, z5, z6, z7, z8] : Array Value).setIfInBounds 5 v5 = #[v0, v1, v2, v3, v4, v5, z6, z7, z8] from rfl] at h5
  have h6 := heap_set (j := 6) h5 v6
  rw [show (#[v0, v1, v2, v3, v4, v5, z6, z7, z8] : Array Value).setIfInBounds 6 v6 = #[v0, v1, v2, v3, v4, v5, v6, z7, z8] from rfl] at h6
  have h7 := heap_set (j := 7) h6 v7
  rw [show (#[v0, v1, v2, v3, v4, v5, v6, z7, z8] : Array Value).setIfInBounds 7 v7 = #[v0, v1, v2, v3, v4, v5, v6, v7, z8] from rfl] at h7
  have h8 := heap_set (j := 8) h7 v8
  rw [show (#[v0, v1, v2, v3, v4, v5, v6, v7, z8] : Array Value).setIfInBounds 8 v8 = #[v0, v1, v2, v3, v4, v5, v6, v7, v8] from rfl] at h8
  exact h8
theorem below9 {B g : Nat} {a w : World} (h : Below B a w) (hg : B ≤ g) (v0 v1 v2 v3 v4 v5 v6 v7 v8 : Value) : Below B a (((((((((w.setCell ⟨g, 0, none⟩ v0).setCell ⟨g, 1, none⟩ v1).setCell ⟨g, 2, none⟩ v2).setCell ⟨g, 3, none⟩ v3).setCell ⟨g, 4, none⟩ v4).setCell ⟨g, 5, none⟩ v5).setCell ⟨g, 6, none⟩ v6).setCell ⟨g, 7, none⟩ v7).setCell ⟨g, 8, none⟩ v8) := ((((((((h.setCell hg _).setCell hg _).setCell hg _).setCell hg _).setCell hg _).setCell hg _).setCell hg _).setCell hg _).setCell hg _
theorem other9 {w : World} {g k : Nat} (hk : k ≠ g) (v0 v1 v2 v3 v4 v5 v6 v7 v8 : Value) : (((((((((w.setCell ⟨g, 0, none⟩ v0).setCell ⟨g, 1, none⟩ v1).setCell ⟨g, 2, none⟩ v2).setCell ⟨g, 3, none⟩ v3).setCell ⟨g, 4, none⟩ v4).setCell ⟨g, 5, none⟩ v5).setCell ⟨g, 6, none⟩ v6).setCell ⟨g, 7, none⟩ v7).setCell ⟨g, 8, none⟩ v8).heap[k]? = w.heap[k]? := by
  rw [Below.heap_setCell _ _ _ _ hk, Below.heap_setCell _ _ _ _ hk, Below.heap_setCell _ _ _ _ hk, Below.heap_setCell _ _ _ _ hk, Below.heap_setCell _ _ _ _ hk, Below.heap_setCell _ _ _ _ hk, Below.heap_setCell _ _ _ _ hk, Below.heap_setCell _ _ _ _ hk, Below.heap_setCell _ _ _ _ hk]
theorem drew_heap (w : World) : w.drew.heap = w.heap := rfl
/-- A box of one's own: whatever is laid into it. -/
theorem box_sets {w1 : World} {z cs : List Value} {t : TypeId} (hz : cs.length = z.length) (hc : ∀ j (hj : j < cs.length), ((w1.alloc (.cells z.toArray t)).setCells w1.heap.size 0 cs).cell? ⟨w1.heap.size, j, none⟩ = some cs[j]) : ((w1.alloc (.cells z.toArray t)).setCells w1.heap.size 0 cs).heap[w1.heap.size]? = some (.cells cs.toArray t (0, 0)) := by
  have key : ∀ (vs : List Value) (o : Nat) (w : World) (ds : Array Value), w.heap[w1.heap.size]? = some (.cells ds t (0, 0)) → ∃ ds' : Array Value, (w.setCells w1.heap.size o vs).heap[w1.heap.size]? = some (.cells ds' t (0, 0)) ∧ ds'.size = ds.size := by
    intro vs
    induction vs with
    | nil => intro o w ds h; exact ⟨ds, h, rfl⟩
    | cons v r ih =>
      intro o w ds h
      obtain ⟨d', h1, h2⟩ := ih (o + 1) (w.setCell ⟨w1.heap.size, o, none⟩ v) _ (heap_set h v)
      exact ⟨d', h1, by simpa using h2⟩
  obtain ⟨ds, hds, hl⟩ := key cs 0 _ z.toArray (heap_new w1 _)
  rw [hds]
  have : ds = cs.toArray := by
    apply Array.ext
    · simp at hl ⊢; omega
    · intro j h1 h2
      have e := hc j (by simpa using h2)
      rw [cell_of hds, Array.getElem?_eq_getElem h1] at e
      simpa using e
  rw [this]
theorem cells3_new (w : World) (t : TypeId) (cs : List Value) : ∀ j u, cs[j]? = some u → (w.alloc (.cells cs.toArray t)).cell? ((⟨w.heap.size, 0, none⟩ : Addr).add j) = some u := fun j u hj => by
  rw [Addr.add_lit, Nat.zero_add, cell_of (heap_new w _)]
  simpa using hj
theorem size_set (w : World) (p : Addr) (v : Value) : (w.setCell p v).heap.size = w.heap.size := by simp
theorem below2 (w : World) (o1 o2 : Obj) : Below w.heap.size w ((w.alloc o1).alloc o2) := (below_alloc w o1).alloc (by simp) _
end Go.Proofs.YtcojglkjbbgoaaaDoor
