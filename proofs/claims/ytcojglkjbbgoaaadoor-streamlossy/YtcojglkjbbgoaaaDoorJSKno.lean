/- The receiver: its box and its map; NewReceiver, Seq, bears, knows; bears, knows. -/
import Derived.Test.YtcojglkjbbgoaaaDoorJSAck
import Derived.Maps.OwnSet
namespace Go.Proofs.YtcojglkjbbgoaaaDoor
open Go.RowKit Go.Maps
set_option maxRecDepth 100000

/-- What a value of the map reads as: its six plain cells. -/
def six (a b c d e : Int) (g : Bool) : DataW Unit := .agg [.lit (.int .i64 a), .lit (.int .i64 b), .lit (.int .i64 c), .lit (.int .i64 d), .lit (.int .i64 e), .lit (.bool g)]
def bareElem : Value → Option (DataW Unit × List MemPlace)
  | .agg cs => match cs.toList with
    | [.int .i64 a, .int .i64 b, .int .i64 c, .int .i64 d, .int .i64 e, .bool g, .slice none 0 0, .int .i64 0, .slice none 0 0] => some (six a b c d e g, [])
    | _ => none
  | _ => none
def bare9 (a b c d e : Int) (g : Bool) : List Value := [.int .i64 a, .int .i64 b, .int .i64 c, .int .i64 d, .int .i64 e, .bool g, .slice none 0 0, .int .i64 0, .slice none 0 0]
theorem bareElem_mk (a b c d e : Int) (g : Bool) : bareElem (.agg (bare9 a b c d e g).toArray) = some (six a b c d e g, []) := rfl
theorem bareElem_inv {v : Value} {z : DataW Unit × List MemPlace} (h : bareElem v = some z) : ∃ a b c d e g, v = .agg (bare9 a b c d e g).toArray ∧ z = (six a b c d e g, []) := by
  unfold bareElem at h
  split at h
  · rename_i cs
    split at h
    · rename_i a b c d e g hcs
      refine ⟨a, b, c, d, e, g, ?_, (Option.some.inj h).symm⟩
      congr 1
      apply Array.ext'
      rw [hcs]
      rfl
    · cases h
  · cases h
theorem six_inj {a b c d e a' b' c' d' e' : Int} {g g' : Bool} (h : six a b c d e g = six a' b' c' d' e' g') : a = a' ∧ b = b' ∧ c = c' ∧ d = d' ∧ e = e' ∧ g = g' := by
  unfold six at h
  injection h with h
  injection h with h0 h
  injection h with h1 h
  injection h with h2 h
  injection h with h3 h
  injection h with h4 h
  injection h with h5 h
  injection h0 with h0; injection h0 with _ h0
  injection h1 with h1; injection h1 with _ h1
  injection h2 with h2; injection h2 with _ h2
  injection h3 with h3; injection h3 with _ h3
  injection h4 with h4; injection h4 with _ h4
  injection h5 with h5; injection h5 with h5
  exact ⟨h0, h1, h2, h3, h4, h5⟩
theorem keyed3 : Keyed Tryd.prog 3 := int_keyed Tryd.underlying3
/-- A number of a beat. -/
def num (k : Int) : Prop := -2000 ≤ k ∧ k ≤ 2000
theorem num_wf {k : Int} (h : num k) : (Lit.int .i64 k).wf = true := by
  obtain ⟨h1, h2⟩ := h
  have e1 : IntKind.i64.min = -9223372036854775808 := rfl
  have e2 : IntKind.i64.max = 9223372036854775807 := rfl
  simp [Lit.wf, e1, e2]
  omega
theorem key_num {k : Int} (h : num k) : keyOf Tryd.prog 3 (.int .i64 k) = some (.int .i64 k) := keyOf_int_mk Tryd.underlying3 (num_wf h)
theorem key_lit (k : Int) : WideAt.IsKeyLit (Lit.int .i64 k) := trivial
theorem lit_inj {a b : Int} (h : (Lit.int .i64 a) = .int .i64 b) : a = b := by
  injection h
/-- What is kept, by number: its time. -/
def MapB (f t s : Int) (D : DataW Unit) (M : Int → Option Int) : Prop := ∀ k, num k → Maps.has D (.int .i64 k) = (M k).isSome ∧ ∀ z, D.atKey (.int .i64 k) z = ((M k).map fun tm => six f t s k tm true).getD z
def updB (M : Int → Option Int) (k : Int) (x : Option Int) : Int → Option Int := fun j => if j = k then x else M j
theorem MapB.start (f t s : Int) : MapB f t s (.map []) fun _ => none := fun _ _ => ⟨rfl, fun _ => rfl⟩
theorem MapB.put {f t s : Int} {D : DataW Unit} {M : Int → Option Int} (h : MapB f t s D M) (hD : IsMap D) (k tm : Int) : MapB f t s (D.put (.int .i64 k) (six f t s k tm true)) (updB M k (some tm)) := fun j hj => by
  unfold updB
  by_cases q : j = k
  · subst q
    rw [if_pos rfl, has_put_same hD (key_lit _)]
    exact ⟨rfl, fun z => atKey_put_same hD (key_lit _) _ z⟩
  · rw [if_neg q, has_put_other (fun x => q (lit_inj x))]
    exact ⟨(h j hj).1, fun z => by rw [atKey_put_other (fun x => q (lit_inj x))]; exact (h j hj).2 z⟩
theorem MapB.del {f t s : Int} {D : DataW Unit} {M : Int → Option Int} (h : MapB f t s D M) (k : Int) : MapB f t s (D.del (.int .i64 k)) (updB M k none) := fun j hj => by
  unfold updB
  by_cases q : j = k
  · subst q
    rw [if_pos rfl, has_del_same]
    exact ⟨rfl, fun z => atKey_del_same z⟩
  · rw [if_neg q, has_del_other (fun x => q (lit_inj x))]
    exact ⟨(h j hj).1, fun z => by rw [atKey_del_other (fun x => q (lit_inj x))]; exact (h j hj).2 z⟩
/-- A receiver: its box g, its map mb, what is kept. -/
structure Rcv (w : World) (g mb n : Nat) (f t s seq time : Int) (M : Int → Option Int) : Prop where
  box : w.heap[g]? = some (.cells #[.int .i64 f, .int .i64 t, .int .i64 s, .int .i64 seq, .int .i64 time, .map (some mb)] 89 (0, 0))
  map : ∃ D : DataW Unit, w.ownsMap Tryd.prog 3 bareElem mb n D ∧ MapB f t s D M
set_option maxHeartbeats 1000000 in
theorem newReceiver_ok (f t s : Int) (w : World) (h : WayOk f t s) : Calls Tryd.prog 9 #[.int .i64 f, .int .i64 t, .int .i64 s] w fun e w' => ∃ g mb, w.heap.size ≤ g ∧ w.heap.size ≤ mb ∧ g ≠ mb ∧ e = .returned (.tuple #[.pointer (some ⟨g, 0, none⟩), .nilIface]) ∧ Rcv w' g mb 0 f t s 0 0 (fun _ => none) ∧ Below w.heap.size w w' := by
  have K := hid (newWay_ok f t s w h)
  clear h
  have hmm := @run_makeMap Tryd.prog
  go_enter Tryd.func9, Tryd.ntmps9
  go_wp2_with fail
  refine K.out.mono ?_
  rintro e w1 ⟨rfl, hb1⟩
  have B1 := hid hb1
  clear hb1
  go_wp2
  go_ret2
  have hs := B1.out.size
  refine ⟨w1.heap.size + 1 + 1, w1.heap.size + 1, by omega, by omega, by omega, rfl, ⟨?_, .map [], ?_, MapB.start _ _ _⟩, ?_⟩
  · have := heap_new ((w1.alloc (.cells #[.int .i64 f, .int .i64 t, .int .i64 s] 82)).alloc (.map #[] 0)) (.cells #[.int .i64 f, .int .i64 t, .int .i64 s, .int .i64 0, .int .i64 0, .map (some (w1.heap.size + 1))] 89)
    rwa [World.size_alloc, World.size_alloc] at this
  · have := (World.ownsMap_made (w1.alloc (.cells #[.int .i64 f, .int .i64 t, .int .i64 s] 82)) Tryd.prog 3 bareElem).alloc (.cells #[.int .i64 f, .int .i64 t, .int .i64 s, .int .i64 0, .int .i64 0, .map (some (w1.heap.size + 1))] 89)
    rwa [World.size_alloc] at this
  · exact ((B1.out.alloc B1.out.size _).alloc (by simp; omega) _).alloc (by simp; omega) _
theorem rseq_ok (w : World) (g mb n : Nat) (f t s seq time : Int) (M : Int → Option Int) (h : Rcv w g mb n f t s seq time M) : Calls Tryd.prog 13 #[.pointer (some ⟨g, 0, none⟩)] w fun e w' => e = .returned (.int .i64 seq) ∧ w' = w := by
  have c3 : w.cell? ⟨g, 3, none⟩ = some (.int .i64 seq) := (cell_of h.box).trans rfl
  clear h
  go_enter Tryd.func13, Tryd.ntmps13
  go_wp2
  go_ret
  exact ⟨rfl, rfl⟩
end Go.Proofs.YtcojglkjbbgoaaaDoor
namespace Go.Proofs.YtcojglkjbbgoaaaDoor
open Go.RowKit Go.Maps
set_option maxRecDepth 100000

theorem bears_yes (w : World) (f t s seq time : Int) : Calls Tryd.prog 35 #[.agg #[.int .i64 f, .int .i64 t, .int .i64 s], .agg (beat9 f t s seq time).toArray] w fun e w' => e = .returned (.bool true) ∧ Below w.heap.size w w' := by
  unfold beat9
  go_enter Tryd.func35, Tryd.ntmps35
  go_wp2
  go_ret
  exact ⟨rfl, below2 _ _ _⟩
set_option maxHeartbeats 1000000 in
theorem knows_ok (w : World) (g mb n : Nat) (f t s seq time k : Int) (M : Int → Option Int) (h : Rcv w g mb n f t s seq time M) (hk : num k) : Calls Tryd.prog 36 #[.pointer (some ⟨g, 0, none⟩), .int .i64 k] w fun e w' => e = .returned (.bool ((M k).isSome || decide (k ≤ seq))) ∧ Below w.heap.size w w' := by
  have c3 : w.cell? ⟨g, 3, none⟩ = some (.int .i64 seq) := (cell_of h.box).trans rfl
  have c5 : w.cell? ⟨g, 5, none⟩ = some (.map (some mb)) := (cell_of h.box).trans rfl
  obtain ⟨D, hm, hM⟩ := h.map
  have hM := hid hM
  obtain ⟨v, ps, hrun, hv⟩ := hm.look_ok keyed3 Tryd.underlying87 (zero37 _) (bareElem_mk 0 0 0 0 0 false) (key_num hk)
  obtain ⟨y1, y2, y3, y4, y5, y6, rfl, _⟩ := bareElem_inv hv
  rw [(hM.out k hk).1] at hrun
  unfold bare9 at hrun
  clear h hm hv hM
  have hca := fun o => cell_alloc c3 o
  generalize (M k).isSome = bb at hrun ⊢
  cases bb
  all_goals go_enter Tryd.func36, Tryd.ntmps36
  all_goals go_wp2
  all_goals go_ret
  · exact ⟨ret_bool (by simp), below_alloc _ _⟩
  · exact ⟨rfl, below_alloc _ _⟩
end Go.Proofs.YtcojglkjbbgoaaaDoor
