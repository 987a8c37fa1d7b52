/- The reference's receiver: its list; what it turns away; The reference's receiver: what is pulled out of its list. -/
import Derived.Test.YtcojglkjbbgoaaaDoorJHF
import Derived.Test.YtcojglkjbbgoaaaDoorJHR
import Derived.Test.YtcojglkjbbgoaaaDoorJSCom
namespace Go.Proofs.YtcojglkjbbgoaaaDoor
open Go.RowKit Go.Maps
set_option maxRecDepth 100000

theorem wrap64 {k : Int} (h : n64 k) : IntKind.i64.wrap k = k := by
  obtain ⟨h1, h2⟩ := h
  simp [IntKind.wrap, IntKind.bits, IntKind.signed]
  omega
/-- The reference's receiver: its box g, its row v of messages. -/
structure Ref (w : World) (g : Nat) (f t s seq time : Int) (v : Value) (L : List Raw) : Prop where
  box : w.heap[g]? = some (.cells #[.int .i64 f, .int .i64 t, .int .i64 s, .int .i64 seq, .int .i64 time, v] 76 (0, 0))
  row : w.ownsRow (g + 1) 58 9 v L.length (raws L)
theorem Ref.moved {w w' : World} {g : Nat} {f t s seq time : Int} {v : Value} {L : List Raw} (h : Ref w g f t s seq time v L) (hb : Below w.heap.size w w') : Ref w' g f t s seq time v L :=
  ⟨by rw [hb.block _ (lt_of_heap h.box)]; exact h.box, owns_at h.row fun k _ h2 => hb.block k h2⟩
set_option maxHeartbeats 2000000 in
theorem ref_shape (w : World) (g : Nat) (f t s seq time : Int) (v : Value) (L : List Raw) (r : Raw) (h : Ref w g f t s seq time v L) (hbe : bearsB f t s r = false) : Calls Tryd.prog 30 #[.pointer (some ⟨g, 0, none⟩), .agg r.cells.toArray] w fun e w' => e = .returned (.tuple #[.slice none 0 0, .int .i64 3]) ∧ Below w.heap.size w w' := by
  obtain ⟨x1, x2, x3, x4, x5, x6, a1, n1, c1, p, a2, n2, c2⟩ := r
  obtain ⟨wa, hwa⟩ : ∃ wa, wa = w.alloc (.cells #[.int .i64 x1, .int .i64 x2, .int .i64 x3, .int .i64 x4, .int .i64 x5, .bool x6, .slice a1 n1 c1, .int .i64 p, .slice a2 n2 c2] 58) := ⟨_, rfl⟩
  have hba : Below w.heap.size w wa := by rw [hwa]; exact below_alloc _ _
  have hX : wa.heap[w.heap.size]? = some (.cells #[.int .i64 x1, .int .i64 x2, .int .i64 x3, .int .i64 x4, .int .i64 x5, .bool x6, .slice a1 n1 c1, .int .i64 p, .slice a2 n2 c2] 58 (0, 0)) := by rw [hwa]; exact heap_new _ _
  have hG := (hba.block _ (lt_of_heap h.box)).trans h.box
  have d0 : wa.cell? ⟨w.heap.size, 0, none⟩ = some (.int .i64 x1) := (cell_of hX).trans rfl
  have d1 : wa.cell? ⟨w.heap.size, 1, none⟩ = some (.int .i64 x2) := (cell_of hX).trans rfl
  have d2 : wa.cell? ⟨w.heap.size, 2, none⟩ = some (.int .i64 x3) := (cell_of hX).trans rfl
  have g0 : wa.cell? ⟨g, 0, none⟩ = some (.int .i64 f) := (cell_of hG).trans rfl
  have g1 : wa.cell? ⟨g, 1, none⟩ = some (.int .i64 t) := (cell_of hG).trans rfl
  have g2 : wa.cell? ⟨g, 2, none⟩ = some (.int .i64 s) := (cell_of hG).trans rfl
  have BA := hid hba
  unfold Raw.cells
  simp only
  unfold bearsB at hbe
  simp only at hbe
  clear h hba hX hG
  by_cases h1 : x1 = f
  · by_cases h2 : x2 = t
    · by_cases h3 : x3 = s
      · exfalso; simp [h1, h2, h3] at hbe
      · subst h1 h2
        have b1 : (x1 != x1) = false := by simp
        have b2 : (x2 != x2) = false := by simp
        have b3 : (x3 != s) = true := by simpa using h3
        clear hbe h3
        go_enter Tryd.func30, Tryd.ntmps30
        go_upto_region 1 with (fail)
        rw [← hwa]
        clear hwa
        go_quiet (fail)
        go_wp2_with fail
        go_ret2
        exact ⟨rfl, below_draws BA.out _⟩
    · subst h1
      have b1 : (x1 != x1) = false := by simp
      have b2 : (x2 != t) = true := by simpa using h2
      clear hbe h2
      go_enter Tryd.func30, Tryd.ntmps30
      go_upto_region 1 with (fail)
      rw [← hwa]
      clear hwa
      go_quiet (fail)
      go_wp2_with fail
      go_ret2
      exact ⟨rfl, below_draws BA.out _⟩
  · have b1 : (x1 != f) = true := by simpa using h1
    clear hbe h1
    go_enter Tryd.func30, Tryd.ntmps30
    go_upto_region 1 with (fail)
    rw [← hwa]
    clear hwa
    go_quiet (fail)
    go_wp2_with fail
    go_ret2
    exact ⟨rfl, below_draws BA.out _⟩
set_option maxHeartbeats 2000000 in
theorem ref_seq (w : World) (g : Nat) (f t s seq time : Int) (v : Value) (L : List Raw) (r : Raw) (h : Ref w g f t s seq time v L) (hbe : bearsB f t s r = true) (hx : r.x4 < 1) : Calls Tryd.prog 30 #[.pointer (some ⟨g, 0, none⟩), .agg r.cells.toArray] w fun e w' => e = .returned (.tuple #[.slice none 0 0, .int .i64 2]) ∧ Below w.heap.size w w' := by
  obtain ⟨x1, x2, x3, x4, x5, x6, a1, n1, c1, p, a2, n2, c2⟩ := r
  simp only at hx
  have hxyz : x1 = f ∧ x2 = t ∧ x3 = s := by
    unfold bearsB at hbe
    simpa using hbe
  obtain ⟨rfl, rfl, rfl⟩ := hxyz
  clear hbe
  obtain ⟨wa, hwa⟩ : ∃ wa, wa = w.alloc (.cells #[.int .i64 x1, .int .i64 x2, .int .i64 x3, .int .i64 x4, .int .i64 x5, .bool x6, .slice a1 n1 c1, .int .i64 p, .slice a2 n2 c2] 58) := ⟨_, rfl⟩
  have hba : Below w.heap.size w wa := by rw [hwa]; exact below_alloc _ _
  have hX : wa.heap[w.heap.size]? = some (.cells #[.int .i64 x1, .int .i64 x2, .int .i64 x3, .int .i64 x4, .int .i64 x5, .bool x6, .slice a1 n1 c1, .int .i64 p, .slice a2 n2 c2] 58 (0, 0)) := by rw [hwa]; exact heap_new _ _
  have HR := hid (h.moved hba)
  have hG := HR.out.box
  have d0 : wa.cell? ⟨w.heap.size, 0, none⟩ = some (.int .i64 x1) := (cell_of hX).trans rfl
  have d1 : wa.cell? ⟨w.heap.size, 1, none⟩ = some (.int .i64 x2) := (cell_of hX).trans rfl
  have d2 : wa.cell? ⟨w.heap.size, 2, none⟩ = some (.int .i64 x3) := (cell_of hX).trans rfl
  have d3 : wa.cell? ⟨w.heap.size, 3, none⟩ = some (.int .i64 x4) := (cell_of hX).trans rfl
  have d4 : wa.cell? ⟨w.heap.size, 4, none⟩ = some (.int .i64 x5) := (cell_of hX).trans rfl
  have g0 : wa.cell? ⟨g, 0, none⟩ = some (.int .i64 x1) := (cell_of hG).trans rfl
  have g1 : wa.cell? ⟨g, 1, none⟩ = some (.int .i64 x2) := (cell_of hG).trans rfl
  have g2 : wa.cell? ⟨g, 2, none⟩ = some (.int .i64 x3) := (cell_of hG).trans rfl
  have g3 : wa.cell? ⟨g, 3, none⟩ = some (.int .i64 seq) := (cell_of hG).trans rfl
  have BA := hid hba
  have HXB := hid hX
  have b1 : (x1 != x1) = false := by simp
  have b2 : (x2 != x2) = false := by simp
  have b3 : (x3 != x3) = false := by simp
  unfold Raw.cells
  simp only
  clear h hba hX hG
  go_enter Tryd.func30, Tryd.ntmps30
  go_upto_region 1 with (fail)
  rw [← hwa]
  clear hwa
  go_quiet (fail)
  generalize hwq : World.drewN _ _ = wq
  have hq : ∀ a, wq.cell? a = wa.cell? a := fun a => by rw [← hwq]; rfl
  have BQ : Hid (Below w.heap.size w wq) := (show Below _ _ _ from by rw [← hwq]; exact below_draws BA.out _)
  have e3 := (hq _).trans d3
  have e4 := (hq _).trans d4
  have f3 := (hq _).trans g3
  have HWQ := hid hwq
  clear hwq hq d0 d1 d2 d3 d4 g0 g1 g2 g3 b1 b2 b3
  go_wp2_with fail
  go_ret2
  exact ⟨rfl, BQ.out⟩
set_option maxHeartbeats 2000000 in
theorem ref_time (w : World) (g : Nat) (f t s seq time : Int) (v : Value) (L : List Raw) (r : Raw) (h : Ref w g f t s seq time v L) (hbe : bearsB f t s r = true) (hx : 1 ≤ r.x4) (ht : timeB r.x5 = false) : Calls Tryd.prog 30 #[.pointer (some ⟨g, 0, none⟩), .agg r.cells.toArray] w fun e w' => e = .returned (.tuple #[.slice none 0 0, .int .i64 2]) ∧ Below w.heap.size w w' := by
  obtain ⟨x1, x2, x3, x4, x5, x6, a1, n1, c1, p, a2, n2, c2⟩ := r
  simp only at hx ht
  have hxyz : x1 = f ∧ x2 = t ∧ x3 = s := by
    unfold bearsB at hbe
    simpa using hbe
  obtain ⟨rfl, rfl, rfl⟩ := hxyz
  clear hbe
  obtain ⟨wa, hwa⟩ : ∃ wa, wa = w.alloc (.cells #[.int .i64 x1, .int .i64 x2, .int .i64 x3, .int .i64 x4, .int .i64 x5, .bool x6, .slice a1 n1 c1, .int .i64 p, .slice a2 n2 c2] 58) := ⟨_, rfl⟩
  have hba : Below w.heap.size w wa := by rw [hwa]; exact below_alloc _ _
  have hX : wa.heap[w.heap.size]? = some (.cells #[.int .i64 x1, .int .i64 x2, .int .i64 x3, .int .i64 x4, .int .i64 x5, .bool x6, .slice a1 n1 c1, .int .i64 p, .slice a2 n2 c2] 58 (0, 0)) := by rw [hwa]; exact heap_new _ _
  have HR := hid (h.moved hba)
  have hG := HR.out.box
  have d0 : wa.cell? ⟨w.heap.size, 0, none⟩ = some (.int .i64 x1) := (cell_of hX).trans rfl
  have d1 : wa.cell? ⟨w.heap.size, 1, none⟩ = some (.int .i64 x2) := (cell_of hX).trans rfl
  have d2 : wa.cell? ⟨w.heap.size, 2, none⟩ = some (.int .i64 x3) := (cell_of hX).trans rfl
  have d3 : wa.cell? ⟨w.heap.size, 3, none⟩ = some (.int .i64 x4) := (cell_of hX).trans rfl
  have d4 : wa.cell? ⟨w.heap.size, 4, none⟩ = some (.int .i64 x5) := (cell_of hX).trans rfl
  have g0 : wa.cell? ⟨g, 0, none⟩ = some (.int .i64 x1) := (cell_of hG).trans rfl
  have g1 : wa.cell? ⟨g, 1, none⟩ = some (.int .i64 x2) := (cell_of hG).trans rfl
  have g2 : wa.cell? ⟨g, 2, none⟩ = some (.int .i64 x3) := (cell_of hG).trans rfl
  have g3 : wa.cell? ⟨g, 3, none⟩ = some (.int .i64 seq) := (cell_of hG).trans rfl
  have BA := hid hba
  have HXB := hid hX
  have b1 : (x1 != x1) = false := by simp
  have b2 : (x2 != x2) = false := by simp
  have b3 : (x3 != x3) = false := by simp
  unfold Raw.cells
  simp only
  clear h hba hX hG
  unfold timeB at ht
  have hx1 : ¬ x4 < 1 := by omega
  clear hx
  by_cases h0 : x5 < 0
  · clear ht
    go_enter Tryd.func30, Tryd.ntmps30
    go_upto_region 1 with (fail)
    rw [← hwa]
    clear hwa
    go_quiet (fail)
    generalize hwq : World.drewN _ _ = wq
    have hq : ∀ a, wq.cell? a = wa.cell? a := fun a => by rw [← hwq]; rfl
    have BQ : Hid (Below w.heap.size w wq) := (show Below _ _ _ from by rw [← hwq]; exact below_draws BA.out _)
    have e3 := (hq _).trans d3
    have e4 := (hq _).trans d4
    have f3 := (hq _).trans g3
    have HWQ := hid hwq
    clear hwq hq d0 d1 d2 d3 d4 g0 g1 g2 g3 b1 b2 b3
    go_wp2_with fail
    go_ret2
    exact ⟨rfl, BQ.out⟩
  · have h1 : 1099511627776 < x5 := by
      rcases Int.lt_or_le 1099511627776 x5 with q | q
      · exact q
      · exfalso
        rw [decide_eq_true (by omega), decide_eq_true q] at ht
        cases ht
    clear ht
    go_enter Tryd.func30, Tryd.ntmps30
    go_upto_region 1 with (fail)
    rw [← hwa]
    clear hwa
    go_quiet (fail)
    generalize hwq : World.drewN _ _ = wq
    have hq : ∀ a, wq.cell? a = wa.cell? a := fun a => by rw [← hwq]; rfl
    have BQ : Hid (Below w.heap.size w wq) := (show Below _ _ _ from by rw [← hwq]; exact below_draws BA.out _)
    have e3 := (hq _).trans d3
    have e4 := (hq _).trans d4
    have f3 := (hq _).trans g3
    have HWQ := hid hwq
    clear hwq hq d0 d1 d2 d3 d4 g0 g1 g2 g3 b1 b2 b3
    go_wp2_with fail
    go_ret2
    exact ⟨rfl, BQ.out⟩
set_option maxHeartbeats 2000000 in
theorem ref_old (w : World) (g : Nat) (f t s seq time : Int) (v : Value) (L : List Raw) (r : Raw) (h : Ref w g f t s seq time v L) (hbe : bearsB f t s r = true) (hx : 1 ≤ r.x4) (ht : timeB r.x5 = true) (hk : r.x4 ≤ seq) : Calls Tryd.prog 30 #[.pointer (some ⟨g, 0, none⟩), .agg r.cells.toArray] w fun e w' => e = .returned (.tuple #[.slice none 0 0, .int .i64 0]) ∧ Below w.heap.size w w' := by
  obtain ⟨x1, x2, x3, x4, x5, x6, a1, n1, c1, p, a2, n2, c2⟩ := r
  simp only at hx ht hk
  have hxyz : x1 = f ∧ x2 = t ∧ x3 = s := by
    unfold bearsB at hbe
    simpa using hbe
  obtain ⟨rfl, rfl, rfl⟩ := hxyz
  clear hbe
  obtain ⟨wa, hwa⟩ : ∃ wa, wa = w.alloc (.cells #[.int .i64 x1, .int .i64 x2, .int .i64 x3, .int .i64 x4, .int .i64 x5, .bool x6, .slice a1 n1 c1, .int .i64 p, .slice a2 n2 c2] 58) := ⟨_, rfl⟩
  have hba : Below w.heap.size w wa := by rw [hwa]; exact below_alloc _ _
  have hX : wa.heap[w.heap.size]? = some (.cells #[.int .i64 x1, .int .i64 x2, .int .i64 x3, .int .i64 x4, .int .i64 x5, .bool x6, .slice a1 n1 c1, .int .i64 p, .slice a2 n2 c2] 58 (0, 0)) := by rw [hwa]; exact heap_new _ _
  have HR := hid (h.moved hba)
  have hG := HR.out.box
  have d0 : wa.cell? ⟨w.heap.size, 0, none⟩ = some (.int .i64 x1) := (cell_of hX).trans rfl
  have d1 : wa.cell? ⟨w.heap.size, 1, none⟩ = some (.int .i64 x2) := (cell_of hX).trans rfl
  have d2 : wa.cell? ⟨w.heap.size, 2, none⟩ = some (.int .i64 x3) := (cell_of hX).trans rfl
  have d3 : wa.cell? ⟨w.heap.size, 3, none⟩ = some (.int .i64 x4) := (cell_of hX).trans rfl
  have d4 : wa.cell? ⟨w.heap.size, 4, none⟩ = some (.int .i64 x5) := (cell_of hX).trans rfl
  have g0 : wa.cell? ⟨g, 0, none⟩ = some (.int .i64 x1) := (cell_of hG).trans rfl
  have g1 : wa.cell? ⟨g, 1, none⟩ = some (.int .i64 x2) := (cell_of hG).trans rfl
  have g2 : wa.cell? ⟨g, 2, none⟩ = some (.int .i64 x3) := (cell_of hG).trans rfl
  have g3 : wa.cell? ⟨g, 3, none⟩ = some (.int .i64 seq) := (cell_of hG).trans rfl
  have BA := hid hba
  have HXB := hid hX
  have b1 : (x1 != x1) = false := by simp
  have b2 : (x2 != x2) = false := by simp
  have b3 : (x3 != x3) = false := by simp
  unfold Raw.cells
  simp only
  clear h hba hX hG
  have ht2 : ¬ x5 < 0 ∧ ¬ 1099511627776 < x5 := by
    unfold timeB at ht
    simp at ht
    omega
  obtain ⟨ht0, ht1⟩ := ht2
  have hx1 : ¬ x4 < 1 := by omega
  clear ht hx
  go_enter Tryd.func30, Tryd.ntmps30
  go_upto_region 1 with (fail)
  rw [← hwa]
  clear hwa
  go_quiet (fail)
  generalize hwq : World.drewN _ _ = wq
  have hq : ∀ a, wq.cell? a = wa.cell? a := fun a => by rw [← hwq]; rfl
  have BQ : Hid (Below w.heap.size w wq) := (show Below _ _ _ from by rw [← hwq]; exact below_draws BA.out _)
  have e3 := (hq _).trans d3
  have e4 := (hq _).trans d4
  have f3 := (hq _).trans g3
  have HWQ := hid hwq
  clear hwq hq d0 d1 d2 d3 d4 g0 g1 g2 g3 b1 b2 b3
  go_wp2_with fail
  go_region
  go_wp2_with fail
  go_ret2
  exact ⟨rfl, BQ.out.drew⟩
set_option maxHeartbeats 2000000 in
theorem ref_far (w : World) (g : Nat) (f t s seq time : Int) (v : Value) (L : List Raw) (r : Raw) (h : Ref w g f t s seq time v L) (hbe : bearsB f t s r = true) (hx : 1 ≤ r.x4) (ht : timeB r.x5 = true) (h0 : 0 ≤ seq) (h1 : seq ≤ 1000) (hk : seq + 1 + 200 < r.x4) : Calls Tryd.prog 30 #[.pointer (some ⟨g, 0, none⟩), .agg r.cells.toArray] w fun e w' => e = .returned (.tuple #[.slice none 0 0, .int .i64 7]) ∧ Below w.heap.size w w' := by
  obtain ⟨x1, x2, x3, x4, x5, x6, a1, n1, c1, p, a2, n2, c2⟩ := r
  simp only at hx ht hk
  have hxyz : x1 = f ∧ x2 = t ∧ x3 = s := by
    unfold bearsB at hbe
    simpa using hbe
  obtain ⟨rfl, rfl, rfl⟩ := hxyz
  clear hbe
  obtain ⟨wa, hwa⟩ : ∃ wa, wa = w.alloc (.cells #[.int .i64 x1, .int .i64 x2, .int .i64 x3, .int .i64 x4, .int .i64 x5, .bool x6, .slice a1 n1 c1, .int .i64 p, .slice a2 n2 c2] 58) := ⟨_, rfl⟩
  have hba : Below w.heap.size w wa := by rw [hwa]; exact below_alloc _ _
  have hX : wa.heap[w.heap.size]? = some (.cells #[.int .i64 x1, .int .i64 x2, .int .i64 x3, .int .i64 x4, .int .i64 x5, .bool x6, .slice a1 n1 c1, .int .i64 p, .slice a2 n2 c2] 58 (0, 0)) := by rw [hwa]; exact heap_new _ _
  have HR := hid (h.moved hba)
  have hG := HR.out.box
  have d0 : wa.cell? ⟨w.heap.size, 0, none⟩ = some (.int .i64 x1) := (cell_of hX).trans rfl
  have d1 : wa.cell? ⟨w.heap.size, 1, none⟩ = some (.int .i64 x2) := (cell_of hX).trans rfl
  have d2 : wa.cell? ⟨w.heap.size, 2, none⟩ = some (.int .i64 x3) := (cell_of hX).trans rfl
  have d3 : wa.cell? ⟨w.heap.size, 3, none⟩ = some (.int .i64 x4) := (cell_of hX).trans rfl
  have d4 : wa.cell? ⟨w.heap.size, 4, none⟩ = some (.int .i64 x5) := (cell_of hX).trans rfl
  have g0 : wa.cell? ⟨g, 0, none⟩ = some (.int .i64 x1) := (cell_of hG).trans rfl
  have g1 : wa.cell? ⟨g, 1, none⟩ = some (.int .i64 x2) := (cell_of hG).trans rfl
  have g2 : wa.cell? ⟨g, 2, none⟩ = some (.int .i64 x3) := (cell_of hG).trans rfl
  have g3 : wa.cell? ⟨g, 3, none⟩ = some (.int .i64 seq) := (cell_of hG).trans rfl
  have BA := hid hba
  have HXB := hid hX
  have b1 : (x1 != x1) = false := by simp
  have b2 : (x2 != x2) = false := by simp
  have b3 : (x3 != x3) = false := by simp
  unfold Raw.cells
  simp only
  clear h hba hX hG
  have ht2 : ¬ x5 < 0 ∧ ¬ 1099511627776 < x5 := by
    unfold timeB at ht
    simp at ht
    omega
  obtain ⟨ht0, ht1⟩ := ht2
  have hx1 : ¬ x4 < 1 := by omega
  clear ht hx
  go_enter Tryd.func30, Tryd.ntmps30
  go_upto_region 1 with (fail)
  rw [← hwa]
  clear hwa
  go_quiet (fail)
  generalize hwq : World.drewN _ _ = wq
  have hq : ∀ a, wq.cell? a = wa.cell? a := fun a => by rw [← hwq]; rfl
  have BQ : Hid (Below w.heap.size w wq) := (show Below _ _ _ from by rw [← hwq]; exact below_draws BA.out _)
  have e3 := (hq _).trans d3
  have e4 := (hq _).trans d4
  have f3 := (hq _).trans g3
  have HWQ := hid hwq
  clear hwq hq d0 d1 d2 d3 d4 g0 g1 g2 g3 b1 b2 b3
  have hk1 : ¬ x4 ≤ seq := by omega
  have wr1 : IntKind.i64.wrap (seq + 1) = seq + 1 := wrap_num ⟨by omega, by omega⟩
  have wr2 : IntKind.i64.wrap (seq + 1 + 200) = seq + 1 + 200 := wrap_num ⟨by omega, by omega⟩
  go_wp2_with fail
  go_region
  go_wp2_with fail
  go_region
  go_wp2_with fail
  go_ret2
  exact ⟨rfl, BQ.out.drew.drew⟩
end Go.Proofs.YtcojglkjbbgoaaaDoor
namespace Go.Proofs.YtcojglkjbbgoaaaDoor
open Go.RowKit Go.Maps
set_option maxRecDepth 100000

/-- The list with the message, once. -/
def putL (L : List Raw) (r : Raw) : List Raw := if L.any (fun q => decide (q.x4 = r.x4)) then L else L ++ [r]
def lastX (time : Int) (out : List Raw) : Int := ((out.getLast?).map Raw.x5).getD time
theorem lastX_snoc (time : Int) (out : List Raw) (q : Raw) : lastX time (out ++ [q]) = q.x5 := by simp [lastX]
/-- out is pulled out of L1, in order; what is next is not there. -/
structure Pulled (seq : Int) (L1 out L' : List Raw) : Prop where
  perm : L1.Perm (out ++ L')
  seqs : ∀ (i : Nat) (q : Raw), out[i]? = some q → q.x4 = seq + ((i + 1 : Nat) : Int)
  next : ∀ q ∈ L', q.x4 ≠ seq + ((out.length + 1 : Nat) : Int)
/-- Inside: out is pulled, Lc is left, the first k of Lc are not next. -/
structure PullI (w : World) (g : Nat) (f t s seq time : Int) (v0 : Value) (L1 : List Raw) (k : Nat) (out Lc : List Raw) (xv vv : Value) (wr : World) : Prop where
  ref : Ref wr g f t s (seq + out.length) (lastX time out) vv Lc
  row : wr.ownsRow w.heap.size 58 9 xv out.length (raws out)
  apart : ∀ b, xv.ownBlock = some b → vv.ownBlock ≠ some b
  perm : L1.Perm (out ++ Lc)
  seqs : ∀ (i : Nat) (q : Raw), out[i]? = some q → q.x4 = seq + ((i + 1 : Nat) : Int)
  scan : ∀ (i : Nat) (q : Raw), i < k → Lc[i]? = some q → q.x4 ≠ seq + ((out.length + 1 : Nat) : Int)
  only : OnlyS g v0 w wr
  vb : ∀ b, vv.ownBlock = some b → v0.ownBlock = some b ∨ w.heap.size ≤ b
  gl : g < w.heap.size
  kl : k ≤ Lc.length
theorem grown_keep {w w' : World} {o : Obj} {x : Option Nat} (h : (w.alloc o).grownBy w' x) : ∀ q, q < w.heap.size → x ≠ some q → w'.heap[q]? = w.heap[q]? := fun q h1 h2 => by
  rw [h.block q (by simp; omega) (by intro e; exact h2 e.symm), Below.heap_alloc _ _ _ h1]
/-- What the next steps read: the box and the row are as they were. -/
theorem PullI.mid {w wr w1 w2 : World} {g : Nat} {f t s seq time : Int} {v0 : Value} {L1 : List Raw} {k : Nat} {out Lc : List Raw} {xv vv : Value} (I : PullI w g f t s seq time v0 L1 k out Lc xv vv wr) (h1 : Below wr.heap.size wr w1) {o' : Obj} (g2 : (w1.alloc o').grownBy w2 xv.ownBlock) :
    w2.heap[g]? = some (.cells #[.int .i64 f, .int .i64 t, .int .i64 s, .int .i64 (seq + out.length), .int .i64 (lastX time out), vv] 76 (0, 0)) ∧ (∀ b, vv.ownBlock = some b → w2.heap[b]? = wr.heap[b]?) ∧ (∀ q, wr.heap.size ≤ q → q < w1.heap.size → w2.heap[q]? = w1.heap[q]?) := by
  have hk := grown_keep g2
  have hgl := lt_of_heap I.ref.box
  have hs := h1.size
  refine ⟨?_, fun b hb => ?_, fun q q1 q2 => ?_⟩
  · rw [hk g (by omega) (fun e => by have := (I.row.lt g e).1; have := I.gl; omega), h1.block g hgl]; exact I.ref.box
  · have hb2 := (I.ref.row.lt b hb).2
    rw [hk b (by omega) (fun e => I.apart b e hb), h1.block b hb2]
  · exact hk q q2 (fun e => by have := (I.row.lt q e).2; omega)
theorem PullI.pulled {w wr w1 w2 w3 w4 w5 : World} {g : Nat} {f t s seq time : Int} {v0 : Value} {L1 : List Raw} {k m : Nat} {out Lc : List Raw} {xv vv xv' v4 v5 : Value} {q : Raw} (I : PullI w g f t s seq time v0 L1 k out Lc xv vv wr) (hq : Lc[k]? = some q) (hx4 : q.x4 = seq + ((out.length + 1 : Nat) : Int))
    (h1 : Below wr.heap.size wr w1) {o' : Obj} (r2 : w2.ownsRow w.heap.size 58 9 xv' (out.length + 1) (raws out ++ q.cells)) (g2 : (w1.alloc o').grownBy w2 xv.ownBlock)
    (h3 : w3 = (w2.setCell ⟨g, 3, none⟩ (.int .i64 q.x4)).setCell ⟨g, 4, none⟩ (.int .i64 q.x5))
    (r4 : w4.ownsRow w3.heap.size 58 9 v4 k (raws (Lc.take k))) (g4 : w3.grownBy w4 none)
    (r5 : w5.ownsRow w3.heap.size 58 9 v5 m (raws (Lc.take k) ++ raws (Lc.drop (k + 1)))) (g5 : w4.grownBy w5 v4.ownBlock) :
    (w5.cell? ⟨g, 5, none⟩ = some vv ∧ w5.frozen? ⟨g, 5, none⟩ = false) ∧ PullI w g f t s seq time v0 L1 0 (out ++ [q]) (Lc.take k ++ Lc.drop (k + 1)) xv' v5 (w5.setCell ⟨g, 5, none⟩ v5) := by
  obtain ⟨hbox, hrow, _⟩ := I.mid h1 g2
  have hk2 := grown_keep g2
  have hgl := I.gl
  have hs0 := I.only.size
  have hs1 := h1.size
  have hs2 := g2.size
  have hs3 : w3.heap.size = w2.heap.size := by rw [h3, size_set, size_set]
  have hs4 := g4.size
  have hs5 := g5.size
  simp at hs2
  have hkl := (List.getElem?_eq_some_iff.1 hq).1
  have hm : m = Lc.length - 1 := by
    have := r5.1
    rw [List.length_append, raws_len, raws_len, List.length_take, List.length_drop] at this
    omega
  have k3 : ∀ b, b ≠ g → w3.heap[b]? = w2.heap[b]? := fun b hb => by rw [h3, Below.heap_setCell _ _ _ _ hb, Below.heap_setCell _ _ _ _ hb]
  have k4 : ∀ b, b < w3.heap.size → w4.heap[b]? = w3.heap[b]? := fun b hb => g4.block b hb (by simp)
  have k5 : ∀ b, b < w3.heap.size → w5.heap[b]? = w4.heap[b]? := fun b hb => g5.block b (by omega) (fun e => by have := (r4.lt b e.symm).1; omega)
  have b3 : w3.heap[g]? = some (.cells #[.int .i64 f, .int .i64 t, .int .i64 s, .int .i64 q.x4, .int .i64 q.x5, vv] 76 (0, 0)) := by rw [h3, heap_set (heap_set hbox _)]; rfl
  have b5 : w5.heap[g]? = _ := (k5 g (by omega)).trans ((k4 g (by omega)).trans b3)
  have low : ∀ b, b < w2.heap.size → b ≠ g → (w5.setCell ⟨g, 5, none⟩ v5).heap[b]? = w2.heap[b]? := fun b hb hg => by
    rw [Below.heap_setCell _ _ _ _ hg, k5 b (by omega), k4 b (by omega), k3 b hg]
  have hll : (Lc.take k ++ Lc.drop (k + 1)).length = m := by rw [List.length_append, List.length_take, List.length_drop]; omega
  have hsz : (w5.setCell ⟨g, 5, none⟩ v5).heap.size = w5.heap.size := size_set ..
  refine ⟨⟨(cell_of b5).trans rfl, free_of b5⟩, ⟨?_, ?_⟩, ?_, fun b hb hv => ?_, ?_, fun i x hi => ?_, fun i x hi => by omega, ⟨?_, ?_, ?_, ?_, fun b hb hg hv => ?_⟩, fun b hb => .inr ?_, hgl, Nat.zero_le _⟩
  · rw [heap_set b5, lastX_snoc, List.length_append, hx4]; rfl
  · rw [hll, raws_append]
    exact owns_base (owns_at r5 fun b hb _ => Below.heap_setCell _ _ _ _ (by show b ≠ g; omega)) (by omega)
  · rw [List.length_append, raws_snoc]
    refine owns_own r2 fun b hb => low b (r2.lt b hb).2 ?_
    have := (r2.lt b hb).1
    omega
  · have e1 := (r2.lt b hb).2
    have e2 := (r5.lt b hv).1
    omega
  · refine I.perm.trans ?_
    have e : Lc = Lc.take k ++ q :: Lc.drop (k + 1) := by
      rw [← (List.getElem?_eq_some_iff.1 hq).2, ← List.drop_eq_getElem_cons hkl, List.take_append_drop]
    have p1 : (out ++ Lc).Perm (out ++ (q :: (Lc.take k ++ Lc.drop (k + 1)))) := by
      refine List.Perm.append_left out ?_
      conv => lhs; rw [e]
      exact List.perm_middle
    refine p1.trans ?_
    rw [List.append_assoc]
    exact List.Perm.refl _
  · by_cases h : i < out.length
    · rw [List.getElem?_append_left h] at hi
      exact I.seqs i x hi
    · rw [List.getElem?_append_right (by omega)] at hi
      have h0 : i - out.length = 0 := by
        have := (List.getElem?_eq_some_iff.1 hi).1
        simp at this
        omega
      rw [h0] at hi
      simp at hi
      subst hi
      rw [hx4, show i = out.length by omega]
  · exact g5.os.trans (g4.os.trans (by rw [h3]; exact g2.os.trans (h1.os.trans I.only.os)))
  · exact g5.tape.trans (g4.tape.trans (by rw [h3]; exact g2.tape.trans (h1.tape.trans I.only.tape)))
  · exact g5.output.trans (g4.output.trans (by rw [h3]; exact g2.output.trans (h1.output.trans I.only.output)))
  · rw [hsz]; omega
  · rw [low b (by omega) hg, hk2 b (by omega) (fun e => by have := (I.row.lt b e).1; omega), h1.block b (by omega)]
    exact I.only.block b hb hg hv
  · have := (r5.lt b hb).1
    omega
end Go.Proofs.YtcojglkjbbgoaaaDoor
