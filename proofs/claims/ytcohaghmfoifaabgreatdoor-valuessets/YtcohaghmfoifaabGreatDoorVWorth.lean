/- worth: a closed fact. -/
import Derived.Test.YtcohaghmfoifaabGreatDoorVDotsW
namespace Go.Proofs.YtcohaghmfoifaabGreatDoor
open Go.RowKit Go.Sort Go.Maps
set_option maxRecDepth 100000

/-- The order, if it is known, is the one. -/
theorem isOps_eq {key : ByteArray} {l : List ComV} {ds ys : List Dn} (h : IsOps key l ds) (hy : InOrder key l ys) : ds = ofKind ys := by
  obtain ⟨zs, hz, rfl⟩ := h
  rw [inOrder_unique hz hy]

def worthOp : OpV := ⟨0, ⟨#[107]⟩, 1, ⟨#[120]⟩, 0, false, []⟩
def worthL : List ComV := [⟨[1], 0, [worthOp]⟩]
theorem worth_bad : ∀ i, i < worthL.length → listBad worthL i = 0 := by
  intro i hi
  obtain rfl : i = 0 := by simpa [worthL] using hi
  kernel_rfl
theorem worth_once : (onceA worthL).filter (fun x => decide (x.o.key = ⟨#[107]⟩)) = [⟨worthOp, ⟨0, 1, 0⟩, 1⟩] := by rfl
theorem worth_val {ds : List Dn} (h : IsOps ⟨#[107]⟩ worthL ds) : valA ds = ⟨1, ⟨#[120]⟩, 0, []⟩ := by
  rw [isOps_eq h (ys := [⟨worthOp, ⟨0, 1, 0⟩, 1⟩]) ⟨by rw [worth_once], List.pairwise_singleton _ _⟩]
  rfl
theorem rowAt_lit {w : World} {k : Nat} {b : Nat} {cs : List Value} {t : TypeId} {m c : Nat} (hb : w.heap[b]? = some (.cells cs.toArray t (0, 0))) (rows : List (List Value)) (hcs : cs = rows.flatten) (hk : ∀ r ∈ rows, r.length = k) (hm : m = rows.length) (hc : m ≤ c) : RowAt k w (.slice (some ⟨b, 0, none⟩) m c) rows := by
  subst hm hcs
  refine ⟨_, c, rfl, (fun h => by cases h), hc, .inr ⟨b, 0, rfl, fun j r hr => ?_⟩⟩
  have hj : j < rows.length := (List.getElem?_eq_some_iff.1 hr).1
  have hrm : r ∈ rows := List.mem_of_getElem? hr
  refine ⟨hk r hrm, fun i u hu => ?_⟩
  have hi : i < k := by have := (List.getElem?_eq_some_iff.1 hu).1; rw [hk r hrm] at this; exact this
  have hfl : ∀ (rows : List (List Value)) (j : Nat) (r : List Value), (∀ r ∈ rows, r.length = k) → rows[j]? = some r → ∀ i u, i < k → r[i]? = some u → rows.flatten[j * k + i]? = some u := by
    intro rows
    induction rows with
    | nil => intro j r _ h; simp at h
    | cons x rest ih =>
      intro j r hk h i u hi hu
      have hx := hk x (List.mem_cons_self ..)
      rw [List.flatten_cons]
      cases j with
      | zero =>
        simp at h
        subst h
        rw [List.getElem?_append_left (by omega), Nat.zero_mul, Nat.zero_add]
        exact hu
      | succ j =>
        rw [List.getElem?_append_right (by rw [hx, Nat.add_mul]; omega), hx, show (j + 1) * k + i - k = j * k + i by rw [Nat.add_mul]; omega]
        exact ih j r (fun r hr => hk r (List.mem_cons_of_mem _ hr)) (by simpa using h) i u hi hu
  have := hfl rows j r hk hr i u hi hu
  simp only [World.cell?, hb, Nat.zero_add]
  rw [List.getElem?_toArray, this]
  simp
theorem ints_lit {w : World} {b : Nat} {zs : List Int} {t : TypeId} {m c : Nat} (hb : w.heap[b]? = some (.cells (zs.map (Value.int .i64)).toArray t (0, 0))) (hm : m = zs.length) : IntsAt w (.slice (some ⟨b, 0, none⟩) m c) zs := by
  subst hm
  refine ⟨_, c, rfl, (fun h => by cases h), .inr ⟨b, 0, rfl, fun j hj => ?_⟩⟩
  simp only [World.cell?, hb, Nat.zero_add]
  rw [List.getElem?_toArray, List.getElem?_map, List.getElem?_eq_getElem hj]
  simp [List.getD_eq_getElem?_getD, List.getElem?_eq_getElem hj]

set_option maxHeartbeats 2000000 in
theorem worth_true (A : Nat → Addr) (w : World) (hE : E4 A w) (h4 : 4 ≤ w.heap.size) : Calls Tryz.prog 8 #[] w fun e w' => e = .returned (.bool true) ∧ Below w.heap.size w w' := by
  obtain ⟨w3, hw3⟩ : ∃ w3, w3 = ((w.alloc (.cells #[.int .i64 1] 3)).alloc (.cells #[.int .i64 0, .string ⟨#[107]⟩, .int .i64 1, .string ⟨#[120]⟩, .int .i64 0, .bool false, .slice none 0 0] 24)).alloc (.cells #[.slice (some ⟨w.heap.size, 0, none⟩) 1 1, .int .i64 0, .slice (some ⟨w.heap.size + 1, 0, none⟩) 1 1] 28) := ⟨_, rfl⟩
  have b3 : Below w.heap.size w w3 := by rw [hw3]; exact below3 _ _ _ _
  have r0 : w3.heap[w.heap.size]? = some (.cells #[.int .i64 1] 3 (0, 0)) := by
    rw [hw3, (MapKept.heap_alloc _ _).2 _ (by simp; omega), (MapKept.heap_alloc _ _).2 _ (by simp)]; exact (MapKept.heap_alloc w _).1
  have r1 : w3.heap[w.heap.size + 1]? = some (.cells #[.int .i64 0, .string ⟨#[107]⟩, .int .i64 1, .string ⟨#[120]⟩, .int .i64 0, .bool false, .slice none 0 0] 24 (0, 0)) := by
    have e : w.heap.size + 1 = (w.alloc (.cells #[.int .i64 1] 3)).heap.size := by simp
    rw [hw3, (MapKept.heap_alloc _ _).2 _ (by simp)]
    conv => lhs; rw [e]
    exact (MapKept.heap_alloc _ _).1
  have r2 : w3.heap[w.heap.size + 1 + 1]? = some (.cells #[.slice (some ⟨w.heap.size, 0, none⟩) 1 1, .int .i64 0, .slice (some ⟨w.heap.size + 1, 0, none⟩) 1 1] 28 (0, 0)) := by
    have e : w.heap.size + 1 + 1 = ((w.alloc (.cells #[.int .i64 1] 3)).alloc (.cells #[.int .i64 0, .string ⟨#[107]⟩, .int .i64 1, .string ⟨#[120]⟩, .int .i64 0, .bool false, .slice none 0 0] 24)).heap.size := by simp
    rw [hw3]
    conv => lhs; rw [e]
    exact (MapKept.heap_alloc _ _).1
  have hI : IntsAt w3 (.slice (some ⟨w.heap.size, 0, none⟩) 1 1) [1] := ints_lit (zs := [1]) r0 rfl
  have hO : OpsAt w3 (.slice (some ⟨w.heap.size + 1, 0, none⟩) 1 1) [worthOp] :=
    ⟨[opCells worthOp (.slice none 0 0)], rowAt_lit r1 [opCells worthOp (.slice none 0 0)] rfl (fun r hr => by rw [List.mem_singleton.1 hr]; rfl) rfl (Nat.le_refl _), ⟨⟨_, rfl, dots_nil _⟩, trivial⟩⟩
  have hC : ComsAt w3 (.slice (some ⟨w.heap.size + 1 + 1, 0, none⟩) 1 1) worthL :=
    ⟨[[.slice (some ⟨w.heap.size, 0, none⟩) 1 1, .int .i64 0, .slice (some ⟨w.heap.size + 1, 0, none⟩) 1 1]], rowAt_lit r2 [_] rfl (fun r hr => by rw [List.mem_singleton.1 hr]; rfl) rfl (Nat.le_refl _), ⟨⟨_, _, rfl, hI, hO⟩, trivial⟩⟩
  have K18 := of_ok A w3 (hE.below b3 h4) (by have := b3.size; omega) ⟨#[107]⟩ (by rfl) _ worthL hC (by decide) (fun c hc => by
    rw [List.mem_singleton.1 hc]
    exact ⟨by decide, by decide, fun o ho => by rw [List.mem_singleton.1 ho]; exact ⟨by decide, by decide⟩⟩) worth_bad
  have B3 := hid b3
  clear r0 r1 r2 hI hO hC b3
  go_enter Tryz.func8, Tryz.ntmps8
  go_wp2_with fail
  rw [← hw3]
  clear hw3
  refine K18.mono ?_
  rintro e w4 ⟨v, ds, rfl, hds, hv, hb⟩
  rw [worth_val hds] at hv
  obtain ⟨sv, rfl, ad, cap, rfl, _⟩ := hv
  have HB := hid hb
  clear K18 hds hb
  go_wp2
  go_ret
  exact ⟨rfl, (B3.out.trans (HB.out.mono B3.out.size)).alloc (Nat.le_trans B3.out.size HB.out.size) _⟩
end Go.Proofs.YtcohaghmfoifaabGreatDoor
