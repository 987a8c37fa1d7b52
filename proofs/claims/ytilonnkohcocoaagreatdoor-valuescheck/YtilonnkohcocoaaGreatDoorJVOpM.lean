/- errors.As with a target of type **api.Fault: an error of errors.New's make is none (false); an api.Fault is one (true, and the target is set); What the listed sentinels give: a predicate that every world of a call keeps; rows of cells in memory; All twelve sentinels and the type's handle: a predicate that every world of a call keeps; cmp.Compare, cmp.Or and compareDots by their contracts; Ops, commits and what is asked of them: plain mathematics. -/
import Derived.Test.YtilonnkohcocoaaGreatDoorJVAsFacts
import Derived.Test.YtilonnkohcocoaaGreatDoorProg
import Derived.WalkKit
import Derived.Deep.Draws
import Derived.Handy
import Derived.Deep.QuietTactic
import Derived.BigQuiet
import Derived.StillTailTactics
import Derived.Sort.Grow
namespace Go.Proofs.YtilonnkohcocoaaGreatDoor
open Go.RowKit Go.Extern.Stop Go.Stop Go.Extern

/-- errors.As(nil, target). -/
theorem as_nil (t : Value) (w : World) :
    Calls Tryz.prog 72 #[.nilIface, t] w fun e w' => e = .returned (.bool false) ∧ w' = w := by
  go_enter Tryz.func72, Tryz.ntmps72
  go_wp2
  go_ret
  exact ⟨rfl, rfl⟩

set_option maxHeartbeats 4000000 in
theorem as_hit (e t : Addr) (old : Value) (w : World) (hg : w.cell? ⟨12, 0, none⟩ = some (.iface 198 (.agg #[.pointer (some ⟨13, 33, none⟩)]))) (ht0 : w.cell? t = some old) (hf0 : w.frozen? t = false) :
    Calls Tryz.prog 72 #[.iface 85 (.pointer (some e)), .iface 123 (.pointer (some t))] w fun ev w' => ev = .returned (.bool true) ∧ w' = ((((w.alloc (.cells #[.pointer (some t)] 123)).alloc (.cells #[.pointer (some ⟨13, 123, none⟩), .pointer (some ⟨w.heap.size, 0, none⟩), .int .u64 150] 159)).alloc (.cells #[.pointer (some ⟨13, 123, none⟩), .pointer (some ⟨w.heap.size, 0, none⟩), .int .u64 150] 159)).alloc (.cells #[.pointer (some e)] 85)).setCell t (.pointer (some e)) := by
  have h46 := @run_callFunc_extern Tryz.prog 105 _ (ent Tryz.f105) Tryz.func105 (by kernel_rfl) (by kernel_rfl) (by kernel_rfl) (by kernel_rfl)
  have h47 := @run_callFunc_extern Tryz.prog 106 _ (ent Tryz.f106) Tryz.func106 (by kernel_rfl) (by kernel_rfl) (by kernel_rfl) (by kernel_rfl)
  have h48 := @run_callFunc_extern Tryz.prog 107 _ (ent Tryz.f107) Tryz.func107 (by kernel_rfl) (by kernel_rfl) (by kernel_rfl) (by kernel_rfl)
  have h118 := @run_callFunc_extern Tryz.prog 199 _ (ent Tryz.f199) Tryz.func199 (by kernel_rfl) (by kernel_rfl) (by kernel_rfl) (by kernel_rfl)
  have h131 := @run_callFunc_extern Tryz.prog 211 _ (ent Tryz.f211) Tryz.func211 (by kernel_rfl) (by kernel_rfl) (by kernel_rfl) (by kernel_rfl)
  have h132 := @run_callFunc_extern Tryz.prog 212 _ (ent Tryz.f212) Tryz.func212 (by kernel_rfl) (by kernel_rfl) (by kernel_rfl) (by kernel_rfl)
  have h50 := @run_callFunc_extern Tryz.prog 109 _ (ent Tryz.f109) Tryz.func109 (by kernel_rfl) (by kernel_rfl) (by kernel_rfl) (by kernel_rfl)
  have h129 := @run_callFunc_extern Tryz.prog 209 _ (ent Tryz.f209) Tryz.func209 (by kernel_rfl) (by kernel_rfl) (by kernel_rfl) (by kernel_rfl)
  have h62 := @run_callFunc_extern Tryz.prog 136 _ (ent Tryz.f136) Tryz.func136 (by kernel_rfl) (by kernel_rfl) (by kernel_rfl) (by kernel_rfl)
  have h63 := @run_callFunc_extern Tryz.prog 137 _ (ent Tryz.f137) Tryz.func137 (by kernel_rfl) (by kernel_rfl) (by kernel_rfl) (by kernel_rfl)
  have q0 := Tryz.valueOf123
  have q1 := Tryz.valueOf85
  have q2 := Tryz.type123
  have q3 := Tryz.methodKind
  have q4 := Tryz.methodElem
  have q5 := Tryz.methodImplements
  have q6 := Tryz.methodAssignableTo
  have q7 := Tryz.kind123
  have q8 := Tryz.kind85
  have q9 := Tryz.elem123
  have q10 := Tryz.implements85
  have q11 := Tryz.typeOf85
  have q12 := Tryz.typeOf247
  have q13 := Tryz.assignable85
  have q14 := Tryz.assignable247
  have q15 := Tryz.noAsE
  have q16 := Tryz.noUnwrapE
  have q17 := Tryz.noUnwrapsE
  have n8 := Tryz.isNil123 ⟨w.heap.size, 0, none⟩ t ((w.alloc (.cells #[.pointer (some t)] 123)).alloc (.cells #[.pointer (some ⟨13, 123, none⟩), .pointer (some ⟨w.heap.size, 0, none⟩), .int .u64 150] 159)) (by simp)
  have hlt : 12 < w.heap.size := by
    rcases Nat.lt_or_ge 12 w.heap.size with h | h
    · exact h
    · simp [World.cell?, Array.getElem?_eq_none h] at hg
  have hg2 : ((w.alloc (.cells #[.pointer (some t)] 123)).alloc (.cells #[.pointer (some ⟨13, 123, none⟩), .pointer (some ⟨w.heap.size, 0, none⟩), .int .u64 150] 159)).cell? ⟨12, 0, none⟩ = some (.iface 198 (.agg #[.pointer (some ⟨13, 33, none⟩)])) := by
    rw [World.cell?_alloc_lt _ _ ⟨12, 0, none⟩ (by simp; omega), World.cell?_alloc_lt _ _ ⟨12, 0, none⟩ hlt]; exact hg
  have el := Tryz.elemV123 ⟨w.heap.size, 0, none⟩ t (((w.alloc (.cells #[.pointer (some t)] 123)).alloc (.cells #[.pointer (some ⟨13, 123, none⟩), .pointer (some ⟨w.heap.size, 0, none⟩), .int .u64 150] 159)).alloc (.cells #[.pointer (some ⟨13, 123, none⟩), .pointer (some ⟨w.heap.size, 0, none⟩), .int .u64 150] 159)) (by rw [World.cell?_alloc_lt _ _ ⟨w.heap.size, 0, none⟩ (by simp; omega)]; simp)
  have htl : t.block < w.heap.size := by
    rcases Nat.lt_or_ge t.block w.heap.size with h | h
    · exact h
    · simp [World.cell?, Array.getElem?_eq_none h] at ht0
  have st := Tryz.set85 t ⟨w.heap.size + 1 + 1 + 1, 0, none⟩ e old ((((w.alloc (.cells #[.pointer (some t)] 123)).alloc (.cells #[.pointer (some ⟨13, 123, none⟩), .pointer (some ⟨w.heap.size, 0, none⟩), .int .u64 150] 159)).alloc (.cells #[.pointer (some ⟨13, 123, none⟩), .pointer (some ⟨w.heap.size, 0, none⟩), .int .u64 150] 159)).alloc (.cells #[.pointer (some e)] 85))
    (by rw [World.cell?_alloc_at _ _ _ _ (by simp)]; rfl)
    (by rw [World.cell?_alloc_lt _ _ t (by simp; omega), World.cell?_alloc_lt _ _ t (by simp; omega), World.cell?_alloc_lt _ _ t (by simp; omega), World.cell?_alloc_lt _ _ t htl]; exact ht0)
    (by rw [World.frozen?_alloc_old _ _ t (by simp; omega), World.frozen?_alloc_old _ _ t (by simp; omega), World.frozen?_alloc_old _ _ t (by simp; omega), World.frozen?_alloc_old _ _ t (Nat.ne_of_lt htl)]; exact hf0)
  go_enter Tryz.func72, Tryz.ntmps72
  go_wp2
  refine wp_loop_rounds 1 ?_
  rw [rounds_succ]
  go_wp2
  go_ret
  exact ⟨rfl, rfl⟩

set_option maxHeartbeats 4000000 in
theorem as_miss (e t : Addr) (w : World) (hg : w.cell? ⟨12, 0, none⟩ = some (.iface 198 (.agg #[.pointer (some ⟨13, 33, none⟩)]))) :
    Calls Tryz.prog 72 #[.iface 247 (.pointer (some e)), .iface 123 (.pointer (some t))] w fun ev w' => ev = .returned (.bool false) ∧ w' = ((w.alloc (.cells #[.pointer (some t)] 123)).alloc (.cells #[.pointer (some ⟨13, 123, none⟩), .pointer (some ⟨w.heap.size, 0, none⟩), .int .u64 150] 159)).alloc (.cells #[.pointer (some ⟨13, 123, none⟩), .pointer (some ⟨w.heap.size, 0, none⟩), .int .u64 150] 159) := by
  have h46 := @run_callFunc_extern Tryz.prog 105 _ (ent Tryz.f105) Tryz.func105 (by kernel_rfl) (by kernel_rfl) (by kernel_rfl) (by kernel_rfl)
  have h47 := @run_callFunc_extern Tryz.prog 106 _ (ent Tryz.f106) Tryz.func106 (by kernel_rfl) (by kernel_rfl) (by kernel_rfl) (by kernel_rfl)
  have h48 := @run_callFunc_extern Tryz.prog 107 _ (ent Tryz.f107) Tryz.func107 (by kernel_rfl) (by kernel_rfl) (by kernel_rfl) (by kernel_rfl)
  have h118 := @run_callFunc_extern Tryz.prog 199 _ (ent Tryz.f199) Tryz.func199 (by kernel_rfl) (by kernel_rfl) (by kernel_rfl) (by kernel_rfl)
  have h131 := @run_callFunc_extern Tryz.prog 211 _ (ent Tryz.f211) Tryz.func211 (by kernel_rfl) (by kernel_rfl) (by kernel_rfl) (by kernel_rfl)
  have h132 := @run_callFunc_extern Tryz.prog 212 _ (ent Tryz.f212) Tryz.func212 (by kernel_rfl) (by kernel_rfl) (by kernel_rfl) (by kernel_rfl)
  have h50 := @run_callFunc_extern Tryz.prog 109 _ (ent Tryz.f109) Tryz.func109 (by kernel_rfl) (by kernel_rfl) (by kernel_rfl) (by kernel_rfl)
  have h129 := @run_callFunc_extern Tryz.prog 209 _ (ent Tryz.f209) Tryz.func209 (by kernel_rfl) (by kernel_rfl) (by kernel_rfl) (by kernel_rfl)
  have h62 := @run_callFunc_extern Tryz.prog 136 _ (ent Tryz.f136) Tryz.func136 (by kernel_rfl) (by kernel_rfl) (by kernel_rfl) (by kernel_rfl)
  have h63 := @run_callFunc_extern Tryz.prog 137 _ (ent Tryz.f137) Tryz.func137 (by kernel_rfl) (by kernel_rfl) (by kernel_rfl) (by kernel_rfl)
  have q0 := Tryz.valueOf123
  have q1 := Tryz.valueOf85
  have q2 := Tryz.type123
  have q3 := Tryz.methodKind
  have q4 := Tryz.methodElem
  have q5 := Tryz.methodImplements
  have q6 := Tryz.methodAssignableTo
  have q7 := Tryz.kind123
  have q8 := Tryz.kind85
  have q9 := Tryz.elem123
  have q10 := Tryz.implements85
  have q11 := Tryz.typeOf85
  have q12 := Tryz.typeOf247
  have q13 := Tryz.assignable85
  have q14 := Tryz.assignable247
  have q15 := Tryz.noAsE
  have q16 := Tryz.noUnwrapE
  have q17 := Tryz.noUnwrapsE
  have n8 := Tryz.isNil123 ⟨w.heap.size, 0, none⟩ t ((w.alloc (.cells #[.pointer (some t)] 123)).alloc (.cells #[.pointer (some ⟨13, 123, none⟩), .pointer (some ⟨w.heap.size, 0, none⟩), .int .u64 150] 159)) (by simp)
  have hlt : 12 < w.heap.size := by
    rcases Nat.lt_or_ge 12 w.heap.size with h | h
    · exact h
    · simp [World.cell?, Array.getElem?_eq_none h] at hg
  have hg2 : ((w.alloc (.cells #[.pointer (some t)] 123)).alloc (.cells #[.pointer (some ⟨13, 123, none⟩), .pointer (some ⟨w.heap.size, 0, none⟩), .int .u64 150] 159)).cell? ⟨12, 0, none⟩ = some (.iface 198 (.agg #[.pointer (some ⟨13, 33, none⟩)])) := by
    rw [World.cell?_alloc_lt _ _ ⟨12, 0, none⟩ (by simp; omega), World.cell?_alloc_lt _ _ ⟨12, 0, none⟩ hlt]; exact hg
  go_enter Tryz.func72, Tryz.ntmps72
  go_wp2
  refine wp_loop_rounds 1 ?_
  rw [rounds_succ]
  go_wp2
  go_ret
  exact ⟨rfl, rfl⟩
end Go.Proofs.YtilonnkohcocoaaGreatDoor
namespace Go.Proofs.YtilonnkohcocoaaGreatDoor
open Go.RowKit

theorem hid {p : Prop} (h : p) : Hid p := h

/-- The place among the package variables of the error with this number less one. -/
def gix : Nat → Nat
  | 0 => 6 | 1 => 0 | 2 => 3 | 3 => 1 | 4 => 7 | 5 => 5 | 6 => 8 | 7 => 9 | 8 => 4 | 9 => 10 | 10 => 11 | _ => 2
theorem gix_lt (k : Nat) : gix k < 12 := by unfold gix; split <;> decide

/-- Package api's ErrBound, ErrShape, ErrName and ErrKind are where the program's text lays them. -/
structure E4 (A : Nat → Addr) (w : World) : Prop where
  bound : w.cell? ⟨0, 0, none⟩ = some (.iface 247 (.pointer (some (A 1))))
  shape : w.cell? ⟨3, 0, none⟩ = some (.iface 247 (.pointer (some (A 2))))
  name : w.cell? ⟨1, 0, none⟩ = some (.iface 247 (.pointer (some (A 3))))
  kind : w.cell? ⟨2, 0, none⟩ = some (.iface 247 (.pointer (some (A 11))))
theorem E4.below {A : Nat → Addr} {B : Nat} {w w' : World} (h : E4 A w) (hb : Below B w w') (hB : 4 ≤ B) : E4 A w' :=
  ⟨by rw [hb.cell (p := ⟨0, 0, none⟩) (by show 0 < B; omega)]; exact h.bound, by rw [hb.cell (p := ⟨3, 0, none⟩) (by show 3 < B; omega)]; exact h.shape,
   by rw [hb.cell (p := ⟨1, 0, none⟩) (by show 1 < B; omega)]; exact h.name, by rw [hb.cell (p := ⟨2, 0, none⟩) (by show 2 < B; omega)]; exact h.kind⟩

theorem lt_of_cell {w : World} {p : Addr} {v : Value} (h : w.cell? p = some v) : p.block < w.heap.size := by
  rcases Nat.lt_or_ge p.block w.heap.size with h' | h'
  · exact h'
  · simp [World.cell?, Array.getElem?_eq_none h'] at h
theorem cell_alloc {w : World} {p : Addr} {v : Value} (h : w.cell? p = some v) (o : Obj) : (w.alloc o).cell? p = some v := by
  rw [World.cell?_alloc_lt _ _ p (lt_of_cell h)]; exact h
theorem below_alloc (w : World) (o : Obj) : Below w.heap.size w (w.alloc o) := (Below.refl _ _).alloc (Nat.le_refl _) _
theorem below_draws {B : Nat} {a w : World} (h : Below B a w) (n : Nat) : Below B a (w.drewN n) := h.trans ⟨rfl, rfl, rfl, Nat.le_refl _, fun _ _ => rfl⟩

theorem ret_bool {a b : Bool} (h : a = b) : Ending.returned (.bool a) = .returned (.bool b) := by rw [h]
theorem ret_int {k : IntKind} {a b : Int} (h : a = b) : Ending.returned (.int k a) = .returned (.int k b) := by rw [h]
theorem getD_ext {zs ys : List Int} {n : Nat} (h1 : zs.length = n) (h2 : ys.length = n) (h : ∀ t, t < n → zs.getD t 0 = ys.getD t 0) : zs = ys := by
  refine List.ext_getElem (by omega) fun i a b => ?_
  have := h i (by omega)
  simpa [List.getD_eq_getElem?_getD, List.getElem?_eq_getElem a, List.getElem?_eq_getElem b] using this

/-- The slice v reads, in the world w, as the numbers zs. -/
def IntsAt (w : World) (v : Value) (zs : List Int) : Prop :=
  ∃ ad cap, v = .slice ad zs.length cap ∧ (ad = none → cap = 0) ∧ (zs = [] ∨ ∃ b off, ad = some ⟨b, off, none⟩ ∧ ∀ t, t < zs.length → w.cell? ⟨b, off + t, none⟩ = some (.int .i64 (zs.getD t 0)))
theorem IntsAt.mono {w w' : World} {v : Value} {zs : List Int} {B : Nat} (h : IntsAt w v zs) (hb : Below B w w') (hB : w.heap.size ≤ B) : IntsAt w' v zs := by
  obtain ⟨ad, cap, rfl, hn, h⟩ := h
  refine ⟨ad, cap, rfl, hn, ?_⟩
  rcases h with h | ⟨b, off, rfl, h⟩
  · exact .inl h
  · exact .inr ⟨b, off, rfl, fun t ht => by rw [hb.cell (p := ⟨b, off + t, none⟩) (by have := lt_of_cell (h t ht); simp only at this ⊢; omega)]; exact h t ht⟩
theorem lit_ints (w : World) (cs : Array Value) (t : TypeId) (zs : List Int) (hcs : cs.toList = zs.map (Value.int .i64)) (n m c : Nat) (hn : n = w.heap.size) (hm : m = zs.length) : IntsAt (w.alloc (.cells cs t)) (.slice (some ⟨n, 0, none⟩) m c) zs := by
  subst hm
  refine ⟨_, c, rfl, (fun h => by cases h), .inr ⟨n, 0, rfl, fun j hj => ?_⟩⟩
  rw [World.cell?_alloc_at _ _ _ _ hn, ← Array.getElem?_toList, hcs]
  simp [List.getElem?_map, List.getD_eq_getElem?_getD, List.getElem?_eq_getElem hj]
end Go.Proofs.YtilonnkohcocoaaGreatDoor
namespace Go.Proofs.YtilonnkohcocoaaGreatDoor
open Go.RowKit

structure Sents (A : Nat → Addr) (B : Nat) (w : World) : Prop where
  gl : 13 ≤ B
  size : B ≤ w.heap.size
  cell : ∀ k, k < 12 → w.cell? ⟨gix k, 0, none⟩ = some (.iface 247 (.pointer (some (A k))))
  row : ∀ k, k < 12 → ∃ c t, w.heap[(A k).block]? = some (.cells c t (0, 0))
  lt : ∀ k, k < 12 → (A k).block < B
  ne : ∀ i j, i < 12 → j < 12 → i ≠ j → A i ≠ A j
  handle : w.cell? ⟨12, 0, none⟩ = some (.iface 198 (.agg #[.pointer (some ⟨13, 33, none⟩)]))

theorem Sents.below {A : Nat → Addr} {B : Nat} {w w' : World} (h : Sents A B w) (hb : Below B w w') : Sents A B w' where
  gl := h.gl
  size := Nat.le_trans h.size hb.size
  cell := fun k hk => by rw [hb.cell (p := ⟨gix k, 0, none⟩) (by have := h.gl; have := gix_lt k; show gix k < B; omega)]; exact h.cell k hk
  row := fun k hk => by rw [hb.block _ (h.lt k hk)]; exact h.row k hk
  lt := h.lt
  ne := h.ne
  handle := by rw [hb.cell (p := ⟨12, 0, none⟩) (by have := h.gl; show 12 < B; omega)]; exact h.handle
theorem Sents.e4 {A : Nat → Addr} {B : Nat} {w : World} (h : Sents A B w) : E4 A w := ⟨h.cell 1 (by decide), h.cell 2 (by decide), h.cell 3 (by decide), h.cell 11 (by decide)⟩
/-- What values hands out, and what errors.As reads. -/
structure E5 (A : Nat → Addr) (w : World) : Prop where
  e4 : E4 A w
  handle : w.cell? ⟨12, 0, none⟩ = some (.iface 198 (.agg #[.pointer (some ⟨13, 33, none⟩)]))
theorem E5.size {A : Nat → Addr} {w : World} (h : E5 A w) : 13 ≤ w.heap.size := lt_of_cell h.handle
theorem E5.below {A : Nat → Addr} {B : Nat} {w w' : World} (h : E5 A w) (hb : Below B w w') (hB : 13 ≤ B) : E5 A w' :=
  ⟨h.e4.below hb (by omega), by rw [hb.cell (p := ⟨12, 0, none⟩) (by show 12 < B; omega)]; exact h.handle⟩
theorem Sents.e5 {A : Nat → Addr} {B : Nat} {w : World} (h : Sents A B w) : E5 A w := ⟨h.e4, h.handle⟩
end Go.Proofs.YtilonnkohcocoaaGreatDoor
namespace Go.Proofs.YtilonnkohcocoaaGreatDoor
open Go.RowKit Go.Sort
set_option linter.unusedSectionVars false

/-- A dot. -/
structure D3 where
  p : Int
  t : Int
  a : Int
variable [DecidableEq D3] [Inhabited D3]
def D3.cells (d : D3) : List Value := [.int .i64 d.p, .int .i64 d.t, .int .i64 d.a]

def cmpI (x y : Int) : Int := if x < y then -1 else if y < x then 1 else 0
/-- The first that is not 0. -/
def orI : List Int → Int
  | [] => 0
  | x :: r => if x = 0 then orI r else x
def cmpD (a b : D3) : Int := orI [cmpI a.p b.p, cmpI a.t b.t, cmpI a.a b.a]

theorem isNaN_any (w : World) (x : Int) : Calls Tryz.prog 115 #[.int .i64 x] w fun e w' => e = .returned (.bool false) ∧ w' = w := by
  go_enter Tryz.func115, Tryz.ntmps115
  go_wp2
  go_ret
  exact ⟨rfl, rfl⟩

theorem compare_any (w : World) (x y : Int) : Calls Tryz.prog 83 #[.int .i64 x, .int .i64 y] w fun e w' => e = .returned (.int .i64 (cmpI x y)) ∧ w' = w := by
  by_cases h1 : x < y
  · go_enter Tryz.func83, Tryz.ntmps83
    go_wp2_with (go_at_call 115; refine (isNaN_any _ _).mono ?_; rintro e w' ⟨rfl, rfl⟩)
    go_ret
    exact ⟨ret_int (by unfold cmpI; rw [if_pos h1]), rfl⟩
  · by_cases h2 : y < x
    · go_enter Tryz.func83, Tryz.ntmps83
      go_wp2_with (go_at_call 115; refine (isNaN_any _ _).mono ?_; rintro e w' ⟨rfl, rfl⟩)
      go_ret
      exact ⟨ret_int (by unfold cmpI; rw [if_neg (by omega), if_pos h2]), rfl⟩
    · go_enter Tryz.func83, Tryz.ntmps83
      go_wp2_with (go_at_call 115; refine (isNaN_any _ _).mono ?_; rintro e w' ⟨rfl, rfl⟩)
      go_ret
      exact ⟨ret_int (by unfold cmpI; rw [if_neg (by omega), if_neg (by omega)]), rfl⟩

theorem orI_zeros {zs : List Int} (h : ∀ t, t < zs.length → zs.getD t 0 = 0) : orI zs = 0 := by
  induction zs with
  | nil => rfl
  | cons x r ih =>
    have hx : x = 0 := by simpa using h 0 (by simp)
    unfold orI
    rw [if_pos hx]
    exact ih fun t ht => by simpa using h (t + 1) (by simpa using ht)
theorem orI_first {zs : List Int} {k : Nat} (hk : k < zs.length) (h : ∀ t, t < k → zs.getD t 0 = 0) (hn : zs.getD k 0 ≠ 0) : orI zs = zs.getD k 0 := by
  induction zs generalizing k with
  | nil => simp at hk
  | cons x r ih =>
    unfold orI
    cases k with
    | zero =>
      have hx : x ≠ 0 := by simpa using hn
      rw [if_neg hx]
      simp
    | succ k =>
      have hx : x = 0 := by simpa using h 0 (by omega)
      rw [if_pos hx]
      rw [ih (k := k) (by simpa using hk) (fun t ht => by simpa using h (t + 1) (by omega)) (by simpa using hn)]
      simp

/-- cmp.Or. -/
theorem or_n (w : World) (b n c : Nat) (zs : List Int) (hz : zs.length = n) (hl : n ≤ 1000) (hc : ∀ t, t < n → w.cell? ⟨b, 0 + t, none⟩ = some (.int .i64 (zs.getD t 0))) :
    Calls Tryz.prog 82 #[.slice (some ⟨b, 0, none⟩) n c] w fun e w' => e = .returned (.int .i64 (orI zs)) ∧ w' = w := by
  have HZ := hid hz
  have HC := hid hc
  clear hz hc
  go_enter Tryz.func82, Tryz.ntmps82
  go_wp2
  go_loop [8] (fun i => ∃ k : Nat, k ≤ n ∧ i = .int .i64 k ∧ ∀ t, t < k → zs.getD t 0 = 0) (fun i => n - (intOf i).toNat)
  case atStart => exact ⟨0, Nat.zero_le _, rfl, fun t ht => absurd ht (Nat.not_lt_zero _)⟩
  case round =>
    obtain ⟨k, hk, rfl, hin⟩ := hrel
    have HI := hid hin
    clear hin
    by_cases hlt : k < n
    · have e1 := HC.out k hlt
      rw [Nat.zero_add] at e1
      obtain ⟨z, hzz⟩ : ∃ z, z = zs.getD k 0 := ⟨_, rfl⟩
      rw [← hzz] at e1
      have HZZ := hid hzz
      clear hzz
      by_cases ha : z = 0
      · subst ha
        go_wp2
        go_round
        case rel =>
          refine ⟨k + 1, by omega, by go_num, fun t ht => ?_⟩
          rcases Nat.lt_succ_iff_lt_or_eq.1 ht with h | rfl
          · exact HI.out t h
          · exact HZZ.out.symm
        case measure => simp [intOf]; omega
      · have hb : (z != 0) = true := by simpa using ha
        go_wp2
        go_ret
        exact ⟨ret_int (by rw [orI_first (by have := HZ.out; omega) HI.out (by rw [← HZZ.out]; exact ha), HZZ.out]), rfl⟩
    · obtain rfl : k = n := by omega
      go_wp2
      go_ret
      exact ⟨ret_int (orI_zeros (fun t ht => HI.out t (by have := HZ.out; omega))).symm, rfl⟩

theorem or_row (w : World) (t : TypeId) (zs : List Int) (cs : Array Value) (b n c : Nat) (hb : b = w.heap.size) (hn : n = zs.length) (hcs : cs.toList = zs.map (Value.int .i64)) (hl : n ≤ 1000) :
    Calls Tryz.prog 82 #[.slice (some ⟨b, 0, none⟩) n c] (w.alloc (.cells cs t)).drew fun e w' => e = .returned (.int .i64 (orI zs)) ∧ w' = (w.alloc (.cells cs t)).drew := by
  refine or_n _ b n c zs hn.symm hl fun j hj => ?_
  subst hn
  show (w.alloc (.cells cs t)).cell? _ = _
  rw [World.cell?_alloc_at _ _ _ _ hb, ← Array.getElem?_toList, hcs]
  simp [List.getElem?_map, List.getD_eq_getElem?_getD, List.getElem?_eq_getElem hj]
theorem or_row' (w : World) (t : TypeId) (zs : List Int) (cs : Array Value) (b n c : Nat) (hb : b = w.heap.size) (hn : n = zs.length) (hcs : cs.toList = zs.map (Value.int .i64)) (hl : n ≤ 1000) :
    Calls Tryz.prog 82 #[.slice (some ⟨b, 0, none⟩) n c] (w.alloc (.cells cs t)) fun e w' => e = .returned (.int .i64 (orI zs)) ∧ w' = (w.alloc (.cells cs t)) := by
  refine or_n _ b n c zs hn.symm hl fun j hj => ?_
  subst hn
  show (w.alloc (.cells cs t)).cell? _ = _
  rw [World.cell?_alloc_at _ _ _ _ hb, ← Array.getElem?_toList, hcs]
  simp [List.getElem?_map, List.getD_eq_getElem?_getD, List.getElem?_eq_getElem hj]
end Go.Proofs.YtilonnkohcocoaaGreatDoor
namespace Go.Proofs.YtilonnkohcocoaaGreatDoor
set_option linter.unusedSectionVars false
variable [DecidableEq D3] [Inhabited D3]

/-- An op. -/
structure OpV where
  at_ : Int
  key : ByteArray
  kind : Int
  text : ByteArray
  n : Int
  rem : Bool
  dots : List D3
variable [Inhabited OpV]
/-- A commit. -/
structure ComV where
  when_ : List Int
  place : Int
  ops : List OpV
variable [Inhabited ComV]

def letterB (c : UInt8) : Bool := decide ((97 ≤ c.toNat ∧ c.toNat ≤ 122) ∨ (48 ≤ c.toNat ∧ c.toNat ≤ 57) ∨ c.toNat = 45)
def nameB (s : ByteArray) : Bool := decide (1 ≤ s.size) && (decide (s.size ≤ 16) && s.data.toList.all letterB)
def dotB (n : Int) (d : D3) : Bool := decide (0 ≤ d.p) && (decide (d.p < n) && (decide (1 ≤ d.t) && (decide (d.t ≤ 1099511627776) && (decide (0 ≤ d.a) && decide (d.a < 12)))))
def kindB (k : Int) : Bool := decide (k = 1) || (decide (k = 2) || decide (k = 3))
/-- A field is not zero that the op's kind does not have. -/
def foreignB (o : OpV) : Bool :=
  if o.kind = 1 then !decide (o.n = 0) || (o.rem || decide (0 < o.dots.length))
  else if o.kind = 2 then !decide (o.text = ByteArray.empty) || (o.rem || decide (0 < o.dots.length))
  else !decide (o.n = 0) || (!o.rem && decide (0 < o.dots.length))
/-- The number of the error of an op: 0 none. -/
def opErr (o : OpV) (n : Int) : Nat :=
  if n < 1 ∨ 6 < n ∨ o.at_ < 0 ∨ 12 ≤ o.at_ then 2
  else if nameB o.key = false then 4
  else if kindB o.kind = false then 12
  else if foreignB o = true then 3
  else if 60 < o.text.size ∨ o.n < -1099511627776 ∨ 1099511627776 < o.n ∨ 60 < o.dots.length then 2
  else if o.dots.all (dotB n) = false then 2
  else 0

theorem nameB_false {s : ByteArray} (h : s.size < 1 ∨ 16 < s.size) : nameB s = false := by
  unfold nameB
  rcases h with h | h
  · rw [decide_eq_false (by omega)]; rfl
  · rw [decide_eq_false (p := s.size ≤ 16) (by omega)]; simp
theorem letters_bad {s : ByteArray} {k : Nat} (hk : k < s.size) (h : letterB s[k] = false) : nameB s = false := by
  unfold nameB
  have : s.data.toList.all letterB = false := by
    rw [List.all_eq_false]
    exact ⟨s[k], by
      have : s.data.toList[k]'(by rw [Array.length_toList]; exact hk) = s[k] := rfl
      rw [← this]
      exact List.getElem_mem _, by rw [h]; decide⟩
  rw [this]
  simp
theorem letters_ok {s : ByteArray} (h1 : 1 ≤ s.size) (h2 : s.size ≤ 16) (h : ∀ k (hk : k < s.size), letterB s[k] = true) : nameB s = true := by
  unfold nameB
  rw [decide_eq_true h1, decide_eq_true h2]
  simp only [Bool.true_and, List.all_eq_true]
  intro c hc
  obtain ⟨k, hk, rfl⟩ := List.getElem_of_mem hc
  exact h k (by rw [Array.length_toList] at hk; exact hk)
end Go.Proofs.YtilonnkohcocoaaGreatDoor
