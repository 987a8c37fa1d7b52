/- A message copied; For package versions: New, dotOf, partOf by their contracts; A message copied: the walk; slices.Delete, from the front, of a row of beats of one's own; The receiver: its box and its map; NewReceiver, Seq, bears, knows. -/
import Derived.Test.YtepnghacjggkkaaGreatDoorJHE
import Derived.Deep.Cut
import Derived.Deep.Fields
import Derived.Deep.RegionHeld
import Derived.Deep.RegionHeldLaw
import Derived.Deep.RegionLaw
import Derived.Deep.Slices
import Derived.DeepKeys5
import Derived.Ground.SlsfProg
import Derived.LaidEql
import Derived.LaidHandle
import Derived.LaidLaws
import Derived.LaidSub
import Derived.Laws.AppendOwnNone
import Derived.Laws.MakeOwn
import Derived.Laws.ResultCell
import Derived.Lib.SliceRun
import Derived.Maps.AppendAt
import Derived.Maps.OwnSet
import Derived.OpenShut
import Derived.ProofKit
import Derived.RowKitTokens
import Derived.Shelf.SlGeneric
import Derived.Shelf.SlIter.Nil
import Derived.Shelf.Slices.CompactS
import Derived.Shelf.Slices.In.SortNone
import Derived.Shelf.SlicesE.DeleteFunc
import Derived.Shelf.Sort.Plain
import Derived.Sort.KeysCollected
import Derived.Stop.Asserts
import Derived.Test.YtepnghacjggkkaaGreatDoorChecked
import Derived.Test.YtepnghacjggkkaaGreatDoorProg
import Derived.Test.YtepnghacjggkkaaGreatDoorRows
import Derived.WalkKit
import Derived.Test.YtepnghacjggkkaaGreatDoorJSBase
import Derived.Lib.SlKept
import Derived.Shelf.GgSortFunc.RowK
import Derived.Shelf.SlicesQ.IndexFunc
import Derived.Test.YtepnghacjggkkaaGreatDoorJVLayT
namespace Go.Proofs.YtepnghacjggkkaaGreatDoor
open Go.RowKit
set_option maxRecDepth 100000
set_option linter.unusedSectionVars false
variable [Inhabited ComV] [DecidableEq D3] [Inhabited D3] [Inhabited Dd] [Inhabited Dn] [Inhabited OpV]

theorem flat_set (A B : List (List Value)) (x : List Value) (u : Value) (hA : ∀ y ∈ A, y.length = 7) (hx : x.length = 7) : ((A ++ x :: B).flatten).set (A.length * 7 + 6) u = (A ++ x.set 6 u :: B).flatten := by
  have h1 := flat7_len A hA
  rw [List.flatten_append, List.flatten_append, List.flatten_cons, List.flatten_cons, List.set_append_right _ _ (by omega), List.set_append_left _ _ (by omega), show A.length * 7 + 6 - A.flatten.length = 6 by omega]
structure CpI (w : World) (p : Int) (ws : List Int) (os : List OpV) (n1 n2 : Nat) (a1 : Option Addr) (c1 : Nat) (a2 : Option Addr) (c2 : Nat) (k : Nat) (wr : World) : Prop where
  below : Below w.heap.size w wr
  box : wr.heap[w.heap.size]? = some (.cells #[.slice a1 n1 c1, .int .i64 p, .slice a2 n2 c2] 47 (0, 0))
  res : wr.heap[w.heap.size + 1]? = some (.cells #[.slice none 0 0, .int .i64 0, .slice none 0 0] 47 (0, 0))
  when_ : wr.ownsRow (w.heap.size + 2) 3 1 (.slice a1 n1 c1) n1 (ws.map (Value.int .i64))
  ops : ∃ A B, wr.ownsRow (w.heap.size + 2) 97 7 (.slice a2 n2 c2) n2 (A ++ B).flatten ∧ F2 (OpOwn (w.heap.size + 2) wr) A (os.take k) ∧ F2 (OpRow w) B (os.drop k)
theorem drop_cons {α : Type} {l : List α} {k : Nat} {x : α} (h : l[k]? = some x) : l.drop k = x :: l.drop (k + 1) := by
  obtain ⟨h1, h2⟩ := List.getElem?_eq_some_iff.1 h
  rw [List.drop_eq_getElem_cons h1, h2]
theorem CpI.next {w wr : World} {p : Int} {ws : List Int} {os : List OpV} {n1 n2 : Nat} {a1 a2 : Option Addr} {c1 c2 k : Nat} (h : CpI w p ws os n1 n2 a1 c1 a2 c2 k wr) {o : OpV} (ho : os[k]? = some o) :
    ∃ b dp dc, a2 = some ⟨b, 0, none⟩ ∧ wr.cell? ⟨b, k * 7 + 6, none⟩ = some (.slice dp o.dots.length dc) ∧ (∀ u : World, u.heap[b]? = wr.heap[b]? → u.cell? ⟨b, k * 7 + 6, none⟩ = some (.slice dp o.dots.length dc) ∧ u.frozen? ⟨b, k * 7 + 6, none⟩ = false) ∧ DotsAt w (.slice dp o.dots.length dc) o.dots ∧ w.heap.size + 2 ≤ b ∧ b < wr.heap.size ∧
      ∀ (w1 : World) (a5 : Option Addr) (c5 : Nat), Below wr.heap.size wr w1 → w1.ownsRow wr.heap.size 175 3 (.slice a5 o.dots.length c5) o.dots.length (o.dots.flatMap D3.cells) → CpI w p ws os n1 n2 a1 c1 a2 c2 (k + 1) (w1.setCell ⟨b, k * 7 + 6, none⟩ (.slice a5 o.dots.length c5)) := by
  obtain ⟨A, B, hr, hA, hB⟩ := h.ops
  have hkl : k < os.length := (List.getElem?_eq_some_iff.1 ho).1
  rw [drop_cons ho] at hB
  match B, hB with
  | r :: B, ⟨⟨dv, hrc, hd⟩, hB⟩ =>
    obtain ⟨dp, dc, rfl⟩ := hd.len
    have hAl : A.length = k := by rw [f2_len hA, List.length_take]; omega
    have hBl : B.length = os.length - (k + 1) := by rw [f2_len hB, List.length_drop]
    have hA7 : ∀ y ∈ A, y.length = 7 := rows7 (f2_opRow hA)
    have hB7 : ∀ y ∈ B, y.length = 7 := rows7 hB
    have hr7 : r.length = 7 := by rw [hrc]; rfl
    have hall : ∀ y ∈ A ++ r :: B, y.length = 7 := fun y hy => by
      rcases List.mem_append.1 hy with hy | hy
      · exact hA7 y hy
      · rcases List.mem_cons.1 hy with rfl | hy
        · exact hr7
        · exact hB7 y hy
    have hlen := hr.1
    rw [flat7_len _ hall, List.length_append, List.length_cons, hAl, hBl] at hlen
    have hn2 : n2 = os.length := by omega
    rcases hr.2 with ⟨h1, h0⟩ | ⟨b, cap, cur, hv, hgb, hh, _⟩
    · omega
    · injection hv with hv _ _
      subst hv
      have hblt : b < wr.heap.size := lt_of_heap hh
      have hcell : wr.cell? ⟨b, k * 7 + 6, none⟩ = some (.slice dp o.dots.length dc) := by
        rw [hr.cellAt (k * 7 + 6) (by omega), flat7_at _ k 6 r hall (by rw [List.getElem?_append_right (by omega), hAl, Nat.sub_self]; rfl) (by omega), hrc]
        rfl
      refine ⟨b, dp, dc, rfl, hcell, fun u hu => ⟨?_, ?_⟩, hd, hgb, hblt, fun w1 a5 c5 hb1 hd5 => ?_⟩
      · rw [World.cell?_of_block (w := wr) hu]; exact hcell
      · rw [free_of (hu.trans hh)]
      · have hbk := hb1.block
        have hr1 := owns_at hr fun g _ h2 => hbk g h2
        have hh1 : w1.heap[b]? = _ := (hbk b hblt).trans hh
        have hst := (hr1.stored (k * 7 + 6) (.slice a5 o.dots.length c5)).1
        rw [show k * 7 + 6 = A.length * 7 + 6 by rw [hAl], flat_set A B r _ hA7 hr7] at hst
        rw [hAl] at hst
        have ne : ∀ (t : TypeId) (q : Nat) (cs : Array Value), t ≠ 97 → w1.heap[q]? = some (.cells cs t (0, 0)) → (w1.setCell ⟨b, k * 7 + 6, none⟩ (.slice a5 o.dots.length c5)).heap[q]? = w1.heap[q]? := fun t q cs ht hq => Below.heap_setCell _ _ _ _ fun e => by
          have e' : q = b := e
          rw [e', hh1] at hq
          injection hq with hq
          injection hq with _ hq
          exact ht hq.symm
        have low : ∀ q, q < w.heap.size + 2 → (w1.setCell ⟨b, k * 7 + 6, none⟩ (.slice a5 o.dots.length c5)).heap[q]? = wr.heap[q]? := fun q hq => by
          rw [Below.heap_setCell _ _ _ _ (by show q ≠ b; omega)]
          exact hbk q (by omega)
        refine ⟨⟨hb1.os.trans h.below.os, hb1.tape.trans h.below.tape, hb1.output.trans h.below.output, ?_, fun q hq => (low q (by omega)).trans (h.below.block q hq)⟩, (low _ (by omega)).trans h.box, (low _ (by omega)).trans h.res, ?_, A ++ [opCells o (.slice a5 o.dots.length c5)], B, ?_, ?_, hB⟩
        · have h1 := hb1.size
          have h2 := h.below.size
          rw [show (w1.setCell ⟨b, k * 7 + 6, none⟩ (.slice a5 o.dots.length c5)).heap.size = w1.heap.size by simp]
          omega
        · exact owns_below (owns_at h.when_ fun g _ h2 => hbk g h2) fun q cs hq => ne 3 q cs (by decide) hq
        · rw [List.append_assoc]
          have e : r.set 6 (.slice a5 o.dots.length c5) = opCells o (.slice a5 o.dots.length c5) := by rw [hrc]; rfl
          rw [← e]
          exact hst
        · rw [List.take_succ_eq_append_getElem hkl, (List.getElem?_eq_some_iff.1 ho).2]
          refine f2_append (f2_mono (fun _ _ q => (q.at fun g _ h2 => hbk g h2).kept fun b' cs hc => ne 175 b' cs (by decide) hc) hA) ⟨_, rfl, ?_⟩
          exact owns_below (owns_base hd5 (by have := hb1.size; omega)) fun q cs hq => ne 175 q cs (by decide) hq
end Go.Proofs.YtepnghacjggkkaaGreatDoor
namespace Go.Proofs.YtepnghacjggkkaaGreatDoor
open Go.RowKit Go.Sort Go.Maps
set_option maxRecDepth 100000
set_option linter.unusedSectionVars false
variable [Inhabited ComV] [DecidableEq D3] [Inhabited D3] [Inhabited Dd] [Inhabited Dn] [Inhabited OpV]

theorem ret_cell {f : Func} {s t k : Nat} (hf : f.results = #[ResultVar.cell s t]) (hag : ∀ w, (isAgg t).run Tryz.prog w = .ok true w) (hsz : ∀ w, (sizeOf t).run Tryz.prog w = .ok k w) (w : World) (tmps : Array Value) (g : Nat) (vs : List Value) (hk : vs.length = k) (h4 : tmps[s]?.getD undef = .pointer (some ⟨g, 0, none⟩)) (hc : ∀ j (hj : j < vs.length), w.cell? ⟨g, j, none⟩ = some vs[j]) :
    (results f tmps).run Tryz.prog w = .ok (.agg vs.toArray) w := by
  have hl := run_loadCellsFrom_list Tryz.prog w ⟨g, 0, none⟩ vs k hk (fun j v hj => by
    obtain ⟨h1, h2⟩ := List.getElem?_eq_some_iff.1 hj
    rw [Addr.add_lit, Nat.zero_add, hc j h1, h2])
  simp [results, hf, h4, asAddr, loadVar, loadCells, hag, hsz, hl, Result.andThen]
set_option maxHeartbeats 2000000 in
theorem dotOf_any (w : World) (b1 o1 n c1 p : Nat) (T : Int) (ov : Option Addr) (ol oc : Nat) (x1 : Int) (x2 : ByteArray) (x3 : Int) (x4 : ByteArray) (x5 : Int) (x6 : Bool) (dp : Option Addr) (dl dc : Nat) (hp : p < n) (ct : w.cell? ⟨b1, o1 + p, none⟩ = some (.int .i64 T)) :
    Calls Tryz.prog 95 #[.agg #[.slice (some ⟨b1, o1, none⟩) n c1, .int .i64 p, .slice ov ol oc], .agg #[.int .i64 x1, .string x2, .int .i64 x3, .string x4, .int .i64 x5, .bool x6, .slice dp dl dc]] w fun e w' => e = .returned (.agg #[.int .i64 p, .int .i64 T, .int .i64 x1]) ∧ Below w.heap.size w w' := by
  obtain ⟨w1, hw1⟩ : ∃ w1, w1 = (w.alloc (.cells #[.slice (some ⟨b1, o1, none⟩) n c1, .int .i64 p, .slice ov ol oc] 47)).alloc (.cells #[.int .i64 x1, .string x2, .int .i64 x3, .string x4, .int .i64 x5, .bool x6, .slice dp dl dc] 97) := ⟨_, rfl⟩
  have hs1 : w1.heap.size = w.heap.size + 1 + 1 := by rw [hw1]; simp
  have d0 : w1.cell? ⟨w.heap.size, 0, none⟩ = some (.slice (some ⟨b1, o1, none⟩) n c1) := by rw [hw1]; exact cell_alloc ((World.cell?_alloc_at _ _ _ _ rfl).trans rfl) _
  have d1 : w1.cell? ⟨w.heap.size, 1, none⟩ = some (.int .i64 p) := by rw [hw1]; exact cell_alloc ((World.cell?_alloc_at _ _ _ _ rfl).trans rfl) _
  have e0 : w1.cell? ⟨w.heap.size + 1, 0, none⟩ = some (.int .i64 x1) := by rw [hw1]; exact (World.cell?_alloc_at _ _ _ _ (by simp)).trans rfl
  have t0 : w1.cell? ⟨b1, o1 + p, none⟩ = some (.int .i64 T) := by rw [hw1]; exact cell_alloc (cell_alloc ct _) _
  have B1 : Hid (Below w.heap.size w w1) := by rw [hw1]; exact below2 w _ _
  obtain ⟨w2, hw2⟩ : ∃ w2, w2 = w1.alloc (.cells #[.int .i64 0, .int .i64 0, .int .i64 0] 175) := ⟨_, rfl⟩
  have f0 : w2.cell? ⟨w.heap.size, 0, none⟩ = some (.slice (some ⟨b1, o1, none⟩) n c1) := by rw [hw2]; exact cell_alloc d0 _
  have f1 : w2.cell? ⟨w.heap.size, 1, none⟩ = some (.int .i64 p) := by rw [hw2]; exact cell_alloc d1 _
  have f2 : w2.cell? ⟨w.heap.size + 1, 0, none⟩ = some (.int .i64 x1) := by rw [hw2]; exact cell_alloc e0 _
  have f3 : w2.cell? ⟨b1, o1 + p, none⟩ = some (.int .i64 T) := by rw [hw2]; exact cell_alloc t0 _
  have hbx : w2.heap[w.heap.size + 1 + 1]? = some (.cells #[.int .i64 0, .int .i64 0, .int .i64 0] 175 (0, 0)) := by rw [hw2, ← hs1]; exact (MapKept.heap_alloc _ _).1
  have B2 : Hid (Below w.heap.size w w2) := by rw [hw2]; exact B1.out.alloc B1.out.size _
  go_enter Tryz.func95, Tryz.ntmps95
  go_upto_region 1 with (fail)
  rw [← hw1, ← hw2]
  have g0 : w2.cell? ⟨w.heap.size + 1 + 1, 0, none⟩ = some (.int .i64 0) := by simp only [World.cell?, hbx]; rfl
  have g1 : w2.cell? ⟨w.heap.size + 1 + 1, 1, none⟩ = some (.int .i64 0) := by simp only [World.cell?, hbx]; rfl
  have g2 : w2.cell? ⟨w.heap.size + 1 + 1, 2, none⟩ = some (.int .i64 0) := by simp only [World.cell?, hbx]; rfl
  have r0 : w2.frozen? ⟨w.heap.size + 1 + 1, 0, none⟩ = false := by simp only [World.frozen?, hbx]; simp
  have r1 : w2.frozen? ⟨w.heap.size + 1 + 1, 1, none⟩ = false := by simp only [World.frozen?, hbx]; simp
  have r2 : w2.frozen? ⟨w.heap.size + 1 + 1, 2, none⟩ = false := by simp only [World.frozen?, hbx]; simp
  have hlt := lt_of_cell ct
  have HBX := hid hbx
  clear hw1 hw2 d0 d1 e0 t0 hbx ct hs1
  obtain ⟨g, hg⟩ : ∃ g, g = w.heap.size + 1 + 1 := ⟨_, rfl⟩
  obtain ⟨k, hk⟩ : ∃ k, k = w.heap.size + 1 := ⟨_, rfl⟩
  have n1 : g ≠ w.heap.size := by omega
  have n2 : g ≠ k := by omega
  have n3 : g ≠ b1 := by have : b1 < w.heap.size := hlt; omega
  have hge : w.heap.size ≤ g := by omega
  rw [← hg] at g0 g1 g2 r0 r1 r2 HBX ⊢
  rw [← hk] at f2 ⊢
  clear hg hk hlt
  go_region_held (fun w' => w'.cell? ⟨w.heap.size, 0, none⟩ = some (.slice (some ⟨b1, o1, none⟩) n c1) ∧ w'.cell? ⟨w.heap.size, 1, none⟩ = some (.int .i64 p) ∧ w'.cell? ⟨k, 0, none⟩ = some (.int .i64 x1) ∧ w'.cell? ⟨b1, o1 + p, none⟩ = some (.int .i64 T)) (go_keep) (fail)
  obtain ⟨w3, hw3⟩ : ∃ w3, w3 = (((w2.setCell ⟨g, 0, none⟩ (.int .i64 p)).setCell ⟨g, 1, none⟩ (.int .i64 T)).setCell ⟨g, 2, none⟩ (.int .i64 x1)).drew := ⟨_, rfl⟩
  have hb3 : w3.heap[g]? = some (.cells #[.int .i64 p, .int .i64 T, .int .i64 x1] 175 (0, 0)) := by
    rw [hw3]
    show (((w2.setCell ⟨g, 0, none⟩ (.int .i64 p)).setCell ⟨g, 1, none⟩ (.int .i64 T)).setCell ⟨g, 2, none⟩ (.int .i64 x1)).heap[g]? = _
    rw [heap_set (heap_set (heap_set HBX.out _) _) _]
    rfl
  have B3 : Below w.heap.size w w3 := by
    rw [hw3]
    exact below_draws (((B2.out.setCell hge _).setCell hge _).setCell hge _) 1
  rw [← hw3]
  clear hw3
  go_wp2
  refine bodyPost_ret (ret_cell (k := 3) Tryz.results95 Tryz.isAgg175 Tryz.sizeOf175 _ _ g [.int .i64 p, .int .i64 T, .int .i64 x1] rfl rfl (fun j hj => ?_)) rfl ⟨rfl, B3⟩
  rcases (by simp at hj; omega : j = 0 ∨ j = 1 ∨ j = 2) with rfl | rfl | rfl <;> (simp only [World.cell?, hb3]; rfl)
end Go.Proofs.YtepnghacjggkkaaGreatDoor
namespace Go.Proofs.YtepnghacjggkkaaGreatDoor
open Go.RowKit
set_option maxRecDepth 100000
set_option linter.unusedSectionVars false
variable [Inhabited ComV] [DecidableEq D3] [Inhabited D3] [Inhabited Dd] [Inhabited Dn] [Inhabited OpV]

def CpRet (m : MsgV) (w : World) (e : Ending) (w' : World) : Prop := ∃ r : Raw, e = .returned (.agg r.cells.toArray) ∧ RawOwn w.heap.size w' r m ∧ Below w.heap.size w w'
theorem cp_start {w w1 w2 w3 w4 : World} {p : Int} {ws : List Int} {os : List OpV} {n1 n2 : Nat} {a1 a2 a1' a2' : Option Addr} {c1 c2 c1' c2' : Nat} {rows : List (List Value)}
    (h1 : w1 = (w.alloc (.cells #[.slice a1 n1 c1, .int .i64 p, .slice a2 n2 c2] 47)).alloc (.cells #[.slice none 0 0, .int .i64 0, .slice none 0 0] 47))
    (b2 : Below w1.heap.size w1 w2) (o2 : w2.ownsRow w1.heap.size 3 1 (.slice a1' n1 c1') n1 (ws.map (Value.int .i64))) (h3 : w3 = w2.setCell ⟨w.heap.size, 0, none⟩ (.slice a1' n1 c1'))
    (b4 : Below w3.heap.size w3 w4) (o4 : w4.ownsRow w3.heap.size 97 7 (.slice a2' n2 c2') n2 rows.flatten) (hf : F2 (OpRow w) rows os) :
    CpI w p ws os n1 n2 a1' c1' a2' c2' 0 (w4.setCell ⟨w.heap.size, 2, none⟩ (.slice a2' n2 c2')) := by
  have s1 : w1.heap.size = w.heap.size + 2 := by rw [h1]; simp
  have s3 : w3.heap.size = w2.heap.size := by rw [h3]; simp
  have g2 := b2.size
  have g4 := b4.size
  have e1 : w1.heap[w.heap.size]? = some (.cells #[.slice a1 n1 c1, .int .i64 p, .slice a2 n2 c2] 47 (0, 0)) := by rw [h1]; exact heap_old (heap_new _ _) _
  have f1 : w1.heap[w.heap.size + 1]? = some (.cells #[.slice none 0 0, .int .i64 0, .slice none 0 0] 47 (0, 0)) := by rw [h1]; exact heap_new2 _ _ _
  have e2 : w2.heap[w.heap.size]? = _ := (b2.block _ (by omega)).trans e1
  have e3 : w3.heap[w.heap.size]? = some (.cells #[.slice a1' n1 c1', .int .i64 p, .slice a2 n2 c2] 47 (0, 0)) := by rw [h3, heap_set e2]; rfl
  have e4 : w4.heap[w.heap.size]? = _ := (b4.block _ (by omega)).trans e3
  have low : ∀ q, q ≠ w.heap.size → q < w2.heap.size → (w4.setCell ⟨w.heap.size, 2, none⟩ (.slice a2' n2 c2')).heap[q]? = w2.heap[q]? := fun q hq hl => by
    rw [Below.heap_setCell _ _ _ _ hq, b4.block q (by omega), h3, Below.heap_setCell _ _ _ _ hq]
  refine ⟨⟨?_, ?_, ?_, ?_, fun q hq => ?_⟩, by rw [heap_set e4]; rfl, ?_, ?_, [], rows, ?_, trivial, hf⟩
  · have := b4.os; rw [h3] at this; have t2 := b2.os; rw [h1] at t2; exact this.trans t2
  · have := b4.tape; rw [h3] at this; have t2 := b2.tape; rw [h1] at t2; exact this.trans t2
  · have := b4.output; rw [h3] at this; have t2 := b2.output; rw [h1] at t2; exact this.trans t2
  · rw [show (w4.setCell ⟨w.heap.size, 2, none⟩ (.slice a2' n2 c2')).heap.size = w4.heap.size by simp]; omega
  · rw [low q (by omega) (by omega), b2.block q (by omega), h1, Below.heap_alloc _ _ _ (by simp; omega), Below.heap_alloc _ _ _ hq]
  · rw [low _ (by omega) (by omega), b2.block _ (by omega)]; exact f1
  · exact owns_base (owns_at o2 fun g q1 q2 => low g (by omega) q2) (by omega)
  · exact owns_base (owns_at o4 fun g q1 q2 => Below.heap_setCell _ _ _ _ (by show g ≠ w.heap.size; omega)) (by omega)
set_option maxHeartbeats 4000000 in
theorem copyCommit_raw (w : World) (a1 : Option Addr) (n1 c1 : Nat) (p : Int) (a2 : Option Addr) (n2 c2 : Nat) (ws : List Int) (os : List OpV) (hw : IntsAt w (.slice a1 n1 c1) ws) (ho : OpsAt w (.slice a2 n2 c2) os) (hL : Light ⟨ws, p, os⟩) :
    Calls Tryz.prog 91 #[.agg #[.slice a1 n1 c1, .int .i64 p, .slice a2 n2 c2]] w fun e w' => ∃ b1 d1 b2 d2, e = .returned (.agg #[.slice b1 n1 d1, .int .i64 p, .slice b2 n2 d2]) ∧ ComOwn w.heap.size w' (.slice b1 n1 d1) (.slice b2 n2 d2) ⟨ws, p, os⟩ ∧ Below w.heap.size w w' := by
  have hln : n1 = ws.length := by obtain ⟨_, _, hv, _⟩ := hw; injection hv
  have hlm : n2 = os.length := by obtain ⟨_, _, hv⟩ := ho.len; injection hv
  have hl1 := hL.when_
  have hl2 := hL.ops
  have HLE := hid hL.each
  simp only at hl1 hl2
  obtain ⟨rows, hro, hrf⟩ := ho
  have h7 := rows7 hrf
  have hrl := f2_len hrf
  have SW := hid (src_ints hw)
  have SO := hid (src_ops hro h7)
  rw [← hln] at SW hl1
  rw [hrl, ← hlm] at SO
  rw [← hlm] at hl2
  have O1 := hid (ints_one ws)
  have O2 := hid (rows7_one hrf)
  have HRF := hid hrf
  have HLN := hid hln
  have HLM := hid hlm
  clear hw hro hrf h7 hrl hln hlm hL
  obtain ⟨w1, hw1⟩ : ∃ w1, w1 = (w.alloc (.cells #[.slice a1 n1 c1, .int .i64 p, .slice a2 n2 c2] 47)).alloc (.cells #[.slice none 0 0, .int .i64 0, .slice none 0 0] 47) := ⟨_, rfl⟩
  have s1 : w1.heap.size = w.heap.size + 2 := by rw [hw1]; simp
  have G1 : w1.heap[w.heap.size]? = some (.cells #[.slice a1 n1 c1, .int .i64 p, .slice a2 n2 c2] 47 (0, 0)) := by rw [hw1]; exact heap_old (heap_new _ _) _
  have bw1 : Below w.heap.size w w1 := by rw [hw1]; exact below2S _ _ _
  have KA := hid (clone48 w1 a1 n1 c1 _ (SW.out.moved fun a u hc => by rw [bw1.cell (p := a) (lt_of_cell hc)]; exact hc) O1.out (by omega))
  have p6 : w1.cell? ⟨w.heap.size, 0, none⟩ = some (.slice a1 n1 c1) := (cell_of G1).trans rfl
  have HG1 := hid G1
  have HW1 := hid hw1
  have BW1 := hid bw1
  clear G1 bw1
  go_enter Tryz.func91, Tryz.ntmps91
  go_wp2_with fail
  rw [← hw1]
  clear hw1
  refine KA.out.mono ?_
  rintro e w2 ⟨b1, d1, rfl, ho2, hb2⟩
  have G2 : w2.heap[w.heap.size]? = _ := (hb2.block _ (by omega)).trans HG1.out
  have q6 : w2.cell? ⟨w.heap.size, 0, none⟩ = some (.slice a1 n1 c1) := (cell_of G2).trans rfl
  have z6 : w2.frozen? ⟨w.heap.size, 0, none⟩ = false := free_of G2
  obtain ⟨w3, hw3⟩ : ∃ w3, w3 = w2.setCell ⟨w.heap.size, 0, none⟩ (.slice b1 n1 d1) := ⟨_, rfl⟩
  have G3 : w3.heap[w.heap.size]? = some (.cells #[.slice b1 n1 d1, .int .i64 p, .slice a2 n2 c2] 47 (0, 0)) := by rw [hw3, heap_set G2]; rfl
  have bw3 : Below w.heap.size w w3 := by rw [hw3]; exact (BW1.out.trans (hb2.mono (by omega))).setCell (Nat.le_refl _) _
  have p8 : w3.cell? ⟨w.heap.size, 2, none⟩ = some (.slice a2 n2 c2) := (cell_of G3).trans rfl
  have KB := hid (clone49 w3 a2 n2 c2 _ (SO.out.moved fun a u hc => by rw [bw3.cell (p := a) (lt_of_cell hc)]; exact hc) O2.out (by omega))
  have HW3 := hid hw3
  have O2' := hid ho2
  have B2 := hid hb2
  have HG3 := hid G3
  have hs3 : w.heap.size < w3.heap.size := lt_of_heap G3
  clear G2 G3 ho2 hb2 bw3 p6
  go_upto_region 2 with (fail)
  rw [← hw3]
  clear hw3 q6 z6
  go_wp2_with fail
  refine KB.out.mono ?_
  rintro e w4 ⟨b2, d2, rfl, ho4, hb4⟩
  have G4 : w4.heap[w.heap.size]? = _ := (hb4.block _ hs3).trans HG3.out
  have q8 : w4.cell? ⟨w.heap.size, 2, none⟩ = some (.slice a2 n2 c2) := (cell_of G4).trans rfl
  have z8 : w4.frozen? ⟨w.heap.size, 2, none⟩ = false := free_of G4
  have I0 := hid (cp_start HW1.out B2.out O2'.out HW3.out hb4 ho4 HRF.out)
  obtain ⟨w5, hw5⟩ : ∃ w5, w5 = w4.setCell ⟨w.heap.size, 2, none⟩ (.slice b2 n2 d2) := ⟨_, rfl⟩
  rw [← hw5] at I0
  have v8 : w5.cell? ⟨w.heap.size, 2, none⟩ = some (.slice b2 n2 d2) := (cell_of I0.out.box).trans rfl
  clear G4 ho4 hb4 hs3 p8
  go_upto_region 3 with (fail)
  rw [← hw5]
  clear hw5 q8 z8
  go_upto_region 4 with (fail)
  clear v8
  go_loopw [16] (fun i wr => ∃ k : Nat, k ≤ n2 ∧ i = .int .i64 k ∧ Hid (CpI w p ws os n1 n2 b1 d1 b2 d2 k wr)) (fun i _ => n2 - (intOf i).toNat)
  case atStart => exact ⟨0, Nat.zero_le _, rfl, I0.out⟩
  case round =>
    obtain ⟨k, hk, rfl, HI⟩ := hrel
    by_cases hlt : k < n2
    · obtain ⟨o, hok⟩ : ∃ o, os[k]? = some o := ⟨_, List.getElem?_eq_getElem (by have := HLM.out; omega)⟩
      obtain ⟨b, dp, dc, rfl, hc6, hu6, hdd, hb1, hb2, hnext⟩ := HI.out.next hok
      have hdl := (HLE.out o (List.mem_of_getElem? hok)).2.2
      have r8 : wr.cell? ⟨w.heap.size, 2, none⟩ = some (.slice (some ⟨b, 0, none⟩) n2 d2) := (cell_of HI.out.box).trans rfl
      have KD := hid (clone50 wr dp o.dots.length dc _ (src_dots (hdd.mono HI.out.below (Nat.le_refl _))) (all_dots_one _) (by omega))
      have NX := hid hnext
      have HU := hid hu6
      obtain ⟨nd, hnd⟩ : ∃ nd, nd = o.dots.length := ⟨_, rfl⟩
      rw [← hnd] at KD NX HU hc6
      have hi1 : (k : Int) < (n2 : Int) := by omega
      clear hok hdd hnext hu6 hnd
      go_wp2_with fail
      refine KD.out.mono ?_
      rintro e w6 ⟨b5, d5, rfl, ho6, hb6⟩
      obtain ⟨t6, tz6⟩ := HU.out w6 (hb6.block _ hb2)
      have I7 := hid (NX.out w6 b5 d5 hb6 ho6)
      clear ho6 hb6
      go_wp2_with fail
      exact ⟨⟨k + 1, by omega, by go_num, I7.out⟩, by simp [intOf]; omega⟩
    · obtain rfl : k = n2 := by omega
      have BX := hid HI.out.box
      have r0 : wr.cell? ⟨w.heap.size, 0, none⟩ = some (.slice b1 n1 d1) := (cell_of BX.out).trans rfl
      have r1 : wr.cell? ⟨w.heap.size, 1, none⟩ = some (.int .i64 p) := (cell_of BX.out).trans rfl
      have r2 : wr.cell? ⟨w.heap.size, 2, none⟩ = some (.slice b2 k d2) := (cell_of BX.out).trans rfl
      obtain ⟨wz, STORE, HZ⟩ := store_row HI.out.res [.slice b1 n1 d1, .int .i64 p, .slice b2 k d2] rfl rfl 47 3 rfl Tryz.sizeOf47
      go_wp2_with (refine STORE _ _ _ _ _ (.tmp 2) (.tmp 32) rfl rfl rfl rfl ?_)
      refine bodyPost_ret (ret_cell (k := 3) Tryz.results91 Tryz.isAgg47 Tryz.sizeOf47 _ _ (w.heap.size + 1) [.slice b1 n1 d1, .int .i64 p, .slice b2 k d2] rfl rfl HZ.out.1) rfl ⟨b1, d1, b2, d2, rfl, ?_, by rw [HZ.out.2]; exact below_setCells (by omega) _ _ HI.out.below⟩
      obtain ⟨A, B, q1, q2, q3⟩ := HI.out.ops
      rw [HLM.out, List.drop_length] at q3
      rw [HLM.out, List.take_length] at q2
      obtain rfl : B = [] := List.eq_nil_of_length_eq_zero (f2_len q3)
      rw [List.append_nil] at q1
      have hsf : ∀ g, w.heap.size + 2 ≤ g → g < wr.heap.size → wz.heap[g]? = wr.heap[g]? := fun g g1 _ => by rw [HZ.out.2]; exact setCells_other _ _ _ _ _ (by omega)
      refine ComOwn.base (base := w.heap.size + 2) ⟨?_, A, ?_, ?_⟩ (by omega)
      · show World.ownsRow _ _ _ _ _ _ _
        rw [← HLN.out]
        exact owns_at HI.out.when_ hsf
      · show World.ownsRow _ _ _ _ _ _ _
        rw [← HLM.out]
        exact owns_at q1 hsf
      · exact f2_mono (fun _ _ q => q.at hsf) q2
set_option maxHeartbeats 4000000 in
theorem copy_raw (w : World) (r : Raw) (m : MsgV) (h : RawAt w r m) (hL : Light m.c) : Calls Tryz.prog 65 #[.agg r.cells.toArray] w (CpRet m w) := by
  obtain ⟨x1, x2, x3, x4, x5, x6, a1, n1, c1, p, a2, n2, c2⟩ := r
  obtain ⟨⟨e1, e2, e3, e4, e5, e6, ep⟩, hw, ho⟩ := h
  obtain ⟨y1, y2, y3, y4, y5, y6, ⟨ws, pl, os⟩⟩ := m
  simp only at e1 e2 e3 e4 e5 e6 ep hw ho
  subst e1 e2 e3 e4 e5 e6 ep
  obtain ⟨w1, hw1⟩ : ∃ w1, w1 = (w.alloc (.cells #[.int .i64 x1, .int .i64 x2, .int .i64 x3, .int .i64 x4, .int .i64 x5, .bool x6, .slice a1 n1 c1, .int .i64 p, .slice a2 n2 c2] 74)).alloc (.cells #[.int .i64 0, .int .i64 0, .int .i64 0, .int .i64 0, .int .i64 0, .bool false, .slice none 0 0, .int .i64 0, .slice none 0 0] 74) := ⟨_, rfl⟩
  have s1 : w1.heap.size = w.heap.size + 2 := by rw [hw1]; simp
  have G1 : w1.heap[w.heap.size]? = some (.cells #[.int .i64 x1, .int .i64 x2, .int .i64 x3, .int .i64 x4, .int .i64 x5, .bool x6, .slice a1 n1 c1, .int .i64 p, .slice a2 n2 c2] 74 (0, 0)) := by rw [hw1]; exact heap_old (heap_new _ _) _
  have F1 : w1.heap[w.heap.size + 1]? = some (.cells #[.int .i64 0, .int .i64 0, .int .i64 0, .int .i64 0, .int .i64 0, .bool false, .slice none 0 0, .int .i64 0, .slice none 0 0] 74 (0, 0)) := by rw [hw1]; exact heap_new2 _ _ _
  have bw1 : Below w.heap.size w w1 := by rw [hw1]; exact below2S _ _ _
  have KA := hid (copyCommit_raw w1 a1 n1 c1 p a2 n2 c2 ws os (hw.mono bw1 (Nat.le_refl _)) (ho.mono bw1 (Nat.le_refl _)) hL)
  have HG1 := hid G1
  have HF1 := hid F1
  have BW1 := hid bw1
  have S1 := hid s1
  have p6 : w1.cell? ⟨w.heap.size, 6, none⟩ = some (.slice a1 n1 c1) := (cell_of G1).trans rfl
  have p7 : w1.cell? ⟨w.heap.size, 7, none⟩ = some (.int .i64 p) := (cell_of G1).trans rfl
  have p8 : w1.cell? ⟨w.heap.size, 8, none⟩ = some (.slice a2 n2 c2) := (cell_of G1).trans rfl
  unfold Raw.cells
  simp only
  clear G1 F1 bw1 hw ho hL s1
  go_enter Tryz.func65, Tryz.ntmps65
  go_wp2_with fail
  rw [← hw1]
  clear hw1
  refine KA.out.mono ?_
  rintro e w2 ⟨b1, d1, b2, d2, rfl, ho2, hb2⟩
  have G2 : w2.heap[w.heap.size]? = _ := (hb2.block _ (by have := S1.out; omega)).trans HG1.out
  have F2 : w2.heap[w.heap.size + 1]? = _ := (hb2.block _ (by have := S1.out; omega)).trans HF1.out
  have q6 : w2.cell? ⟨w.heap.size, 6, none⟩ = some (.slice a1 n1 c1) := (cell_of G2).trans rfl
  have q7 : w2.cell? ⟨w.heap.size, 7, none⟩ = some (.int .i64 p) := (cell_of G2).trans rfl
  have q8 : w2.cell? ⟨w.heap.size, 8, none⟩ = some (.slice a2 n2 c2) := (cell_of G2).trans rfl
  have z6 : w2.frozen? ⟨w.heap.size, 6, none⟩ = false := free_of G2
  have z7 : w2.frozen? ⟨w.heap.size, 7, none⟩ = false := free_of G2
  have z8 : w2.frozen? ⟨w.heap.size, 8, none⟩ = false := free_of G2
  obtain ⟨w3, hw3⟩ : ∃ w3, w3 = ((w2.setCell ⟨w.heap.size, 6, none⟩ (.slice b1 n1 d1)).setCell ⟨w.heap.size, 7, none⟩ (.int .i64 p)).setCell ⟨w.heap.size, 8, none⟩ (.slice b2 n2 d2) := ⟨_, rfl⟩
  have G3 : w3.heap[w.heap.size]? = some (.cells #[.int .i64 x1, .int .i64 x2, .int .i64 x3, .int .i64 x4, .int .i64 x5, .bool x6, .slice b1 n1 d1, .int .i64 p, .slice b2 n2 d2] 74 (0, 0)) := by rw [hw3]; exact (heap_set (heap_set (heap_set G2 _) _) _).trans rfl
  have low : ∀ q, q ≠ w.heap.size → w3.heap[q]? = w2.heap[q]? := fun q hq => by rw [hw3, Below.heap_setCell _ _ _ _ hq, Below.heap_setCell _ _ _ _ hq, Below.heap_setCell _ _ _ _ hq]
  have bw3 : Below w.heap.size w w3 := by rw [hw3]; exact (((BW1.out.trans (hb2.mono (by have := S1.out; omega))).setCell (Nat.le_refl _) _).setCell (Nat.le_refl _) _).setCell (Nat.le_refl _) _
  have own3 := hid (ho2.at fun g h1 _ => low g (by have := S1.out; omega))
  have F3 := hid ((low (w.heap.size + 1) (by omega)).trans F2)
  have HG3 := hid G3
  have BW3 := hid bw3
  clear G2 F2 G3 ho2 hb2 bw3 p6 p7 p8 low KA
  go_upto_region 2 with (fail)
  rw [← hw3]
  clear hw3 q6 q7 q8 z6 z7 z8
  have r0 : w3.cell? ⟨w.heap.size, 0, none⟩ = some (.int .i64 x1) := (cell_of HG3.out).trans rfl
  have r1 : w3.cell? ⟨w.heap.size, 1, none⟩ = some (.int .i64 x2) := (cell_of HG3.out).trans rfl
  have r2 : w3.cell? ⟨w.heap.size, 2, none⟩ = some (.int .i64 x3) := (cell_of HG3.out).trans rfl
  have r3 : w3.cell? ⟨w.heap.size, 3, none⟩ = some (.int .i64 x4) := (cell_of HG3.out).trans rfl
  have r4 : w3.cell? ⟨w.heap.size, 4, none⟩ = some (.int .i64 x5) := (cell_of HG3.out).trans rfl
  have r5 : w3.cell? ⟨w.heap.size, 5, none⟩ = some (.bool x6) := (cell_of HG3.out).trans rfl
  have r6 : w3.cell? ⟨w.heap.size, 6, none⟩ = some (.slice b1 n1 d1) := (cell_of HG3.out).trans rfl
  have r7 : w3.cell? ⟨w.heap.size, 7, none⟩ = some (.int .i64 p) := (cell_of HG3.out).trans rfl
  have r8 : w3.cell? ⟨w.heap.size, 8, none⟩ = some (.slice b2 n2 d2) := (cell_of HG3.out).trans rfl
  obtain ⟨wz, STORE, HZ⟩ := store_row F3.out [.int .i64 x1, .int .i64 x2, .int .i64 x3, .int .i64 x4, .int .i64 x5, .bool x6, .slice b1 n1 d1, .int .i64 p, .slice b2 n2 d2] rfl rfl 74 9 rfl Tryz.sizeOf74
  go_wp2_with (refine STORE _ _ _ _ _ (.tmp 2) (.tmp 7) rfl rfl rfl rfl ?_)
  refine bodyPost_ret (ret_cell (k := 9) Tryz.results65 Tryz.isAgg74 Tryz.sizeOf74 _ _ (w.heap.size + 1) [.int .i64 x1, .int .i64 x2, .int .i64 x3, .int .i64 x4, .int .i64 x5, .bool x6, .slice b1 n1 d1, .int .i64 p, .slice b2 n2 d2] rfl rfl HZ.out.1) rfl ⟨⟨x1, x2, x3, x4, x5, x6, b1, n1, d1, p, b2, n2, d2⟩, rfl, ⟨⟨rfl, rfl, rfl, rfl, rfl, rfl, rfl⟩, ?_⟩, by rw [HZ.out.2]; exact below_setCells (by omega) _ _ BW3.out⟩
  refine ComOwn.base (base := w1.heap.size) ?_ (by have := S1.out; omega)
  exact own3.out.at fun g g1 _ => by rw [HZ.out.2]; exact setCells_other _ _ _ _ _ (by have := S1.out; omega)
end Go.Proofs.YtepnghacjggkkaaGreatDoor
namespace Go.Proofs.YtepnghacjggkkaaGreatDoor
open Go.RowKit
set_option maxRecDepth 100000
set_option linter.unusedSectionVars false
variable [Inhabited ComV] [DecidableEq D3] [Inhabited D3] [Inhabited Dd] [Inhabited Dn] [Inhabited OpV]

theorem zero37 : ∀ w, (zeroValue 74).run Tryz.prog w = .ok (.agg #[.int .i64 0, .int .i64 0, .int .i64 0, .int .i64 0, .int .i64 0, .bool false, .slice none 0 0, .int .i64 0, .slice none 0 0]) w := Tryz.zeroValue74
end Go.Proofs.YtepnghacjggkkaaGreatDoor
namespace Go.Proofs.YtepnghacjggkkaaGreatDoor
open Go.RowKit Go.Maps
set_option maxRecDepth 100000
set_option linter.unusedSectionVars false
variable [Inhabited ComV] [DecidableEq D3] [Inhabited D3] [Inhabited Dd] [Inhabited Dn] [Inhabited OpV]

theorem keyed3 : Keyed Tryz.prog 3 := int_keyed Tryz.underlying3
def num (k : Int) : Prop := -2000 ≤ k ∧ k ≤ 2000
theorem key_lit (k : Int) : WideAt.IsKeyLit (Lit.int .i64 k) := trivial
theorem lit_inj {a b : Int} (h : (Lit.int .i64 a) = .int .i64 b) : a = b := by
  injection h
end Go.Proofs.YtepnghacjggkkaaGreatDoor
