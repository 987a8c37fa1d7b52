/- A store stands while a block of another kind turns; newKnown; The sender's next: a beat; What is put whole, or in parts, turned around: plain mathematics; SameValue of the same; Index; what stands where nothing, or something, is wrong; For package versions: New, dotOf, partOf by their contracts. -/
import Derived.Test.YtepnghacjggkkaaGreatDoorGSBase
import Derived.Test.YtepnghacjggkkaaGreatDoorGWNew
import Derived.BigQuiet
import Derived.Deep.Cut
import Derived.Deep.Draws
import Derived.Deep.Fields
import Derived.Deep.QuietTactic
import Derived.Deep.RegionHeld
import Derived.Deep.RegionLaw
import Derived.Deep.Slices
import Derived.Handy
import Derived.LaidEql
import Derived.LaidHandle
import Derived.LaidLaws
import Derived.LaidSub
import Derived.Laws.AppendOwnNone
import Derived.Laws.IdiomCopy
import Derived.Laws.OwnMore
import Derived.Laws.ResultCell
import Derived.Lib.SliceRun
import Derived.Maps.AppendAt
import Derived.Maps.OwnSet
import Derived.OpenShut
import Derived.ProofKit
import Derived.RowKitTokens
import Derived.Shelf.SlIter.Nil
import Derived.Shelf.SlicesQ.IndexFunc
import Derived.Sort.Grow
import Derived.Sort.KeysCollected
import Derived.StillTailTactics
import Derived.Stop.Asserts
import Derived.Test.YtepnghacjggkkaaGreatDoorProg
import Derived.Test.YtepnghacjggkkaaGreatDoorRows
import Derived.WalkKit
import Derived.Test.YtepnghacjggkkaaGreatDoorGKM
import Derived.Test.YtepnghacjggkkaaGreatDoorGWSmall
import Derived.Deep.RegionHeldLaw
import Derived.Shelf.Slices.CompactS
import Derived.Shelf.Slices.In.SortNone
import Derived.Shelf.SlicesE.DeleteFunc
import Derived.Shelf.Sort.Plain
import Derived.Test.YtepnghacjggkkaaGreatDoorGWState
import Derived.DeepKeys5
import Derived.Ground.SlsfProg
import Derived.Laws.MakeOwn
import Derived.Lib.SlKept
import Derived.Shelf.GgSortFunc.RowK
import Derived.Shelf.SlGeneric
import Derived.Test.YtepnghacjggkkaaGreatDoorChecked
namespace Go.Proofs.YtepnghacjggkkaaGreatDoor
open Go.RowKit Go.Maps
set_option maxRecDepth 100000
set_option linter.unusedSectionVars false
variable [Inhabited ComV] [DecidableEq D3] [Inhabited D3] [Inhabited Dd] [Inhabited Dn] [Inhabited OpV]

theorem own_keep {w w' : World} {base e size n : Nat} {v : Value} {xs : List Value} (h : w.ownsRow base e size v n xs) (hk : ∀ b, v.ownBlock = some b → w'.heap[b]? = w.heap[b]?) : w'.ownsRow base e size v n xs := by
  obtain ⟨h1, h2⟩ := h
  refine ⟨h1, ?_⟩
  rcases h2 with h2 | ⟨b, cap, cur, hv, hg, hh, r⟩
  · exact .inl h2
  · exact .inr ⟨b, cap, cur, hv, hg, by rw [hk b (by rw [hv]; rfl)]; exact hh, r⟩
theorem VerAt.off {w w' : World} {p mb db n : Nat} {f : ByteArray → Value} {s : St} (h : VerAt w p mb db f s n) {g : Nat} {cs : Array Value} {T : TypeId} (hg : w.heap[g]? = some (.cells cs T (0, 0))) (h1 : T ≠ 133) (h2 : T ≠ 47) (h3 : T ≠ 3) (h4 : T ≠ 97) (h5 : T ≠ 175) (ho : ∀ q, q ≠ g → w'.heap[q]? = w.heap[q]?) : VerAt w' p mb db f s n := by
  have hne : ∀ (b : Nat) (ds : Array Value) (t : TypeId), t ≠ T → w.heap[b]? = some (.cells ds t (0, 0)) → w'.heap[b]? = w.heap[b]? := fun b ds t ht hb => ho b fun e => by
    rw [e, hg] at hb
    injection hb with hb
    injection hb with _ hb
    exact ht hb.symm
  have hk : Keep3 w w' := ⟨fun b ds hb => hne b ds _ (Ne.symm h3) hb, fun b ds hb => hne b ds _ (Ne.symm h4) hb, fun b ds hb => hne b ds _ (Ne.symm h5) hb⟩
  have keepm : ∀ {kt b nn R} {D : DataW Unit}, w.ownsMap Tryz.prog kt R b nn D → w'.ownsMap Tryz.prog kt R b nn D := fun {kt b nn R D} hD => by
    obtain ⟨es, clock, hb, F, hs, hD⟩ := hD
    exact ⟨es, clock, (ho b fun e => by rw [e, hg] at hb; cases hb).trans hb, F, hs, hD⟩
  refine ⟨?_, ?_, ?_, fun k => ?_, h.apart, h.ne⟩
  · obtain ⟨bv, q1, q2⟩ := h.box
    exact ⟨bv, (hne _ _ _ (Ne.symm h1) q1).trans q1, intsT_keep q2 hk⟩
  · obtain ⟨D, q1, q2⟩ := h.dots
    exact ⟨D, keepm q1, q2⟩
  · obtain ⟨D, q1, q2⟩ := h.map
    exact ⟨D, keepm q1, q2⟩
  · obtain ⟨rs, q1, q2⟩ := h.rows k
    refine ⟨rs, own_keep q1 fun b hb => ?_, f2_keep q2 hk⟩
    obtain ⟨ds, hcs⟩ := own_type q1 hb
    exact hne b ds _ (Ne.symm h2) hcs
set_option maxHeartbeats 1000000 in
theorem known_ok (w : World) (n : Nat) (h1 : 1 ≤ n) (h6 : n ≤ 6) : Calls Tryz.prog 22 #[.int .i64 n] w fun e w' => ∃ p mb db, e = .returned (.tuple #[.agg #[.pointer (some ⟨p, 0, none⟩)], .nilIface]) ∧ w.heap.size ≤ p ∧ w.heap.size ≤ mb ∧ w.heap.size ≤ db ∧ VerAt w' p mb db (fun _ => .slice none 0 0) ⟨List.replicate n 0, [], []⟩ 0 ∧ Below w.heap.size w w' := by
  obtain ⟨w1, hw1⟩ : ∃ w1, w1 = w.alloc (.cells #[.pointer none] 64) := ⟨_, rfl⟩
  have G1 : w1.heap[w.heap.size]? = some (.cells #[.pointer none] 64 (0, 0)) := by rw [hw1]; exact heap_new _ _
  have s1 : w1.heap.size = w.heap.size + 1 := by rw [hw1]; simp
  have b1 : Below w.heap.size w w1 := by rw [hw1]; exact below_alloc _ _
  have HG1 := hid G1
  have S1 := hid s1
  have B1 := hid b1
  clear G1 s1 b1
  go_enter Tryz.func22, Tryz.ntmps22
  go_wp2_with fail
  rw [← hw1]
  clear hw1
  refine (new_ok w1 n h1 h6).mono ?_
  rintro e w2 ⟨p, mb, db, rfl, hp, hm, hd, hV, hb2⟩
  have G2 : w2.heap[w.heap.size]? = _ := (hb2.block _ (by have := S1.out; omega)).trans HG1.out
  have q0 : w2.cell? ⟨w.heap.size, 0, none⟩ = some (.pointer none) := (cell_of G2).trans rfl
  have z0 : w2.frozen? ⟨w.heap.size, 0, none⟩ = false := free_of G2
  obtain ⟨w3, hw3⟩ : ∃ w3, w3 = w2.setCell ⟨w.heap.size, 0, none⟩ (.pointer (some ⟨p, 0, none⟩)) := ⟨_, rfl⟩
  have G3 : Hid (w3.heap[w.heap.size]? = some (.cells #[.pointer (some ⟨p, 0, none⟩)] 64 (0, 0))) := (show _ = _ from by rw [hw3]; exact (heap_set G2 _).trans rfl)
  have V3 : Hid (VerAt w3 p mb db (fun _ => .slice none 0 0) ⟨List.replicate n 0, [], []⟩ 0) := (show VerAt _ _ _ _ _ _ _ from hV.off G2 (by decide) (by decide) (by decide) (by decide) (by decide) fun q hq => by rw [hw3]; exact Below.heap_setCell _ _ _ _ hq)
  have B3 : Hid (Below w.heap.size w w3) := (show Below _ _ _ from by rw [hw3]; exact (B1.out.trans (hb2.mono (by have := S1.out; omega))).setCell (Nat.le_refl _) _)
  have HP : Hid (w.heap.size ≤ p ∧ w.heap.size ≤ mb ∧ w.heap.size ≤ db) := (show _ ∧ _ from by have := S1.out; omega)
  clear G2 hV hb2 hp hm hd
  go_wp2_with fail
  rw [← hw3]
  clear hw3
  refine bodyPost_ret (ret_cell_tmp (k := 1) Tryz.results22 Tryz.isAgg64 Tryz.sizeOf64 _ _ w.heap.size [.pointer (some ⟨p, 0, none⟩)] .nilIface rfl rfl rfl (cells_heap (t := 64) _ G3.out)) rfl ⟨p, mb, db, rfl, HP.out.1, HP.out.2.1, HP.out.2.2, V3.out, B3.out⟩
end Go.Proofs.YtepnghacjggkkaaGreatDoor
namespace Go.Proofs.YtepnghacjggkkaaGreatDoor
open Go.RowKit
set_option maxRecDepth 100000
set_option linter.unusedSectionVars false
variable [Inhabited ComV] [DecidableEq D3] [Inhabited D3] [Inhabited Dd] [Inhabited Dn] [Inhabited OpV]

theorem Tryz.info74 : (Tryz.prog.info? 74).map (fun i => (i.zero, i.size, i.bytes)) = some (some (.agg #[.int .i64 0, .int .i64 0, .int .i64 0, .int .i64 0, .int .i64 0, .bool false, .slice none 0 0, .int .i64 0, .slice none 0 0]), 9, 104) := by kernel_rfl
structure OnlyS (g : Nat) (v : Value) (w w' : World) : Prop where
  os : w'.os = w.os
  tape : w'.tape = w.tape
  output : w'.output = w.output
  size : w.heap.size ≤ w'.heap.size
  block : ∀ k, k < w.heap.size → k ≠ g → v.ownBlock ≠ some k → w'.heap[k]? = w.heap[k]?
theorem OnlyS.then {g : Nat} {v : Value} {w w1 w2 : World} (h : OnlyS g v w w1) (k : Below w1.heap.size w1 w2) : OnlyS g v w w2 :=
  ⟨k.os.trans h.os, k.tape.trans h.tape, k.output.trans h.output, Nat.le_trans h.size k.size, fun i hi hg hv => (k.block i (by have := h.size; omega)).trans (h.block i hi hg hv)⟩
end Go.Proofs.YtepnghacjggkkaaGreatDoor
namespace Go.Proofs.YtepnghacjggkkaaGreatDoor
open Go.RowKit Go.Sort Go.Maps
set_option maxRecDepth 100000
set_option linter.unusedSectionVars false
variable [Inhabited ComV] [DecidableEq D3] [Inhabited D3] [Inhabited Dd] [Inhabited Dn] [Inhabited OpV]

def partsC (c : ComV) : List ComV := c.ops.map (partC c)
def dotsC (c : ComV) : List D3 := c.ops.map (dotC c)
def stOf (nb : Nat) (l : List ComV) : St := ⟨List.replicate nb 0, l.flatMap partsC, l.flatMap dotsC⟩
theorem stOf_put (nb : Nat) (l : List ComV) (c : ComV) : putTo (stOf nb l) c c.ops.length = stOf nb (l ++ [c]) := by
  unfold putTo stOf partsC dotsC
  rw [List.take_length, List.flatMap_append, List.flatMap_append]
  simp
structure PutOk (s : St) (c : ComV) : Prop where
  err : comErr c = (0, none)
  len : c.when_.length = s.base.length
  old : leB c.when_ s.base = false
  new : ∀ o ∈ c.ops, dotC c o ∉ s.dots
structure KeptL (nb : Nat) (l : List ComV) : Prop where
  ok : ∀ c ∈ l, ComOk c
  len : ∀ c ∈ l, c.when_.length = nb
  old : ∀ c ∈ l, leB c.when_ (List.replicate nb 0) = false
  dots : (l.flatMap dotsC).Nodup
theorem KeptL.nil (nb : Nat) : KeptL nb [] := ⟨fun _ h => by simp at h, fun _ h => by simp at h, fun _ h => by simp at h, by simp⟩
theorem KeptL.put {nb : Nat} {pre post : List ComV} {x : ComV} (h : KeptL nb (pre ++ x :: post)) : PutOk (stOf nb pre) x := by
  have hx : x ∈ pre ++ x :: post := by simp
  refine ⟨comErr_zero (comErr_of (h.ok x hx)), by rw [h.len x hx]; simp [stOf], h.old x hx, fun o ho hd => ?_⟩
  have hn := h.dots
  rw [List.flatMap_append, List.nodup_append] at hn
  exact hn.2.2 _ hd _ (by rw [List.flatMap_cons]; exact List.mem_append_left _ (List.mem_map.2 ⟨o, ho, rfl⟩)) rfl
end Go.Proofs.YtepnghacjggkkaaGreatDoor
namespace Go.Proofs.YtepnghacjggkkaaGreatDoor
open Go.RowKit Go.Sort Go.Maps
set_option maxRecDepth 100000
set_option linter.unusedSectionVars false
variable [Inhabited ComV] [DecidableEq D3] [Inhabited D3] [Inhabited Dd] [Inhabited Dn] [Inhabited OpV]

theorem rowT_lit {w : World} {b cap k : Nat} {t : TypeId} {rows : List (List Value)} {cs : Array Value} (h : w.heap[b]? = some (.cells cs t (0, 0))) (hf : cs.toList = rows.flatten) (hk : ∀ r ∈ rows, r.length = k) (hc : rows.length ≤ cap) : RowT t k w (.slice (some ⟨b, 0, none⟩) rows.length cap) rows := by
  refine ⟨_, cap, rfl, (fun h => by cases h), hc, .inr ⟨b, 0, cs, rfl, h, fun j r hr => ?_⟩⟩
  have hrm : r ∈ rows := List.mem_of_getElem? hr
  refine ⟨hk r hrm, fun i u hu => ?_⟩
  have hi : i < k := by have := (List.getElem?_eq_some_iff.1 hu).1; rw [hk r hrm] at this; exact this
  have hfl : ∀ (rows : List (List Value)) (j : Nat) (r : List Value), (∀ r ∈ rows, r.length = k) → rows[j]? = some r → ∀ i u, i < k → r[i]? = some u → rows.flatten[j * k + i]? = some u := by
    intro rows
    induction rows with
    | nil => intro j r _ h; simp at h
    | cons x rest ih =>
      intro j r hk h i u hi hu
      have hx := hk x (List.mem_cons_self ..)
      rw [List.flatten_cons]
      cases j with
      | zero =>
        simp at h
        subst h
        rw [List.getElem?_append_left (by omega), Nat.zero_mul, Nat.zero_add]
        exact hu
      | succ j =>
        rw [List.getElem?_append_right (by rw [hx, Nat.add_mul]; omega), hx, show (j + 1) * k + i - k = j * k + i by rw [Nat.add_mul]; omega]
        exact ih j r (fun r hr => hk r (List.mem_cons_of_mem _ hr)) (by simpa using h) i u hi hu
  have e := hfl rows j r hk hr i u hi hu
  rw [← hf, Array.getElem?_toList] at e
  rw [Nat.zero_add]
  exact e
end Go.Proofs.YtepnghacjggkkaaGreatDoor
namespace Go.Proofs.YtepnghacjggkkaaGreatDoor
open Go.RowKit Go.Sort Go.Maps
set_option maxRecDepth 100000
set_option linter.unusedSectionVars false
variable [Inhabited ComV] [DecidableEq D3] [Inhabited D3] [Inhabited Dd] [Inhabited Dn] [Inhabited OpV]

theorem ret_cell {f : Func} {s t k : Nat} (hf : f.results = #[ResultVar.cell s t]) (hag : ∀ w, (isAgg t).run Tryz.prog w = .ok true w) (hsz : ∀ w, (sizeOf t).run Tryz.prog w = .ok k w) (w : World) (tmps : Array Value) (g : Nat) (vs : List Value) (hk : vs.length = k) (h4 : tmps[s]?.getD undef = .pointer (some ⟨g, 0, none⟩)) (hc : ∀ j (hj : j < vs.length), w.cell? ⟨g, j, none⟩ = some vs[j]) :
    (results f tmps).run Tryz.prog w = .ok (.agg vs.toArray) w := by
  have hl := run_loadCellsFrom_list Tryz.prog w ⟨g, 0, none⟩ vs k hk (fun j v hj => by
    obtain ⟨h1, h2⟩ := List.getElem?_eq_some_iff.1 hj
    rw [Addr.add_lit, Nat.zero_add, hc j h1, h2])
  simp [results, hf, h4, asAddr, loadVar, loadCells, hag, hsz, hl, Result.andThen]
set_option maxHeartbeats 2000000 in
theorem dotOf_any (w : World) (b1 o1 n c1 p : Nat) (T : Int) (ov : Option Addr) (ol oc : Nat) (x1 : Int) (x2 : ByteArray) (x3 : Int) (x4 : ByteArray) (x5 : Int) (x6 : Bool) (dp : Option Addr) (dl dc : Nat) (hp : p < n) (ct : w.cell? ⟨b1, o1 + p, none⟩ = some (.int .i64 T)) :
    Calls Tryz.prog 95 #[.agg #[.slice (some ⟨b1, o1, none⟩) n c1, .int .i64 p, .slice ov ol oc], .agg #[.int .i64 x1, .string x2, .int .i64 x3, .string x4, .int .i64 x5, .bool x6, .slice dp dl dc]] w fun e w' => e = .returned (.agg #[.int .i64 p, .int .i64 T, .int .i64 x1]) ∧ Below w.heap.size w w' := by
  obtain ⟨w1, hw1⟩ : ∃ w1, w1 = (w.alloc (.cells #[.slice (some ⟨b1, o1, none⟩) n c1, .int .i64 p, .slice ov ol oc] 47)).alloc (.cells #[.int .i64 x1, .string x2, .int .i64 x3, .string x4, .int .i64 x5, .bool x6, .slice dp dl dc] 97) := ⟨_, rfl⟩
  have hs1 : w1.heap.size = w.heap.size + 1 + 1 := by rw [hw1]; simp
  have d0 : w1.cell? ⟨w.heap.size, 0, none⟩ = some (.slice (some ⟨b1, o1, none⟩) n c1) := by rw [hw1]; exact cell_alloc ((World.cell?_alloc_at _ _ _ _ rfl).trans rfl) _
  have d1 : w1.cell? ⟨w.heap.size, 1, none⟩ = some (.int .i64 p) := by rw [hw1]; exact cell_alloc ((World.cell?_alloc_at _ _ _ _ rfl).trans rfl) _
  have e0 : w1.cell? ⟨w.heap.size + 1, 0, none⟩ = some (.int .i64 x1) := by rw [hw1]; exact (World.cell?_alloc_at _ _ _ _ (by simp)).trans rfl
  have t0 : w1.cell? ⟨b1, o1 + p, none⟩ = some (.int .i64 T) := by rw [hw1]; exact cell_alloc (cell_alloc ct _) _
  have B1 : Hid (Below w.heap.size w w1) := by rw [hw1]; exact below2 w _ _
  obtain ⟨w2, hw2⟩ : ∃ w2, w2 = w1.alloc (.cells #[.int .i64 0, .int .i64 0, .int .i64 0] 175) := ⟨_, rfl⟩
  have f0 : w2.cell? ⟨w.heap.size, 0, none⟩ = some (.slice (some ⟨b1, o1, none⟩) n c1) := by rw [hw2]; exact cell_alloc d0 _
  have f1 : w2.cell? ⟨w.heap.size, 1, none⟩ = some (.int .i64 p) := by rw [hw2]; exact cell_alloc d1 _
  have f2 : w2.cell? ⟨w.heap.size + 1, 0, none⟩ = some (.int .i64 x1) := by rw [hw2]; exact cell_alloc e0 _
  have f3 : w2.cell? ⟨b1, o1 + p, none⟩ = some (.int .i64 T) := by rw [hw2]; exact cell_alloc t0 _
  have hbx : w2.heap[w.heap.size + 1 + 1]? = some (.cells #[.int .i64 0, .int .i64 0, .int .i64 0] 175 (0, 0)) := by rw [hw2, ← hs1]; exact (MapKept.heap_alloc _ _).1
  have B2 : Hid (Below w.heap.size w w2) := by rw [hw2]; exact B1.out.alloc B1.out.size _
  go_enter Tryz.func95, Tryz.ntmps95
  go_upto_region 1 with (fail)
  rw [← hw1, ← hw2]
  have g0 : w2.cell? ⟨w.heap.size + 1 + 1, 0, none⟩ = some (.int .i64 0) := by simp only [World.cell?, hbx]; rfl
  have g1 : w2.cell? ⟨w.heap.size + 1 + 1, 1, none⟩ = some (.int .i64 0) := by simp only [World.cell?, hbx]; rfl
  have g2 : w2.cell? ⟨w.heap.size + 1 + 1, 2, none⟩ = some (.int .i64 0) := by simp only [World.cell?, hbx]; rfl
  have r0 : w2.frozen? ⟨w.heap.size + 1 + 1, 0, none⟩ = false := by simp only [World.frozen?, hbx]; simp
  have r1 : w2.frozen? ⟨w.heap.size + 1 + 1, 1, none⟩ = false := by simp only [World.frozen?, hbx]; simp
  have r2 : w2.frozen? ⟨w.heap.size + 1 + 1, 2, none⟩ = false := by simp only [World.frozen?, hbx]; simp
  have hlt := lt_of_cell ct
  have HBX := hid hbx
  clear hw1 hw2 d0 d1 e0 t0 hbx ct hs1
  obtain ⟨g, hg⟩ : ∃ g, g = w.heap.size + 1 + 1 := ⟨_, rfl⟩
  obtain ⟨k, hk⟩ : ∃ k, k = w.heap.size + 1 := ⟨_, rfl⟩
  have n1 : g ≠ w.heap.size := by omega
  have n2 : g ≠ k := by omega
  have n3 : g ≠ b1 := by have : b1 < w.heap.size := hlt; omega
  have hge : w.heap.size ≤ g := by omega
  rw [← hg] at g0 g1 g2 r0 r1 r2 HBX ⊢
  rw [← hk] at f2 ⊢
  clear hg hk hlt
  go_region_held (fun w' => w'.cell? ⟨w.heap.size, 0, none⟩ = some (.slice (some ⟨b1, o1, none⟩) n c1) ∧ w'.cell? ⟨w.heap.size, 1, none⟩ = some (.int .i64 p) ∧ w'.cell? ⟨k, 0, none⟩ = some (.int .i64 x1) ∧ w'.cell? ⟨b1, o1 + p, none⟩ = some (.int .i64 T)) (go_keep) (fail)
  obtain ⟨w3, hw3⟩ : ∃ w3, w3 = (((w2.setCell ⟨g, 0, none⟩ (.int .i64 p)).setCell ⟨g, 1, none⟩ (.int .i64 T)).setCell ⟨g, 2, none⟩ (.int .i64 x1)).drew := ⟨_, rfl⟩
  have hb3 : w3.heap[g]? = some (.cells #[.int .i64 p, .int .i64 T, .int .i64 x1] 175 (0, 0)) := by
    rw [hw3]
    show (((w2.setCell ⟨g, 0, none⟩ (.int .i64 p)).setCell ⟨g, 1, none⟩ (.int .i64 T)).setCell ⟨g, 2, none⟩ (.int .i64 x1)).heap[g]? = _
    rw [heap_set (heap_set (heap_set HBX.out _) _) _]
    rfl
  have B3 : Below w.heap.size w w3 := by
    rw [hw3]
    exact below_draws (((B2.out.setCell hge _).setCell hge _).setCell hge _) 1
  rw [← hw3]
  clear hw3
  go_wp2
  refine bodyPost_ret (ret_cell (k := 3) Tryz.results95 Tryz.isAgg175 Tryz.sizeOf175 _ _ g [.int .i64 p, .int .i64 T, .int .i64 x1] rfl rfl (fun j hj => ?_)) rfl ⟨rfl, B3⟩
  rcases (by simp at hj; omega : j = 0 ∨ j = 1 ∨ j = 2) with rfl | rfl | rfl <;> (simp only [World.cell?, hb3]; rfl)
end Go.Proofs.YtepnghacjggkkaaGreatDoor
