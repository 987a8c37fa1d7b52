/- For package versions: slices.Clone, within, checkVector, dotOf, partOf by their contracts; For package versions: New, dotOf, partOf by their contracts; For package versions: partOf by its contract. -/
import Derived.Test.YtdnebclemngdcaaGreatDoorJWVec
import Derived.Test.YtdnebclemngdcaaGreatDoorJVOwns
import Derived.Test.YtdnebclemngdcaaGreatDoorJVOfRQ
import Derived.Lib.SliceRun
import Derived.Deep.RegionHeld
import Derived.Test.YtdnebclemngdcaaGreatDoorJVSame
namespace Go.Proofs.YtdnebclemngdcaaGreatDoor
open Go.RowKit Go.Sort Go.Maps
set_option maxRecDepth 100000
set_option linter.unusedSectionVars false
variable [Inhabited ComV] [DecidableEq D3] [Inhabited D3] [Inhabited Dd] [Inhabited Dn] [Inhabited OpV]

set_option maxHeartbeats 2000000 in
theorem clone_ints (w : World) (v : Value) (zs : List Int) (h : IntsAt w v zs) (hl : zs.length ≤ 1000000) :
    Calls Tryz.prog 42 #[v] w fun e w' => ∃ a c, e = .returned (.slice a zs.length c) ∧ IntsT w' (.slice a zs.length c) zs ∧ Below w.heap.size w w' := by
  have q22 : ∀ (w : World) (a : Option Addr) (n c n' c' : Nat), (binOp .eql 23 (.slice a n c) (.slice none n' c')).run Tryz.prog w = .ok (.bool a.isNone) w := fun w a n c n' c' => Lib.run_eql_slice_nil w _ _ a n c n' c' Tryz.underlying23
  obtain ⟨i0, hi, hz0, hz1, hz2⟩ := info_parts Tryz.info3o; have hsrc := src_ints h; obtain ⟨ad, c, rfl, h0, hh⟩ := h; obtain ⟨n, hn⟩ : ∃ n, n = zs.length := ⟨_, rfl⟩; rw [← hn] at hsrc hl ⊢; have HN := hid hn; have HS := hid hsrc; have HH := hid hh; clear hn hsrc hh
  cases ad with
  | none =>
    obtain rfl := h0 rfl
    have hz : zs = [] := by
      rcases HH.out with h | ⟨b, o, he, _⟩
      · exact h
      · cases he
    subst hz; obtain rfl : n = 0 := HN.out; go_enter Tryz.func42, Tryz.ntmps42; go_wp2; go_ret; exact ⟨none, 0, rfl, ⟨none, 0, rfl, fun _ => rfl, Nat.le_refl _, .inl rfl⟩, Below.refl _ _⟩
  | some ad =>
    go_enter Tryz.func42, Tryz.ntmps42
    go_wp2_with (at_builtin; refine wpList_append_own_src rfl _ _ 23 rfl w.heap.size 3 i0 _ 1 8 Tryz.underlying23 hi hz0 hz1 hz2 rfl (by decide) _ _ _ rfl (World.ownsRow_made w #[] 0 (Nat.le_refl _) (Nat.zero_le _) rfl) _ n (zs.map (Value.int .i64)) rfl ?hs1 (ints_one _) ?hm2 ?hm3 ?hm4 ?_; (case hs1 => exact HS.out.moved (fun a u h => cell_alloc h _)); (case hm2 => unfold maxLen; omega); (case hm3 => omega); (case hm4 => simp); intro v3 w3 hown3 hgrow3)
    rw [Nat.zero_add, List.nil_append] at hown3; obtain ⟨a3, c3, rfl⟩ := row_shape hown3
    have HT : Hid (IntsT w3 (.slice a3 n c3) zs) := by
      have h := hown3; rw [HN.out] at h ⊢; exact intsT_of_owns h
    have HB : Hid (Below w.heap.size w w3) := ((Below.refl _ w).alloc (Nat.le_refl _) _).grown hgrow3 (by simp) (fun k hk => ((World.ownsRow_made (e := 3) (size := 1) (base := w.heap.size) w #[] 0 (Nat.le_refl _) (Nat.zero_le _) rfl).lt k hk).1); clear hown3 hgrow3; go_wp2; go_ret; exact ⟨a3, c3, rfl, HT.out, HB.out⟩
theorem within_ok (A : Nat → Addr) (w : World) (hE : E4 A w) (v u : Value) (zs ys : List Int) (h1 : IntsAt w v zs) (h2 : IntsAt w u ys) (h0 : two zs ys = 0) :
    Calls Tryz.prog 38 #[v, u] w fun e w' => e = .returned (.bool (leB zs ys)) ∧ ∃ q, w' = w.drewN q := by
  have K := Within_ok A w hE v u zs ys h1 h2 h0; obtain ⟨a1, c1, rfl⟩ := h1.slice; obtain ⟨a2, c2, rfl⟩ := h2.slice; obtain ⟨r, hr⟩ : ∃ r, r = leB zs ys := ⟨_, rfl⟩; rw [← hr] at K ⊢; clear hr; go_enter Tryz.func38, Tryz.ntmps38; go_wp2_with fail; refine K.mono ?_; rintro e w' ⟨rfl, q, rfl⟩; go_wp2; go_ret; exact ⟨rfl, q, rfl⟩
theorem checkVector_ok (A : Nat → Addr) (w : World) (hE : E4 A w) (p : Nat) (bv : Value) (base : List Int) (m1 m2 : Value) (hp : w.heap[p]? = some (.cells #[bv, m1, m2] 83 (0, 0))) (hb : IntsAt w bv base) (v : Value) (zs : List Int) (h : IntsAt w v zs) (h0 : chk zs = 0) (hn : zs.length = base.length) :
    Calls Tryz.prog 37 #[.pointer (some ⟨p, 0, none⟩), v] w fun e w' => e = .returned .nilIface ∧ w' = w := by
  have K := check_ok A w hE v zs h h0; obtain ⟨a1, c1, rfl⟩ := h.slice; obtain ⟨a2, c2, rfl⟩ := hb.slice; have c0 : w.cell? ⟨p, 0, none⟩ = some (.slice a2 base.length c2) := by simp only [World.cell?, hp]; rfl
  have hne : ((zs.length : Int) != (base.length : Int)) = false := by rw [bne_eq_false_iff_eq]; omega
  clear hn h h0 hb hp; go_enter Tryz.func37, Tryz.ntmps37; go_wp2_with fail; refine K.mono ?_; rintro e w' ⟨rfl, rfl⟩; go_wp2; go_ret; exact ⟨rfl, rfl⟩
end Go.Proofs.YtdnebclemngdcaaGreatDoor
namespace Go.Proofs.YtdnebclemngdcaaGreatDoor
open Go.RowKit Go.Sort Go.Maps
set_option maxRecDepth 100000
set_option linter.unusedSectionVars false
variable [Inhabited ComV] [DecidableEq D3] [Inhabited D3] [Inhabited Dd] [Inhabited Dn] [Inhabited OpV]

theorem ret_cell {f : Func} {s t k : Nat} (hf : f.results = #[ResultVar.cell s t]) (hag : ∀ w, (isAgg t).run Tryz.prog w = .ok true w) (hsz : ∀ w, (sizeOf t).run Tryz.prog w = .ok k w) (w : World) (tmps : Array Value) (g : Nat) (vs : List Value) (hk : vs.length = k) (h4 : tmps[s]?.getD undef = .pointer (some ⟨g, 0, none⟩)) (hc : ∀ j (hj : j < vs.length), w.cell? ⟨g, j, none⟩ = some vs[j]) :
    (results f tmps).run Tryz.prog w = .ok (.agg vs.toArray) w := by
  have hl := run_loadCellsFrom_list Tryz.prog w ⟨g, 0, none⟩ vs k hk (fun j v hj => by
    obtain ⟨h1, h2⟩ := List.getElem?_eq_some_iff.1 hj; rw [Addr.add_lit, Nat.zero_add, hc j h1, h2])
  simp [results, hf, h4, asAddr, loadVar, loadCells, hag, hsz, hl, Result.andThen]
set_option maxHeartbeats 2000000 in
theorem dotOf_any (w : World) (b1 o1 n c1 p : Nat) (T : Int) (ov : Option Addr) (ol oc : Nat) (x1 : Int) (x2 : ByteArray) (x3 : Int) (x4 : ByteArray) (x5 : Int) (x6 : Bool) (dp : Option Addr) (dl dc : Nat) (hp : p < n) (ct : w.cell? ⟨b1, o1 + p, none⟩ = some (.int .i64 T)) :
    Calls Tryz.prog 39 #[.agg #[.slice (some ⟨b1, o1, none⟩) n c1, .int .i64 p, .slice ov ol oc], .agg #[.int .i64 x1, .string x2, .int .i64 x3, .string x4, .int .i64 x5, .bool x6, .slice dp dl dc]] w fun e w' => e = .returned (.agg #[.int .i64 p, .int .i64 T, .int .i64 x1]) ∧ Below w.heap.size w w' := by
  obtain ⟨w1, hw1⟩ : ∃ w1, w1 = (w.alloc (.cells #[.slice (some ⟨b1, o1, none⟩) n c1, .int .i64 p, .slice ov ol oc] 34)).alloc (.cells #[.int .i64 x1, .string x2, .int .i64 x3, .string x4, .int .i64 x5, .bool x6, .slice dp dl dc] 76) := ⟨_, rfl⟩; have hs1 : w1.heap.size = w.heap.size + 1 + 1 := by rw [hw1]; simp
  have d0 : w1.cell? ⟨w.heap.size, 0, none⟩ = some (.slice (some ⟨b1, o1, none⟩) n c1) := by rw [hw1]; exact cell_alloc ((World.cell?_alloc_at _ _ _ _ rfl).trans rfl) _
  have d1 : w1.cell? ⟨w.heap.size, 1, none⟩ = some (.int .i64 p) := by rw [hw1]; exact cell_alloc ((World.cell?_alloc_at _ _ _ _ rfl).trans rfl) _
  have e0 : w1.cell? ⟨w.heap.size + 1, 0, none⟩ = some (.int .i64 x1) := by rw [hw1]; exact (World.cell?_alloc_at _ _ _ _ (by simp)).trans rfl
  have t0 : w1.cell? ⟨b1, o1 + p, none⟩ = some (.int .i64 T) := by rw [hw1]; exact cell_alloc (cell_alloc ct _) _
  have B1 : Hid (Below w.heap.size w w1) := by rw [hw1]; exact below2 w _ _
  obtain ⟨w2, hw2⟩ : ∃ w2, w2 = w1.alloc (.cells #[.int .i64 0, .int .i64 0, .int .i64 0] 87) := ⟨_, rfl⟩; have f0 : w2.cell? ⟨w.heap.size, 0, none⟩ = some (.slice (some ⟨b1, o1, none⟩) n c1) := by rw [hw2]; exact cell_alloc d0 _
  have f1 : w2.cell? ⟨w.heap.size, 1, none⟩ = some (.int .i64 p) := by rw [hw2]; exact cell_alloc d1 _
  have f2 : w2.cell? ⟨w.heap.size + 1, 0, none⟩ = some (.int .i64 x1) := by rw [hw2]; exact cell_alloc e0 _
  have f3 : w2.cell? ⟨b1, o1 + p, none⟩ = some (.int .i64 T) := by rw [hw2]; exact cell_alloc t0 _
  have hbx : w2.heap[w.heap.size + 1 + 1]? = some (.cells #[.int .i64 0, .int .i64 0, .int .i64 0] 87 (0, 0)) := by rw [hw2, ← hs1]; exact (MapKept.heap_alloc _ _).1
  have B2 : Hid (Below w.heap.size w w2) := by rw [hw2]; exact B1.out.alloc B1.out.size _
  go_enter Tryz.func39, Tryz.ntmps39; go_upto_region 1 with (fail); rw [← hw1, ← hw2]; have g0 : w2.cell? ⟨w.heap.size + 1 + 1, 0, none⟩ = some (.int .i64 0) := by simp only [World.cell?, hbx]; rfl
  have g1 : w2.cell? ⟨w.heap.size + 1 + 1, 1, none⟩ = some (.int .i64 0) := by simp only [World.cell?, hbx]; rfl
  have g2 : w2.cell? ⟨w.heap.size + 1 + 1, 2, none⟩ = some (.int .i64 0) := by simp only [World.cell?, hbx]; rfl
  have r0 : w2.frozen? ⟨w.heap.size + 1 + 1, 0, none⟩ = false := by simp only [World.frozen?, hbx]; simp
  have r1 : w2.frozen? ⟨w.heap.size + 1 + 1, 1, none⟩ = false := by simp only [World.frozen?, hbx]; simp
  have r2 : w2.frozen? ⟨w.heap.size + 1 + 1, 2, none⟩ = false := by simp only [World.frozen?, hbx]; simp
  have hlt := lt_of_cell ct; have HBX := hid hbx; clear hw1 hw2 d0 d1 e0 t0 hbx ct hs1; obtain ⟨g, hg⟩ : ∃ g, g = w.heap.size + 1 + 1 := ⟨_, rfl⟩; obtain ⟨k, hk⟩ : ∃ k, k = w.heap.size + 1 := ⟨_, rfl⟩; have n1 : g ≠ w.heap.size := by omega
  have n2 : g ≠ k := by omega
  have n3 : g ≠ b1 := by have : b1 < w.heap.size := hlt; omega
  have hge : w.heap.size ≤ g := by omega
  rw [← hg] at g0 g1 g2 r0 r1 r2 HBX ⊢; rw [← hk] at f2 ⊢; clear hg hk hlt
  go_region_held (fun w' => w'.cell? ⟨w.heap.size, 0, none⟩ = some (.slice (some ⟨b1, o1, none⟩) n c1) ∧ w'.cell? ⟨w.heap.size, 1, none⟩ = some (.int .i64 p) ∧ w'.cell? ⟨k, 0, none⟩ = some (.int .i64 x1) ∧ w'.cell? ⟨b1, o1 + p, none⟩ = some (.int .i64 T)) (go_keep) (fail)
  obtain ⟨w3, hw3⟩ : ∃ w3, w3 = (((w2.setCell ⟨g, 0, none⟩ (.int .i64 p)).setCell ⟨g, 1, none⟩ (.int .i64 T)).setCell ⟨g, 2, none⟩ (.int .i64 x1)).drew := ⟨_, rfl⟩
  have hb3 : w3.heap[g]? = some (.cells #[.int .i64 p, .int .i64 T, .int .i64 x1] 87 (0, 0)) := by
    rw [hw3]; show (((w2.setCell ⟨g, 0, none⟩ (.int .i64 p)).setCell ⟨g, 1, none⟩ (.int .i64 T)).setCell ⟨g, 2, none⟩ (.int .i64 x1)).heap[g]? = _; rw [heap_set (heap_set (heap_set HBX.out _) _) _]; rfl
  have B3 : Below w.heap.size w w3 := by
    rw [hw3]; exact below_draws (((B2.out.setCell hge _).setCell hge _).setCell hge _) 1
  rw [← hw3]; clear hw3; go_wp2; refine bodyPost_ret (ret_cell (k := 3) Tryz.results39 Tryz.isAgg87 Tryz.sizeOf87 _ _ g [.int .i64 p, .int .i64 T, .int .i64 x1] rfl rfl (fun j hj => ?_)) rfl ⟨rfl, B3⟩; rcases (by simp at hj; omega : j = 0 ∨ j = 1 ∨ j = 2) with rfl | rfl | rfl <;> (simp only [World.cell?, hb3]; rfl)
end Go.Proofs.YtdnebclemngdcaaGreatDoor
namespace Go.Proofs.YtdnebclemngdcaaGreatDoor
open Go.RowKit Go.Sort Go.Maps
set_option maxRecDepth 100000
set_option linter.unusedSectionVars false
variable [Inhabited ComV] [DecidableEq D3] [Inhabited D3] [Inhabited Dd] [Inhabited Dn] [Inhabited OpV]

theorem heap_alloc3 (w : World) (a b c : Obj) : (((w.alloc a).alloc b).alloc c).heap[w.heap.size]? = (w.alloc a).heap[w.heap.size]? ∧ (((w.alloc a).alloc b).alloc c).heap[w.heap.size + 1]? = ((w.alloc a).alloc b).heap[w.heap.size + 1]? := by
  constructor
  · rw [(MapKept.heap_alloc _ _).2 _ (by simp; omega), (MapKept.heap_alloc _ _).2 _ (by simp)]
  · rw [(MapKept.heap_alloc _ _).2 _ (by simp)]
theorem keepT_set {w : World} {b : Nat} {cs : Array Value} {t t' : TypeId} (h : w.heap[b]? = some (.cells cs t (0, 0))) (ht : t ≠ t') (j : Nat) (v : Value) : KeepT t' w (w.setCell ⟨b, j, none⟩ v) := fun i cs' hi => Below.heap_setCell _ _ _ _ fun e => by
  have e' : i = b := e; rw [e', h] at hi; injection hi with hi; injection hi with _ hi; exact ht hi
theorem keepT_alloc (t : TypeId) (w : World) (o : Obj) : KeepT t w (w.alloc o) := fun i _ hi => (MapKept.heap_alloc w o).2 i (lt_of_heap hi)
theorem keepT_below {t : TypeId} {w w' : World} {B : Nat} (h : Below B w w') (hB : w.heap.size ≤ B) : KeepT t w w' := fun b _ hb => h.block b (Nat.lt_of_lt_of_le (lt_of_heap hb) hB)
theorem KeepT.trans {t : TypeId} {a b c : World} (h1 : KeepT t a b) (h2 : KeepT t b c) : KeepT t a c := fun k cs hb => (h2 k cs ((h1 k cs hb).trans hb)).trans (h1 k cs hb)
theorem ints_al {w : World} {v : Value} {zs : List Int} (h : IntsAt w v zs) (o : Obj) : IntsAt (w.alloc o) v zs := h.mono (below_alloc w o) (Nat.le_refl _)
theorem part_fin {wf : World} {a4 : Option Addr} {c4 b : Nat} {zs : List Int} {pl : Int} {o : OpV} {dv : Value} (hI : IntsT wf (.slice a4 zs.length c4) zs) (hO : wf.heap[b]? = some (.cells (opCells o dv).toArray 76 (0, 0))) (hD : RowT 87 3 wf dv (o.dots.map D3.cells)) : ComT wf [.slice a4 zs.length c4, .int .i64 pl, .slice (some ⟨b, 0, none⟩) 1 1] ⟨zs, pl, [o]⟩ :=
  ⟨_, _, rfl, hI, [opCells o dv], rowT_lit (rows := [opCells o dv]) hO (by simp) (fun r hr => by rw [List.mem_singleton.1 hr]; rfl) (Nat.le_refl _), ⟨⟨dv, rfl, hD⟩, trivial⟩⟩
theorem fill3 {w : World} {g : Nat} {a b c : Value} {t : TypeId} (h : w.heap[g]? = some (.cells #[a, b, c] t (0, 0))) (v0 v1 v2 : Value) :
    (((w.setCell ⟨g, 0, none⟩ v0).setCell ⟨g, 1, none⟩ v1).setCell ⟨g, 2, none⟩ v2).heap[g]? = some (.cells #[v0, v1, v2] t (0, 0)) ∧ (∀ i, i ≠ g → (((w.setCell ⟨g, 0, none⟩ v0).setCell ⟨g, 1, none⟩ v1).setCell ⟨g, 2, none⟩ v2).heap[i]? = w.heap[i]?) ∧ ∀ B x, Below B x w → B ≤ g → Below B x (((w.setCell ⟨g, 0, none⟩ v0).setCell ⟨g, 1, none⟩ v1).setCell ⟨g, 2, none⟩ v2) := by
  refine ⟨?_, fun i hi => ?_, fun B x hb hB => ((hb.setCell hB _).setCell hB _).setCell hB _⟩
  · rw [heap_set (heap_set (heap_set h _) _) _]; rfl
  · rw [Below.heap_setCell _ _ _ _ hi, Below.heap_setCell _ _ _ _ hi, Below.heap_setCell _ _ _ _ hi]
theorem keepT_but {w w' : World} {g : Nat} {cs : Array Value} {t t' : TypeId} (h : w.heap[g]? = some (.cells cs t (0, 0))) (ht : t ≠ t') (hk : ∀ i, i ≠ g → w'.heap[i]? = w.heap[i]?) : KeepT t' w w' := fun i cs' hi => hk i fun e => by
  rw [e, h] at hi; injection hi with hi; injection hi with _ hi; exact ht hi
end Go.Proofs.YtdnebclemngdcaaGreatDoor
