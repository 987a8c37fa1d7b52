/- commitOf, of one op. -/
import Derived.Test.YtefpnojanldkeaaDoorJPE
import Derived.Test.YtefpnojanldkeaaDoorJHF
namespace Go.Proofs.YtefpnojanldkeaaDoor
open Go.RowKit Go.Maps
set_option maxRecDepth 100000
set_option linter.unusedSectionVars false
variable [Inhabited ComV] [DecidableEq D3] [Inhabited D3] [Inhabited Dn] [Inhabited OpV]

/-- The op's cells. -/
def opK : List Value := [.int .i64 0, .string ⟨#[107]⟩, .int .i64 2, .string ⟨#[]⟩, .int .i64 5, .bool false, .slice none 0 0]
theorem owns_cells {w : World} {base e size n c : Nat} {a : Option Addr} {xs : List Value} (h : w.ownsRow base e size (.slice a n c) n xs) (hn : 0 < n) : ∃ b cs, a = some ⟨b, 0, none⟩ ∧ base ≤ b ∧ w.heap[b]? = some (.cells cs e (0, 0)) ∧ cs.toList.take (n * size) = xs ∧ n * size ≤ cs.size := by
  rcases h.2 with ⟨hv, h0⟩ | ⟨b, cap, cur, hv, hb, hh, hc, hm, hs, ht⟩
  · omega
  · injection hv with hv _ _
    exact ⟨b, cur, hv, hb, hh, ht, by rw [hs]; exact Nat.mul_le_mul_right _ hc⟩
def opKV : OpV := ⟨0, ⟨#[107]⟩, 2, ⟨#[]⟩, 5, false, []⟩
def comK : ComV := ⟨[1, 0], 0, [opKV]⟩
theorem cell_ne {w : World} {a b : Nat} {cs ds : Array Value} {t u : TypeId} (h : w.heap[a]? = some (.cells cs t (0, 0))) (h' : w.heap[b]? = some (.cells ds u (0, 0))) (hne : t ≠ u) : a ≠ b := fun e => by
  rw [e, h'] at h
  injection h with h
  injection h with _ h
  exact hne h.symm
set_option maxHeartbeats 4000000 in
theorem commitOf_one (w : World) (b1 b2 c1 c2 : Nat) (h1 : w.heap[b1]? = some (.cells #[.int .i64 0, .int .i64 0] 3 (0, 0))) (h2 : w.heap[b2]? = some (.cells opK.toArray 43 (0, 0))) :
    Calls Tryd.prog 21 #[.slice (some ⟨b1, 0, none⟩) 2 c1, .int .i64 0, .int .i64 1, .slice (some ⟨b2, 0, none⟩) 1 c2] w fun e w' => ∃ a3 c3 a4 c4, e = .returned (.agg #[.slice a3 2 c3, .int .i64 0, .slice a4 1 c4]) ∧ ComOwn w.heap.size w' (.slice a3 2 c3) (.slice a4 1 c4) comK ∧ Below w.heap.size w w' := by
  obtain ⟨w1, hw1⟩ : ∃ w1, w1 = w.alloc (.cells #[.slice none 0 0, .int .i64 0, .slice none 0 0] 37) := ⟨_, rfl⟩
  have b1' : Below w.heap.size w w1 := by rw [hw1]; exact below_alloc _ _
  have s1 : w1.heap.size = w.heap.size + 1 := by rw [hw1]; simp
  have G1 : w1.heap[w.heap.size]? = some (.cells #[.slice none 0 0, .int .i64 0, .slice none 0 0] 37 (0, 0)) := by rw [hw1]; exact heap_new _ _
  have e1 : w1.heap[b1]? = _ := (b1'.block _ (lt_of_heap h1)).trans h1
  have e2 : w1.heap[b2]? = _ := (b1'.block _ (lt_of_heap h2)).trans h2
  have KA := hid (clone48 w1 (some ⟨b1, 0, none⟩) 2 c1 [.int .i64 0, .int .i64 0] (.inr ⟨_, _, rfl, rfl, fun j u hj => by
    rw [Addr.add_lit, Nat.zero_add, cell_of e1]; simpa using hj⟩) (by simp [Value.oneCell']) (by decide))
  have KB := hid (fun W (hW : Below w1.heap.size w1 W) => clone49 W (some ⟨b2, 0, none⟩) 1 c2 opK (.inr ⟨_, _, rfl, rfl, fun j u hj => by
    rw [Addr.add_lit, Nat.zero_add, cell_of ((hW.block _ (lt_of_heap e2)).trans e2)]; simpa using hj⟩) (by simp [opK, Value.oneCell']) (by decide))
  have B1 := hid b1'
  have S1 := hid s1
  have HG1 := hid G1
  clear b1' s1 G1 e1 e2 h1 h2
  go_enter Tryd.func21, Tryd.ntmps21
  go_wp2_with fail
  rw [← hw1]
  clear hw1
  refine KA.out.mono ?_
  rintro e w2 ⟨a3, c3, rfl, ho3, hb2⟩
  have KB' := hid (KB.out w2 hb2)
  have HO3 := hid ho3
  have B2 := hid hb2
  clear ho3 hb2 KB
  go_wp2_with fail
  refine KB'.out.mono ?_
  rintro e w3 ⟨a4, c4, rfl, ho4, hb3⟩
  obtain ⟨b3, cs3, rfl, hle3, hh3, ht3, hz3⟩ := owns_cells HO3.out (by decide)
  obtain ⟨b4, cs4, rfl, hle4, hh4, ht4, hz4⟩ := owns_cells ho4 (by decide)
  obtain ⟨w4, hw4⟩ : ∃ w4, w4 = w3.alloc (.cells #[.slice (some ⟨b3, 0, none⟩) 2 c3, .int .i64 0, .slice (some ⟨b4, 0, none⟩) 1 c4] 37) := ⟨_, rfl⟩
  have b34 : Below w3.heap.size w3 w4 := by rw [hw4]; exact below_alloc _ _
  have G4 : w4.heap[w3.heap.size]? = some (.cells #[.slice (some ⟨b3, 0, none⟩) 2 c3, .int .i64 0, .slice (some ⟨b4, 0, none⟩) 1 c4] 37 (0, 0)) := by rw [hw4]; exact heap_new _ _
  have r3 : w4.ownsRow w1.heap.size 3 1 (.slice (some ⟨b3, 0, none⟩) 2 c3) 2 [.int .i64 0, .int .i64 0] := owns_at (owns_at HO3.out fun q _ hq => hb3.block q hq) fun q _ hq => b34.block q hq
  have r4 : w4.ownsRow w2.heap.size 43 7 (.slice (some ⟨b4, 0, none⟩) 1 c4) 1 opK := owns_at ho4 fun q _ hq => b34.block q hq
  have k3 : w4.heap[b3]? = _ := (b34.block _ (lt_of_heap ((hb3.block _ (lt_of_heap hh3)).trans hh3))).trans ((hb3.block _ (lt_of_heap hh3)).trans hh3)
  have k4 : w4.heap[b4]? = _ := (b34.block _ (lt_of_heap hh4)).trans hh4
  have g4 : w4.heap[w.heap.size]? = _ := (b34.block _ (by have := S1.out; have := B2.out.size; have := hb3.size; omega)).trans ((hb3.block _ (by have := S1.out; have := B2.out.size; omega)).trans ((B2.out.block _ (by have := S1.out; omega)).trans HG1.out))
  have B4 : Hid (Below w.heap.size w w4) := (show Below _ _ _ from (B1.out.trans ((B2.out.trans ((hb3.trans (b34.mono hb3.size)).mono B2.out.size)).mono B1.out.size)))
  clear hh3 hh4 ht3 ht4 hz3 hz4 ho4 b34 hb3 KA KB'
  have n43 : b4 ≠ b3 := cell_ne k4 k3 (by decide)
  have nw3 : w3.heap.size ≠ b3 := cell_ne G4 k3 (by decide)
  have nw4 : w3.heap.size ≠ b4 := cell_ne G4 k4 (by decide)
  have nr3 : w.heap.size ≠ b3 := cell_ne g4 k3 (by decide)
  have nr4 : w.heap.size ≠ b4 := cell_ne g4 k4 (by decide)
  have x0 : w4.cell? ⟨w3.heap.size, 0, none⟩ = some (.slice (some ⟨b3, 0, none⟩) 2 c3) := (cell_of G4).trans rfl
  have q0 : w4.cell? ⟨b3, 0, none⟩ = some (.int .i64 0) := r3.cellAt 0 (by decide)
  have z0 : w4.frozen? ⟨b3, 0, none⟩ = false := free_of k3
  obtain ⟨w5, hw5⟩ : ∃ w5, w5 = w4.setCell ⟨b3, 0, none⟩ (.int .i64 1) := ⟨_, rfl⟩
  have o5 : ∀ q, q ≠ b3 → w5.heap[q]? = w4.heap[q]? := fun q hq => by rw [hw5]; exact Below.heap_setCell _ _ _ _ hq
  have r3' : Hid (w5.ownsRow w1.heap.size 3 1 (.slice (some ⟨b3, 0, none⟩) 2 c3) 2 [.int .i64 1, .int .i64 0]) := (show World.ownsRow _ _ _ _ _ _ _ from by rw [hw5]; exact (r3.stored 0 (.int .i64 1)).1)
  have r4' : w5.ownsRow w2.heap.size 43 7 (.slice (some ⟨b4, 0, none⟩) 1 c4) 1 opK := own_keep r4 fun q hq => o5 q fun e => n43 (by rw [← e]; exact Option.some.inj hq)
  have k4' : w5.heap[b4]? = _ := (o5 _ n43).trans k4
  have G5 : w5.heap[w3.heap.size]? = _ := (o5 _ nw3).trans G4
  have g5 : w5.heap[w.heap.size]? = _ := (o5 _ nr3).trans g4
  have B5 : Hid (Below w.heap.size w w5) := (show Below _ _ _ from by rw [hw5]; exact B4.out.setCell (by show w.heap.size ≤ b3; have := B1.out.size; omega) _)
  have k3' : Hid (∃ cs, w5.heap[b3]? = some (.cells cs 3 (0, 0))) := ⟨_, by rw [hw5]; exact heap_set k3 _⟩
  have y2 : w5.cell? ⟨w3.heap.size, 2, none⟩ = some (.slice (some ⟨b4, 0, none⟩) 1 c4) := (cell_of G5).trans rfl
  have d0 : w5.cell? ⟨b4, 0, none⟩ = some (.int .i64 0) := r4'.cellAt 0 (by decide)
  have zd : w5.frozen? ⟨b4, 0, none⟩ = false := free_of k4'
  obtain ⟨w6, hw6⟩ : ∃ w6, w6 = w5.setCell ⟨b4, 0, none⟩ (.int .i64 0) := ⟨_, rfl⟩
  have o6 : ∀ q, q ≠ b4 → w6.heap[q]? = w5.heap[q]? := fun q hq => by rw [hw6]; exact Below.heap_setCell _ _ _ _ hq
  have r4'' : w6.ownsRow w2.heap.size 43 7 (.slice (some ⟨b4, 0, none⟩) 1 c4) 1 opK := by rw [hw6]; exact (r4'.stored 0 (.int .i64 0)).1
  have d6 : w6.cell? ⟨b4, 6, none⟩ = some (.slice none 0 0) := r4''.cellAt 6 (by decide)
  have G6 : w6.heap[w3.heap.size]? = _ := (o6 _ nw4).trans G5
  have g6 : w6.heap[w.heap.size]? = _ := (o6 _ nr4).trans g5
  have r36 : Hid (w6.ownsRow w1.heap.size 3 1 (.slice (some ⟨b3, 0, none⟩) 2 c3) 2 [.int .i64 1, .int .i64 0]) := (show World.ownsRow _ _ _ _ _ _ _ from own_keep r3'.out fun q hq => o6 q fun e => n43 (by rw [← e]; exact (Option.some.inj hq).symm))
  have k46 : w6.heap[b4]? = some (.cells (cs4.setIfInBounds 0 (.int .i64 0)) 43 (0, 0)) := by rw [hw6]; exact heap_set k4' _
  have B6 : Hid (Below w.heap.size w w6) := (show Below _ _ _ from by rw [hw6]; exact B5.out.setCell (by show w.heap.size ≤ b4; have := B1.out.size; have := B2.out.size; omega) _)
  have K35 := hid (clone50 w6 none 0 0 [] (.inl ⟨rfl, rfl, rfl⟩) (by simp) (by decide))
  have R46 := hid r4''
  have HG6 := hid G6
  have Hg6 := hid g6
  have HK46 := hid k46
  have N := hid (show b4 ≠ b3 ∧ w3.heap.size ≠ b4 ∧ w.heap.size ≠ b4 from ⟨n43, nw4, nr4⟩)
  have LE := hid (show w1.heap.size ≤ b3 ∧ w2.heap.size ≤ b4 from ⟨hle3, hle4⟩)
  clear r3 r4 k3 k4 G4 g4 nw3 nr3 o5 r4' k4' G5 g5 o6 r4'' G6 g6 k46 n43 nw4 nr4 hle3 hle4
  go_upto_region 2 with (fail)
  rw [← hw4]
  clear hw4
  go_upto_region 3 with (fail)
  rw [← hw5]
  clear hw5
  go_wp2
  refine wp_loop_rounds 2 ?_
  rw [rounds_succ]
  go_upto_region 8 with (fail)
  rw [← hw6]
  clear hw6
  go_wp2_with fail
  refine K35.out.mono ?_
  rintro e w7 ⟨a5, c5, rfl, ho5, hb7⟩
  have e6 := lt_of_heap HK46.out
  have G7 : w7.heap[w3.heap.size]? = _ := (hb7.block _ (lt_of_heap HG6.out)).trans HG6.out
  have g7 : w7.heap[w.heap.size]? = _ := (hb7.block _ (lt_of_heap Hg6.out)).trans Hg6.out
  have k47 : w7.heap[b4]? = _ := (hb7.block _ e6).trans HK46.out
  have r47 : w7.ownsRow w2.heap.size 43 7 (.slice (some ⟨b4, 0, none⟩) 1 c4) 1 opK := owns_at R46.out fun q _ hq => hb7.block q hq
  have d7 : w7.cell? ⟨b4, 6, none⟩ = some (.slice none 0 0) := r47.cellAt 6 (by decide)
  have z7 : w7.frozen? ⟨b4, 6, none⟩ = false := free_of k47
  obtain ⟨w8, hw8⟩ : ∃ w8, w8 = w7.setCell ⟨b4, 6, none⟩ (.slice a5 0 c5) := ⟨_, rfl⟩
  have o8 : ∀ q, q ≠ b4 → w8.heap[q]? = w7.heap[q]? := fun q hq => by rw [hw8]; exact Below.heap_setCell _ _ _ _ hq
  have G8 : w8.heap[w3.heap.size]? = some (.cells #[.slice (some ⟨b3, 0, none⟩) 2 c3, .int .i64 0, .slice (some ⟨b4, 0, none⟩) 1 c4] 37 (0, 0)) := (o8 _ N.out.2.1).trans G7
  have g8 : w8.heap[w.heap.size]? = some (.cells #[.slice none 0 0, .int .i64 0, .slice none 0 0] 37 (0, 0)) := (o8 _ N.out.2.2).trans g7
  have r38 : Hid (w8.ownsRow w.heap.size 3 1 (.slice (some ⟨b3, 0, none⟩) 2 c3) 2 [.int .i64 1, .int .i64 0]) := (show World.ownsRow _ _ _ _ _ _ _ from owns_baseS (own_keep (owns_at r36.out fun q _ hq => hb7.block q hq) fun q hq => o8 q fun e => N.out.1 (by rw [← e]; exact (Option.some.inj hq).symm)) (by have := B1.out.size; omega))
  have r48 : Hid (w8.ownsRow w.heap.size 43 7 (.slice (some ⟨b4, 0, none⟩) 1 c4) 1 [.int .i64 0, .string ⟨#[107]⟩, .int .i64 2, .string ⟨#[]⟩, .int .i64 5, .bool false, .slice a5 0 c5]) := (show World.ownsRow _ _ _ _ _ _ _ from owns_baseS (by rw [hw8]; exact (r47.stored 6 (.slice a5 0 c5)).1) (by have := B1.out.size; have := B2.out.size; omega))
  have r58 : Hid (w8.ownsRow w.heap.size 96 3 (.slice a5 0 c5) 0 []) := (show World.ownsRow _ _ _ _ _ _ _ from owns_baseS (own_keep ho5 fun q hq => o8 q fun e => by
    have := (ho5.lt q hq).1
    omega) B6.out.size)
  have B8 : Hid (Below w.heap.size w w8) := (show Below _ _ _ from by rw [hw8]; exact (B6.out.trans (hb7.mono B6.out.size)).setCell (by show w.heap.size ≤ b4; have := B1.out.size; have := B2.out.size; have := LE.out.2; omega) _)
  have HG8 := hid G8
  have Hg8 := hid g8
  clear G7 g7 k47 r47 o8 ho5 hb7 e6 G8 g8
  go_wp2
  rw [← hw8, rounds_succ]
  clear hw8
  have v0 : w8.cell? ⟨w3.heap.size, 0, none⟩ = some (.slice (some ⟨b3, 0, none⟩) 2 c3) := (cell_of HG8.out).trans rfl
  have v1 : w8.cell? ⟨w3.heap.size, 1, none⟩ = some (.int .i64 0) := (cell_of HG8.out).trans rfl
  have v2 : w8.cell? ⟨w3.heap.size, 2, none⟩ = some (.slice (some ⟨b4, 0, none⟩) 1 c4) := (cell_of HG8.out).trans rfl
  obtain ⟨wz, STORE, HZ⟩ := store_row Hg8.out [.slice (some ⟨b3, 0, none⟩) 2 c3, .int .i64 0, .slice (some ⟨b4, 0, none⟩) 1 c4] rfl rfl 37 3 rfl Tryd.sizeOf37
  go_wp2_with (refine STORE _ _ _ _ _ (.tmp 8) (.tmp 46) rfl rfl rfl rfl ?_)
  refine bodyPost_ret (ret_cell (k := 3) Tryd.results21 Tryd.isAgg37 Tryd.sizeOf37 _ _ w.heap.size [.slice (some ⟨b3, 0, none⟩) 2 c3, .int .i64 0, .slice (some ⟨b4, 0, none⟩) 1 c4] rfl rfl HZ.out.1) rfl ⟨some ⟨b3, 0, none⟩, c3, some ⟨b4, 0, none⟩, c4, rfl, ?_, by rw [HZ.out.2]; exact below_setCells (Nat.le_refl _) _ _ B8.out⟩
  have oz : ∀ (q : Nat) (cs : Array Value) (t : TypeId), t ≠ 37 → w8.heap[q]? = some (.cells cs t (0, 0)) → wz.heap[q]? = w8.heap[q]? := fun q cs t ht hq => by rw [HZ.out.2]; exact setCells_other _ _ _ _ _ (cell_ne hq Hg8.out ht)
  refine ⟨owns_below r38.out fun q cs hq => oz q cs _ (by decide) hq, [[.int .i64 0, .string ⟨#[107]⟩, .int .i64 2, .string ⟨#[]⟩, .int .i64 5, .bool false, .slice a5 0 c5]], owns_below r48.out fun q cs hq => oz q cs _ (by decide) hq, ⟨⟨_, rfl, owns_below r58.out fun q cs hq => oz q cs _ (by decide) hq⟩, trivial⟩⟩
end Go.Proofs.YtefpnojanldkeaaDoor
