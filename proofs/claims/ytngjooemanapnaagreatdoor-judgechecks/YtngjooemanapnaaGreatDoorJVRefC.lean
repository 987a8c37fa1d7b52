/- The reference's CommitFault by its contract. -/
import Derived.Test.YtngjooemanapnaaGreatDoorJVRefO
import Derived.Test.YtngjooemanapnaaGreatDoorJVOwns
import Derived.Test.YtngjooemanapnaaGreatDoorJVCheck
import Derived.Test.YtngjooemanapnaaGreatDoorJVCom
import Derived.Test.YtngjooemanapnaaGreatDoorJVCmpD
import Derived.Test.YtngjooemanapnaaGreatDoorJVLayI
namespace Go.Proofs.YtngjooemanapnaaGreatDoor
open Go.RowKit Go.Sort Go.Maps
set_option maxRecDepth 100000
set_option linter.unusedSectionVars false
variable [Inhabited ComV] [DecidableEq D3] [Inhabited D3] [Inhabited Dd] [Inhabited Dn] [Inhabited OpV]

/-- Where an error is: -1 nowhere. -/
def faultAt : Option Nat → Int
  | none => -1
  | some i => i
theorem ret_flt {f : Func} {s : Nat} (hf : f.results = #[ResultVar.cell s 32]) (w : World) (tmps : Array Value) (g : Nat) (a b : Value) (h4 : tmps[s]?.getD undef = .pointer (some ⟨g, 0, none⟩)) (hc : w.cell? ⟨g, 0, none⟩ = some a ∧ w.cell? ⟨g, 1, none⟩ = some b) :
    (results f tmps).run Tryz.prog w = .ok (.agg #[a, b]) w := by
  have hl := run_loadCellsFrom_list Tryz.prog w ⟨g, 0, none⟩ [a, b] 2 rfl (fun j v hj => by
    obtain ⟨h1, h2⟩ := List.getElem?_eq_some_iff.1 hj
    rw [Addr.add_lit, Nat.zero_add]
    have h1' : j < 2 := h1
    rcases (by omega : j = 0 ∨ j = 1) with rfl | rfl
    · rw [hc.1, ← h2]; rfl
    · rw [hc.2, ← h2]; rfl)
  simp [results, hf, h4, asAddr, loadVar, loadCells, Tryz.isAgg32, Tryz.sizeOf32, hl, Result.andThen]
theorem bare_any (w : World) (x : Int) : Calls Tryz.prog 26 #[.int .i64 x] w fun e w' => e = .returned (.agg #[.int .i64 x, .int .i64 (-1)]) ∧ Below w.heap.size w w' := by
  go_enter Tryz.func26, Tryz.ntmps26
  go_wp2
  refine bodyPost_ret (ret_flt Tryz.results26 _ _ w.heap.size (.int .i64 x) (.int .i64 (-1)) rfl ⟨by simp, by simp⟩) rfl ⟨rfl, ?_⟩
  go_grown
theorem fine_any (w : World) : Calls Tryz.prog 30 #[] w fun e w' => e = .returned (.agg #[.int .i64 0, .int .i64 (-1)]) ∧ Below w.heap.size w w' := by
  go_enter Tryz.func30, Tryz.ntmps30
  go_wp2
  refine bodyPost_ret (ret_flt Tryz.results30 _ _ w.heap.size (.int .i64 0) (.int .i64 (-1)) rfl ⟨by simp, by simp⟩) rfl ⟨rfl, ?_⟩
  go_grown
/-- What CommitFault hands back. -/
def FltRet (w : World) (er : Nat × Option Nat) (e : Ending) (w' : World) : Prop := e = .returned (.agg #[.int .i64 ((er.1 : Nat) : Int), .int .i64 (faultAt er.2)]) ∧ Below w.heap.size w w'
/-- The result's box. -/
def resBox : Obj := .cells #[.int .i64 0, .int .i64 0] 32
theorem box2 {w1 w2 : World} {g : Nat} (hg : w1.heap[g]? = some (.cells #[.int .i64 0, .int .i64 0] 32 (0, 0))) (hb : Below (g + 1) w1 w2) : (∀ j, j < 2 → (w2.cell? ⟨g, 0 + j, none⟩).isSome = true) ∧ (∀ j, j < 2 → w2.frozen? ⟨g, 0 + j, none⟩ = false) ∧ ∀ a b : Value, (w2.setCells g 0 [a, b]).cell? ⟨g, 0, none⟩ = some a ∧ (w2.setCells g 0 [a, b]).cell? ⟨g, 1, none⟩ = some b := by
  have h : w2.heap[g]? = some (.cells #[.int .i64 0, .int .i64 0] 32 (0, 0)) := by rw [hb.block g (Nat.lt_succ_self _)]; exact hg
  have h1 : ∀ j, j < 2 → (w2.cell? ⟨g, 0 + j, none⟩).isSome = true := fun j hj => by
    rcases (by omega : j = 0 ∨ j = 1) with rfl | rfl <;> simp [World.cell?, h]
  refine ⟨h1, fun j hj => by simp [World.frozen?, h], fun a b => ?_⟩
  have := World.cell?_setCells_in g [a, b] 0 w2 (fun q hq => h1 q hq)
  exact ⟨this 0 (by show 0 < 2; decide), this 1 (by show 1 < 2; decide)⟩
theorem two_boxes (w : World) (o : Obj) : ((w.alloc o).alloc (.cells #[.int .i64 0, .int .i64 0] 32)).heap[w.heap.size + 1]? = some (.cells #[.int .i64 0, .int .i64 0] 32 (0, 0)) ∧ Below w.heap.size w ((w.alloc o).alloc (.cells #[.int .i64 0, .int .i64 0] 32)) ∧ ((w.alloc o).alloc (.cells #[.int .i64 0, .int .i64 0] 32)).heap.size = w.heap.size + 2 := by
  refine ⟨?_, below2 _ _ _, by simp⟩
  have := (MapKept.heap_alloc (w.alloc o) (.cells #[.int .i64 0, .int .i64 0] 32)).1
  simpa using this
set_option maxHeartbeats 2000000 in
theorem flt_when (w : World) (a1 : Option Addr) (c1 : Nat) (zs : List Int) (pl : Int) (a2 : Option Addr) (m c2 : Nat) (hw : IntsAt w (.slice a1 zs.length c1) zs) (hl : zs.length ≤ 1000000) (hc : chk zs ≠ 0) :
    Calls Tryz.prog 28 #[.agg #[.slice a1 zs.length c1, .int .i64 pl, .slice a2 m c2]] w fun e w' => FltRet w ((chk zs).toNat, none) e w' := by
  obtain ⟨hg, hb1, hs1⟩ := two_boxes w (.cells #[.slice a1 zs.length c1, .int .i64 pl, .slice a2 m c2] 41)
  have K39 := hid (vectorError _ (.slice a1 zs.length c1) zs (hw.mono hb1 (Nat.le_refl _)) hl)
  obtain ⟨z, hz⟩ : ∃ z, z = chk zs := ⟨_, rfl⟩
  rw [← hz] at K39
  have hpos : 0 < z := by rcases chk_cases zs with h | h | h <;> omega
  have hzn : Hid (((chk zs).toNat : Int) = z) := hid (by omega)
  obtain ⟨n, hn⟩ : ∃ n, n = zs.length := ⟨_, rfl⟩
  rw [← hn] at K39 hg hb1 hs1 ⊢
  obtain ⟨w1, hw1⟩ : ∃ w1, w1 = (w.alloc (.cells #[.slice a1 n c1, .int .i64 pl, .slice a2 m c2] 41)).alloc (.cells #[.int .i64 0, .int .i64 0] 32) := ⟨_, rfl⟩
  have HG := hid hg
  have HB1 := hid hb1
  have HS1 := hid hs1
  clear hn hw hl hz hc hg hb1 hs1
  go_enter Tryz.func28, Tryz.ntmps28
  go_wp2_with (go_at_call 27; refine K39.out.mono ?_; rintro e w' ⟨rfl, rfl⟩)
  refine (bare_any _ z).mono ?_
  rintro e w2 ⟨rfl, hb2⟩
  have hbb : Below (w.heap.size + 1 + 1) ((w.alloc (.cells #[.slice a1 n c1, .int .i64 pl, .slice a2 m c2] 41)).alloc (.cells #[.int .i64 0, .int .i64 0] 32)) w2 := hb2.mono (by rw [HS1.out]; exact Nat.le_refl _)
  have X := hid (box2 HG.out hbb)
  have HB2 := hid (HB1.out.trans (hbb.mono (by omega)))
  clear hb2 hbb
  go_wp2_with (refine wpList_store_k _ rfl (.tmp 2) (.tmp 12) 32 rfl (w.heap.size + 1) 0 [.int .i64 z, .int .i64 (-1)] rfl rfl 2 rfl Tryz.sizeOf32 rfl _ ?hW X.out.1 X.out.2.1 ?_; case hW => rfl)
  refine bodyPost_ret (ret_flt Tryz.results28 _ _ (w.heap.size + 1) _ _ rfl (X.out.2.2 _ _)) rfl ⟨?_, below_setCells (by omega) _ _ HB2.out⟩
  rw [hzn.out]
  rfl
set_option maxHeartbeats 4000000 in
theorem flt_bound (w : World) (b1 o1 c1 : Nat) (zs : List Int) (pl : Int) (a2 : Option Addr) (m c2 : Nat) (hw : ∀ t, t < zs.length → w.cell? ⟨b1, o1 + t, none⟩ = some (.int .i64 (zs.getD t 0))) (hc : chk zs = 0) (hm : m ≤ 1000000)
    (hb : pl < 0 ∨ (zs.length : Int) ≤ pl ∨ zs.getD pl.toNat 0 = 0 ∨ 12 < m) :
    Calls Tryz.prog 28 #[.agg #[.slice (some ⟨b1, o1, none⟩) zs.length c1, .int .i64 pl, .slice a2 m c2]] w fun e w' => FltRet w (2, none) e w' := by
  obtain ⟨hg, hb1, hs1⟩ := two_boxes w (.cells #[.slice (some ⟨b1, o1, none⟩) zs.length c1, .int .i64 pl, .slice a2 m c2] 41)
  have hn6 := (chk_zero.1 hc).2.1
  have K39 := hid (vectorError _ (.slice (some ⟨b1, o1, none⟩) zs.length c1) zs (IntsAt.mono ⟨_, _, rfl, (fun h => by cases h), .inr ⟨b1, o1, rfl, hw⟩⟩ hb1 (Nat.le_refl _)) (by omega))
  rw [hc] at K39
  have K23 := fun W => bare_any W 2
  have HW := hid hw
  obtain ⟨n, hn⟩ : ∃ n, n = zs.length := ⟨_, rfl⟩
  rw [← hn] at K39 hg hb1 hs1 hb hn6 HW ⊢
  have HG := hid hg
  have HB1 := hid hb1
  have HS1 := hid hs1
  have fin : Hid (∀ w2 : World, Below ((w.alloc (.cells #[.slice (some ⟨b1, o1, none⟩) n c1, .int .i64 pl, .slice a2 m c2] 41)).alloc (.cells #[.int .i64 0, .int .i64 0] 32)).heap.size ((w.alloc (.cells #[.slice (some ⟨b1, o1, none⟩) n c1, .int .i64 pl, .slice a2 m c2] 41)).alloc (.cells #[.int .i64 0, .int .i64 0] 32)) w2 → Below (w.heap.size + 1 + 1) ((w.alloc (.cells #[.slice (some ⟨b1, o1, none⟩) n c1, .int .i64 pl, .slice a2 m c2] 41)).alloc (.cells #[.int .i64 0, .int .i64 0] 32)) w2) := fun w2 h => h.mono (by rw [HS1.out]; exact Nat.le_refl _)
  clear hn hw hc hg hb1 hs1
  by_cases h1 : pl < 0
  · clear hb
    go_enter Tryz.func28, Tryz.ntmps28
    go_wp2_with (go_at_call 27; refine K39.out.mono ?_; rintro e w' ⟨rfl, rfl⟩)
    refine (K23 _).mono ?_
    rintro e w2 ⟨rfl, hb2⟩
    have X := hid (box2 HG.out (fin.out w2 hb2))
    have HB2 := hid (HB1.out.trans ((fin.out w2 hb2).mono (by omega)))
    clear hb2
    go_wp2_with (refine wpList_store_k _ rfl (.tmp 2) (.tmp 30) 32 rfl (w.heap.size + 1) 0 [.int .i64 2, .int .i64 (-1)] rfl rfl 2 rfl Tryz.sizeOf32 rfl _ ?hW X.out.1 X.out.2.1 ?_; case hW => rfl)
    exact bodyPost_ret (ret_flt Tryz.results28 _ _ (w.heap.size + 1) _ _ rfl (X.out.2.2 _ _)) rfl ⟨rfl, below_setCells (by omega) _ _ HB2.out⟩
  by_cases h2 : (n : Int) ≤ pl
  · clear hb
    go_enter Tryz.func28, Tryz.ntmps28
    go_wp2_with (go_at_call 27; refine K39.out.mono ?_; rintro e w' ⟨rfl, rfl⟩)
    refine (K23 _).mono ?_
    rintro e w2 ⟨rfl, hb2⟩
    have X := hid (box2 HG.out (fin.out w2 hb2))
    have HB2 := hid (HB1.out.trans ((fin.out w2 hb2).mono (by omega)))
    clear hb2
    go_wp2_with (refine wpList_store_k _ rfl (.tmp 2) (.tmp 30) 32 rfl (w.heap.size + 1) 0 [.int .i64 2, .int .i64 (-1)] rfl rfl 2 rfl Tryz.sizeOf32 rfl _ ?hW X.out.1 X.out.2.1 ?_; case hW => rfl)
    exact bodyPost_ret (ret_flt Tryz.results28 _ _ (w.heap.size + 1) _ _ rfl (X.out.2.2 _ _)) rfl ⟨rfl, below_setCells (by omega) _ _ HB2.out⟩
  by_cases h3 : (12 : Int) < m
  · clear hb
    go_enter Tryz.func28, Tryz.ntmps28
    go_wp2_with (go_at_call 27; refine K39.out.mono ?_; rintro e w' ⟨rfl, rfl⟩)
    refine (K23 _).mono ?_
    rintro e w2 ⟨rfl, hb2⟩
    have X := hid (box2 HG.out (fin.out w2 hb2))
    have HB2 := hid (HB1.out.trans ((fin.out w2 hb2).mono (by omega)))
    clear hb2
    go_wp2_with (refine wpList_store_k _ rfl (.tmp 2) (.tmp 30) 32 rfl (w.heap.size + 1) 0 [.int .i64 2, .int .i64 (-1)] rfl rfl 2 rfl Tryz.sizeOf32 rfl _ ?hW X.out.1 X.out.2.1 ?_; case hW => rfl)
    exact bodyPost_ret (ret_flt Tryz.results28 _ _ (w.heap.size + 1) _ _ rfl (X.out.2.2 _ _)) rfl ⟨rfl, below_setCells (by omega) _ _ HB2.out⟩
  obtain ⟨p, rfl⟩ : ∃ p : Nat, pl = p := ⟨pl.toNat, by omega⟩
  have hz : zs.getD p 0 = 0 := by
    rcases hb with h | h | h | h
    · omega
    · omega
    · simpa using h
    · omega
  have hpn : p < n := by omega
  have cz := cell2 (HW.out p hpn) (.cells #[.slice (some ⟨b1, o1, none⟩) n c1, .int .i64 p, .slice a2 m c2] 41) (.cells #[.int .i64 0, .int .i64 0] 32)
  rw [hz] at cz
  clear hb hz
  go_enter Tryz.func28, Tryz.ntmps28
  go_wp2_with (go_at_call 27; refine K39.out.mono ?_; rintro e w' ⟨rfl, rfl⟩)
  refine (K23 _).mono ?_
  rintro e w2 ⟨rfl, hb2⟩
  have X := hid (box2 HG.out (fin.out w2 hb2))
  have HB2 := hid (HB1.out.trans ((fin.out w2 hb2).mono (by omega)))
  clear hb2 cz
  go_wp2_with (refine wpList_store_k _ rfl (.tmp 2) (.tmp 38) 32 rfl (w.heap.size + 1) 0 [.int .i64 2, .int .i64 (-1)] rfl rfl 2 rfl Tryz.sizeOf32 rfl _ ?hW X.out.1 X.out.2.1 ?_; case hW => rfl)
  exact bodyPost_ret (ret_flt Tryz.results28 _ _ (w.heap.size + 1) _ _ rfl (X.out.2.2 _ _)) rfl ⟨rfl, below_setCells (by omega) _ _ HB2.out⟩
set_option maxHeartbeats 4000000 in
theorem flt_empty (w : World) (b1 o1 c1 : Nat) (zs : List Int) (p : Nat) (a2 : Option Addr) (c2 : Nat) (hw : ∀ t, t < zs.length → w.cell? ⟨b1, o1 + t, none⟩ = some (.int .i64 (zs.getD t 0))) (hc : chk zs = 0) (hp : p < zs.length) (hz : zs.getD p 0 ≠ 0) :
    Calls Tryz.prog 28 #[.agg #[.slice (some ⟨b1, o1, none⟩) zs.length c1, .int .i64 p, .slice a2 0 c2]] w fun e w' => FltRet w (3, none) e w' := by
  obtain ⟨hg, hb1, hs1⟩ := two_boxes w (.cells #[.slice (some ⟨b1, o1, none⟩) zs.length c1, .int .i64 p, .slice a2 0 c2] 41)
  have hn6 := (chk_zero.1 hc).2.1
  have K39 := hid (vectorError _ (.slice (some ⟨b1, o1, none⟩) zs.length c1) zs (IntsAt.mono ⟨_, _, rfl, (fun h => by cases h), .inr ⟨b1, o1, rfl, hw⟩⟩ hb1 (Nat.le_refl _)) (by omega))
  rw [hc] at K39
  have cz := cell2 (hw p hp) (.cells #[.slice (some ⟨b1, o1, none⟩) zs.length c1, .int .i64 p, .slice a2 0 c2] 41) (.cells #[.int .i64 0, .int .i64 0] 32)
  obtain ⟨z, hzz⟩ : ∃ z, z = zs.getD p 0 := ⟨_, rfl⟩
  rw [← hzz] at cz hz
  have bz : (z == 0) = false := by simpa using hz
  obtain ⟨n, hn⟩ : ∃ n, n = zs.length := ⟨_, rfl⟩
  rw [← hn] at K39 hg hb1 hs1 hn6 hp cz ⊢
  have p1 : ¬ (n : Int) ≤ p := by omega
  have HG := hid hg
  have HB1 := hid hb1
  have HS1 := hid hs1
  clear hn hw hc hg hb1 hs1 hz hzz
  go_enter Tryz.func28, Tryz.ntmps28
  go_wp2_with (go_at_call 27; refine K39.out.mono ?_; rintro e w' ⟨rfl, rfl⟩)
  refine (bare_any _ 3).mono ?_
  rintro e w2 ⟨rfl, hb2⟩
  have hbb : Below (w.heap.size + 1 + 1) ((w.alloc (.cells #[.slice (some ⟨b1, o1, none⟩) n c1, .int .i64 p, .slice a2 0 c2] 41)).alloc (.cells #[.int .i64 0, .int .i64 0] 32)) w2 := hb2.mono (by rw [HS1.out]; exact Nat.le_refl _)
  have X := hid (box2 HG.out hbb)
  have HB2 := hid (HB1.out.trans (hbb.mono (by omega)))
  clear hb2 hbb cz
  go_wp2_with (refine wpList_store_k _ rfl (.tmp 2) (.tmp 43) 32 rfl (w.heap.size + 1) 0 [.int .i64 3, .int .i64 (-1)] rfl rfl 2 rfl Tryz.sizeOf32 rfl _ ?hW X.out.1 X.out.2.1 ?_; case hW => rfl)
  exact bodyPost_ret (ret_flt Tryz.results28 _ _ (w.heap.size + 1) _ _ rfl (X.out.2.2 _ _)) rfl ⟨rfl, below_setCells (by omega) _ _ HB2.out⟩
end Go.Proofs.YtngjooemanapnaaGreatDoor
