/- The reference's CommitFault by its contract; The reference's CommitFault over its ops. -/
import Derived.Test.YtdnebclemngdcaaGreatDoorJVRefO
import Derived.Test.YtdnebclemngdcaaGreatDoorJVOwns
namespace Go.Proofs.YtdnebclemngdcaaGreatDoor
open Go.RowKit Go.Sort Go.Maps
set_option maxRecDepth 100000
set_option linter.unusedSectionVars false
variable [Inhabited ComV] [DecidableEq D3] [Inhabited D3] [Inhabited Dd] [Inhabited Dn] [Inhabited OpV]

def faultAt : Option Nat → Int
  | none => -1
  | some i => i
theorem ret_flt {f : Func} {s : Nat} (hf : f.results = #[ResultVar.cell s 60]) (w : World) (tmps : Array Value) (g : Nat) (a b : Value) (h4 : tmps[s]?.getD undef = .pointer (some ⟨g, 0, none⟩)) (hc : w.cell? ⟨g, 0, none⟩ = some a ∧ w.cell? ⟨g, 1, none⟩ = some b) :
    (results f tmps).run Tryz.prog w = .ok (.agg #[a, b]) w := by
  have hl := run_loadCellsFrom_list Tryz.prog w ⟨g, 0, none⟩ [a, b] 2 rfl (fun j v hj => by
    obtain ⟨h1, h2⟩ := List.getElem?_eq_some_iff.1 hj; rw [Addr.add_lit, Nat.zero_add]; have h1' : j < 2 := h1; rcases (by omega : j = 0 ∨ j = 1) with rfl | rfl
    · rw [hc.1, ← h2]; rfl
    · rw [hc.2, ← h2]; rfl)
  simp [results, hf, h4, asAddr, loadVar, loadCells, Tryz.isAgg60, Tryz.sizeOf60, hl, Result.andThen]
theorem bare_any (w : World) (x : Int) : Calls Tryz.prog 54 #[.int .i64 x] w fun e w' => e = .returned (.agg #[.int .i64 x, .int .i64 (-1)]) ∧ Below w.heap.size w w' := by
  go_enter Tryz.func54, Tryz.ntmps54; go_wp2; refine bodyPost_ret (ret_flt Tryz.results54 _ _ w.heap.size (.int .i64 x) (.int .i64 (-1)) rfl ⟨by simp, by simp⟩) rfl ⟨rfl, ?_⟩
  go_grown
theorem fine_any (w : World) : Calls Tryz.prog 87 #[] w fun e w' => e = .returned (.agg #[.int .i64 0, .int .i64 (-1)]) ∧ Below w.heap.size w w' := by
  go_enter Tryz.func87, Tryz.ntmps87; go_wp2; refine bodyPost_ret (ret_flt Tryz.results87 _ _ w.heap.size (.int .i64 0) (.int .i64 (-1)) rfl ⟨by simp, by simp⟩) rfl ⟨rfl, ?_⟩
  go_grown
def FltRet (w : World) (er : Nat × Option Nat) (e : Ending) (w' : World) : Prop := e = .returned (.agg #[.int .i64 ((er.1 : Nat) : Int), .int .i64 (faultAt er.2)]) ∧ Below w.heap.size w w'
theorem box2 {w1 w2 : World} {g : Nat} (hg : w1.heap[g]? = some (.cells #[.int .i64 0, .int .i64 0] 60 (0, 0))) (hb : Below (g + 1) w1 w2) : (∀ j, j < 2 → (w2.cell? ⟨g, 0 + j, none⟩).isSome = true) ∧ (∀ j, j < 2 → w2.frozen? ⟨g, 0 + j, none⟩ = false) ∧ ∀ a b : Value, (w2.setCells g 0 [a, b]).cell? ⟨g, 0, none⟩ = some a ∧ (w2.setCells g 0 [a, b]).cell? ⟨g, 1, none⟩ = some b := by
  have h : w2.heap[g]? = some (.cells #[.int .i64 0, .int .i64 0] 60 (0, 0)) := by rw [hb.block g (Nat.lt_succ_self _)]; exact hg
  have h1 : ∀ j, j < 2 → (w2.cell? ⟨g, 0 + j, none⟩).isSome = true := fun j hj => by
    rcases (by omega : j = 0 ∨ j = 1) with rfl | rfl <;> simp [World.cell?, h]
  refine ⟨h1, fun j hj => by simp [World.frozen?, h], fun a b => ?_⟩; have := World.cell?_setCells_in g [a, b] 0 w2 (fun q hq => h1 q hq); exact ⟨this 0 (by show 0 < 2; decide), this 1 (by show 1 < 2; decide)⟩
theorem two_boxes (w : World) (o : Obj) : ((w.alloc o).alloc (.cells #[.int .i64 0, .int .i64 0] 60)).heap[w.heap.size + 1]? = some (.cells #[.int .i64 0, .int .i64 0] 60 (0, 0)) ∧ Below w.heap.size w ((w.alloc o).alloc (.cells #[.int .i64 0, .int .i64 0] 60)) ∧ ((w.alloc o).alloc (.cells #[.int .i64 0, .int .i64 0] 60)).heap.size = w.heap.size + 2 := by
  refine ⟨?_, below2 _ _ _, by simp⟩; have := (MapKept.heap_alloc (w.alloc o) (.cells #[.int .i64 0, .int .i64 0] 60)).1
  simpa using this

set_option maxHeartbeats 2000000 in
theorem flt_when (w : World) (a1 : Option Addr) (c1 : Nat) (zs : List Int) (pl : Int) (a2 : Option Addr) (m c2 : Nat) (hw : IntsAt w (.slice a1 zs.length c1) zs) (hl : zs.length ≤ 1000000) (hc : chk zs ≠ 0) :
    Calls Tryz.prog 53 #[.agg #[.slice a1 zs.length c1, .int .i64 pl, .slice a2 m c2]] w fun e w' => FltRet w ((chk zs).toNat, none) e w' := by
  obtain ⟨hg, hb1, hs1⟩ := two_boxes w (.cells #[.slice a1 zs.length c1, .int .i64 pl, .slice a2 m c2] 34); have K39 := hid (vectorError _ (.slice a1 zs.length c1) zs (hw.mono hb1 (Nat.le_refl _)) hl); obtain ⟨z, hz⟩ : ∃ z, z = chk zs := ⟨_, rfl⟩; rw [← hz] at K39; have hpos : 0 < z := by rcases chk_cases zs with h | h | h <;> omega
  have hzn : Hid (((chk zs).toNat : Int) = z) := hid (by omega); obtain ⟨n, hn⟩ : ∃ n, n = zs.length := ⟨_, rfl⟩; rw [← hn] at K39 hg hb1 hs1 ⊢; obtain ⟨w1, hw1⟩ : ∃ w1, w1 = (w.alloc (.cells #[.slice a1 n c1, .int .i64 pl, .slice a2 m c2] 34)).alloc (.cells #[.int .i64 0, .int .i64 0] 60) := ⟨_, rfl⟩; have HG := hid hg; have HB1 := hid hb1; have HS1 := hid hs1; clear hn hw hl hz hc hg hb1 hs1; go_enter Tryz.func53, Tryz.ntmps53
  go_wp2_with (go_at_call 30; refine K39.out.mono ?_; rintro e w' ⟨rfl, rfl⟩)
  refine (bare_any _ z).mono ?_; rintro e w2 ⟨rfl, hb2⟩; have hbb : Below (w.heap.size + 1 + 1) ((w.alloc (.cells #[.slice a1 n c1, .int .i64 pl, .slice a2 m c2] 34)).alloc (.cells #[.int .i64 0, .int .i64 0] 60)) w2 := hb2.mono (by rw [HS1.out]; exact Nat.le_refl _); have X := hid (box2 HG.out hbb); have HB2 := hid (HB1.out.trans (hbb.mono (by omega))); clear hb2 hbb
  go_wp2_with (refine wpList_store_k _ rfl (.tmp 2) (.tmp 12) 60 rfl (w.heap.size + 1) 0 [.int .i64 z, .int .i64 (-1)] rfl rfl 2 rfl Tryz.sizeOf60 rfl _ ?hW X.out.1 X.out.2.1 ?_; case hW => rfl)
  refine bodyPost_ret (ret_flt Tryz.results53 _ _ (w.heap.size + 1) _ _ rfl (X.out.2.2 _ _)) rfl ⟨?_, below_setCells (by omega) _ _ HB2.out⟩; rw [hzn.out]; rfl

set_option maxHeartbeats 4000000 in
theorem flt_bound (w : World) (b1 o1 c1 : Nat) (zs : List Int) (pl : Int) (a2 : Option Addr) (m c2 : Nat) (hw : ∀ t, t < zs.length → w.cell? ⟨b1, o1 + t, none⟩ = some (.int .i64 (zs.getD t 0))) (hc : chk zs = 0) (hm : m ≤ 1000000)
    (hb : pl < 0 ∨ (zs.length : Int) ≤ pl ∨ zs.getD pl.toNat 0 = 0 ∨ 12 < m) :
    Calls Tryz.prog 53 #[.agg #[.slice (some ⟨b1, o1, none⟩) zs.length c1, .int .i64 pl, .slice a2 m c2]] w fun e w' => FltRet w (2, none) e w' := by
  obtain ⟨hg, hb1, hs1⟩ := two_boxes w (.cells #[.slice (some ⟨b1, o1, none⟩) zs.length c1, .int .i64 pl, .slice a2 m c2] 34); have hn6 := (chk_zero.1 hc).2.1; have K39 := hid (vectorError _ (.slice (some ⟨b1, o1, none⟩) zs.length c1) zs (IntsAt.mono ⟨_, _, rfl, (fun h => by cases h), .inr ⟨b1, o1, rfl, hw⟩⟩ hb1 (Nat.le_refl _)) (by omega)); rw [hc] at K39; have K23 := fun W => bare_any W 2
  have HW := hid hw; obtain ⟨n, hn⟩ : ∃ n, n = zs.length := ⟨_, rfl⟩; rw [← hn] at K39 hg hb1 hs1 hb hn6 HW ⊢; have HG := hid hg; have HB1 := hid hb1; have HS1 := hid hs1; have fin : Hid (∀ w2 : World, Below ((w.alloc (.cells #[.slice (some ⟨b1, o1, none⟩) n c1, .int .i64 pl, .slice a2 m c2] 34)).alloc (.cells #[.int .i64 0, .int .i64 0] 60)).heap.size ((w.alloc (.cells #[.slice (some ⟨b1, o1, none⟩) n c1, .int .i64 pl, .slice a2 m c2] 34)).alloc (.cells #[.int .i64 0, .int .i64 0] 60)) w2 → Below (w.heap.size + 1 + 1) ((w.alloc (.cells #[.slice (some ⟨b1, o1, none⟩) n c1, .int .i64 pl, .slice a2 m c2] 34)).alloc (.cells #[.int .i64 0, .int .i64 0] 60)) w2) := fun w2 h => h.mono (by rw [HS1.out]; exact Nat.le_refl _)
  clear hn hw hc hg hb1 hs1
  by_cases h1 : pl < 0
  · clear hb; go_enter Tryz.func53, Tryz.ntmps53
    go_wp2_with (go_at_call 30; refine K39.out.mono ?_; rintro e w' ⟨rfl, rfl⟩)
    refine (K23 _).mono ?_; rintro e w2 ⟨rfl, hb2⟩; have X := hid (box2 HG.out (fin.out w2 hb2)); have HB2 := hid (HB1.out.trans ((fin.out w2 hb2).mono (by omega))); clear hb2
    go_wp2_with (refine wpList_store_k _ rfl (.tmp 2) (.tmp 30) 60 rfl (w.heap.size + 1) 0 [.int .i64 2, .int .i64 (-1)] rfl rfl 2 rfl Tryz.sizeOf60 rfl _ ?hW X.out.1 X.out.2.1 ?_; case hW => rfl)
    exact bodyPost_ret (ret_flt Tryz.results53 _ _ (w.heap.size + 1) _ _ rfl (X.out.2.2 _ _)) rfl ⟨rfl, below_setCells (by omega) _ _ HB2.out⟩
  by_cases h2 : (n : Int) ≤ pl
  · clear hb; go_enter Tryz.func53, Tryz.ntmps53
    go_wp2_with (go_at_call 30; refine K39.out.mono ?_; rintro e w' ⟨rfl, rfl⟩)
    refine (K23 _).mono ?_; rintro e w2 ⟨rfl, hb2⟩; have X := hid (box2 HG.out (fin.out w2 hb2)); have HB2 := hid (HB1.out.trans ((fin.out w2 hb2).mono (by omega))); clear hb2
    go_wp2_with (refine wpList_store_k _ rfl (.tmp 2) (.tmp 30) 60 rfl (w.heap.size + 1) 0 [.int .i64 2, .int .i64 (-1)] rfl rfl 2 rfl Tryz.sizeOf60 rfl _ ?hW X.out.1 X.out.2.1 ?_; case hW => rfl)
    exact bodyPost_ret (ret_flt Tryz.results53 _ _ (w.heap.size + 1) _ _ rfl (X.out.2.2 _ _)) rfl ⟨rfl, below_setCells (by omega) _ _ HB2.out⟩
  by_cases h3 : (12 : Int) < m
  · clear hb; go_enter Tryz.func53, Tryz.ntmps53
    go_wp2_with (go_at_call 30; refine K39.out.mono ?_; rintro e w' ⟨rfl, rfl⟩)
    refine (K23 _).mono ?_; rintro e w2 ⟨rfl, hb2⟩; have X := hid (box2 HG.out (fin.out w2 hb2)); have HB2 := hid (HB1.out.trans ((fin.out w2 hb2).mono (by omega))); clear hb2
    go_wp2_with (refine wpList_store_k _ rfl (.tmp 2) (.tmp 30) 60 rfl (w.heap.size + 1) 0 [.int .i64 2, .int .i64 (-1)] rfl rfl 2 rfl Tryz.sizeOf60 rfl _ ?hW X.out.1 X.out.2.1 ?_; case hW => rfl)
    exact bodyPost_ret (ret_flt Tryz.results53 _ _ (w.heap.size + 1) _ _ rfl (X.out.2.2 _ _)) rfl ⟨rfl, below_setCells (by omega) _ _ HB2.out⟩
  obtain ⟨p, rfl⟩ : ∃ p : Nat, pl = p := ⟨pl.toNat, by omega⟩
  have hz : zs.getD p 0 = 0 := by
    rcases hb with h | h | h | h
    · omega
    · omega
    · simpa using h
    · omega
  have hpn : p < n := by omega
  have cz := cell2 (HW.out p hpn) (.cells #[.slice (some ⟨b1, o1, none⟩) n c1, .int .i64 p, .slice a2 m c2] 34) (.cells #[.int .i64 0, .int .i64 0] 60); rw [hz] at cz; clear hb hz; go_enter Tryz.func53, Tryz.ntmps53
  go_wp2_with (go_at_call 30; refine K39.out.mono ?_; rintro e w' ⟨rfl, rfl⟩)
  refine (K23 _).mono ?_; rintro e w2 ⟨rfl, hb2⟩; have X := hid (box2 HG.out (fin.out w2 hb2)); have HB2 := hid (HB1.out.trans ((fin.out w2 hb2).mono (by omega))); clear hb2 cz
  go_wp2_with (refine wpList_store_k _ rfl (.tmp 2) (.tmp 38) 60 rfl (w.heap.size + 1) 0 [.int .i64 2, .int .i64 (-1)] rfl rfl 2 rfl Tryz.sizeOf60 rfl _ ?hW X.out.1 X.out.2.1 ?_; case hW => rfl)
  exact bodyPost_ret (ret_flt Tryz.results53 _ _ (w.heap.size + 1) _ _ rfl (X.out.2.2 _ _)) rfl ⟨rfl, below_setCells (by omega) _ _ HB2.out⟩

set_option maxHeartbeats 4000000 in
theorem flt_empty (w : World) (b1 o1 c1 : Nat) (zs : List Int) (p : Nat) (a2 : Option Addr) (c2 : Nat) (hw : ∀ t, t < zs.length → w.cell? ⟨b1, o1 + t, none⟩ = some (.int .i64 (zs.getD t 0))) (hc : chk zs = 0) (hp : p < zs.length) (hz : zs.getD p 0 ≠ 0) :
    Calls Tryz.prog 53 #[.agg #[.slice (some ⟨b1, o1, none⟩) zs.length c1, .int .i64 p, .slice a2 0 c2]] w fun e w' => FltRet w (3, none) e w' := by
  obtain ⟨hg, hb1, hs1⟩ := two_boxes w (.cells #[.slice (some ⟨b1, o1, none⟩) zs.length c1, .int .i64 p, .slice a2 0 c2] 34); have hn6 := (chk_zero.1 hc).2.1; have K39 := hid (vectorError _ (.slice (some ⟨b1, o1, none⟩) zs.length c1) zs (IntsAt.mono ⟨_, _, rfl, (fun h => by cases h), .inr ⟨b1, o1, rfl, hw⟩⟩ hb1 (Nat.le_refl _)) (by omega)); rw [hc] at K39; have cz := cell2 (hw p hp) (.cells #[.slice (some ⟨b1, o1, none⟩) zs.length c1, .int .i64 p, .slice a2 0 c2] 34) (.cells #[.int .i64 0, .int .i64 0] 60); obtain ⟨z, hzz⟩ : ∃ z, z = zs.getD p 0 := ⟨_, rfl⟩; rw [← hzz] at cz hz; have bz : (z == 0) = false := by simpa using hz
  obtain ⟨n, hn⟩ : ∃ n, n = zs.length := ⟨_, rfl⟩; rw [← hn] at K39 hg hb1 hs1 hn6 hp cz ⊢; have p1 : ¬ (n : Int) ≤ p := by omega
  have HG := hid hg; have HB1 := hid hb1; have HS1 := hid hs1; clear hn hw hc hg hb1 hs1 hz hzz; go_enter Tryz.func53, Tryz.ntmps53
  go_wp2_with (go_at_call 30; refine K39.out.mono ?_; rintro e w' ⟨rfl, rfl⟩)
  refine (bare_any _ 3).mono ?_; rintro e w2 ⟨rfl, hb2⟩; have hbb : Below (w.heap.size + 1 + 1) ((w.alloc (.cells #[.slice (some ⟨b1, o1, none⟩) n c1, .int .i64 p, .slice a2 0 c2] 34)).alloc (.cells #[.int .i64 0, .int .i64 0] 60)) w2 := hb2.mono (by rw [HS1.out]; exact Nat.le_refl _); have X := hid (box2 HG.out hbb); have HB2 := hid (HB1.out.trans (hbb.mono (by omega))); clear hb2 hbb cz
  go_wp2_with (refine wpList_store_k _ rfl (.tmp 2) (.tmp 43) 60 rfl (w.heap.size + 1) 0 [.int .i64 3, .int .i64 (-1)] rfl rfl 2 rfl Tryz.sizeOf60 rfl _ ?hW X.out.1 X.out.2.1 ?_; case hW => rfl)
  exact bodyPost_ret (ret_flt Tryz.results53 _ _ (w.heap.size + 1) _ _ rfl (X.out.2.2 _ _)) rfl ⟨rfl, below_setCells (by omega) _ _ HB2.out⟩
end Go.Proofs.YtdnebclemngdcaaGreatDoor
namespace Go.Proofs.YtdnebclemngdcaaGreatDoor
open Go.RowKit Go.Sort Go.Maps
set_option maxRecDepth 100000
set_option linter.unusedSectionVars false
variable [Inhabited ComV] [DecidableEq D3] [Inhabited D3] [Inhabited Dd] [Inhabited Dn] [Inhabited OpV]

theorem below_drew (B : Nat) (w : World) : Below B w w.drew := ⟨rfl, rfl, rfl, Nat.le_refl _, fun _ _ => rfl⟩
set_option maxHeartbeats 4000000 in
theorem flt_ops (w : World) (b1 o1 : Nat) (c1 : Nat) (zs : List Int) (p : Nat) (b2 o2 m c2 : Nat) (os : List OpV)
    (hw : ∀ t, t < zs.length → w.cell? ⟨b1, o1 + t, none⟩ = some (.int .i64 (zs.getD t 0))) (hc : chk zs = 0) (hp : p < zs.length) (hz : zs.getD p 0 ≠ 0) (hm : os.length = m) (h0 : 0 < m) (h12 : m ≤ 12) (hsm : ∀ o ∈ os, Small o)
    (ho : ∀ j, j < m → ∃ dp dc, DotsAt w (.slice dp os[j]!.dots.length dc) os[j]!.dots ∧
      w.cell? ⟨b2, o2 + j * 7, none⟩ = some (.int .i64 os[j]!.at_) ∧ w.cell? ⟨b2, o2 + j * 7 + 1, none⟩ = some (.string os[j]!.key) ∧ w.cell? ⟨b2, o2 + j * 7 + 2, none⟩ = some (.int .i64 os[j]!.kind) ∧ w.cell? ⟨b2, o2 + j * 7 + 3, none⟩ = some (.string os[j]!.text) ∧
      w.cell? ⟨b2, o2 + j * 7 + 4, none⟩ = some (.int .i64 os[j]!.n) ∧ w.cell? ⟨b2, o2 + j * 7 + 5, none⟩ = some (.bool os[j]!.rem) ∧ w.cell? ⟨b2, o2 + j * 7 + 6, none⟩ = some (.slice dp os[j]!.dots.length dc)) :
    Calls Tryz.prog 53 #[.agg #[.slice (some ⟨b1, o1, none⟩) zs.length c1, .int .i64 p, .slice (some ⟨b2, o2, none⟩) m c2]] w fun e w' => FltRet w (scan (opBad zs.length os) m) e w' := by
  obtain ⟨hg, hb1, hs1⟩ := two_boxes w (.cells #[.slice (some ⟨b1, o1, none⟩) zs.length c1, .int .i64 p, .slice (some ⟨b2, o2, none⟩) m c2] 34); have hn6 := (chk_zero.1 hc).2.1; have K39 := hid (vectorError _ (.slice (some ⟨b1, o1, none⟩) zs.length c1) zs (IntsAt.mono ⟨_, _, rfl, (fun h => by cases h), .inr ⟨b1, o1, rfl, hw⟩⟩ hb1 (Nat.le_refl _)) (by omega)); rw [hc] at K39; have cz := cell2 (hw p hp) (.cells #[.slice (some ⟨b1, o1, none⟩) zs.length c1, .int .i64 p, .slice (some ⟨b2, o2, none⟩) m c2] 34) (.cells #[.int .i64 0, .int .i64 0] 60); obtain ⟨z, hzz⟩ : ∃ z, z = zs.getD p 0 := ⟨_, rfl⟩; rw [← hzz] at cz hz; have bz : (z == 0) = false := by simpa using hz
  obtain ⟨n, hn⟩ : ∃ n, n = zs.length := ⟨_, rfl⟩; rw [← hn] at K39 hg hb1 hs1 hn6 hp cz ⊢; have p1 : decide (n ≤ p) = false := by simp; omega
  have m12 : decide (12 < (m : Int)) = false := by simp; omega
  have p0 : decide ((p : Int) < 0) = false := by simp
  have m0 : ((m : Int) == 0) = false := by rw [beq_eq_false_iff_ne]; omega
  obtain ⟨w1, hw1⟩ : ∃ w1, w1 = (w.alloc (.cells #[.slice (some ⟨b1, o1, none⟩) n c1, .int .i64 p, .slice (some ⟨b2, o2, none⟩) m c2] 34)).alloc (.cells #[.int .i64 0, .int .i64 0] 60) := ⟨_, rfl⟩; have C0 : Hid (w1.cell? ⟨w.heap.size, 0, none⟩ = some (.slice (some ⟨b1, o1, none⟩) n c1)) := hid (by rw [hw1, World.cell?_alloc_lt _ _ _ (by simp)]; exact (World.cell?_alloc_at _ _ _ _ rfl).trans rfl); have C2 : Hid (w1.cell? ⟨w.heap.size, 2, none⟩ = some (.slice (some ⟨b2, o2, none⟩) m c2)) := hid (by rw [hw1, World.cell?_alloc_lt _ _ _ (by simp)]; exact (World.cell?_alloc_at _ _ _ _ rfl).trans rfl); rw [← hw1] at hg hb1 hs1; have HG := hid hg; have HB1 := hid hb1; have HS1 := hid hs1; have HO := hid ho; have HM := hid hm; have HS := hid hsm; have HW1 := hid hw1; have mixed : Hid (Tryz.prog.follows .mixedOrders = true) := hid (by kernel_rfl); clear hn hw hc hg hb1 hs1 hz hzz ho hm hsm hw1
  go_enter Tryz.func53, Tryz.ntmps53
  go_wp2_with (go_at_call 30; refine K39.out.mono ?_; rintro e w' ⟨rfl, rfl⟩)
  clear cz bz
  go_loopw [4] (fun i wr => ∃ k : Nat, k ≤ m ∧ i = .int .i64 k ∧ Hid (Below (w.heap.size + 1 + 1) w1 wr) ∧ Hid (∀ t, t < k → opBad n os t = 0)) (fun i _ => m - (intOf i).toNat)
  case atStart => exact ⟨0, Nat.zero_le _, rfl, (by rw [HW1.out]; exact Below.refl _ _), fun t ht => absurd ht (Nat.not_lt_zero _)⟩
  case round =>
    obtain ⟨k, hk, rfl, HB, HI⟩ := hrel; have hB := HB.out; have hsz : w.heap.size + 1 + 1 ≤ wr.heap.size := by have := hB.size; have := HS1.out; omega
    have wB : Hid (Below w.heap.size w wr) := HB1.out.trans (hB.mono (by omega)); have e0 : wr.cell? ⟨w.heap.size, 0, none⟩ = some (.slice (some ⟨b1, o1, none⟩) n c1) := by rw [hB.cell (p := ⟨w.heap.size, 0, none⟩) (by simp; omega)]; exact C0.out
    have e2 : wr.cell? ⟨w.heap.size, 2, none⟩ = some (.slice (some ⟨b2, o2, none⟩) m c2) := by rw [hB.cell (p := ⟨w.heap.size, 2, none⟩) (by simp; omega)]; exact C2.out
    clear hB
    by_cases hlt : k < m
    · obtain ⟨dp, dc, hd, q0, q1, q2, q3, q4, q5, q6⟩ := HO.out k hlt; have up : ∀ {a : Addr} {v : Value}, w.cell? a = some v → wr.cell? a = some v := fun {a v} h => by rw [wB.out.cell (lt_of_cell h)]; exact h
      have r0 := up q0; have r1 := up q1; have r2 := up q2; have r3 := up q3; have r4 := up q4; have r5 := up q5; have r6 := up q6; have hSm : Small os[k]! := HS.out _ (by rw [getElem!_pos os k (by have := HM.out; omega)]; exact List.getElem_mem _); obtain ⟨x, hx⟩ : ∃ x, x = os[k]! := ⟨_, rfl⟩; rw [← hx] at r0 r1 r2 r3 r4 r5 r6 hd hSm; have HX := hid hx; obtain ⟨er, her⟩ : ∃ er, er = opErr x n := ⟨_, rfl⟩; have HER := hid her; obtain ⟨x1, x2, x3, x4, x5, x6, ds⟩ := x; have KC := rOpError wr.drew x1 x2 x3 x4 x5 x6 dp dc ds n ((hd.mono wB.out (Nat.le_refl _)).mono (below_drew wr.heap.size wr) (Nat.le_refl _)) hSm.2 hSm.1; rw [← her] at KC; clear q0 q1 q2 q3 q4 q5 q6 hx her hd hSm up; simp only at r0 r1 r2 r3 r4 r5 r6; have KH := hid KC; clear KC; go_upto_region 13 with (fail); refine wp_region_still_tail 8 mixed.out (by kernel_rfl) ?_
      simp only [List.take_succ_cons, List.take_zero, List.drop_succ_cons, List.drop_zero]
      still_step
      still_step
      still_step
      still_step
      still_step
      still_step
      still_step
      still_step
      refine wpStill_nil ?_; go_wp2_with fail; refine KH.out.mono ?_; rintro e w' ⟨rfl, hw0⟩; have hw' : Below wr.heap.size wr w' := (below_drew _ wr).trans hw0; clear hw0; have hw2 : Below (w.heap.size + 1 + 1) w1 w' := HB.out.trans (hw'.mono (by omega)); have f2 : w'.cell? ⟨w.heap.size, 2, none⟩ = some (.slice (some ⟨b2, o2, none⟩) m c2) := by rw [hw2.cell (p := ⟨w.heap.size, 2, none⟩) (by simp; omega)]; exact C2.out
      have f0 : w'.cell? ⟨b2, o2 + k * 7, none⟩ = some (.int .i64 x1) := by rw [hw'.cell (lt_of_cell r0)]; exact r0
      have hwB : Hid (Below w.heap.size w w') := HB1.out.trans (hw2.mono (by omega)); have X : Hid (∀ q, (∀ j, j < 2 → ((w'.drewN q).cell? ⟨w.heap.size + 1, 0 + j, none⟩).isSome = true) ∧ (∀ j, j < 2 → (w'.drewN q).frozen? ⟨w.heap.size + 1, 0 + j, none⟩ = false) ∧ ∀ a b : Value, ((w'.drewN q).setCells (w.heap.size + 1) 0 [a, b]).cell? ⟨w.heap.size + 1, 0, none⟩ = some a ∧ ((w'.drewN q).setCells (w.heap.size + 1) 0 [a, b]).cell? ⟨w.heap.size + 1, 1, none⟩ = some b) := fun q => box2 HG.out (below_draws hw2 q)
      have hw2' := hid hw2; clear hw2 hw' KH r0 r1 r2 r3 r4 r5 r6 e0 e2
      cases er with
      | succ er =>
        have hbad : opBad n os k = er + 1 := by
          unfold opBad; rw [← HX.out, ← HER.out, if_pos (by omega)]
        have hsc := hid (scan_some (f := opBad n os) hlt HI.out (by omega)); rw [hbad] at hsc; have g1 : (((er + 1 : Nat) : Int) == 0) = false := by rw [beq_eq_false_iff_ne]; omega
        have g2 : (0 : Int) < ((er + 1 : Nat) : Int) := by omega
        obtain ⟨E, hE⟩ : ∃ E : Int, E = ((er + 1 : Nat) : Int) := ⟨_, rfl⟩; rw [← hE] at g1 g2 ⊢; have HE := hid hE; clear hE; go_upto_region 14 with (fail)
        go_quiet (fail)
        go_wp2_with (refine wpList_store_k _ rfl (.tmp 2) (.tmp 86) 60 rfl (w.heap.size + 1) 0 [.int .i64 E, .int .i64 k] rfl rfl 2 rfl Tryz.sizeOf60 rfl _ rfl (fun j hj => ?c1) (fun j hj => ?c2) ?_; (case c1 => exact (X.out _).1 j hj); (case c2 => exact (X.out _).2.1 j hj))
        refine bodyPost_ret (ret_flt Tryz.results53 _ _ (w.heap.size + 1) _ _ rfl ((X.out _).2.2 _ _)) rfl ⟨?_, below_setCells (by omega) _ _ (below_draws hwB.out _)⟩; rw [hsc.out, HE.out]; rfl
      | zero =>
        rcases Nat.eq_zero_or_pos k with rfl | hk0
        · have hz0 : decide ((0 : Int) < ((0 : Nat) : Int)) = false := by decide
          go_upto_region 14 with (fail)
          go_quiet (fail)
          go_wp2; go_roundw
          case rel =>
            refine ⟨1, by omega, rfl, below_draws hw2'.out _, ?_⟩; intro t ht; obtain rfl : t = 0 := by omega
            unfold opBad; rw [← HX.out, ← HER.out, if_neg (by decide), if_neg (by omega)]
          case measure => simp [intOf]; omega
        · obtain ⟨j, rfl⟩ : ∃ j, k = j + 1 := ⟨k - 1, by omega⟩; obtain ⟨_, _, _, q0, _⟩ := HO.out j (by omega); have g0 : w'.cell? ⟨b2, o2 + j * 7, none⟩ = some (.int .i64 os[j]!.at_) := by rw [hwB.out.cell (lt_of_cell q0)]; exact q0
          clear q0; obtain ⟨y, hy⟩ : ∃ y, y = os[j]!.at_ := ⟨_, rfl⟩; rw [← hy] at g0; have HY := hid hy; clear hy; have hp0 : decide ((0 : Int) < ((j + 1 : Nat) : Int)) = true := by simp
          have hj1 : ((j + 1 : Nat) : Int) - 1 = (j : Int) := by omega
          have hjm : j < m := by omega
          by_cases hle : x1 ≤ y
          · have hbad : opBad n os (j + 1) = 3 := by
              unfold opBad; rw [← HX.out, ← HER.out, if_neg (by decide), if_pos ⟨by omega, by rw [Nat.add_sub_cancel, ← HY.out]; exact hle⟩]
            have hsc := hid (scan_some (f := opBad n os) hlt HI.out (by omega)); rw [hbad] at hsc; go_upto_region 14 with (fail)
            go_quiet (fail)
            go_wp2_with (refine wpList_store_k _ rfl (.tmp 2) (.tmp 86) 60 rfl (w.heap.size + 1) 0 [.int .i64 3, .int .i64 ((j + 1 : Nat) : Int)] rfl rfl 2 rfl Tryz.sizeOf60 rfl _ rfl (fun j hj => ?c1) (fun j hj => ?c2) ?_; (case c1 => exact (X.out _).1 j hj); (case c2 => exact (X.out _).2.1 j hj))
            refine bodyPost_ret (ret_flt Tryz.results53 _ _ (w.heap.size + 1) _ _ rfl ((X.out _).2.2 _ _)) rfl ⟨?_, below_setCells (by omega) _ _ (below_draws hwB.out _)⟩; rw [hsc.out]; rfl
          · go_upto_region 14 with (fail)
            go_quiet (fail)
            go_wp2; go_roundw
            case rel =>
              refine ⟨j + 1 + 1, by omega, by go_num, below_draws hw2'.out _, ?_⟩; intro t ht; rcases Nat.lt_succ_iff_lt_or_eq.1 ht with h | rfl
              · exact HI.out t h
              · unfold opBad; rw [← HX.out, ← HER.out, if_neg (by decide), if_neg (fun h => by have h2 := h.2; rw [Nat.add_sub_cancel, ← HY.out] at h2; have h3 : x1 ≤ y := h2; omega)]
            case measure => simp [intOf]; omega
    · obtain rfl : k = m := by omega
      have HB' := hid HB.out; go_wp2_with fail; refine (fine_any _).mono ?_; rintro e w2 ⟨rfl, hb2⟩; have hbb : Below (w.heap.size + 1 + 1) w1 w2 := HB'.out.trans (hb2.mono hsz); have X := hid (box2 HG.out hbb); have HB2 := hid (HB1.out.trans (hbb.mono (by omega))); clear hb2 hbb
      go_wp2_with (refine wpList_store_k _ rfl (.tmp 2) (.tmp 87) 60 rfl (w.heap.size + 1) 0 [.int .i64 0, .int .i64 (-1)] rfl rfl 2 rfl Tryz.sizeOf60 rfl _ ?hW X.out.1 X.out.2.1 ?_; case hW => rfl)
      refine bodyPost_ret (ret_flt Tryz.results53 _ _ (w.heap.size + 1) _ _ rfl (X.out.2.2 _ _)) rfl ⟨?_, below_setCells (by omega) _ _ HB2.out⟩; rw [scan_none HI.out]; rfl
theorem rCommitFault (w : World) (c : ComV) (wv ov : Value) (hw : IntsAt w wv c.when_) (ho : OpsAt w ov c.ops) (hl : c.when_.length ≤ 1000000) (hm : c.ops.length ≤ 1000000) (hsm : ∀ o ∈ c.ops, Small o) :
    Calls Tryz.prog 53 #[.agg #[wv, .int .i64 c.place, ov]] w fun e w' => FltRet w (comErr c) e w' := by
  obtain ⟨a2, c2, rfl, hn2, hc2, ho'⟩ := ho.shape; have hw0 := hw; obtain ⟨a1, c1, rfl, hn1, hw⟩ := hw; unfold comErr
  by_cases hc : chk c.when_ = 0
  · rw [if_neg (by simpa using hc)]; rcases hw with h | ⟨b1, o1, rfl, hw⟩
    · have := (chk_zero.1 hc).1; rw [h] at this; simp at this
    · by_cases hb : c.place < 0 ∨ (c.when_.length : Int) ≤ c.place ∨ c.when_.getD c.place.toNat 0 = 0 ∨ 12 < c.ops.length
      · rw [if_pos hb]; exact flt_bound w b1 o1 c1 c.when_ c.place a2 c.ops.length c2 hw hc hm hb
      · rw [if_neg hb]; obtain ⟨p, hp⟩ : ∃ p : Nat, c.place = p := ⟨c.place.toNat, by omega⟩; rw [hp] at hb ⊢; rw [Int.toNat_natCast] at hb
        by_cases h0 : c.ops = []
        · rw [if_pos h0, h0]; exact flt_empty w b1 o1 c1 c.when_ p a2 c2 hw hc (by omega) (by omega)
        · rw [if_neg h0]; rcases ho' with h | ⟨b2, o2, rfl, ho'⟩
          · exact absurd h h0
          · exact flt_ops w b1 o1 c1 c.when_ p b2 o2 c.ops.length c2 c.ops hw hc (by omega) (by omega) rfl (List.length_pos_iff.2 h0) (by omega) hsm ho'
  · rw [if_pos hc]; exact flt_when w a1 c1 c.when_ c.place a2 c.ops.length c2 hw0 hl hc
end Go.Proofs.YtdnebclemngdcaaGreatDoor
