/- Read: a key, at a vector that may be read; Read: what may not be read. -/
import Derived.Test.YtdnebclemngdcaaGreatDoorFWSeenW
import Derived.Test.YtdnebclemngdcaaGreatDoorFVSetsI
import Derived.Test.YtdnebclemngdcaaGreatDoorFVTurnM
namespace Go.Proofs.YtdnebclemngdcaaGreatDoor
open Go.RowKit Go.Sort Go.Maps
set_option maxRecDepth 100000
set_option linter.unusedSectionVars false
variable [Inhabited ComV] [DecidableEq D3] [Inhabited D3] [Inhabited Dd] [Inhabited Dn] [Inhabited OpV]

theorem seenL_mem {s : St} {key : ByteArray} {at_ : List Int} {c : ComV} (h : c ∈ seenL s key at_) : c ∈ s.parts := mem_rowOf (List.mem_filter.1 h).1
theorem seenL_len (s : St) (key : ByteArray) (at_ : List Int) : (seenL s key at_).length ≤ (rowOf s key).length := List.length_filter_le _ _
theorem ret_cell_tmp {f : Func} {s t k s2 : Nat} (hf : f.results = #[ResultVar.cell s t, ResultVar.tmp s2]) (hag : ∀ w, (isAgg t).run Tryz.prog w = .ok true w) (hsz : ∀ w, (sizeOf t).run Tryz.prog w = .ok k w) (w : World) (tmps : Array Value) (g : Nat) (vs : List Value) (v2 : Value) (hk : vs.length = k) (h4 : tmps[s]?.getD undef = .pointer (some ⟨g, 0, none⟩)) (h5 : tmps[s2]?.getD undef = v2) (hc : ∀ j (hj : j < vs.length), w.cell? ⟨g, j, none⟩ = some vs[j]) :
    (results f tmps).run Tryz.prog w = .ok (.tuple #[.agg vs.toArray, v2]) w := by
  have hl := run_loadCellsFrom_list Tryz.prog w ⟨g, 0, none⟩ vs k hk (fun j v hj => by
    obtain ⟨h1, h2⟩ := List.getElem?_eq_some_iff.1 hj
    rw [Addr.add_lit, Nat.zero_add, hc j h1, h2])
  simp [results, hf, h4, h5, asAddr, loadVar, loadCells, hag, hsz, hl, Result.andThen]
theorem strs_keep {w w' : World} {v : Value} {ss : List (List UInt8)} (h : StrsAt w v ss) (hk : ∀ b, (∃ x, w.cell? ⟨b, 0, none⟩ = some (.string x)) → ∀ t, w'.cell? ⟨b, t, none⟩ = w.cell? ⟨b, t, none⟩) : StrsAt w' v ss := by
  obtain ⟨ad, cap, rfl, h⟩ := h
  refine ⟨ad, cap, rfl, ?_⟩
  rcases h with h | ⟨b, rfl, h⟩
  · exact .inl h
  · by_cases h0 : ss.length = 0
    · exact .inl (List.eq_nil_of_length_eq_zero h0)
    · exact .inr ⟨b, rfl, fun t ht => by rw [hk b ⟨_, h 0 (by omega)⟩ t]; exact h t ht⟩
set_option maxHeartbeats 2000000 in
theorem read_ok (A : Nat → Addr) (w : World) (hE : E4 A w) (h12 : 12 ≤ w.heap.size) (p mb db n nb : Nat) (f : ByteArray → Value) (s : St) (hV : VerAt w p mb db f s n) (hS : StOk s nb) (key : ByteArray) (hk : nameB key = true) (hk6 : key.size ≤ 1000000) (av : Value) (at_ : List Int) (ha : IntsAt w av at_) (hc : chk at_ = 0) (hal : at_.length = nb) (hle : leB s.base at_ = true) (hfew : (rowOf s key).length ≤ 1000) :
    Calls Tryz.prog 14 #[.pointer (some ⟨p, 0, none⟩), .string key, av] w fun e w' => OfRet key (seenL s key at_) w e w' := by
  have hlen := seenL_len s key at_
  have K47 := hid (fun W (hW : Below w.heap.size w W) v (hv : ComsAt W v (seenL s key at_)) => of_ok A W (hE.below hW h12) (by have := hW.size; omega) key hk v (seenL s key at_) hv (by omega) (fun c hc => hS.small c (seenL_mem hc)) (listOk_of (n := nb) (fun c hc => hS.ok c (seenL_mem hc)) (fun c hc => hS.when_ c (seenL_mem hc))))
  obtain ⟨w0, hw0⟩ : ∃ w0, w0 = w.alloc (.cells #[.int .i64 0, .string ⟨#[]⟩, .int .i64 0, .slice none 0 0] 41) := ⟨_, rfl⟩
  have hb0 : Below w.heap.size w w0 := by rw [hw0]; exact below_alloc _ _
  have K46 := hid (seen_ok A w0 (hE.below hb0 h12) (by have := hb0.size; omega) p mb db n nb f s (hV.moved hb0) hS key hk hk6 av at_ (ha.mono hb0 (Nat.le_refl _)) hc hal hle hfew)
  obtain ⟨aa, ac, rfl⟩ := ha.slice
  clear hV hS ha hE hk hc hal hle hfew hlen
  go_enter Tryz.func14, Tryz.ntmps14
  go_wp2_with fail
  rw [← hw0]
  refine K46.out.mono ?_
  rintro e w1 ⟨v1, rfl, hc1, hb1⟩
  have B1 := hid (hb0.trans (hb1.mono hb0.size))
  have C1 := hid hc1
  obtain ⟨a1, k1, hv1, _⟩ := hc1.shape
  subst hv1
  have x1 : w1.heap[w.heap.size]? = some (.cells #[.int .i64 0, .string ⟨#[]⟩, .int .i64 0, .slice none 0 0] 41 (0, 0)) := by
    rw [hb1.block _ (by rw [hw0]; simp), hw0]; exact (MapKept.heap_alloc _ _).1
  have X1 := hid x1
  clear hc1 hb1 hw0 x1 K46
  go_wp2_with fail
  refine (K47.out w1 B1.out _ C1.out).mono ?_
  rintro e w2 ⟨v2, ds, rfl, hi2, hva, hb2⟩
  obtain ⟨sv, hve, hst⟩ := hva
  subst hve
  have HST := hid hst
  obtain ⟨sa, sc, hsv⟩ : ∃ sa sc, sv = .slice sa (valA ds).set.length sc := by obtain ⟨sa, sc, hsv, _⟩ := hst; exact ⟨sa, sc, hsv⟩
  subst hsv
  have x2 : w2.heap[w.heap.size]? = some (.cells #[.int .i64 0, .string ⟨#[]⟩, .int .i64 0, .slice none 0 0] 41 (0, 0)) := (hb2.block _ (Array.getElem?_eq_some_iff.1 X1.out).1).trans X1.out
  have X2 := hid x2
  have R4 := hid (row4 x2)
  have B2 := hid (B1.out.trans (hb2.mono B1.out.size))
  have I2 := hid hi2
  obtain ⟨x, hx⟩ : ∃ x, x = valA ds := ⟨_, rfl⟩
  rw [← hx] at HST ⊢
  have HX := hid hx
  obtain ⟨xk, xt, xn, xs⟩ := x
  obtain ⟨m, hm⟩ : ∃ m, m = xs.length := ⟨_, rfl⟩
  simp only at HST ⊢
  rw [← hm] at HST ⊢
  have S4 := hid (set4 x2 [.int .i64 xk, .string xt, .int .i64 xn, .slice sa m sc] rfl)
  clear hst hb2 x2 hi2 hx hm K47
  go_wp2_with (refine wpList_store_k _ rfl (.tmp 6) (.tmp 24) 41 rfl w.heap.size 0 [.int .i64 xk, .string xt, .int .i64 xn, .slice sa m sc] rfl rfl 4 rfl Tryz.sizeOf41 rfl _ ?hW R4.out.1 R4.out.2 ?_; case hW => rfl)
  refine bodyPost_ret (ret_cell_tmp (k := 4) Tryz.results14 Tryz.isAgg41 Tryz.sizeOf41 _ _ w.heap.size [.int .i64 xk, .string xt, .int .i64 xn, .slice sa m sc] _ rfl rfl rfl S4.out) rfl ⟨_, ds, rfl, I2.out, ?_, below_setCells (Nat.le_refl _) _ _ B2.out⟩
  rw [← HX.out]
  refine ⟨_, rfl, strs_keep HST.out fun b hb t => ?_⟩
  have hne : b ≠ w.heap.size := fun e => by
    obtain ⟨y, hy⟩ := hb
    rw [e] at hy
    simp only [World.cell?, X2.out] at hy
    cases hy
  exact World.cell?_setCells_out _ _ _ _ _ (fun e _ => absurd e hne)
end Go.Proofs.YtdnebclemngdcaaGreatDoor
namespace Go.Proofs.YtdnebclemngdcaaGreatDoor
open Go.RowKit Go.Sort Go.Maps
set_option maxRecDepth 100000
set_option linter.unusedSectionVars false
variable [Inhabited ComV] [DecidableEq D3] [Inhabited D3] [Inhabited Dd] [Inhabited Dn] [Inhabited OpV]

/-- A read that is refused: an error that is not nil. -/
def SeenBad (w : World) (e : Ending) (w' : World) : Prop := ∃ t u, e = .returned (.tuple #[.slice none 0 0, .iface t u]) ∧ Below w.heap.size w w'
set_option maxHeartbeats 2000000 in
theorem seen_name (A : Nat → Addr) (w : World) (hE : E5 A w) (p : Nat) (key : ByteArray) (hk : nameB key = false) (av : Value) :
    Calls Tryz.prog 46 #[.pointer (some ⟨p, 0, none⟩), .string key, av] w fun e w' => SeenBad w e w' := by
  have K75 := checkName_bad A w hE key hk
  clear hE hk
  go_enter Tryz.func46, Tryz.ntmps46
  go_wp2_with fail
  refine K75.mono ?_
  rintro e w' ⟨rfl, hw'⟩
  rw [hw']
  clear hw'
  go_wp2_with fail
  first
    | (go_ret2; exact ⟨_, _, rfl, Below.refl _ _⟩)
    | (go_region; go_wp2; go_ret2; exact ⟨_, _, rfl, (Below.refl _ _).drew⟩)
set_option maxHeartbeats 2000000 in
theorem seen_vec (A : Nat → Addr) (w : World) (hE : E4 A w) (p mb db n : Nat) (f : ByteArray → Value) (s : St) (hV : VerAt w p mb db f s n) (key : ByteArray) (hk : nameB key = true) (av : Value) (at_ : List Int) (ha : IntsAt w av at_) (hl : at_.length ≤ 1000000) (h0 : ¬(chk at_ = 0 ∧ at_.length = s.base.length)) :
    Calls Tryz.prog 46 #[.pointer (some ⟨p, 0, none⟩), .string key, av] w fun e w' => SeenBad w e w' := by
  obtain ⟨ba, bc, p0, p1, p2, hbt, hpx⟩ := hV.boxAt
  have K75 := hid (fun W => checkName_ok W key hk)
  have K37 := hid (checkVector_bad A w hE p _ s.base _ _ hpx hbt.at av at_ ha hl h0)
  obtain ⟨aa, ac, rfl⟩ := ha.slice
  clear hE hk hV ha h0 hbt hpx p0 p1 p2
  go_enter Tryz.func46, Tryz.ntmps46
  go_wp2_with (go_at_call 75; refine (K75.out _).mono ?_; rintro e w' ⟨rfl, hw'⟩; rw [hw']; clear hw')
  refine K37.out.mono ?_
  rintro e w' ⟨⟨k, rfl⟩, hw'⟩
  rw [hw']
  clear hw'
  go_wp2_with fail
  first
    | (go_ret2; exact ⟨_, _, rfl, Below.refl _ _⟩)
    | (go_region; go_wp2; go_ret2; exact ⟨_, _, rfl, (Below.refl _ _).drew⟩)
set_option maxHeartbeats 2000000 in
theorem seen_old (A : Nat → Addr) (w : World) (hE : E4 A w) (ho : w.cell? ⟨1, 0, none⟩ = some (.iface 255 (.pointer (some (A 8))))) (p mb db n : Nat) (f : ByteArray → Value) (s : St) (hV : VerAt w p mb db f s n) (hbs : chk s.base = 0) (key : ByteArray) (hk : nameB key = true) (av : Value) (at_ : List Int) (ha : IntsAt w av at_) (hc : chk at_ = 0) (hal : at_.length = s.base.length) (hle : leB s.base at_ = false) :
    Calls Tryz.prog 46 #[.pointer (some ⟨p, 0, none⟩), .string key, av] w fun e w' => SeenBad w e w' := by
  obtain ⟨ba, bc, p0, p1, p2, hbt, hpx⟩ := hV.boxAt
  have K75 := hid (fun W => checkName_ok W key hk)
  have K37 := hid (checkVector_ok A w hE p _ s.base _ _ hpx hbt.at av at_ ha hc hal)
  have K38 := hid (within_ok A w hE _ _ s.base at_ hbt.at ha (two_zero.2 ⟨hbs, hc, hal.symm⟩))
  rw [hle] at K38
  obtain ⟨aa, ac, rfl⟩ := ha.slice
  obtain ⟨nb', hnb'⟩ : ∃ nb', nb' = s.base.length := ⟨_, rfl⟩
  rw [← hnb'] at p0 K38
  clear hE hk hV ha hbt hpx p1 p2 hc hal hle hnb'
  go_enter Tryz.func46, Tryz.ntmps46
  go_wp2_with (first | (go_at_call 75; refine (K75.out _).mono ?_; rintro e w' ⟨rfl, hw'⟩; rw [hw']; clear hw') | (go_at_call 37; refine K37.out.mono ?_; rintro e w' ⟨rfl, hw'⟩; rw [hw']; clear hw'))
  refine K38.out.mono ?_
  rintro e w3 ⟨rfl, q3, hq3⟩
  have ho3 : w3.cell? ⟨1, 0, none⟩ = some (.iface 255 (.pointer (some (A 8)))) := by rw [hq3]; exact ho
  have B3 : Hid (Below w.heap.size w w3) := (show Below _ _ _ from by rw [hq3]; exact below_draws (Below.refl _ _) q3)
  clear hq3 p0 ho
  go_wp2_with fail
  first
    | (go_ret2; exact ⟨_, _, rfl, B3.out⟩)
    | (go_region; go_wp2; go_ret2; exact ⟨_, _, rfl, B3.out.drew⟩)
/-- A read that is refused: an error that is not nil. -/
def ReadBad (w : World) (e : Ending) (w' : World) : Prop := ∃ t u, e = .returned (.tuple #[.agg #[.int .i64 0, .string ⟨#[]⟩, .int .i64 0, .slice none 0 0], .iface t u]) ∧ Below w.heap.size w w'
set_option maxHeartbeats 2000000 in
theorem read_bad (w : World) (p : Nat) (key : ByteArray) (aa : Option Addr) (al ac : Nat) (K : ∀ W, Below w.heap.size w W → Calls Tryz.prog 46 #[.pointer (some ⟨p, 0, none⟩), .string key, .slice aa al ac] W fun e w' => SeenBad W e w') :
    Calls Tryz.prog 14 #[.pointer (some ⟨p, 0, none⟩), .string key, .slice aa al ac] w fun e w' => ReadBad w e w' := by
  obtain ⟨w0, hw0⟩ : ∃ w0, w0 = w.alloc (.cells #[.int .i64 0, .string ⟨#[]⟩, .int .i64 0, .slice none 0 0] 41) := ⟨_, rfl⟩
  have hb0 : Below w.heap.size w w0 := by rw [hw0]; exact below_alloc _ _
  have K0 := hid (K w0 hb0)
  clear K
  go_enter Tryz.func14, Tryz.ntmps14
  go_wp2_with fail
  rw [← hw0]
  refine K0.out.mono ?_
  rintro e w1 ⟨t, u, rfl, hb1⟩
  have x1 : w1.heap[w.heap.size]? = some (.cells #[.int .i64 0, .string ⟨#[]⟩, .int .i64 0, .slice none 0 0] 41 (0, 0)) := by
    rw [hb1.block _ (by rw [hw0]; simp), hw0]; exact (MapKept.heap_alloc _ _).1
  have B1 := hid (hb0.trans (hb1.mono hb0.size))
  have R4 := hid (row4 x1)
  have S4 := hid (set4 x1 [.int .i64 0, .string ⟨#[]⟩, .int .i64 0, .slice none 0 0] rfl)
  clear hb1 hw0 x1 K0
  go_wp2_with (refine wpList_store_k _ rfl (.tmp 6) (.tmp 19) 41 rfl w.heap.size 0 [.int .i64 0, .string ⟨#[]⟩, .int .i64 0, .slice none 0 0] rfl rfl 4 rfl Tryz.sizeOf41 rfl _ ?hW R4.out.1 R4.out.2 ?_; case hW => rfl)
  refine bodyPost_ret (ret_cell_tmp (k := 4) Tryz.results14 Tryz.isAgg41 Tryz.sizeOf41 _ _ w.heap.size [.int .i64 0, .string ⟨#[]⟩, .int .i64 0, .slice none 0 0] _ rfl rfl rfl S4.out) rfl ⟨_, _, rfl, below_setCells (Nat.le_refl _) _ _ B1.out⟩
end Go.Proofs.YtdnebclemngdcaaGreatDoor
