/- Read: a key, at a vector that may be read; New: an empty store. -/
import Derived.Test.YtdnebclemngdcaaGreatDoorJWSeenW
import Derived.Test.YtdnebclemngdcaaGreatDoorJVSetsI
import Derived.Test.YtdnebclemngdcaaGreatDoorJVTurnM
import Derived.Test.YtdnebclemngdcaaGreatDoorJWState
import Derived.Test.YtdnebclemngdcaaGreatDoorJVMath
import Derived.Maps.OwnSet
namespace Go.Proofs.YtdnebclemngdcaaGreatDoor
open Go.RowKit Go.Sort Go.Maps
set_option maxRecDepth 100000
set_option linter.unusedSectionVars false
variable [Inhabited ComV] [DecidableEq D3] [Inhabited D3] [Inhabited Dd] [Inhabited Dn] [Inhabited OpV]

theorem seenL_mem {s : St} {key : ByteArray} {at_ : List Int} {c : ComV} (h : c ∈ seenL s key at_) : c ∈ s.parts := mem_rowOf (List.mem_filter.1 h).1
theorem seenL_len (s : St) (key : ByteArray) (at_ : List Int) : (seenL s key at_).length ≤ (rowOf s key).length := List.length_filter_le _ _
theorem ret_cell_tmp {f : Func} {s t k s2 : Nat} (hf : f.results = #[ResultVar.cell s t, ResultVar.tmp s2]) (hag : ∀ w, (isAgg t).run Tryz.prog w = .ok true w) (hsz : ∀ w, (sizeOf t).run Tryz.prog w = .ok k w) (w : World) (tmps : Array Value) (g : Nat) (vs : List Value) (v2 : Value) (hk : vs.length = k) (h4 : tmps[s]?.getD undef = .pointer (some ⟨g, 0, none⟩)) (h5 : tmps[s2]?.getD undef = v2) (hc : ∀ j (hj : j < vs.length), w.cell? ⟨g, j, none⟩ = some vs[j]) :
    (results f tmps).run Tryz.prog w = .ok (.tuple #[.agg vs.toArray, v2]) w := by
  have hl := run_loadCellsFrom_list Tryz.prog w ⟨g, 0, none⟩ vs k hk (fun j v hj => by
    obtain ⟨h1, h2⟩ := List.getElem?_eq_some_iff.1 hj; rw [Addr.add_lit, Nat.zero_add, hc j h1, h2])
  simp [results, hf, h4, h5, asAddr, loadVar, loadCells, hag, hsz, hl, Result.andThen]
theorem strs_keep {w w' : World} {v : Value} {ss : List (List UInt8)} (h : StrsAt w v ss) (hk : ∀ b, (∃ x, w.cell? ⟨b, 0, none⟩ = some (.string x)) → ∀ t, w'.cell? ⟨b, t, none⟩ = w.cell? ⟨b, t, none⟩) : StrsAt w' v ss := by
  obtain ⟨ad, cap, rfl, h⟩ := h; refine ⟨ad, cap, rfl, ?_⟩; rcases h with h | ⟨b, rfl, h⟩
  · exact .inl h
  · by_cases h0 : ss.length = 0
    · exact .inl (List.eq_nil_of_length_eq_zero h0)
    · exact .inr ⟨b, rfl, fun t ht => by rw [hk b ⟨_, h 0 (by omega)⟩ t]; exact h t ht⟩
set_option maxHeartbeats 2000000 in
theorem read_ok (A : Nat → Addr) (w : World) (hE : E4 A w) (h12 : 12 ≤ w.heap.size) (p mb db n nb : Nat) (f : ByteArray → Value) (s : St) (hV : VerAt w p mb db f s n) (hS : StOk s nb) (key : ByteArray) (hk : nameB key = true) (hk6 : key.size ≤ 1000000) (av : Value) (at_ : List Int) (ha : IntsAt w av at_) (hc : chk at_ = 0) (hal : at_.length = nb) (hle : leB s.base at_ = true) (hfew : (rowOf s key).length ≤ 1000) :
    Calls Tryz.prog 14 #[.pointer (some ⟨p, 0, none⟩), .string key, av] w fun e w' => OfRet key (seenL s key at_) w e w' := by
  have hlen := seenL_len s key at_; have K47 := hid (fun W (hW : Below w.heap.size w W) v (hv : ComsAt W v (seenL s key at_)) => of_ok A W (hE.below hW h12) (by have := hW.size; omega) key hk v (seenL s key at_) hv (by omega) (fun c hc => hS.small c (seenL_mem hc)) (listOk_of (n := nb) (fun c hc => hS.ok c (seenL_mem hc)) (fun c hc => hS.when_ c (seenL_mem hc)))); obtain ⟨w0, hw0⟩ : ∃ w0, w0 = w.alloc (.cells #[.int .i64 0, .string ⟨#[]⟩, .int .i64 0, .slice none 0 0] 41) := ⟨_, rfl⟩; have hb0 : Below w.heap.size w w0 := by rw [hw0]; exact below_alloc _ _
  have K46 := hid (seen_ok A w0 (hE.below hb0 h12) (by have := hb0.size; omega) p mb db n nb f s (hV.moved hb0) hS key hk hk6 av at_ (ha.mono hb0 (Nat.le_refl _)) hc hal hle hfew); obtain ⟨aa, ac, rfl⟩ := ha.slice; clear hV hS ha hE hk hc hal hle hfew hlen; go_enter Tryz.func14, Tryz.ntmps14; go_wp2_with fail; rw [← hw0]; refine K46.out.mono ?_; rintro e w1 ⟨v1, rfl, hc1, hb1⟩; have B1 := hid (hb0.trans (hb1.mono hb0.size)); have C1 := hid hc1; obtain ⟨a1, k1, hv1, _⟩ := hc1.shape; subst hv1
  have x1 : w1.heap[w.heap.size]? = some (.cells #[.int .i64 0, .string ⟨#[]⟩, .int .i64 0, .slice none 0 0] 41 (0, 0)) := by
    rw [hb1.block _ (by rw [hw0]; simp), hw0]; exact (MapKept.heap_alloc _ _).1
  have X1 := hid x1; clear hc1 hb1 hw0 x1 K46; go_wp2_with fail; refine (K47.out w1 B1.out _ C1.out).mono ?_; rintro e w2 ⟨v2, ds, rfl, hi2, hva, hb2⟩; obtain ⟨sv, hve, hst⟩ := hva; subst hve; have HST := hid hst; obtain ⟨sa, sc, hsv⟩ : ∃ sa sc, sv = .slice sa (valA ds).set.length sc := by obtain ⟨sa, sc, hsv, _⟩ := hst; exact ⟨sa, sc, hsv⟩
  subst hsv; have x2 : w2.heap[w.heap.size]? = some (.cells #[.int .i64 0, .string ⟨#[]⟩, .int .i64 0, .slice none 0 0] 41 (0, 0)) := (hb2.block _ (Array.getElem?_eq_some_iff.1 X1.out).1).trans X1.out; have X2 := hid x2; have R4 := hid (row4 x2); have B2 := hid (B1.out.trans (hb2.mono B1.out.size)); have I2 := hid hi2; obtain ⟨x, hx⟩ : ∃ x, x = valA ds := ⟨_, rfl⟩; rw [← hx] at HST ⊢; have HX := hid hx; obtain ⟨xk, xt, xn, xs⟩ := x; obtain ⟨m, hm⟩ : ∃ m, m = xs.length := ⟨_, rfl⟩; simp only at HST ⊢; rw [← hm] at HST ⊢; have S4 := hid (set4 x2 [.int .i64 xk, .string xt, .int .i64 xn, .slice sa m sc] rfl); clear hst hb2 x2 hi2 hx hm K47
  go_wp2_with (refine wpList_store_k _ rfl (.tmp 6) (.tmp 24) 41 rfl w.heap.size 0 [.int .i64 xk, .string xt, .int .i64 xn, .slice sa m sc] rfl rfl 4 rfl Tryz.sizeOf41 rfl _ ?hW R4.out.1 R4.out.2 ?_; case hW => rfl)
  refine bodyPost_ret (ret_cell_tmp (k := 4) Tryz.results14 Tryz.isAgg41 Tryz.sizeOf41 _ _ w.heap.size [.int .i64 xk, .string xt, .int .i64 xn, .slice sa m sc] _ rfl rfl rfl S4.out) rfl ⟨_, ds, rfl, I2.out, ?_, below_setCells (Nat.le_refl _) _ _ B2.out⟩; rw [← HX.out]; refine ⟨_, rfl, strs_keep HST.out fun b hb t => ?_⟩
  have hne : b ≠ w.heap.size := fun e => by
    obtain ⟨y, hy⟩ := hb; rw [e] at hy; simp only [World.cell?, X2.out] at hy; cases hy
  exact World.cell?_setCells_out _ _ _ _ _ (fun e _ => absurd e hne)
end Go.Proofs.YtdnebclemngdcaaGreatDoor
namespace Go.Proofs.YtdnebclemngdcaaGreatDoor
open Go.RowKit Go.Sort Go.Maps
set_option maxRecDepth 100000
set_option linter.unusedSectionVars false
variable [Inhabited ComV] [DecidableEq D3] [Inhabited D3] [Inhabited Dd] [Inhabited Dn] [Inhabited OpV]

theorem Tryz.info3n : (Tryz.prog.info? 3).map (fun i => (i.zero, i.size, i.bytes)) = some (some (.int .i64 0), 1, 8) := by kernel_rfl
theorem new_bad (A : Nat → Addr) (w : World) (hE : E4 A w) (n : Int) (h : n < 1 ∨ 6 < n) : Calls Tryz.prog 8 #[.int .i64 n] w fun e w' => e = .returned (.tuple #[.pointer none, .iface 255 (.pointer (some (A 1)))]) ∧ Below w.heap.size w w' := by
  have c0 := hE.bound; clear hE
  by_cases h1 : n < 1
  · go_enter Tryz.func8, Tryz.ntmps8; go_wp2
    go_region
    go_wp2
    go_ret2
    exact ⟨rfl, (Below.refl _ _).drew⟩
  · have h2 : 6 < n := by omega
    clear h; go_enter Tryz.func8, Tryz.ntmps8; go_wp2
    go_region
    go_wp2
    go_ret2
    exact ⟨rfl, (Below.refl _ _).drew⟩
theorem ver_new {w w1 : World} {n : Nat} (ho : w1.ownsRow w.heap.size 3 1 (.slice (some ⟨w.heap.size, 0, none⟩) n n) n (madeCells #[Value.int .i64 0] n).toList) :
    VerAt (((w1.alloc (.map #[] 0)).alloc (.map #[] 0)).alloc (.cells #[.slice (some ⟨w.heap.size, 0, none⟩) n n, .map (some w1.heap.size), .map (some (w1.heap.size + 1))] 83)) (w1.heap.size + 1 + 1) w1.heap.size (w1.heap.size + 1) (fun _ => .slice none 0 0) ⟨List.replicate n 0, [], []⟩ 0 := by
  refine ⟨⟨.slice (some ⟨w.heap.size, 0, none⟩) n n, ?_, ?_⟩, ⟨.map [], ?_, fun d _ => rfl⟩, ⟨.map [], ?_, fun k => ⟨rfl, rfl⟩⟩, fun k => ⟨[], World.ownsRow_nil _ _ _ _, trivial⟩, fun k k' _ b hb => (by cases hb), by omega⟩
  · have := (MapKept.heap_alloc ((w1.alloc (.map #[] 0)).alloc (.map #[] 0)) (.cells #[.slice (some ⟨w.heap.size, 0, none⟩) n n, .map (some w1.heap.size), .map (some (w1.heap.size + 1))] 83)).1; rwa [World.size_alloc, World.size_alloc] at this
  · have h3 := ((ho.alloc (.map #[] 0)).alloc (.map #[] 0)).alloc (.cells #[.slice (some ⟨w.heap.size, 0, none⟩) n n, .map (some w1.heap.size), .map (some (w1.heap.size + 1))] 83); rw [toList_madeCells_one] at h3; unfold IntsT; refine rowT_of_owns (base := w.heap.size) (n := n) ?_ (by simp) (fun r hr => by obtain ⟨_, _, rfl⟩ := List.mem_map.1 hr; rfl)
    have e : ((List.replicate n (0 : Int)).map fun z => [Value.int .i64 z]).flatten = List.replicate n (Value.int .i64 0) := by
      rw [List.map_replicate]; exact List.flatten_replicate_singleton
    rw [e]; exact h3
  · have := ((World.ownsMap_made (w1.alloc (.map #[] 0)) Tryz.prog 87 (unitElem (H := Unit))).alloc (.cells #[.slice (some ⟨w.heap.size, 0, none⟩) n n, .map (some w1.heap.size), .map (some (w1.heap.size + 1))] 83)); rwa [World.size_alloc] at this
  · exact ((World.ownsMap_made w1 Tryz.prog 9 sliceElem).alloc _).alloc _
set_option maxHeartbeats 1000000 in
theorem new_ok (w : World) (n : Nat) (h1 : 1 ≤ n) (h6 : n ≤ 6) : Calls Tryz.prog 8 #[.int .i64 n] w fun e w' => ∃ p mb db, e = .returned (.tuple #[.pointer (some ⟨p, 0, none⟩), .nilIface]) ∧ w.heap.size ≤ p ∧ w.heap.size ≤ mb ∧ w.heap.size ≤ db ∧ VerAt w' p mb db (fun _ => .slice none 0 0) ⟨List.replicate n 0, [], []⟩ 0 ∧ Below w.heap.size w w' := by
  obtain ⟨i0, hi, hz0, hz1, hz2⟩ := info_parts Tryz.info3n; have hn1 : ¬ (n : Int) < 1 := by omega
  have hn6 : ¬ 6 < (n : Int) := by omega
  have hmm := @run_makeMap Tryz.prog; go_enter Tryz.func8, Tryz.ntmps8
  go_wp2_with (refine wpList_make_full _ rfl _ _ 23 rfl w.heap.size 3 i0 (.int .i64 0) 1 Tryz.underlying23 hi hz0 hz1 .i64 .i64 _ _ n rfl rfl rfl rfl ?b2 ?b3 ?b4 ?_)
  case b2 => omega
  case b3 => unfold maxLen; omega
  intro w1 hown hgrow; have HO := hid hown; have HG := hid hgrow; clear hown hgrow; go_wp2
  go_ret2
  have hs := HG.out.size; have hb : Below w.heap.size w w1 := ⟨HG.out.os, HG.out.tape, HG.out.output, HG.out.size, fun i hi => HG.out.block i hi (by simp)⟩; exact ⟨w1.heap.size + 1 + 1, w1.heap.size, w1.heap.size + 1, rfl, by omega, by omega, by omega, ver_new HO.out, ((hb.alloc hb.size _).alloc (by simp; omega) _).alloc (by simp; omega) _⟩
end Go.Proofs.YtdnebclemngdcaaGreatDoor
