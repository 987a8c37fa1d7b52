/- Prune by its contract; A store as it is read: its keys aside; Read of a store, its keys aside; What may not be read, by its error's number; Dots; Put of what may not be put, by its error; nothing turns; The document's answer's Put: what may not be put; The document's answer's Put of a right commit; Read of a store before and after it is pruned: mathematics; A pruned store, held against all that ever came: plain mathematics. -/
import Derived.Test.YtdnebclemngdcaaGreatDoorJQV0
import Derived.Test.YtdnebclemngdcaaGreatDoorJWNew
import Derived.Test.YtdnebclemngdcaaGreatDoorJVSetsI
import Derived.Test.YtdnebclemngdcaaGreatDoorJZR3
import Derived.Test.YtdnebclemngdcaaGreatDoorJWLaid
import Derived.Test.YtdnebclemngdcaaGreatDoorJWPutB
import Derived.Test.YtdnebclemngdcaaGreatDoorJVRefD
import Derived.Deep.RegionHeldLaw
namespace Go.Proofs.YtdnebclemngdcaaGreatDoor
open Go.RowKit Go.Sort Go.Maps
set_option maxRecDepth 100000
set_option linter.unusedSectionVars false
variable [Inhabited ComV] [DecidableEq D3] [Inhabited D3] [Inhabited Dd] [Inhabited Dn] [Inhabited OpV]

theorem ownsMap_block {w w' : World} {k b n : Nat} {R : Value → Option (DataW Unit × List MemPlace)} {D : DataW Unit} (h : w.ownsMap Tryz.prog k R b n D) (hb : w'.heap[b]? = w.heap[b]?) : w'.ownsMap Tryz.prog k R b n D := by
  obtain ⟨es, clock, h1, F, hs, hD⟩ := h; exact ⟨es, clock, hb.trans h1, F, hs, hD⟩
theorem VerO.below {B : Nat} {w w' : World} {p mb db n nb : Nat} {f : ByteArray → Value} {s : St} {R : ByteArray → List Rp} {E : Nat → OpV} {D : Nat → Value} (h : VerO B w p mb db n nb f s R E D) (hb : Below w.heap.size w w') : VerO B w' p mb db n nb f s R E D := by
  obtain ⟨bv, h1, h2⟩ := h.box; obtain ⟨Dm, h3, h4⟩ := h.map; exact ⟨⟨bv, (hb.block p (lt_of_heapQ h1)).trans h1, RowT.kept h2 (keepT_below hb (Nat.le_refl _))⟩, h.dots.below hb, ⟨Dm, ownsMap_block h3 (hb.block _ h3.lt), h4⟩, h.rows.below hb, h.abs_, h.ne⟩
theorem VerO.rebase {B : Nat} {w : World} {p mb db n nb : Nat} {f : ByteArray → Value} {s : St} {R : ByteArray → List Rp} {E : Nat → OpV} {D : Nat → Value} (h : VerO B w p mb db n nb f s R E D) {r : Value} {base : List Int} (hr : IntsT w r base) : VerO B (w.setCell ⟨p, 0, none⟩ r) p mb db n nb f ⟨base, s.parts, s.dots⟩ R E D := by
  obtain ⟨bv, h1, h2⟩ := h.box; obtain ⟨Dm, h3, h4⟩ := h.map; obtain ⟨Dd, h5, h6⟩ := h.dots; have keep : ∀ {b : Nat}, b ≠ p → (w.setCell ⟨p, 0, none⟩ r).heap[b]? = w.heap[b]? := fun {b} hb => Below.heap_setCell _ _ _ _ hb
  have keepC : ∀ {b : Nat} {cs : Array Value} {t : TypeId}, t ≠ 83 → w.heap[b]? = some (.cells cs t (0, 0)) → (w.setCell ⟨p, 0, none⟩ r).heap[b]? = w.heap[b]? := fun {b cs t} ht hb => keep fun e => ht (cells_type (by rw [← e]; exact hb) h1)
  refine ⟨⟨r, by rw [heap_set h1]; rfl, RowT.kept hr fun b cs hb => keepC (by decide) hb⟩, ⟨Dd, ownsMap_block h5 (keep fun e => map_no_cells h5 _ _ (by rw [e]; exact h1)), h6⟩, ⟨Dm, ownsMap_block h3 (keep fun e => map_no_cells h3 _ _ (by rw [e]; exact h1)), h4⟩, h.rows.keep keepC, h.abs_, h.ne⟩
theorem prune_start {B : Nat} {w w1 w3 : World} {p mb db n nb : Nat} {f : ByteArray → Value} {s : St} {R : ByteArray → List Rp} {E : Nat → OpV} {D : Nat → Value} {r kv : Value} {base : List Int} {ks : List (List UInt8)} (hV : VerO B w p mb db n nb f s R E D) (hV2 : VerO B (w1.setCell ⟨p, 0, none⟩ r) p mb db n nb f ⟨base, s.parts, s.dots⟩ R E D) (hb1 : Below w.heap.size w w1) (hb3 : Below (w1.setCell ⟨p, 0, none⟩ r).heap.size (w1.setCell ⟨p, 0, none⟩ r) w3) (hk : w3.ownsRow 0 9 1 kv ks.length (ks.map encStr)) (hBp : B ≤ p) (hfew : ∀ k, (rowOf s k).length ≤ 1000) :
    PrInv w B p mb db n nb r base s (fun d => decide (d ∈ s.dots)) ks kv 0 f R E D w3 := by
  have V3 := hV2.below hb3; obtain ⟨bv, h1, h2⟩ := hV.box; have h1' : w1.heap[p]? = _ := (hb1.block p (lt_of_heapQ h1)).trans h1; have h12 : (w1.setCell ⟨p, 0, none⟩ r).heap[p]? = some (.cells #[r, .map (some mb), .map (some db)] 83 (0, 0)) := by rw [heap_set h1']; rfl
  have hB : B ≤ w.heap.size := Nat.le_trans hBp (Nat.le_of_lt (lt_of_heapQ h1)); have hs : (w1.setCell ⟨p, 0, none⟩ r).heap.size = w1.heap.size := by simp [World.setCell]
  have hb2 : Below B w (w1.setCell ⟨p, 0, none⟩ r) := (below_up hb1 hB).setCell hBp _; obtain ⟨Dm, h3, h4⟩ := V3.map; have h13 : w3.heap[p]? = some (.cells #[r, .map (some mb), .map (some db)] 83 (0, 0)) := (hb3.block p (lt_of_heapQ h12)).trans h12; refine ⟨h13, ?_, V3.dots, ⟨Dm, h3, fun k => (h4 k).2⟩, V3.rows, fun k _ => V3.abs_ k, fun k hk => by simp at hk, fun k => ?_, hk, hb2.trans (below_up hb3 (by rw [hs]; exact Nat.le_trans hB hb1.size))⟩
  · obtain ⟨bv', h1'', h2''⟩ := V3.box; rw [h13] at h1''; injection h1'' with h1''; injection h1'' with h1''; injection h1'' with h1''; injection h1'' with h1''; rw [h1'']; exact h2''
  · have := congrArg List.length (V3.abs_ k); rw [List.length_map] at this; rw [this]; exact hfew k
def sliceCap : Value → Nat
  | .slice _ _ c => c
  | _ => 0
theorem key_at {w : World} {v : Value} {ks : List (List UInt8)} (h : w.ownsRow 0 9 1 v ks.length (ks.map encStr)) {k : Nat} (hk : k < ks.length) : ∃ b, v = .slice (some ⟨b, 0, none⟩) ks.length (sliceCap v) ∧ w.cell? ⟨b, k, none⟩ = some (.string (keyB ks[k]!)) := by
  obtain ⟨ad, cap, rfl, h0 | ⟨b, rfl, h1⟩⟩ := strs_of_row h
  · rw [h0] at hk; simp at hk
  · exact ⟨b, rfl, h1 k hk⟩
theorem PrInv.drew {w : World} {B p mb db n nb : Nat} {bv : Value} {base : List Int} {s : St} {V : D3 → Bool} {ks : List (List UInt8)} {kv : Value} {i : Nat} {f : ByteArray → Value} {R : ByteArray → List Rp} {E : Nat → OpV} {D : Nat → Value} {w1 : World} (h : PrInv w B p mb db n nb bv base s V ks kv i f R E D w1) : PrInv w B p mb db n nb bv base s V ks kv i f R E D w1.drew := ⟨h.box, h.ints, h.dots, h.map, ⟨h.rows.rows, fun k => ⟨(h.rows.po k).ops, (h.rows.po k).dots, (h.rows.po k).ints, (h.rows.po k).pf⟩, h.rows.nd, h.rows.ap, h.rows.sep, h.rows.apart, h.rows.ge⟩, h.todo, h.done, h.few, h.keys, h.below.drew⟩
theorem keysOfSt_nodup {s : St} {ks : List (List UInt8)} (h : KeysOfSt s ks) : ks.Nodup := by
  obtain ⟨l, h1, _, rfl⟩ := h; exact (List.mergeSort_perm _ _).nodup_iff.2 h1
theorem keysOfSt_mem {s : St} {ks : List (List UInt8)} (h : KeysOfSt s ks) (x : List UInt8) : x ∈ ks ↔ rowOf s (keyB x) ≠ [] := by
  obtain ⟨l, h1, h2, rfl⟩ := h; rw [(List.mergeSort_perm _ _).mem_iff]; exact h2 x
theorem key_small {s : St} {nb : Nat} (hS : StOk s nb) {k : ByteArray} (h : rowOf s k ≠ []) : k.size ≤ 1000000 := by
  obtain ⟨c, hc⟩ := List.exists_mem_of_ne_nil _ h; have hk : keyOfC c = k := of_decide_eq_true (List.mem_filter.1 hc).2; rw [← hk]; unfold keyOfC
  by_cases h0 : 0 < c.ops.length
  · have h1 := name_of_opErr (opErr_of_bad (os := c.ops) (i := 0) ((hS.ok c (mem_rowOf hc)).ops 0 h0)); omega
  · exact absurd (List.eq_nil_of_length_eq_zero (by omega)) (hS.ok c (mem_rowOf hc)).some_
end Go.Proofs.YtdnebclemngdcaaGreatDoor
namespace Go.Proofs.YtdnebclemngdcaaGreatDoor
open Go.RowKit Go.Sort Go.Maps
set_option maxRecDepth 100000
set_option linter.unusedSectionVars false
variable [Inhabited ComV] [DecidableEq D3] [Inhabited D3] [Inhabited Dd] [Inhabited Dn] [Inhabited OpV]

structure VerR (w : World) (p mb db : Nat) (key : ByteArray) (f : ByteArray → Value) (s : St) (n : Nat) : Prop where
  box : ∃ bv, w.heap[p]? = some (.cells #[bv, .map (some mb), .map (some db)] 83 (0, 0)) ∧ IntsT w bv s.base
  map : ∃ D : DataW Unit, w.ownsMap Tryz.prog 9 sliceElem mb n D ∧ D.atKey (klS key) .nil = rowDat (f key)
  rows : ∃ rows, w.ownsRow 0 34 3 (f key) (rowOf s key).length rows.flatten ∧ F2 (ComT w) rows (rowOf s key)
theorem VerR.boxAt {w : World} {p mb db n : Nat} {key : ByteArray} {f : ByteArray → Value} {s : St} (h : VerR w p mb db key f s n) : ∃ a c, w.cell? ⟨p, 0, none⟩ = some (.slice a s.base.length c) ∧ w.cell? ⟨p, 1, none⟩ = some (.map (some mb)) ∧ w.cell? ⟨p, 2, none⟩ = some (.map (some db)) ∧ IntsT w (.slice a s.base.length c) s.base ∧ w.heap[p]? = some (.cells #[.slice a s.base.length c, .map (some mb), .map (some db)] 83 (0, 0)) := by
  obtain ⟨bv, h1, h2⟩ := h.box; obtain ⟨a, c, rfl⟩ := h2.at.slice; refine ⟨a, c, ?_, ?_, ?_, h2, h1⟩ <;> (simp only [World.cell?, h1]; rfl)
end Go.Proofs.YtdnebclemngdcaaGreatDoor
namespace Go.Proofs.YtdnebclemngdcaaGreatDoor
open Go.RowKit Go.Sort Go.Maps
set_option maxRecDepth 100000
set_option linter.unusedSectionVars false
variable [Inhabited ComV] [DecidableEq D3] [Inhabited D3] [Inhabited Dd] [Inhabited Dn] [Inhabited OpV]

def SeenOld (A : Nat → Addr) (w : World) (e : Ending) (w' : World) : Prop := e = .returned (.tuple #[.slice none 0 0, .iface 255 (.pointer (some (A 8)))]) ∧ Below w.heap.size w w'
set_option maxHeartbeats 2000000 in
theorem seenR_old (A : Nat → Addr) (w : World) (hE : E4 A w) (ho : w.cell? ⟨1, 0, none⟩ = some (.iface 255 (.pointer (some (A 8))))) (p mb db n : Nat) (key : ByteArray) (f : ByteArray → Value) (s : St) (hV : VerR w p mb db key f s n) (hbs : chk s.base = 0) (hk : nameB key = true) (av : Value) (at_ : List Int) (ha : IntsAt w av at_) (hc : chk at_ = 0) (hal : at_.length = s.base.length) (hle : leB s.base at_ = false) :
    Calls Tryz.prog 46 #[.pointer (some ⟨p, 0, none⟩), .string key, av] w fun e w' => SeenOld A w e w' := by
  obtain ⟨ba, bc, p0, p1, p2, hbt, hpx⟩ := hV.boxAt; have K75 := hid (fun W => checkName_ok W key hk); have K37 := hid (checkVector_ok A w hE p _ s.base _ _ hpx hbt.at av at_ ha hc hal); have K38 := hid (within_ok A w hE _ _ s.base at_ hbt.at ha (two_zero.2 ⟨hbs, hc, hal.symm⟩)); rw [hle] at K38; obtain ⟨aa, ac, rfl⟩ := ha.slice; obtain ⟨nb', hnb'⟩ : ∃ nb', nb' = s.base.length := ⟨_, rfl⟩; rw [← hnb'] at p0 K38; clear hE hk hV ha hbt hpx p1 p2 hc hal hle hnb'; go_enter Tryz.func46, Tryz.ntmps46
  go_wp2_with (first | (go_at_call 75; refine (K75.out _).mono ?_; rintro e w' ⟨rfl, hw'⟩; rw [hw']; clear hw') | (go_at_call 37; refine K37.out.mono ?_; rintro e w' ⟨rfl, hw'⟩; rw [hw']; clear hw'))
  refine K38.out.mono ?_; rintro e w3 ⟨rfl, q3, hq3⟩; have ho3 : w3.cell? ⟨1, 0, none⟩ = some (.iface 255 (.pointer (some (A 8)))) := by rw [hq3]; exact ho
  have B3 : Hid (Below w.heap.size w w3) := (show Below _ _ _ from by rw [hq3]; exact below_draws (Below.refl _ _) q3); clear hq3 p0 ho; go_wp2_with fail
  first
    | (go_ret2; exact ⟨rfl, B3.out⟩)
    | (go_region; go_wp2; go_ret2; exact ⟨rfl, B3.out.drew⟩)
end Go.Proofs.YtdnebclemngdcaaGreatDoor
namespace Go.Proofs.YtdnebclemngdcaaGreatDoor
open Go.RowKit Go.Sort Go.Maps
set_option maxRecDepth 100000
set_option linter.unusedSectionVars false
variable [Inhabited ComV] [DecidableEq D3] [Inhabited D3] [Inhabited Dd] [Inhabited Dn] [Inhabited OpV]

def SeenE (A : Nat → Addr) (k : Nat) (w : World) (e : Ending) (w' : World) : Prop := e = .returned (.tuple #[.slice none 0 0, .iface 255 (.pointer (some (A k)))]) ∧ Below w.heap.size w w'
theorem VerAt.toR {w : World} {p mb db n : Nat} {f : ByteArray → Value} {s : St} (h : VerAt w p mb db f s n) (key : ByteArray) : VerR w p mb db key f s n := by
  obtain ⟨D, h1, h2⟩ := h.map; exact ⟨h.box, ⟨D, h1, (h2 key).2⟩, h.rows key⟩
set_option maxHeartbeats 2000000 in
theorem seenE_name (A : Nat → Addr) (w : World) (hE : E5 A w) (p : Nat) (key : ByteArray) (hk : nameB key = false) (av : Value) :
    Calls Tryz.prog 46 #[.pointer (some ⟨p, 0, none⟩), .string key, av] w fun e w' => SeenE A 3 w e w' := by
  have K75 := checkName_bad A w hE key hk; clear hE hk; go_enter Tryz.func46, Tryz.ntmps46; go_wp2_with fail; refine K75.mono ?_; rintro e w' ⟨rfl, hw'⟩; rw [hw']; clear hw'; go_wp2_with fail
  first
    | (go_ret2; exact ⟨rfl, Below.refl _ _⟩)
    | (go_region; go_wp2; go_ret2; exact ⟨rfl, (Below.refl _ _).drew⟩)
set_option maxHeartbeats 2000000 in
theorem seenE_vec (A : Nat → Addr) (w : World) (hE : E4 A w) (p mb db n : Nat) (f : ByteArray → Value) (s : St) (hV : VerAt w p mb db f s n) (key : ByteArray) (hk : nameB key = true) (av : Value) (at_ : List Int) (ha : IntsAt w av at_) (hl : at_.length ≤ 1000000) (k : Nat) (h0 : vecE at_ s.base = k + 1) :
    Calls Tryz.prog 46 #[.pointer (some ⟨p, 0, none⟩), .string key, av] w fun e w' => SeenE A k w e w' := by
  obtain ⟨ba, bc, p0, p1, p2, hbt, hpx⟩ := hV.boxAt; have K75 := hid (fun W => checkName_ok W key hk); have K37 := hid (checkVector_e A w hE p _ s.base _ _ hpx hbt.at av at_ ha hl k h0); obtain ⟨aa, ac, rfl⟩ := ha.slice; clear hE hk hV ha h0 hbt hpx p0 p1 p2; go_enter Tryz.func46, Tryz.ntmps46
  go_wp2_with (go_at_call 75; refine (K75.out _).mono ?_; rintro e w' ⟨rfl, hw'⟩; rw [hw']; clear hw')
  refine K37.out.mono ?_; rintro e w' ⟨rfl, hw'⟩; rw [hw']; clear hw'; go_wp2_with fail
  first
    | (go_ret2; exact ⟨rfl, Below.refl _ _⟩)
    | (go_region; go_wp2; go_ret2; exact ⟨rfl, (Below.refl _ _).drew⟩)
theorem seenE (A : Nat → Addr) (B : Nat) (w : World) (hE : SentV A B w) (p mb db n : Nat) (f : ByteArray → Value) (s : St) (hV : VerAt w p mb db f s n) (hbs : chk s.base = 0) (key : ByteArray) (av : Value) (at_ : List Int) (ha : IntsAt w av at_) (hl : at_.length ≤ 1000000) (k : Nat) (h0 : atE key at_ s.base = k + 1) :
    Calls Tryz.prog 46 #[.pointer (some ⟨p, 0, none⟩), .string key, av] w fun e w' => SeenE A k w e w' := by
  unfold atE at h0
  cases hn : nameB key with
  | false =>
    rw [hn, if_neg (by decide)] at h0; obtain rfl : k = 3 := by omega
    exact seenE_name A w hE.e5 p key hn av
  | true =>
    rw [hn, if_pos rfl] at h0
    by_cases hv : vecE at_ s.base = 0
    · rw [if_pos hv] at h0; obtain ⟨hc, hal⟩ := vecE_zero hv
      cases hle : leB s.base at_ with
      | true => rw [hle, if_pos rfl] at h0; cases h0
      | false =>
        rw [hle, if_neg (by decide)] at h0; obtain rfl : k = 8 := by omega
        exact seenR_old A w hE.e4 hE.c8 p mb db n key f s (hV.toR key) hbs hn av at_ ha hc hal hle
    · rw [if_neg hv] at h0; exact seenE_vec A w hE.e4 p mb db n f s hV key hn av at_ ha hl k h0
def ReadE (A : Nat → Addr) (k : Nat) (w : World) (e : Ending) (w' : World) : Prop := e = .returned (.tuple #[.agg #[.int .i64 0, .string ⟨#[]⟩, .int .i64 0, .slice none 0 0], .iface 255 (.pointer (some (A k)))]) ∧ Below w.heap.size w w'
set_option maxHeartbeats 2000000 in
theorem readE (A : Nat → Addr) (B : Nat) (w : World) (hE : SentV A B w) (p mb db n : Nat) (f : ByteArray → Value) (s : St) (hV : VerAt w p mb db f s n) (hbs : chk s.base = 0) (key : ByteArray) (av : Value) (at_ : List Int) (ha : IntsAt w av at_) (hl : at_.length ≤ 1000000) (k : Nat) (h0 : atE key at_ s.base = k + 1) :
    Calls Tryz.prog 14 #[.pointer (some ⟨p, 0, none⟩), .string key, av] w fun e w' => ReadE A k w e w' := by
  obtain ⟨w0, hw0⟩ : ∃ w0, w0 = w.alloc (.cells #[.int .i64 0, .string ⟨#[]⟩, .int .i64 0, .slice none 0 0] 41) := ⟨_, rfl⟩; have hb0 : Below w.heap.size w w0 := by rw [hw0]; exact below_alloc _ _
  have K0 := hid (seenE A B w0 (hE.below (hb0.mono hE.size)) p mb db n f s (hV.moved hb0) hbs key av at_ (ha.mono hb0 (Nat.le_refl _)) hl k h0); obtain ⟨aa, ac, rfl⟩ := ha.slice; clear hE hV ha h0; go_enter Tryz.func14, Tryz.ntmps14; go_wp2_with fail; rw [← hw0]; refine K0.out.mono ?_; rintro e w1 ⟨rfl, hb1⟩
  have x1 : w1.heap[w.heap.size]? = some (.cells #[.int .i64 0, .string ⟨#[]⟩, .int .i64 0, .slice none 0 0] 41 (0, 0)) := by
    rw [hb1.block _ (by rw [hw0]; simp), hw0]; exact (MapKept.heap_alloc _ _).1
  have B1 := hid (hb0.trans (hb1.mono hb0.size)); have R4 := hid (row4 x1); have S4 := hid (set4 x1 [.int .i64 0, .string ⟨#[]⟩, .int .i64 0, .slice none 0 0] rfl); clear hb1 hw0 x1 K0
  go_wp2_with (refine wpList_store_k _ rfl (.tmp 6) (.tmp 19) 41 rfl w.heap.size 0 [.int .i64 0, .string ⟨#[]⟩, .int .i64 0, .slice none 0 0] rfl rfl 4 rfl Tryz.sizeOf41 rfl _ ?hW R4.out.1 R4.out.2 ?_; case hW => rfl)
  refine bodyPost_ret (ret_cell_tmp (k := 4) Tryz.results14 Tryz.isAgg41 Tryz.sizeOf41 _ _ w.heap.size [.int .i64 0, .string ⟨#[]⟩, .int .i64 0, .slice none 0 0] _ rfl rfl rfl S4.out) rfl ⟨rfl, below_setCells (Nat.le_refl _) _ _ B1.out⟩
set_option maxHeartbeats 2000000 in
theorem dotsE (A : Nat → Addr) (B : Nat) (w : World) (hE : SentV A B w) (p mb db n : Nat) (f : ByteArray → Value) (s : St) (hV : VerAt w p mb db f s n) (hbs : chk s.base = 0) (key text : ByteArray) (av : Value) (at_ : List Int) (ha : IntsAt w av at_) (hl : at_.length ≤ 1000000) (k : Nat) (h0 : atE key at_ s.base = k + 1) :
    Calls Tryz.prog 27 #[.pointer (some ⟨p, 0, none⟩), .string key, .string text, av] w fun e w' => SeenE A k w e w' := by
  have K0 := hid (seenE A B w hE p mb db n f s hV hbs key av at_ ha hl k h0); obtain ⟨aa, ac, rfl⟩ := ha.slice; clear hE hV ha h0; go_enter Tryz.func27, Tryz.ntmps27; go_wp2_with fail; refine K0.out.mono ?_; rintro e w1 ⟨rfl, hb1⟩; have B1 := hid hb1; clear hb1 K0; go_wp2_with fail
  go_ret2
  exact ⟨rfl, B1.out⟩
set_option maxHeartbeats 2000000 in
theorem dotsV_ok (A : Nat → Addr) (w : World) (hE : E4 A w) (h12 : 12 ≤ w.heap.size) (p mb db n nb : Nat) (f : ByteArray → Value) (s : St) (hV : VerAt w p mb db f s n) (hS : StOk s nb) (key text : ByteArray) (hk : nameB key = true) (hk6 : key.size ≤ 1000000) (av : Value) (at_ : List Int) (ha : IntsAt w av at_) (hc : chk at_ = 0) (hal : at_.length = nb) (hle : leB s.base at_ = true) (hfew : (rowOf s key).length ≤ 1000) :
    Calls Tryz.prog 27 #[.pointer (some ⟨p, 0, none⟩), .string key, .string text, av] w fun e w' => DotsRet key text (seenL s key at_) w e w' := by
  have hlen := seenL_len s key at_; have K61 := hid (fun W (hW : Below w.heap.size w W) v (hv : ComsAt W v (seenL s key at_)) => dots_ok A W (hE.below hW h12) (by have := hW.size; omega) key text hk v (seenL s key at_) hv (by omega) (fun c hc => hS.small c (seenL_mem hc)) (listOk_of (n := nb) (fun c hc => hS.ok c (seenL_mem hc)) (fun c hc => hS.when_ c (seenL_mem hc)))); have K46 := hid (seen_ok A w hE h12 p mb db n nb f s hV hS key hk hk6 av at_ ha hc hal hle hfew); obtain ⟨aa, ac, rfl⟩ := ha.slice; clear hV hS ha hE hk hc hal hle hfew hlen; go_enter Tryz.func27, Tryz.ntmps27; go_wp2_with fail; refine K46.out.mono ?_; rintro e w1 ⟨v1, rfl, hc1, hb1⟩; have B1 := hid hb1; have C1 := hid hc1; obtain ⟨a1, k1, hv1, _⟩ := hc1.shape; subst hv1; clear hc1 hb1 K46; go_wp2_with fail; refine (K61.out w1 B1.out _ C1.out).mono ?_; rintro e w2 ⟨v2, ds, out, rfl, h1, h2, h3, hb2⟩; have H1 := hid h1
  have H2 := hid h2; have H3 := hid h3; have B2 := hid (B1.out.trans (hb2.mono B1.out.size)); clear h1 h2 h3 hb2 K61; go_wp2_with fail
  go_ret2
  exact ⟨_, ds, out, rfl, H1.out, H2.out, H3.out, B2.out⟩
set_option maxHeartbeats 2000000 in
theorem pruneE (A : Nat → Addr) (w : World) (hE : E4 A w) (p : Nat) (bv : Value) (base : List Int) (m1 m2 : Value) (hp : w.heap[p]? = some (.cells #[bv, m1, m2] 83 (0, 0))) (hb : IntsAt w bv base) (v : Value) (zs : List Int) (h : IntsAt w v zs) (hl : zs.length ≤ 1000000) (k : Nat) (h0 : vecE zs base = k + 1) :
    Calls Tryz.prog 12 #[.pointer (some ⟨p, 0, none⟩), v] w fun e w' => e = .returned (.iface 255 (.pointer (some (A k)))) ∧ Below w.heap.size w w' := by
  have K := hid (checkVector_e A w hE p bv base m1 m2 hp hb v zs h hl k h0); obtain ⟨a1, c1, rfl⟩ := h.slice; clear h h0 hb hp hE; go_enter Tryz.func12, Tryz.ntmps12; go_wp2_with fail; refine K.out.mono ?_; rintro e w' ⟨rfl, rfl⟩; go_wp2_with fail; go_ret; exact ⟨rfl, Below.refl _ _⟩
end Go.Proofs.YtdnebclemngdcaaGreatDoor
namespace Go.Proofs.YtdnebclemngdcaaGreatDoor
open Go.RowKit Go.Sort Go.Maps
set_option maxRecDepth 100000
set_option linter.unusedSectionVars false
variable [Inhabited ComV] [DecidableEq D3] [Inhabited D3] [Inhabited Dd] [Inhabited Dn] [Inhabited OpV]

def PutE (A : Nat → Addr) (er : Nat × Option Nat) (w : World) (e : Ending) (w' : World) : Prop := ∃ v, e = .returned v ∧ ErrAt A w' v er ∧ Below w.heap.size w w'
def existE (s : St) (c : ComV) : Nat × Option Nat := scan (fun i => if dotC c c.ops[i]! ∈ s.dots then 6 else 0) c.ops.length
theorem existE_at {s : St} {c : ComV} {j : Nat} (hj : j < c.ops.length) (h : ∀ i, i < j → dotC c c.ops[i]! ∉ s.dots) (hd : dotC c c.ops[j]! ∈ s.dots) : existE s c = (6, some j) := by
  unfold existE; rw [scan_some hj (fun i hi => if_neg (h i hi)) (by rw [if_pos hd]; decide), if_pos hd]
theorem existE_zero {s : St} {c : ComV} (h : (existE s c).1 = 0) : ∀ o ∈ c.ops, dotC c o ∉ s.dots := fun o ho hd => by
  obtain ⟨i, hi, rfl⟩ := List.getElem_of_mem ho; have h1 := scan_zero h i hi; rw [getElem!_pos c.ops i hi, if_pos hd] at h1; cases h1
theorem existE_not {s : St} {c : ComV} (h : (existE s c).1 ≠ 0) : ∃ o ∈ c.ops, dotC c o ∈ s.dots := by
  by_cases hx : ∃ o ∈ c.ops, dotC c o ∈ s.dots
  · exact hx
  · refine absurd ?_ h; unfold existE; rw [scan_none fun i hi => if_neg fun hd => hx ⟨c.ops[i]!, by rw [getElem!_pos c.ops i hi]; exact List.getElem_mem _, hd⟩]
def putErr (s : St) (c : ComV) : Nat × Option Nat := if (comErr c).1 ≠ 0 then comErr c else if c.when_.length ≠ s.base.length then (3, none) else if leB c.when_ s.base = true then (9, none) else existE s c
set_option maxHeartbeats 2000000 in
theorem putE_com (A : Nat → Addr) (w : World) (hE : E4 A w) (h12 : 12 ≤ w.heap.size) (p : Nat) (c : ComV) (wv ov : Value) (hw : IntsAt w wv c.when_) (ho : OpsAt w ov c.ops) (hwl : c.when_.length ≤ 1000000) (hol : c.ops.length ≤ 1000000) (hsm : ∀ o ∈ c.ops, Small o) (hc : (comErr c).1 ≠ 0) :
    Calls Tryz.prog 9 #[.pointer (some ⟨p, 0, none⟩), .agg #[wv, .int .i64 c.place, ov]] w fun e w' => PutE A (comErr c) w e w' := by
  obtain ⟨w1, hw1⟩ : ∃ w1, w1 = w.alloc (.cells #[wv, .int .i64 c.place, ov] 34) := ⟨_, rfl⟩; have hb1 : Below w.heap.size w w1 := by rw [hw1]; exact below_alloc _ _
  have K := checkCommit A w1 (hE.below hb1 h12) (by have := hb1.size; omega) c wv ov (hw.mono hb1 (Nat.le_refl _)) (ho.mono hb1 (Nat.le_refl _)) hwl hol hsm; unfold ComRet at K; obtain ⟨a1, c1, rfl⟩ := hw.slice; obtain ⟨a2, c2, rfl, _⟩ := ho.shape; obtain ⟨n1, hn1⟩ : ∃ n1, n1 = c.when_.length := ⟨_, rfl⟩; obtain ⟨n2, hn2⟩ : ∃ n2, n2 = c.ops.length := ⟨_, rfl⟩; obtain ⟨pl, hpl⟩ : ∃ pl, pl = c.place := ⟨_, rfl⟩; rw [← hn1, ← hn2, ← hpl] at K hw1 ⊢; have HC := hid hc; have B1 := hid hb1; replace K := hid K; have x1 : w1.heap[w.heap.size]? = some (.cells #[.slice a1 n1 c1, .int .i64 pl, .slice a2 n2 c2] 34 (0, 0)) := by rw [hw1]; exact (MapKept.heap_alloc _ _).1
  have d0 : w1.cell? ⟨w.heap.size, 0, none⟩ = some (.slice a1 n1 c1) := by simp only [World.cell?, x1]; rfl
  have d1 : w1.cell? ⟨w.heap.size, 1, none⟩ = some (.int .i64 pl) := by simp only [World.cell?, x1]; rfl
  have d2 : w1.cell? ⟨w.heap.size, 2, none⟩ = some (.slice a2 n2 c2) := by simp only [World.cell?, x1]; rfl
  clear hw ho hsm hc hn1 hn2 hpl hE hb1 x1; go_enter Tryz.func9, Tryz.ntmps9; go_wp2_with fail; rw [← hw1]; refine K.out.mono ?_; rintro e w2 ⟨v2, rfl, hv2, hb2⟩; obtain ⟨t, u, rfl⟩ := err_iface hv2 HC.out; have HV2 := hid hv2; have B2 := hid (B1.out.trans (hb2.mono B1.out.size)); clear hv2 hb2 hw1 d0 d1 d2; go_wp2_with fail
  first
    | (go_ret; exact ⟨_, rfl, HV2.out, B2.out⟩)
    | (go_region; go_wp2; go_ret; exact ⟨_, rfl, HV2.out, B2.out.drew⟩)
set_option maxHeartbeats 2000000 in
theorem putE_vec (A : Nat → Addr) (w : World) (hE : E4 A w) (h12 : 12 ≤ w.heap.size) (p mb db n : Nat) (f : ByteArray → Value) (s : St) (hV : VerAt w p mb db f s n) (c : ComV) (wv ov : Value) (hw : IntsAt w wv c.when_) (ho : OpsAt w ov c.ops) (hwl : c.when_.length ≤ 1000000) (hol : c.ops.length ≤ 1000000) (hsm : ∀ o ∈ c.ops, Small o) (hc : comErr c = (0, none)) (hne : c.when_.length ≠ s.base.length) :
    Calls Tryz.prog 9 #[.pointer (some ⟨p, 0, none⟩), .agg #[wv, .int .i64 c.place, ov]] w fun e w' => PutE A (3, none) w e w' := by
  obtain ⟨w1, hw1⟩ : ∃ w1, w1 = w.alloc (.cells #[wv, .int .i64 c.place, ov] 34) := ⟨_, rfl⟩; have hb1 : Below w.heap.size w w1 := by rw [hw1]; exact below_alloc _ _
  have K := checkCommit A w1 (hE.below hb1 h12) (by have := hb1.size; omega) c wv ov (hw.mono hb1 (Nat.le_refl _)) (ho.mono hb1 (Nat.le_refl _)) hwl hol hsm; unfold ComRet at K; rw [hc] at K
  have K37 := hid (fun W (hW : Below w.heap.size w W) => by
    obtain ⟨ba, bc, _, _, _, hbt, hpx⟩ := (hV.moved hW).boxAt; exact checkVector_e A W (hE.below hW h12) p _ s.base _ _ hpx hbt.at wv c.when_ (hw.mono hW (Nat.le_refl _)) hwl 2 (by unfold vecE; rw [if_pos (comOk_of (c := c) (by rw [hc])).chk, if_neg hne]))
  obtain ⟨a1, c1, rfl⟩ := hw.slice; obtain ⟨a2, c2, rfl, _⟩ := ho.shape; obtain ⟨n1, hn1⟩ : ∃ n1, n1 = c.when_.length := ⟨_, rfl⟩; obtain ⟨n2, hn2⟩ : ∃ n2, n2 = c.ops.length := ⟨_, rfl⟩; obtain ⟨pl, hpl⟩ : ∃ pl, pl = c.place := ⟨_, rfl⟩; rw [← hn1, ← hn2, ← hpl] at K hw1 ⊢; rw [← hn1] at K37; have B1 := hid hb1; replace K := hid K; have x1 : w1.heap[w.heap.size]? = some (.cells #[.slice a1 n1 c1, .int .i64 pl, .slice a2 n2 c2] 34 (0, 0)) := by rw [hw1]; exact (MapKept.heap_alloc _ _).1
  have X1 := hid x1; have d0 : w1.cell? ⟨w.heap.size, 0, none⟩ = some (.slice a1 n1 c1) := by simp only [World.cell?, x1]; rfl
  have d1 : w1.cell? ⟨w.heap.size, 1, none⟩ = some (.int .i64 pl) := by simp only [World.cell?, x1]; rfl
  have d2 : w1.cell? ⟨w.heap.size, 2, none⟩ = some (.slice a2 n2 c2) := by simp only [World.cell?, x1]; rfl
  clear hw ho hsm hc hn1 hn2 hpl hE hb1 x1 hV hne; go_enter Tryz.func9, Tryz.ntmps9; go_wp2_with fail; rw [← hw1]; refine K.out.mono ?_; rintro e w2 ⟨v2, rfl, hv2, hb2⟩; obtain rfl := nil_of_errB hv2; have B2 := hid (B1.out.trans (hb2.mono B1.out.size)); have x2 : w2.heap[w.heap.size]? = some (.cells #[.slice a1 n1 c1, .int .i64 pl, .slice a2 n2 c2] 34 (0, 0)) := (hb2.block _ (lt_of_heap X1.out)).trans X1.out; have f0 : w2.cell? ⟨w.heap.size, 0, none⟩ = some (.slice a1 n1 c1) := by simp only [World.cell?, x2]; rfl
  clear hv2 hb2 hw1 d0 d1 d2 x2; go_wp2_with fail; refine (K37.out w2 B2.out).mono ?_; rintro e w3 ⟨rfl, hw3⟩; rw [hw3]; clear hw3; go_wp2_with fail
  first
    | (go_ret; exact ⟨_, rfl, rfl, B2.out⟩)
    | (go_region; go_wp2; go_ret; exact ⟨_, rfl, rfl, B2.out.drew⟩)
set_option maxHeartbeats 2000000 in
theorem putE_old (A : Nat → Addr) (w : World) (hE : E4 A w) (hold : w.cell? ⟨1, 0, none⟩ = some (.iface 255 (.pointer (some (A 8))))) (h12 : 12 ≤ w.heap.size) (p mb db n : Nat) (f : ByteArray → Value) (s : St) (hV : VerAt w p mb db f s n) (c : ComV) (wv ov : Value) (hw : IntsAt w wv c.when_) (ho : OpsAt w ov c.ops) (hwl : c.when_.length ≤ 1000000) (hol : c.ops.length ≤ 1000000) (hsm : ∀ o ∈ c.ops, Small o) (hc : comErr c = (0, none)) (hlen : c.when_.length = s.base.length) (hbs : chk s.base = 0) (hle : leB c.when_ s.base = true) :
    Calls Tryz.prog 9 #[.pointer (some ⟨p, 0, none⟩), .agg #[wv, .int .i64 c.place, ov]] w fun e w' => PutE A (9, none) w e w' := by
  obtain ⟨w1, hw1⟩ : ∃ w1, w1 = w.alloc (.cells #[wv, .int .i64 c.place, ov] 34) := ⟨_, rfl⟩; have hb1 : Below w.heap.size w w1 := by rw [hw1]; exact below_alloc _ _
  have K := checkCommit A w1 (hE.below hb1 h12) (by have := hb1.size; omega) c wv ov (hw.mono hb1 (Nat.le_refl _)) (ho.mono hb1 (Nat.le_refl _)) hwl hol hsm; unfold ComRet at K; rw [hc] at K; have hcc := (comOk_of (c := c) (by rw [hc])).chk
  have K37 := hid (fun W (hW : Below w.heap.size w W) => by
    obtain ⟨ba, bc, _, _, _, hbt, hpx⟩ := (hV.moved hW).boxAt; exact checkVector_ok A W (hE.below hW h12) p _ s.base _ _ hpx hbt.at wv c.when_ (hw.mono hW (Nat.le_refl _)) hcc hlen)
  obtain ⟨ba, bc, p0, _, _, hbt, hpx⟩ := hV.boxAt; have K38 := hid (fun W (hW : Below w.heap.size w W) => within_ok A W (hE.below hW h12) wv (.slice ba s.base.length bc) c.when_ s.base (hw.mono hW (Nat.le_refl _)) (hbt.at.mono hW (Nat.le_refl _)) (two_zero.2 ⟨hcc, hbs, hlen⟩)); rw [hle] at K38; obtain ⟨nb, hnb⟩ : ∃ nb, nb = s.base.length := ⟨_, rfl⟩; rw [← hnb] at p0 K38; have P0 := hid p0; have OLD := hid hold; obtain ⟨a1, c1, rfl⟩ := hw.slice; obtain ⟨a2, c2, rfl, _⟩ := ho.shape; obtain ⟨n1, hn1⟩ : ∃ n1, n1 = c.when_.length := ⟨_, rfl⟩; obtain ⟨n2, hn2⟩ : ∃ n2, n2 = c.ops.length := ⟨_, rfl⟩; obtain ⟨pl, hpl⟩ : ∃ pl, pl = c.place := ⟨_, rfl⟩; rw [← hn1, ← hn2, ← hpl] at K hw1 ⊢; rw [← hn1] at K37 K38; have B1 := hid hb1; replace K := hid K
  have x1 : w1.heap[w.heap.size]? = some (.cells #[.slice a1 n1 c1, .int .i64 pl, .slice a2 n2 c2] 34 (0, 0)) := by rw [hw1]; exact (MapKept.heap_alloc _ _).1
  have X1 := hid x1; have d0 : w1.cell? ⟨w.heap.size, 0, none⟩ = some (.slice a1 n1 c1) := by simp only [World.cell?, x1]; rfl
  have d1 : w1.cell? ⟨w.heap.size, 1, none⟩ = some (.int .i64 pl) := by simp only [World.cell?, x1]; rfl
  have d2 : w1.cell? ⟨w.heap.size, 2, none⟩ = some (.slice a2 n2 c2) := by simp only [World.cell?, x1]; rfl
  clear hw ho hsm hc hn1 hn2 hpl hE hb1 x1 hV hlen hbs hle hcc hbt hpx hnb p0 hold; go_enter Tryz.func9, Tryz.ntmps9; go_wp2_with fail; rw [← hw1]; refine K.out.mono ?_; rintro e w2 ⟨v2, rfl, hv2, hb2⟩; obtain rfl := nil_of_errB hv2; have B2 := hid (B1.out.trans (hb2.mono B1.out.size)); have x2 : w2.heap[w.heap.size]? = some (.cells #[.slice a1 n1 c1, .int .i64 pl, .slice a2 n2 c2] 34 (0, 0)) := (hb2.block _ (lt_of_heap X1.out)).trans X1.out; have f0 : w2.cell? ⟨w.heap.size, 0, none⟩ = some (.slice a1 n1 c1) := by simp only [World.cell?, x2]; rfl
  have g0 : w2.cell? ⟨p, 0, none⟩ = some (.slice ba nb bc) := by rw [B2.out.cell (lt_of_cell P0.out)]; exact P0.out
  clear hv2 hb2 hw1 d0 d1 d2 x2
  go_wp2_with (go_at_call 37; refine (K37.out w2 B2.out).mono ?_; rintro e w' ⟨rfl, hw'⟩; rw [hw']; clear hw')
  have K38d := hid (K38.out w2.drew B2.out.drew)
  go_region_held (fun w' => w'.cell? ⟨w.heap.size, 0, none⟩ = some (.slice a1 n1 c1) ∧ w'.cell? ⟨p, 0, none⟩ = some (.slice ba nb bc)) (go_keep) (first | (go_at_call 38; refine K38d.out.mono ?_; rintro e w3 ⟨rfl, q3, hq3⟩; have k0 : w3.cell? ⟨w.heap.size, 0, none⟩ = some (.slice a1 n1 c1) := (by rw [hq3]; exact f0); have k1 : w3.cell? ⟨p, 0, none⟩ = some (.slice ba nb bc) := (by rw [hq3]; exact g0); have HQ3 := hid hq3; clear hq3))
  have hb23 : Below w.heap.size w w3 := by rw [HQ3.out]; exact below_draws B2.out.drew q3
  have ho3 : w3.cell? ⟨1, 0, none⟩ = some (.iface 255 (.pointer (some (A 8)))) := by rw [hb23.cell (lt_of_cell OLD.out)]; exact OLD.out
  have B3 := hid hb23; clear HQ3 k0 k1 hb23 f0 g0; go_wp2_with fail
  first
    | (go_ret; exact ⟨_, rfl, rfl, B3.out⟩)
    | (go_region; go_wp2; go_ret; exact ⟨_, rfl, rfl, B3.out.drew⟩)
set_option maxHeartbeats 8000000 in
theorem putE_exist (A : Nat → Addr) (w : World) (hE : E4 A w) (hex : w.cell? ⟨2, 0, none⟩ = some (.iface 255 (.pointer (some (A 5))))) (h4 : 12 ≤ w.heap.size) (p mb db n : Nat) (f : ByteArray → Value) (s : St) (hV : VerAt w p mb db f s n) (hrl : ∀ k, (rowOf s k).length ≤ 1000000)
    (c : ComV) (wv ov : Value) (hcT : ComT w [wv, .int .i64 c.place, ov] c) (hsm : ∀ o ∈ c.ops, Small o) (hc : comErr c = (0, none)) (hpl : c.when_.length = s.base.length) (hold : leB c.when_ s.base = false) (hbase : chk s.base = 0) (hnew : ∃ o ∈ c.ops, dotC c o ∈ s.dots) :
    Calls Tryz.prog 9 #[.pointer (some ⟨p, 0, none⟩), .agg #[wv, .int .i64 c.place, ov]] w fun e w' => PutE A (existE s c) w e w' := by
  obtain ⟨wv', ov', hwe0, hwT, hoT⟩ := hcT; injection hwe0 with e1 e2; injection e2 with _ e2; injection e2 with e2 _; subst e1 e2; have hw := hwT.at; have ho := hoT.at; have HWT := hid hwT; have HOT := hid hoT; clear hwT hoT; have hC := comOk_of (c := c) (by rw [hc]); have hw6 := (chk_zero.1 hC.chk).2.1; have hmo := hC.few; obtain ⟨w1, hw1⟩ : ∃ w1, w1 = w.alloc (.cells #[wv, .int .i64 c.place, ov] 34) := ⟨_, rfl⟩; have hb1 : Below w.heap.size w w1 := by rw [hw1]; exact below_alloc _ _
  have hbx1 : w1.heap[w.heap.size]? = some (.cells #[wv, .int .i64 c.place, ov] 34 (0, 0)) := by rw [hw1]; exact (MapKept.heap_alloc _ _).1
  have hV1 := hV.moved hb1; have K15 := checkCommit A w1 (hE.below hb1 h4) (by have := hb1.size; omega) c wv ov (hw.mono hb1 (Nat.le_refl _)) (ho.mono hb1 (Nat.le_refl _)) (by omega) (by omega) hsm; unfold ComRet at K15; rw [hc] at K15; have HC := hid hC; have HW := hid hw; have HO := hid ho; have HV := hid hV; have HE := hid hE; have HNEW := hid hnew; have HEX := hid hex; have HSM := hid hsm; have HRL := hid hrl; obtain ⟨av, cv, hwe, _, hwc⟩ := hw; subst hwe
  obtain ⟨b1, o1, rfl, hw2⟩ : ∃ b1 o1, av = some ⟨b1, o1, none⟩ ∧ ∀ t, t < c.when_.length → w.cell? ⟨b1, o1 + t, none⟩ = some (.int .i64 (c.when_.getD t 0)) := by
    rcases hwc with h | h
    · have := (chk_zero.1 hC.chk).1; rw [h] at this; simp at this
    · exact h
  obtain ⟨ao, co, hoe, _, _, hos⟩ := ho.shape; subst hoe; obtain ⟨b2, o2, rfl, hos2⟩ := hos.resolve_left hC.some_; obtain ⟨pn, hpn⟩ : ∃ pn : Nat, c.place = pn := ⟨c.place.toNat, by have := hC.lo; omega⟩; have hplt : pn < c.when_.length := by have := hC.hi; omega
  have ct := hw2 pn hplt; obtain ⟨T, hT⟩ : ∃ T, T = c.when_.getD pn 0 := ⟨_, rfl⟩; rw [← hT] at ct; have HT := hid hT; have CT := hid ct; have HOS := hid hos2
  have HTB : Hid (0 ≤ T ∧ T ≤ 1099511627776) := by
    have := (chk_zero.1 hC.chk).2.2 pn (by omega); rw [← hT] at this; exact this
  have hpn6 : pn ≤ 6 := by omega
  clear hwc hw2 hos hos2 hT ct; obtain ⟨nw, hnw⟩ : ∃ nw, nw = c.when_.length := ⟨_, rfl⟩; obtain ⟨no, hno⟩ : ∃ no, no = c.ops.length := ⟨_, rfl⟩; rw [← hnw, ← hno, hpn] at hw1 hbx1 K15 ⊢; rw [← hnw] at HW hplt; have HNW := hid hnw; have HNO := hid hno; have HPN := hid hpn; have HPB := hid hpl; have HOLD := hid hold; have HBASE := hid hbase; have hs1 : w.heap.size < w1.heap.size := lt_of_heap hbx1; have X1 := hid hbx1; have B1 := hid hb1; have V1 := hid hV1; have c0 : w1.cell? ⟨w.heap.size, 0, none⟩ = some (.slice (some ⟨b1, o1, none⟩) nw cv) := by simp only [World.cell?, hbx1]; rfl
  have c1 : w1.cell? ⟨w.heap.size, 1, none⟩ = some (.int .i64 pn) := by simp only [World.cell?, hbx1]; rfl
  have c2 : w1.cell? ⟨w.heap.size, 2, none⟩ = some (.slice (some ⟨b2, o2, none⟩) no co) := by simp only [World.cell?, hbx1]; rfl
  clear hex hV hE ho hsm hc hpl hold hbase hnew hC hnw hno hpn hb1 hV1 hbx1 hrl; go_enter Tryz.func9, Tryz.ntmps9; go_wp2_with fail; rw [← hw1]; refine K15.mono ?_; rintro e w2 ⟨v2, rfl, hv2, hb2⟩; obtain rfl := nil_of_errB hv2; have B2 := hid (B1.out.trans (hb2.mono B1.out.size)); have V2 := hid (V1.out.moved hb2); have x2 : w2.heap[w.heap.size]? = some (.cells #[.slice (some ⟨b1, o1, none⟩) nw cv, .int .i64 pn, .slice (some ⟨b2, o2, none⟩) no co] 34 (0, 0)) := (hb2.block _ hs1).trans X1.out; have d0 : w2.cell? ⟨w.heap.size, 0, none⟩ = some (.slice (some ⟨b1, o1, none⟩) nw cv) := by simp only [World.cell?, x2]; rfl
  obtain ⟨ba, bc, p0, p1, p2, hbt, hpx⟩ := V2.out.boxAt; have K59 := checkVector_ok A w2 (HE.out.below B2.out h4) p _ s.base _ _ hpx hbt.at (.slice (some ⟨b1, o1, none⟩) nw cv) c.when_ (HW.out.mono B2.out (Nat.le_refl _)) HC.out.chk HPB.out; have K60 := fun W (hW : Below w2.heap.size w2 W) => within_ok A W (HE.out.below (B2.out.trans (hW.mono B2.out.size)) h4) (.slice (some ⟨b1, o1, none⟩) nw cv) _ c.when_ s.base (HW.out.mono (B2.out.trans (hW.mono B2.out.size)) (Nat.le_refl _)) (hbt.at.mono hW (Nat.le_refl _)) (two_zero.2 ⟨HC.out.chk, HBASE.out, HPB.out⟩)
  rw [HOLD.out] at K60; have X2 := hid x2; have HPX := hid hpx; clear K15 hv2 hb2 hw1 c0 c1 c2 x2 hbt hpx V1
  go_wp2_with (go_at_call 37; refine K59.mono ?_; rintro e w' ⟨rfl, hw'⟩; rw [hw'])
  obtain ⟨nb, hnb⟩ : ∃ nb, nb = s.base.length := ⟨_, rfl⟩; rw [← hnb] at p0 K60 HPX; clear hnb K59
  go_region_held (fun w' => w'.cell? ⟨w.heap.size, 0, none⟩ = some (.slice (some ⟨b1, o1, none⟩) nw cv) ∧ w'.cell? ⟨p, 0, none⟩ = some (.slice ba nb bc)) (go_keep) (first | (go_at_call 38; refine (K60 _ ?hb60).mono ?_; (case hb60 => exact below_draws (Below.refl _ _) 1); rintro e w3 ⟨rfl, q3, hq3⟩; have k0 : w3.cell? ⟨w.heap.size, 0, none⟩ = some (.slice (some ⟨b1, o1, none⟩) nw cv) := (by rw [hq3]; exact d0); have k1 : w3.cell? ⟨p, 0, none⟩ = some (.slice ba nb bc) := (by rw [hq3]; exact p0); have HQ3 := hid hq3; clear hq3))
  have hb23 : Below w2.heap.size w2 w3 := by rw [HQ3.out]; exact below_draws (below_draws (Below.refl _ _) 1) q3
  have B3 := hid (B2.out.trans (hb23.mono B2.out.size)); have V3 := hid (V2.out.moved hb23); have hs2 : w.heap.size < w2.heap.size := lt_of_heap X2.out; have x3 : w3.heap[w.heap.size]? = some (.cells #[.slice (some ⟨b1, o1, none⟩) nw cv, .int .i64 pn, .slice (some ⟨b2, o2, none⟩) no co] 34 (0, 0)) := (hb23.block _ hs2).trans X2.out; have e2 : w3.cell? ⟨w.heap.size, 2, none⟩ = some (.slice (some ⟨b2, o2, none⟩) no co) := by simp only [World.cell?, x3]; rfl
  have X3 := hid x3; clear HQ3 k0 k1 hb23 x3 d0 p0 p1 p2 K60 V2 X2 HPX; have hno12 : no ≤ 12 := by have := HNO.out; have := HC.out.few; omega
  go_wp2; clear e2
  go_loopw [36] (fun i wr => ∃ j : Nat, j ≤ no ∧ i = .int .i64 j ∧ Hid (Below w3.heap.size w3 wr) ∧ Hid (∀ i, i < j → dotC c c.ops[i]! ∉ s.dots)) (fun i _ => no - (intOf i).toNat)
  case atStart => exact ⟨0, Nat.zero_le _, rfl, Below.refl _ _, fun i hi => absurd hi (Nat.not_lt_zero _)⟩
  case round =>
    obtain ⟨j, hj, rfl, JB, JN⟩ := hrel
    by_cases hjl : j < no
    · obtain ⟨dp, dc, hd, q0, q1, q2, q3, q4, q5, q6⟩ := HOS.out j (by have := HNO.out; omega); have up : ∀ {a : Addr} {v : Value}, w.cell? a = some v → wr.cell? a = some v := fun {a v} h => by rw [(B3.out.trans (JB.out.mono B3.out.size)).cell (lt_of_cell h)]; exact h
      have r0 := up q0; have r1 := up q1; have r2 := up q2; have r3 := up q3; have r4 := up q4; have r5 := up q5; have r6 := up q6; have hmem : c.ops[j]! ∈ c.ops := by rw [getElem!_pos c.ops j (by have := HNO.out; omega)]; exact List.getElem_mem _
      have hoe := opErr_of_bad (HC.out.ops j (by have := HNO.out; omega)); obtain ⟨y, hy⟩ : ∃ y, y = c.ops[j]! := ⟨_, rfl⟩; have HY := hid hy; rw [← hy] at r0 r1 r2 r3 r4 r5 r6 hoe; have hat := at_of_opErr hoe; obtain ⟨x1, x2, x3, x4, x5, x6, ds⟩ := y; simp only at r0 r1 r2 r3 r4 r5 r6 hat; obtain ⟨dl, hdl⟩ : ∃ dl, dl = ds.length := ⟨_, rfl⟩; rw [← hdl] at r6; have hwf : Hid (wf3 ⟨pn, T, x1⟩) := ⟨wf_i64 (by simp only; omega) (by simp only; omega), wf_i64 HTB.out.1 HTB.out.2, wf_i64 hat.1 (by simp only; omega)⟩
      have HDJ : Hid (dotC c c.ops[j]! = ⟨pn, T, x1⟩) := by
        show _ = _; rw [← HY.out]; unfold dotC; rw [HPN.out, Int.toNat_natCast, ← HT.out]
      obtain ⟨bd, hbd⟩ : ∃ bd, bd = decide ((⟨pn, T, x1⟩ : D3) ∈ s.dots) := ⟨_, rfl⟩; have HND := hid hbd.symm; clear q0 q1 q2 q3 q4 q5 q6 hd hmem hoe hy hat hdl hbd up; go_upto_region 12 with (fail); obtain ⟨wq, hwq⟩ : ∃ wq, wq = wr.alloc (.cells #[.int .i64 x1, .string x2, .int .i64 x3, .string x4, .int .i64 x5, .bool x6, .slice dp dl dc] 76) := ⟨_, rfl⟩; rw [← hwq]; have bq : Below wr.heap.size wr wq := by rw [hwq]; exact below_alloc _ _
      have B3q := hid (JB.out.trans (bq.mono JB.out.size)); have VQ := hid (V3.out.moved B3q.out); have xq : wq.heap[w.heap.size]? = some (.cells #[.slice (some ⟨b1, o1, none⟩) nw cv, .int .i64 pn, .slice (some ⟨b2, o2, none⟩) no co] 34 (0, 0)) := (B3q.out.block _ (lt_of_heap X3.out)).trans X3.out; have oq : wq.heap[wr.heap.size]? = some (.cells #[.int .i64 x1, .string x2, .int .i64 x3, .string x4, .int .i64 x5, .bool x6, .slice dp dl dc] 76 (0, 0)) := by rw [hwq]; exact (MapKept.heap_alloc _ _).1
      obtain ⟨_, _, _, _, m2, _, _⟩ := VQ.out.boxAt; have n0 : wq.cell? ⟨w.heap.size, 0, none⟩ = some (.slice (some ⟨b1, o1, none⟩) nw cv) := by simp only [World.cell?, xq]; rfl
      have n1 : wq.cell? ⟨w.heap.size, 1, none⟩ = some (.int .i64 pn) := by simp only [World.cell?, xq]; rfl
      have n2 : wq.cell? ⟨w.heap.size, 2, none⟩ = some (.slice (some ⟨b2, o2, none⟩) no co) := by simp only [World.cell?, xq]; rfl
      have u0 : wq.cell? ⟨wr.heap.size, 0, none⟩ = some (.int .i64 x1) := by simp only [World.cell?, oq]; rfl
      have u1 : wq.cell? ⟨wr.heap.size, 1, none⟩ = some (.string x2) := by simp only [World.cell?, oq]; rfl
      have u2 : wq.cell? ⟨wr.heap.size, 2, none⟩ = some (.int .i64 x3) := by simp only [World.cell?, oq]; rfl
      have u3 : wq.cell? ⟨wr.heap.size, 3, none⟩ = some (.string x4) := by simp only [World.cell?, oq]; rfl
      have u4 : wq.cell? ⟨wr.heap.size, 4, none⟩ = some (.int .i64 x5) := by simp only [World.cell?, oq]; rfl
      have u5 : wq.cell? ⟨wr.heap.size, 5, none⟩ = some (.bool x6) := by simp only [World.cell?, oq]; rfl
      have u6 : wq.cell? ⟨wr.heap.size, 6, none⟩ = some (.slice dp dl dc) := by simp only [World.cell?, oq]; rfl
      have ctq : wq.cell? ⟨b1, o1 + pn, none⟩ = some (.int .i64 T) := by rw [(B3.out.trans (B3q.out.mono B3.out.size)).cell (lt_of_cell CT.out)]; exact CT.out
      clear hwq bq xq oq r0 r1 r2 r3 r4 r5 r6
      go_region_held (fun w' => w'.cell? ⟨p, 2, none⟩ = some (.map (some db)) ∧ w'.cell? ⟨w.heap.size, 0, none⟩ = some (.slice (some ⟨b1, o1, none⟩) nw cv) ∧ w'.cell? ⟨w.heap.size, 1, none⟩ = some (.int .i64 pn) ∧ w'.cell? ⟨w.heap.size, 2, none⟩ = some (.slice (some ⟨b2, o2, none⟩) no co) ∧ w'.cell? ⟨wr.heap.size, 0, none⟩ = some (.int .i64 x1) ∧ w'.cell? ⟨wr.heap.size, 1, none⟩ = some (.string x2) ∧ w'.cell? ⟨wr.heap.size, 2, none⟩ = some (.int .i64 x3) ∧ w'.cell? ⟨wr.heap.size, 3, none⟩ = some (.string x4) ∧ w'.cell? ⟨wr.heap.size, 4, none⟩ = some (.int .i64 x5) ∧ w'.cell? ⟨wr.heap.size, 5, none⟩ = some (.bool x6) ∧ w'.cell? ⟨wr.heap.size, 6, none⟩ = some (.slice dp dl dc)) (go_keep) (first | (go_at_call 39; refine (dotOf_any _ b1 o1 nw cv pn T _ _ _ _ _ _ _ _ _ _ _ _ hplt ?hct).mono ?_; (case hct => first | exact ctq | exact cell_alloc ctq _); rintro e w5 ⟨rfl, hb5⟩; have up5 : ∀ {a : Addr} {v : Value}, wq.cell? a = some v → w5.cell? a = some v := (fun {a v} h => by first | (rw [hb5.cell (lt_of_cell h)]; exact h) | (rw [hb5.cell (lt_of_cell (cell_alloc h _))]; exact cell_alloc h _)); have hbq5 : Below wq.heap.size wq w5 := (by first | exact (below_draws (Below.refl wq.heap.size wq) 1).trans hb5 | exact (below_draws (below_alloc wq _) 1).trans (hb5.mono (by show wq.heap.size ≤ (wq.alloc _).heap.size; simp))); have V5 := VQ.out.moved hbq5; have hl5 : (Instr.lookup 81 (.map (some db)) (.agg #[.int .i64 pn, .int .i64 T, .int .i64 x1]) true).run Tryz.prog w5 = .ok (.tuple #[.agg #[], .bool bd]) w5 := (by have h := V5.look ⟨pn, T, x1⟩ hwf.out; rw [HND.out] at h; exact h); have hl6 : ∀ o, (Instr.lookup 81 (.map (some db)) (.agg #[.int .i64 pn, .int .i64 T, .int .i64 x1]) true).run Tryz.prog (w5.alloc o) = .ok (.tuple #[.agg #[], .bool bd]) (w5.alloc o) := (fun o => by have h := (V5.moved (below_alloc w5 o)).look ⟨pn, T, x1⟩ hwf.out; rw [HND.out] at h; exact h); have m2' := up5 m2; have n0' := up5 n0; have n1' := up5 n1; have n2' := up5 n2; have u0' := up5 u0; have u1' := up5 u1; have u2' := up5 u2; have u3' := up5 u3; have u4' := up5 u4; have u5' := up5 u5; have u6' := up5 u6; clear up5 V5; have HBQ5 := hid hbq5; clear hb5 hbq5))
      all_goals
        cases bd with
        | true =>
          have gx : w5.cell? ⟨2, 0, none⟩ = some (.iface 255 (.pointer (some (A 5)))) := by
            have hb := B3.out.trans ((B3q.out.trans (HBQ5.out.mono B3q.out.size)).mono B3.out.size); rw [hb.cell (lt_of_cell HEX.out)]; exact HEX.out
          have gxa := fun o => cell_alloc gx o
          have BZ := hid (B3.out.trans ((B3q.out.trans (HBQ5.out.mono B3q.out.size)).mono B3.out.size)); have HEE : Hid (existE s c = (6, some j)) := existE_at (by have := HNO.out; omega) (fun i hi => JN.out i hi) (by rw [HDJ.out]; exact of_decide_eq_true HND.out); go_wp2; have hsz := BZ.out.size; go_ret; rw [HEE.out]
          first
            | exact ⟨_, rfl, ⟨_, rfl, World.cell?_alloc_at _ _ _ _ rfl, World.cell?_alloc_at _ _ _ _ rfl⟩, BZ.out.alloc hsz _⟩
            | exact ⟨_, rfl, ⟨_, rfl, World.cell?_alloc_at _ _ _ _ (by simp), World.cell?_alloc_at _ _ _ _ (by simp)⟩, (BZ.out.alloc hsz _).alloc (by simp; omega) _⟩
            | exact ⟨_, rfl, ⟨_, rfl, cell_alloc (World.cell?_alloc_at _ _ _ _ rfl) _, cell_alloc (World.cell?_alloc_at _ _ _ _ rfl) _⟩, (BZ.out.alloc hsz _).alloc (by simp; omega) _⟩
            | exact ⟨_, rfl, ⟨_, rfl, World.cell?_alloc_at _ _ _ _ rfl, World.cell?_alloc_at _ _ _ _ rfl⟩, ((BZ.out.alloc hsz _).alloc (by simp; omega) _).alloc (by simp; omega) _⟩
        | false =>
          go_wp2; refine ⟨⟨j + 1, by omega, by go_num, ?_, ?_⟩, by simp [intOf]; omega⟩
          · first
              | exact (B3q.out.trans (HBQ5.out.mono B3q.out.size)).alloc (Nat.le_trans B3q.out.size HBQ5.out.size) _
              | exact B3q.out.trans (HBQ5.out.mono B3q.out.size)
          · intro i hi; rcases Nat.lt_succ_iff_lt_or_eq.1 hi with h | rfl
            · exact JN.out i h
            · rw [HDJ.out]; exact of_decide_eq_false HND.out
    · obtain rfl : j = no := by omega
      obtain ⟨o, ho, hod⟩ := HNEW.out; obtain ⟨i, hi, rfl⟩ := List.getElem_of_mem ho; exact absurd (by rw [getElem!_pos c.ops i hi]; exact hod) (JN.out i (by rw [HNO.out]; exact hi))
theorem putErr_zero {s : St} {c : ComV} (h : (putErr s c).1 = 0) : PutOk s c := by
  unfold putErr at h
  split at h
  · rename_i h0; exact absurd h h0
  · rename_i h0
    split at h
    · exact absurd h (by decide)
    · rename_i h1
      split at h
      · exact absurd h (by decide)
      · rename_i h2
        exact ⟨comErr_zero (by simpa using h0), by simpa using h1, by simpa using h2, existE_zero h⟩
theorem putE_any (A : Nat → Addr) (B : Nat) (w : World) (hE : SentV A B w) (p mb db n nb : Nat) (f : ByteArray → Value) (s : St) (hV : VerAt w p mb db f s n) (hS : StOk s nb) (hrl : ∀ k, (rowOf s k).length ≤ 1000000) (c : ComV) (wv ov : Value) (hcT : ComT w [wv, .int .i64 c.place, ov] c) (hsm : SmallC c) (hbad : (putErr s c).1 ≠ 0) :
    Calls Tryz.prog 9 #[.pointer (some ⟨p, 0, none⟩), .agg #[wv, .int .i64 c.place, ov]] w fun e w' => PutE A (putErr s c) w e w' := by
  have h12 : 12 ≤ w.heap.size := by have := hE.gl; have := hE.size; omega
  obtain ⟨wv', ov', hwe, hwT, hoT⟩ := hcT; have hcT : ComT w [wv, .int .i64 c.place, ov] c := ⟨wv', ov', hwe, hwT, hoT⟩; injection hwe with e1 e2; injection e2 with _ e2; injection e2 with e2 _; subst e1 e2; have hsmo : ∀ o ∈ c.ops, Small o := hsm.2.2; unfold putErr at hbad ⊢
  by_cases h0 : (comErr c).1 ≠ 0
  · rw [if_pos h0]; exact putE_com A w hE.e4 h12 p c wv ov hwT.at hoT.at hsm.1 hsm.2.1 hsmo h0
  · rw [if_neg h0] at hbad ⊢; have hc : comErr c = (0, none) := comErr_zero (by simpa using h0)
    by_cases h1 : c.when_.length ≠ s.base.length
    · rw [if_pos h1]; exact putE_vec A w hE.e4 h12 p mb db n f s hV c wv ov hwT.at hoT.at hsm.1 hsm.2.1 hsmo hc h1
    · rw [if_neg h1] at hbad ⊢; have h1' : c.when_.length = s.base.length := by simpa using h1
      cases h2 : leB c.when_ s.base with
      | true =>
        rw [if_pos rfl]; exact putE_old A w hE.e4 hE.c8 h12 p mb db n f s hV c wv ov hwT.at hoT.at hsm.1 hsm.2.1 hsmo hc h1' hS.base h2
      | false =>
        rw [h2, if_neg (by decide)] at hbad; rw [if_neg (by decide)]; exact putE_exist A w hE.e4 hE.c5 h12 p mb db n f s hV hrl c wv ov hcT hsmo hc h1' h2 hS.base (existE_not hbad)
end Go.Proofs.YtdnebclemngdcaaGreatDoor
namespace Go.Proofs.YtdnebclemngdcaaGreatDoor
open Go.RowKit Go.Sort Go.Maps
set_option maxRecDepth 100000
set_option linter.unusedSectionVars false
variable [Inhabited ComV] [DecidableEq D3] [Inhabited D3] [Inhabited Dd] [Inhabited Dn] [Inhabited OpV]

theorem com_pos {c : ComV} (h : (comErr c).1 ≠ 0) : (0 : Int) < ((comErr c).1 : Int) := by omega
set_option maxHeartbeats 4000000 in
theorem rPut_com (w : World) (q : Nat) (c : ComV) (wv ov : Value) (hw : IntsAt w wv c.when_) (ho : OpsAt w ov c.ops) (hsm : SmallC c) (hbad : (comErr c).1 ≠ 0) :
    Calls Tryz.prog 23 #[.pointer (some ⟨q, 0, none⟩), .agg #[wv, .int .i64 c.place, ov]] w fun e w' => FltRet w (comErr c) e w' := by
  obtain ⟨hg, hb1, hs1⟩ := two_boxes w (.cells #[wv, .int .i64 c.place, ov] 34); have K53 := hid (rCommitFault _ c wv ov (hw.mono hb1 (Nat.le_refl _)) (ho.mono hb1 (Nat.le_refl _)) hsm.1 hsm.2.1 hsm.2.2); obtain ⟨er, her⟩ : ∃ er, er = comErr c := ⟨_, rfl⟩; have hpos := com_pos hbad; rw [← her] at K53 hpos ⊢; obtain ⟨z, hz⟩ : ∃ z : Int, z = ((er.1 : Nat) : Int) := ⟨_, rfl⟩; obtain ⟨y, hy⟩ : ∃ y : Int, y = faultAt er.2 := ⟨_, rfl⟩; unfold FltRet at K53 ⊢; rw [← hz, ← hy] at K53 ⊢; rw [← hz] at hpos; obtain ⟨a1, c1, rfl⟩ := hw.slice; obtain ⟨a2, c2, rfl, _⟩ := ho.shape; obtain ⟨n1, hn1⟩ : ∃ n1, n1 = c.when_.length := ⟨_, rfl⟩; obtain ⟨n2, hn2⟩ : ∃ n2, n2 = c.ops.length := ⟨_, rfl⟩; obtain ⟨pl, hpl⟩ : ∃ pl, pl = c.place := ⟨_, rfl⟩; rw [← hn1, ← hn2, ← hpl] at K53 hg hb1 hs1 ⊢
  obtain ⟨w1, hw1⟩ : ∃ w1, w1 = (w.alloc (.cells #[.slice a1 n1 c1, .int .i64 pl, .slice a2 n2 c2] 34)).alloc (.cells #[.int .i64 0, .int .i64 0] 60) := ⟨_, rfl⟩
  have x0 : w1.heap[w.heap.size]? = some (.cells #[.slice a1 n1 c1, .int .i64 pl, .slice a2 n2 c2] 34 (0, 0)) := by
    rw [hw1, (MapKept.heap_alloc _ _).2 _ (by simp)]; exact (MapKept.heap_alloc _ _).1
  have d0 : w1.cell? ⟨w.heap.size, 0, none⟩ = some (.slice a1 n1 c1) := by simp only [World.cell?, x0]; rfl
  have d1 : w1.cell? ⟨w.heap.size, 1, none⟩ = some (.int .i64 pl) := by simp only [World.cell?, x0]; rfl
  have d2 : w1.cell? ⟨w.heap.size, 2, none⟩ = some (.slice a2 n2 c2) := by simp only [World.cell?, x0]; rfl
  rw [← hw1] at K53 hg hb1 hs1; have HG := hid hg; have HB1 := hid hb1; have HS1 := hid hs1; clear hw ho hsm hbad her hz hy hn1 hn2 hpl hg hb1 hs1 x0; go_enter Tryz.func23, Tryz.ntmps23; go_wp2_with fail; rw [← hw1]; refine K53.out.mono ?_; rintro e w2 ⟨rfl, hb2⟩; obtain ⟨w3, hw3⟩ : ∃ w3, w3 = w2.alloc (.cells #[.int .i64 z, .int .i64 y] 60) := ⟨_, rfl⟩; have hb3 : Below w1.heap.size w1 w3 := by rw [hw3]; exact hb2.alloc hb2.size _
  have X := hid (box2 HG.out (hb3.mono (by rw [HS1.out]; omega))); have B3 := hid (HB1.out.trans (hb3.mono HB1.out.size)); have x3 : w3.heap[w2.heap.size]? = some (.cells #[.int .i64 z, .int .i64 y] 60 (0, 0)) := by rw [hw3]; exact (MapKept.heap_alloc _ _).1
  have f0 : w3.cell? ⟨w2.heap.size, 0, none⟩ = some (.int .i64 z) := by simp only [World.cell?, x3]; rfl
  have f1 : w3.cell? ⟨w2.heap.size, 1, none⟩ = some (.int .i64 y) := by simp only [World.cell?, x3]; rfl
  clear hb2 hb3 x3 d0 d1 d2 hw1 K53; go_upto_region 2 with (fail); rw [← hw3]; clear hw3
  go_wp2_with (refine wpList_store_k _ rfl (.tmp 4) (.tmp 15) 60 rfl (w.heap.size + 1) 0 [.int .i64 z, .int .i64 y] rfl rfl 2 rfl Tryz.sizeOf60 rfl _ ?hW X.out.1 X.out.2.1 ?_; case hW => rfl)
  refine bodyPost_ret (ret_flt Tryz.results23 _ _ (w.heap.size + 1) _ _ rfl (X.out.2.2 _ _)) rfl ⟨rfl, below_setCells (by omega) _ _ B3.out⟩
end Go.Proofs.YtdnebclemngdcaaGreatDoor
namespace Go.Proofs.YtdnebclemngdcaaGreatDoor
open Go.RowKit Go.Sort Go.Maps
set_option maxRecDepth 100000
set_option linter.unusedSectionVars false
variable [Inhabited ComV] [DecidableEq D3] [Inhabited D3] [Inhabited Dd] [Inhabited Dn] [Inhabited OpV]

theorem res_box {w : World} {g : Nat} (hg : w.heap[g]? = some (.cells #[.int .i64 0, .int .i64 0] 60 (0, 0))) : (∀ j, j < 2 → (w.cell? ⟨g, 0 + j, none⟩).isSome = true) ∧ (∀ j, j < 2 → w.frozen? ⟨g, 0 + j, none⟩ = false) ∧ ∀ a b : Value, (w.setCells g 0 [a, b]).cell? ⟨g, 0, none⟩ = some a ∧ (w.setCells g 0 [a, b]).cell? ⟨g, 1, none⟩ = some b := box2 hg (Below.refl _ _)
set_option maxHeartbeats 4000000 in
theorem rPut_shape (w : World) (q : Nat) (bv lv : Value) (hq : w.heap[q]? = some (.cells #[bv, lv] 73 (0, 0))) (bs : List Int) (hbv : IntsAt w bv bs) (c : ComV) (wv ov : Value) (hw : IntsAt w wv c.when_) (ho : OpsAt w ov c.ops) (hsm : SmallC c) (hcom : comErr c = (0, none)) (hne : c.when_.length ≠ bs.length) :
    Calls Tryz.prog 23 #[.pointer (some ⟨q, 0, none⟩), .agg #[wv, .int .i64 c.place, ov]] w fun e w' => FltRet w (3, none) e w' := by
  obtain ⟨hg, hb1, hs1⟩ := two_boxes w (.cells #[wv, .int .i64 c.place, ov] 34); have K53 := hid (rCommitFault _ c wv ov (hw.mono hb1 (Nat.le_refl _)) (ho.mono hb1 (Nat.le_refl _)) hsm.1 hsm.2.1 hsm.2.2); unfold FltRet at K53; rw [hcom] at K53; simp only [faultAt] at K53; have hC := comOk_of (c := c) (by rw [hcom]); have HC := hid hC; have HW := hid hw; have HBV := hid hbv; obtain ⟨a1, c1, rfl⟩ := hw.slice; obtain ⟨a2, c2, rfl, _, _, ho2⟩ := ho.shape; obtain ⟨ba, bc, rfl⟩ := hbv.slice; have G0 : Hid (w.cell? ⟨q, 0, none⟩ = some (.slice ba bs.length bc)) := (show _ = _ from by simp only [World.cell?, hq]; rfl); have HQ := hid hq; obtain ⟨n1, hn1⟩ : ∃ n1, n1 = c.when_.length := ⟨_, rfl⟩; obtain ⟨n2, hn2⟩ : ∃ n2, n2 = c.ops.length := ⟨_, rfl⟩; obtain ⟨pl, hpl⟩ : ∃ pl, pl = c.place := ⟨_, rfl⟩; obtain ⟨nb, hnb⟩ : ∃ nb, nb = bs.length := ⟨_, rfl⟩; have HN1 := hid hn1; have HN2 := hid hn2
  have HPL := hid hpl; have HNB := hid hnb; rw [← hn1, ← hn2, ← hpl] at K53 hg hb1 hs1 ⊢; rw [← hn1] at HW; rw [← hnb] at G0 HBV HQ; have hnn : ((n1 : Int) != (nb : Int)) = true := by rw [bne_iff_ne]; intro e; exact hne (by omega)
  obtain ⟨w1, hw1⟩ : ∃ w1, w1 = (w.alloc (.cells #[.slice a1 n1 c1, .int .i64 pl, .slice a2 n2 c2] 34)).alloc (.cells #[.int .i64 0, .int .i64 0] 60) := ⟨_, rfl⟩
  have x0 : w1.heap[w.heap.size]? = some (.cells #[.slice a1 n1 c1, .int .i64 pl, .slice a2 n2 c2] 34 (0, 0)) := by
    rw [hw1, (MapKept.heap_alloc _ _).2 _ (by simp)]; exact (MapKept.heap_alloc _ _).1
  have X0 := hid x0; have d0 : w1.cell? ⟨w.heap.size, 0, none⟩ = some (.slice a1 n1 c1) := by simp only [World.cell?, x0]; rfl
  have d1 : w1.cell? ⟨w.heap.size, 1, none⟩ = some (.int .i64 pl) := by simp only [World.cell?, x0]; rfl
  have d2 : w1.cell? ⟨w.heap.size, 2, none⟩ = some (.slice a2 n2 c2) := by simp only [World.cell?, x0]; rfl
  rw [← hw1] at K53 hg hb1 hs1; have HG := hid hg; have HB1 := hid hb1; have HS1 := hid hs1; clear hw ho hsm hcom hn1 hn2 hpl hnb hg hb1 hs1 x0 hbv hq hC hne ho2; go_enter Tryz.func23, Tryz.ntmps23; go_wp2_with fail; rw [← hw1]; refine K53.out.mono ?_; rintro e w2 ⟨rfl, hb2⟩; obtain ⟨w3, hw3⟩ : ∃ w3, w3 = w2.alloc (.cells #[.int .i64 0, .int .i64 (-1)] 60) := ⟨_, rfl⟩; have hb3 : Below w1.heap.size w1 w3 := by rw [hw3]; exact hb2.alloc hb2.size _
  have Z3 := hid ((hb3.block _ (by rw [HS1.out]; omega)).trans HG.out); have B3 := hid (HB1.out.trans (hb3.mono HB1.out.size)); have x3 : w3.heap[w2.heap.size]? = some (.cells #[.int .i64 0, .int .i64 (-1)] 60 (0, 0)) := by rw [hw3]; exact (MapKept.heap_alloc _ _).1
  have X3 := hid x3; have C3 := hid ((hb3.block _ (lt_of_heap X0.out)).trans X0.out); have hfb : w.heap.size + 1 < w2.heap.size := by have := hb2.size; have := HS1.out; omega
  have f0 : w3.cell? ⟨w2.heap.size, 0, none⟩ = some (.int .i64 0) := by simp only [World.cell?, x3]; rfl
  have e0 : w3.cell? ⟨w.heap.size, 0, none⟩ = some (.slice a1 n1 c1) := by simp only [World.cell?, C3.out]; rfl
  have g0 : w3.cell? ⟨q, 0, none⟩ = some (.slice ba nb bc) := by rw [B3.out.cell (lt_of_cell G0.out)]; exact G0.out
  obtain ⟨fb, hfbe⟩ : ∃ fb, fb = w2.heap.size := ⟨_, rfl⟩; obtain ⟨rb, hrb⟩ : ∃ rb, rb = w.heap.size + 1 := ⟨_, rfl⟩; obtain ⟨cb, hcb⟩ : ∃ cb, cb = w.heap.size := ⟨_, rfl⟩; go_upto_region 2 with (fail); rw [← hw3]; rw [← hfbe] at f0 X3 hfb ⊢; rw [← hrb] at Z3 hfb ⊢; rw [← hcb] at C3 e0 ⊢; have HRB := hid hrb; have HCB := hid hcb; have HRC : Hid (rb = cb + 1) := (show _ = _ from by omega); have HFB := hid hfb; clear hb2 hb3 x3 d0 d1 d2 hw1 K53 hw3 hfbe hrb hcb X0 hfb; go_wp2_with fail
  go_quiet (fail)
  obtain ⟨w4, hw4⟩ : ∃ w4, w4 = w3.drewN nq := ⟨_, rfl⟩; rw [← hw4]; have hb4 : Below w3.heap.size w3 w4 := by rw [hw4]; exact below_draws (Below.refl _ _) _
  have B4 := hid (B3.out.trans (hb4.mono B3.out.size)); have Z4 := hid ((hb4.block _ (lt_of_heap Z3.out)).trans Z3.out); clear hw4 hb4 f0 e0 g0; go_wp2_with fail; refine (bare_any _ 3).mono ?_; rintro e w5 ⟨rfl, hb5⟩; have B5 := hid (B4.out.trans (hb5.mono B4.out.size)); have X := hid (res_box ((hb5.block _ (lt_of_heap Z4.out)).trans Z4.out)); clear hb5
  go_wp2_with (refine wpList_store_k _ rfl (.tmp 4) (.tmp 25) 60 rfl rb 0 [.int .i64 3, .int .i64 (-1)] rfl rfl 2 rfl Tryz.sizeOf60 rfl _ ?hW X.out.1 X.out.2.1 ?_; case hW => rfl)
  refine bodyPost_ret (ret_flt Tryz.results23 _ _ rb _ _ rfl (X.out.2.2 _ _)) rfl ⟨rfl, below_setCells (by have := HRB.out; omega) _ _ B5.out⟩
set_option maxHeartbeats 4000000 in
theorem rPut_old (w : World) (q : Nat) (bv lv : Value) (hq : w.heap[q]? = some (.cells #[bv, lv] 73 (0, 0))) (bs : List Int) (hbv : IntsAt w bv bs) (hb1' : 1 ≤ bs.length) (hb6 : bs.length ≤ 6) (c : ComV) (wv ov : Value) (hw : IntsAt w wv c.when_) (ho : OpsAt w ov c.ops) (hsm : SmallC c) (hcom : comErr c = (0, none)) (hlen : c.when_.length = bs.length) (hle : leB c.when_ bs = true) :
    Calls Tryz.prog 23 #[.pointer (some ⟨q, 0, none⟩), .agg #[wv, .int .i64 c.place, ov]] w fun e w' => FltRet w (9, none) e w' := by
  obtain ⟨hg, hb1, hs1⟩ := two_boxes w (.cells #[wv, .int .i64 c.place, ov] 34); have K53 := hid (rCommitFault _ c wv ov (hw.mono hb1 (Nat.le_refl _)) (ho.mono hb1 (Nat.le_refl _)) hsm.1 hsm.2.1 hsm.2.2); unfold FltRet at K53; rw [hcom] at K53; simp only [faultAt] at K53; have hC := comOk_of (c := c) (by rw [hcom]); have HC := hid hC; have HW := hid hw; have HBV := hid hbv; obtain ⟨a1, c1, rfl⟩ := hw.slice; obtain ⟨a2, c2, rfl, _, _, ho2⟩ := ho.shape; obtain ⟨ba, bc, rfl⟩ := hbv.slice; have G0 : Hid (w.cell? ⟨q, 0, none⟩ = some (.slice ba bs.length bc)) := (show _ = _ from by simp only [World.cell?, hq]; rfl); have HQ := hid hq; obtain ⟨n1, hn1⟩ : ∃ n1, n1 = c.when_.length := ⟨_, rfl⟩; obtain ⟨n2, hn2⟩ : ∃ n2, n2 = c.ops.length := ⟨_, rfl⟩; obtain ⟨pl, hpl⟩ : ∃ pl, pl = c.place := ⟨_, rfl⟩; obtain ⟨nb, hnb⟩ : ∃ nb, nb = bs.length := ⟨_, rfl⟩; have HN1 := hid hn1; have HN2 := hid hn2
  have HPL := hid hpl; have HNB := hid hnb; rw [← hn1, ← hn2, ← hpl] at K53 hg hb1 hs1 ⊢; rw [← hn1] at HW; rw [← hnb] at G0 HBV HQ; have hnn : ((n1 : Int) != (nb : Int)) = false := by rw [bne_eq_false_iff_eq]; omega
  have K55 := hid (fun W (hW : Below w.heap.size w W) => in_any W (.slice a1 n1 c1) (.slice ba nb bc) c.when_ bs (HW.out.mono hW (Nat.le_refl _)) (HBV.out.mono hW (Nat.le_refl _)) hlen (by rw [hlen]; exact hb1') (by omega)); rw [hle] at K55; obtain ⟨w1, hw1⟩ : ∃ w1, w1 = (w.alloc (.cells #[.slice a1 n1 c1, .int .i64 pl, .slice a2 n2 c2] 34)).alloc (.cells #[.int .i64 0, .int .i64 0] 60) := ⟨_, rfl⟩
  have x0 : w1.heap[w.heap.size]? = some (.cells #[.slice a1 n1 c1, .int .i64 pl, .slice a2 n2 c2] 34 (0, 0)) := by
    rw [hw1, (MapKept.heap_alloc _ _).2 _ (by simp)]; exact (MapKept.heap_alloc _ _).1
  have X0 := hid x0; have d0 : w1.cell? ⟨w.heap.size, 0, none⟩ = some (.slice a1 n1 c1) := by simp only [World.cell?, x0]; rfl
  have d1 : w1.cell? ⟨w.heap.size, 1, none⟩ = some (.int .i64 pl) := by simp only [World.cell?, x0]; rfl
  have d2 : w1.cell? ⟨w.heap.size, 2, none⟩ = some (.slice a2 n2 c2) := by simp only [World.cell?, x0]; rfl
  rw [← hw1] at K53 hg hb1 hs1; have HG := hid hg; have HB1 := hid hb1; have HS1 := hid hs1; clear hw ho hsm hcom hn1 hn2 hpl hnb hg hb1 hs1 x0 hbv hq hC hlen hle ho2; go_enter Tryz.func23, Tryz.ntmps23; go_wp2_with fail; rw [← hw1]; refine K53.out.mono ?_; rintro e w2 ⟨rfl, hb2⟩; obtain ⟨w3, hw3⟩ : ∃ w3, w3 = w2.alloc (.cells #[.int .i64 0, .int .i64 (-1)] 60) := ⟨_, rfl⟩; have hb3 : Below w1.heap.size w1 w3 := by rw [hw3]; exact hb2.alloc hb2.size _
  have Z3 := hid ((hb3.block _ (by rw [HS1.out]; omega)).trans HG.out); have B3 := hid (HB1.out.trans (hb3.mono HB1.out.size)); have x3 : w3.heap[w2.heap.size]? = some (.cells #[.int .i64 0, .int .i64 (-1)] 60 (0, 0)) := by rw [hw3]; exact (MapKept.heap_alloc _ _).1
  have X3 := hid x3; have C3 := hid ((hb3.block _ (lt_of_heap X0.out)).trans X0.out); have hfb : w.heap.size + 1 < w2.heap.size := by have := hb2.size; have := HS1.out; omega
  have f0 : w3.cell? ⟨w2.heap.size, 0, none⟩ = some (.int .i64 0) := by simp only [World.cell?, x3]; rfl
  have e0 : w3.cell? ⟨w.heap.size, 0, none⟩ = some (.slice a1 n1 c1) := by simp only [World.cell?, C3.out]; rfl
  have g0 : w3.cell? ⟨q, 0, none⟩ = some (.slice ba nb bc) := by rw [B3.out.cell (lt_of_cell G0.out)]; exact G0.out
  obtain ⟨fb, hfbe⟩ : ∃ fb, fb = w2.heap.size := ⟨_, rfl⟩; obtain ⟨rb, hrb⟩ : ∃ rb, rb = w.heap.size + 1 := ⟨_, rfl⟩; obtain ⟨cb, hcb⟩ : ∃ cb, cb = w.heap.size := ⟨_, rfl⟩; go_upto_region 2 with (fail); rw [← hw3]; rw [← hfbe] at f0 X3 hfb ⊢; rw [← hrb] at Z3 hfb ⊢; rw [← hcb] at C3 e0 ⊢; have HRB := hid hrb; have HCB := hid hcb; have HRC : Hid (rb = cb + 1) := (show _ = _ from by omega); have HFB := hid hfb; clear hb2 hb3 x3 d0 d1 d2 hw1 K53 hw3 hfbe hrb hcb X0 hfb; go_wp2_with fail
  go_quiet (fail)
  obtain ⟨w4, hw4⟩ : ∃ w4, w4 = w3.drewN nq := ⟨_, rfl⟩; rw [← hw4]; have hb4 : Below w3.heap.size w3 w4 := by rw [hw4]; exact below_draws (Below.refl _ _) _
  have B4 := hid (B3.out.trans (hb4.mono B3.out.size)); have Z4 := hid ((hb4.block _ (lt_of_heap Z3.out)).trans Z3.out); have C4 := hid ((hb4.block _ (lt_of_heap C3.out)).trans C3.out); have X4 := hid ((hb4.block _ (lt_of_heap X3.out)).trans X3.out); have e4 : w4.cell? ⟨cb, 0, none⟩ = some (.slice a1 n1 c1) := by simp only [World.cell?, C4.out]; rfl
  have g4 : w4.cell? ⟨q, 0, none⟩ = some (.slice ba nb bc) := by rw [B4.out.cell (lt_of_cell G0.out)]; exact G0.out
  clear hw4 hb4 f0 e0 g0; go_wp2_with fail; have K55d := hid (K55.out w4.drew B4.out.drew)
  go_region_held (fun w' => w'.cell? ⟨cb, 0, none⟩ = some (.slice a1 n1 c1) ∧ w'.cell? ⟨q, 0, none⟩ = some (.slice ba nb bc)) (go_keep) (first | (go_at_call 55; refine K55d.out.mono ?_; rintro e w5 ⟨rfl, q5, hq5⟩; have k0 : w5.cell? ⟨cb, 0, none⟩ = some (.slice a1 n1 c1) := (by rw [hq5]; exact e4); have k1 : w5.cell? ⟨q, 0, none⟩ = some (.slice ba nb bc) := (by rw [hq5]; exact g4); have HQ5 := hid hq5; clear hq5))
  have hb45 : Below w4.heap.size w4 w5 := by rw [HQ5.out]; exact below_draws (Below.refl _ _).drew q5
  have B5 := hid (B4.out.trans (hb45.mono B4.out.size)); have Z5 := hid ((hb45.block _ (lt_of_heap Z4.out)).trans Z4.out); have C5 := hid ((hb45.block _ (lt_of_heap C4.out)).trans C4.out); have X5 := hid ((hb45.block _ (lt_of_heap X4.out)).trans X4.out); clear HQ5 k0 k1 e4 g4 hb45 K55d; go_wp2_with fail; refine (bare_any _ 9).mono ?_; rintro e w6 ⟨rfl, hb6⟩; have B6 := hid (B5.out.trans (hb6.mono B5.out.size)); have X := hid (res_box ((hb6.block _ (lt_of_heap Z5.out)).trans Z5.out)); clear hb6
  go_wp2_with (refine wpList_store_k _ rfl (.tmp 4) (.tmp 34) 60 rfl rb 0 [.int .i64 9, .int .i64 (-1)] rfl rfl 2 rfl Tryz.sizeOf60 rfl _ ?hW X.out.1 X.out.2.1 ?_; case hW => rfl)
  refine bodyPost_ret (ret_flt Tryz.results23 _ _ rb _ _ rfl (X.out.2.2 _ _)) rfl ⟨rfl, below_setCells (by have := HRB.out; omega) _ _ B6.out⟩
end Go.Proofs.YtdnebclemngdcaaGreatDoor
namespace Go.Proofs.YtdnebclemngdcaaGreatDoor
open Go.RowKit Go.Sort Go.Maps
set_option linter.unusedSectionVars false
variable [Inhabited ComV] [DecidableEq D3] [Inhabited D3] [Inhabited Dd] [Inhabited Dn] [Inhabited OpV]

theorem foldl_addDn_new : ∀ (xs acc : List Dn), (∀ x ∈ xs, ∀ a ∈ acc, a.dot ≠ x.dot) → xs.Pairwise (fun a b => a.dot ≠ b.dot) → xs.foldl addDn acc = acc ++ xs
  | [], acc, _, _ => by simp
  | x :: xs, acc, h, hp => by
    rw [List.foldl_cons]
    have hx : addDn acc x = acc ++ [x] := by
      unfold addDn hasDot; rw [if_neg]; intro ht; obtain ⟨a, ha, e⟩ := List.any_eq_true.1 ht; exact h x (by simp) a ha (of_decide_eq_true e)
    rw [hx, foldl_addDn_new xs (acc ++ [x]) ?_ (List.pairwise_cons.1 hp).2]
    · simp
    · intro y hy a ha; rcases List.mem_append.1 ha with ha | ha
      · exact h y (by simp [hy]) a ha
      · rw [List.mem_singleton.1 ha]; exact (List.pairwise_cons.1 hp).1 y hy
theorem flatA_one : ∀ (l : List ComV), (∀ c ∈ l, c.ops.length = 1) → flatA l = l.map dn1
  | [], _ => rfl
  | c :: l, h => by
    have e := flatA_one l fun c hc => h c (by simp [hc])
    unfold flatA at e ⊢; rw [List.flatMap_cons, e, List.map_cons]; obtain ⟨o, ho⟩ := List.length_eq_one_iff.1 (h c (by simp)); rw [ho]; unfold dn1 k1; rw [ho]; rfl
structure RowOne (key : ByteArray) (l : List ComV) : Prop where
  one : ∀ c ∈ l, c.ops.length = 1
  key : ∀ c ∈ l, (k1 c).key = key
  ne : (l.map dn1).Pairwise fun a b => a.dot ≠ b.dot
theorem RowOne.once {key : ByteArray} {l : List ComV} (h : RowOne key l) : ((onceA l).filter fun x => decide (x.o.key = key)) = l.map dn1 := by
  rw [onceA_flat, flatA_one l h.one, foldl_addDn_new _ [] (fun _ _ _ ha => by simp at ha) h.ne, List.nil_append]; refine List.filter_eq_self.2 fun x hx => ?_
  obtain ⟨c, hc, rfl⟩ := List.mem_map.1 hx; exact decide_eq_true (h.key c hc)
theorem RowOne.sub {key : ByteArray} {l l' : List ComV} (h : RowOne key l) (hs : l'.Sublist l) : RowOne key l' := ⟨fun c hc => h.one c (hs.subset hc), fun c hc => h.key c (hs.subset hc), h.ne.sublist (hs.map _)⟩
theorem RowOne.perm {key : ByteArray} {l l' : List ComV} (h : RowOne key l) (hs : l'.Perm l) : RowOne key l' := ⟨fun c hc => h.one c (hs.subset hc), fun c hc => h.key c (hs.subset hc), ((hs.map dn1).pairwise_iff (fun hab e => hab e.symm)).2 h.ne⟩
def From (S : List ComV) (c : ComV) : Prop := ∃ c' ∈ S, c.when_ = c'.when_ ∧ (k1 c).key = (k1 c').key
theorem From.mono {S S' : List ComV} {c : ComV} (h : From S c) (hs : ∀ x ∈ S, From S' x) : From S' c := by
  obtain ⟨c', h1, h2, h3⟩ := h; obtain ⟨c'', g1, g2, g3⟩ := hs c' h1; exact ⟨c'', g1, h2.trans g2, h3.trans g3⟩
theorem From.self {S : List ComV} {c : ComV} (h : c ∈ S) : From S c := ⟨c, h, rfl, rfl⟩
theorem sumSt_from (l : List ComV) : ∀ k, k ≤ l.length → ∀ c ∈ (sumSt l k).1, From l c
  | 0, _, c, hc => by simp [sumSt] at hc
  | k + 1, hk, c, hc => by
    have ih := sumSt_from l k (by omega); have hl : From l l[k]! := From.self (by rw [getElem!_pos l k (by omega)]; exact List.getElem_mem _)
    have snoc : ∀ x ∈ (sumSt l k).1 ++ [l[k]!], From l x := fun x hx => by
      rcases List.mem_append.1 hx with hx | hx
      · exact ih x hx
      · rw [List.mem_singleton.1 hx]; exact hl
    unfold sumSt at hc
    split at hc
    · split at hc
      · exact snoc c hc
      · rename_i j hj
        split at hc
        · rcases List.mem_or_eq_of_mem_set hc with hc | rfl
          · exact ih c hc
          · by_cases hjl : j < (sumSt l k).1.length
            · obtain ⟨c', h1, h2, h3⟩ := ih (sumSt l k).1[j]! (by rw [getElem!_pos _ j hjl]; exact List.getElem_mem _); exact ⟨c', h1, h2, h3⟩
            · rw [List.set_eq_of_length_le (by omega)] at hc; exact ih _ hc
        · exact snoc c hc
    · exact snoc c hc
theorem settled_from {V : D3 → Bool} {S O : List ComV} {c : ComV} (h : c ∈ settled V S O) : From S c := by
  have h1 : From (withoutRem (sumC (lastReg S))) c := by
    unfold settled spentL at h; have hs : (keepI spP ((withoutRem (sumC (lastReg S))).map (trim V (withoutRem (sumC (lastReg S)) ++ O))) ((withoutRem (sumC (lastReg S))).map (trim V (withoutRem (sumC (lastReg S)) ++ O))).length).Sublist _ := keepI_all; rw [List.length_map] at hs; obtain ⟨c0, hc0, rfl⟩ := List.mem_map.1 (hs.subset h); exact ⟨c0, hc0, rfl, rfl⟩
  refine h1.mono fun x hx => ?_
  have h2 : x ∈ sumC (lastReg S) := keepI_all.subset hx; refine (sumSt_from (lastReg S) _ (Nat.le_refl _) x h2).mono fun y hy => From.self (keepI_all.subset hy)
theorem foreign_no {o : OpV} {n : Int} (h : opErr o n = 0) : foreignB o = false := by
  unfold opErr at h
  split at h
  · exact absurd h (by decide)
  · split at h
    · exact absurd h (by decide)
    · split at h
      · exact absurd h (by decide)
      · split at h
        · exact absurd h (by decide)
        · rename_i hf
          simpa using hf
theorem part_facts {c : ComV} (h : ComOk c) (h1 : c.ops.length = 1) : PartOk c ∧ RemOk c := by
  have he : opErr (k1 c) c.when_.length = 0 := opErr_of_bad (os := c.ops) (i := 0) (h.ops 0 (by omega)); have hk := (opOk he).1; have hf := foreign_no he; unfold foreignB at hf; refine ⟨⟨h1, hk, fun hne => ?_⟩, fun hr => ?_⟩
  · have h0 : 0 < (k1 c).dots.length := List.length_pos_iff.2 hne; rcases hk with hk | hk | hk
    · rw [if_pos hk] at hf; simp [h0] at hf
    · rw [if_neg (by omega), if_pos hk] at hf; simp [h0] at hf
    · rw [if_neg (by omega), if_neg (by omega)] at hf; simp [h0] at hf; exact ⟨hk, hf.2⟩
  · rcases hk with hk | hk | hk
    · rw [if_pos hk] at hf; simp [hr] at hf
    · rw [if_neg (by omega), if_pos hk] at hf; simp [hr] at hf
    · exact hk
theorem settled_sub {V : D3 → Bool} {S O : List ComV} (hs : (S.map dn1).Pairwise fun a b => ltN a b = true) (hS : ∀ c ∈ S, PartOk c) : (((settled V S O).map dn1).map skel).Sublist ((S.map dn1).map skel) ∧ ∀ c ∈ settled V S O, PartOk c := by
  have s1 := lastReg_step hs []; have o1 : ∀ c ∈ lastReg S, PartOk c := keepI_ok hS; have s2 := sumC_step (lastReg S) []; have o2 := sumC_ok o1; have s3 := withoutRem_step o2 []; have o3 : ∀ c ∈ withoutRem (sumC (lastReg S)), PartOk c := keepI_ok o2
  have hk : (settled V S O).Sublist ((withoutRem (sumC (lastReg S))).map (trim V (withoutRem (sumC (lastReg S)) ++ O))) := by
    unfold settled spentL; have h := keepI_all (p := spP) (l := (withoutRem (sumC (lastReg S))).map (trim V (withoutRem (sumC (lastReg S)) ++ O))); rw [List.length_map] at h; exact h
  refine ⟨?_, fun c hc => ?_⟩
  · refine ((hk.map dn1).map skel).trans (?_ : List.Sublist _ _)
    have e : (((withoutRem (sumC (lastReg S))).map (trim V (withoutRem (sumC (lastReg S)) ++ O))).map dn1).map skel = ((withoutRem (sumC (lastReg S))).map dn1).map skel := by
      rw [List.map_map, List.map_map, List.map_map]; rfl
    rw [e]; exact (s3.sub.trans s2.sub).trans s1.sub
  · obtain ⟨c0, hc0, rfl⟩ := List.mem_map.1 (hk.subset hc); exact trim_ok (o3 c0 hc0)
theorem plain_of {l : List ComV} (h : ∀ c ∈ l, PartOk c) {ys : List Dn} (hp : ys.Perm (l.map dn1)) : Plain ys := by
  refine ⟨fun x hx => ?_, fun x hx hr => ?_⟩
  · obtain ⟨c, hc, rfl⟩ := List.mem_map.1 (hp.subset hx); exact (h c hc).kind
  · obtain ⟨c, hc, rfl⟩ := List.mem_map.1 (hp.subset hx)
    cases hd : (dn1 c).o.dots with
    | nil => rfl
    | cons d r =>
      have := ((h c hc).rem (show (k1 c).dots ≠ [] from by rw [show (k1 c).dots = (dn1 c).o.dots from rfl, hd]; simp)).2; rw [show (dn1 c).o.rem = (k1 c).rem from rfl, this] at hr; cases hr
theorem leB_trans {a b c : List Int} (h : a.length = b.length) (h1 : leB a b = true) (h2 : leB b c = true) : leB a c = true := leB_iff.2 fun i hi => Int.le_trans (leB_iff.1 h1 i hi) (leB_iff.1 h2 i (by omega))
theorem filter_split {α : Type} (p : α → Bool) : ∀ l : List α, (l.filter p ++ l.filter fun a => !p a).Perm l
  | [] => List.Perm.refl _
  | a :: l => by
    rw [List.filter_cons, List.filter_cons]
    cases p a with
    | true =>
      rw [if_pos rfl, if_neg (by decide), List.cons_append]; exact (filter_split p l).cons a
    | false =>
      rw [if_neg (by decide), if_pos (by decide)]; exact List.perm_middle.trans ((filter_split p l).cons a)
end Go.Proofs.YtdnebclemngdcaaGreatDoor
namespace Go.Proofs.YtdnebclemngdcaaGreatDoor
open Go.RowKit Go.Sort Go.Maps
set_option linter.unusedSectionVars false
variable [Inhabited ComV] [DecidableEq D3] [Inhabited D3] [Inhabited Dd] [Inhabited Dn] [Inhabited OpV]

structure Tells (base : List Int) (V : D3 → Bool) (key : ByteArray) (r h : List ComV) : Prop where
  one : RowOne key r
  oneH : RowOne key h
  in_ : ∀ c ∈ r, V (dn1 c).dot = true
  inH : ∀ c ∈ h, V (dn1 c).dot = true
  same : ∀ at_, leB base at_ = true → ∀ X : List Dn, (∀ x ∈ X, V x.dot = false) → Same ((r.filter fun c => leB c.when_ at_).map dn1 ++ X) ((h.filter fun c => leB c.when_ at_).map dn1 ++ X)
  nil : r = [] ↔ h = []
  few : r.length ≤ h.length
theorem RowOne.nil (key : ByteArray) : RowOne key [] := ⟨fun _ h => by simp at h, fun _ h => by simp at h, List.Pairwise.nil⟩
theorem Tells.start (base : List Int) (V : D3 → Bool) (key : ByteArray) : Tells base V key [] [] := ⟨.nil _, .nil _, fun _ h => by simp at h, fun _ h => by simp at h, fun _ _ _ _ => Same.refl _, Iff.rfl, Nat.le_refl _⟩
theorem Tells.grow {base : List Int} {V V' : D3 → Bool} {key : ByteArray} {r h : List ComV} (t : Tells base V key r h) (hV : ∀ d, V d = true → V' d = true) : Tells base V' key r h :=
  ⟨t.one, t.oneH, fun c hc => hV _ (t.in_ c hc), fun c hc => hV _ (t.inH c hc), fun at_ ha X hX => t.same at_ ha X (fun x hx => by
    cases hv : V x.dot with
    | false => rfl
    | true =>
      have h1 := hX x hx; rw [hV _ hv] at h1; cases h1), t.nil, t.few⟩
theorem RowOne.snoc {key : ByteArray} {l : List ComV} (h : RowOne key l) {c : ComV} (h1 : c.ops.length = 1) (hk : (k1 c).key = key) (hn : ∀ x ∈ l, (dn1 x).dot ≠ (dn1 c).dot) : RowOne key (l ++ [c]) := by
  refine ⟨fun x hx => ?_, fun x hx => ?_, ?_⟩
  · rcases List.mem_append.1 hx with hx | hx
    · exact h.one x hx
    · rw [List.mem_singleton.1 hx]; exact h1
  · rcases List.mem_append.1 hx with hx | hx
    · exact h.key x hx
    · rw [List.mem_singleton.1 hx]; exact hk
  · rw [List.map_append, List.pairwise_append]; refine ⟨h.ne, by simp, fun a ha b hb => ?_⟩; obtain ⟨x, hx, rfl⟩ := List.mem_map.1 ha; rw [List.map_cons, List.map_nil, List.mem_singleton] at hb; subst hb; exact hn x hx
theorem filter_snoc {p : ComV → Bool} (l : List ComV) (c : ComV) (X : List Dn) : ((l ++ [c]).filter p).map dn1 ++ X = (l.filter p).map dn1 ++ ((if p c = true then [dn1 c] else []) ++ X) := by
  rw [List.filter_append, List.map_append, List.append_assoc]
  congr 1
  cases h : p c with
  | true => simp [h]
  | false => simp [h]
theorem Tells.add {base : List Int} {V V' : D3 → Bool} {key : ByteArray} {r h : List ComV} (t : Tells base V key r h) (hV : ∀ d, V d = true → V' d = true) {c : ComV} (h1 : c.ops.length = 1) (hk : (k1 c).key = key) (hn : V (dn1 c).dot = false) (hv : V' (dn1 c).dot = true) : Tells base V' key (r ++ [c]) (h ++ [c]) := by
  have ne : ∀ l : List ComV, (∀ x ∈ l, V (dn1 x).dot = true) → ∀ x ∈ l, (dn1 x).dot ≠ (dn1 c).dot := fun l hl x hx e => by
    have h2 := hl x hx; rw [e, hn] at h2; cases h2
  have mem : ∀ l : List ComV, (∀ x ∈ l, V (dn1 x).dot = true) → ∀ x ∈ l ++ [c], V' (dn1 x).dot = true := fun l hl x hx => by
    rcases List.mem_append.1 hx with hx | hx
    · exact hV _ (hl x hx)
    · rw [List.mem_singleton.1 hx]; exact hv
  refine ⟨t.one.snoc h1 hk (ne r t.in_), t.oneH.snoc h1 hk (ne h t.inH), mem r t.in_, mem h t.inH, fun at_ ha X hX => ?_, by simp, by rw [List.length_append, List.length_append]; exact Nat.add_le_add_right t.few _⟩; rw [filter_snoc, filter_snoc]; refine t.same at_ ha _ fun x hx => ?_
  rcases List.mem_append.1 hx with hx | hx
  · split at hx
    · rw [List.mem_singleton.1 hx]; exact hn
    · simp at hx
  · cases hq : V x.dot with
    | false => rfl
    | true =>
      have h2 := hX x hx; rw [hV _ hq] at h2; cases h2
theorem settled_nil {V : D3 → Bool} {S O : List ComV} (hs : (S.map dn1).Pairwise fun a b => ltN a b = true) (hS : ∀ c ∈ S, PartOk c) (hR : ∀ c ∈ S, RemOk c) : settled V S O = [] ↔ S = [] := by
  constructor
  · intro e; have h := settled_same V hs hS hR (O := O) [] (fun _ hx => by simp at hx); rw [e, List.map_nil, List.append_nil, List.append_nil] at h
    cases S with
    | nil => rfl
    | cons c S =>
      refine absurd ((h.kind (dn1 c).o.kind).1 ?_) (kindIs_nil _); rw [List.map_cons] at hs ⊢; refine ⟨dn1 c, by simp, rfl, fun y hy => ?_⟩; rcases List.mem_cons.1 hy with rfl | hy
      · exact ltN_irrefl _
      · exact ltN_asymm ((List.pairwise_cons.1 hs).1 y hy)
  · rintro rfl; have h := (settled_sub (V := V) (O := O) hs hS).1; rw [List.map_nil, List.map_nil, List.sublist_nil, List.map_eq_nil_iff, List.map_eq_nil_iff] at h; exact h
theorem Tells.prune {base base' : List Int} {V : D3 → Bool} {key : ByteArray} {r h new : List ComV} (t : Tells base V key r h) (hok : ∀ c ∈ r, ComOk c) (hlen : ∀ c ∈ r, c.when_.length = base'.length) (hbl : base.length = base'.length) (hbb : leB base base' = true) (hS : SettledAs V base' r new) : Tells base' V key new h := by
  obtain ⟨ss, hp, ho, rfl⟩ := hS; obtain ⟨op, hop⟩ : ∃ op, op = r.filter fun c => !leB c.when_ base' := ⟨_, rfl⟩
  rw [← hop]; have hss : ∀ c ∈ ss, c ∈ r ∧ leB c.when_ base' = true := fun c hc => List.mem_filter.1 (hp.subset hc)
  have hopm : ∀ c ∈ op, c ∈ r := fun c hc => by rw [hop] at hc; exact (List.mem_filter.1 hc).1
  have hall : (ss ++ op).Perm r := by
    rw [hop]; exact (hp.append_right _).trans (filter_split (fun c => leB c.when_ base') r)
  have RX : RowOne key (ss ++ op) := t.one.perm hall; have Rs : RowOne key ss := RX.sub (List.sublist_append_left _ _); have pk : ∀ c ∈ r, PartOk c := fun c hc => (part_facts (hok c hc) (t.one.one c hc)).1
  have rk : ∀ c ∈ r, RemOk c := fun c hc => (part_facts (hok c hc) (t.one.one c hc)).2
  have hlt : (ss.map dn1).Pairwise fun a b => ltN a b = true := Ord.lt ⟨ho, Rs.ne⟩
  obtain ⟨hsub, hpo⟩ := settled_sub (V := V) (O := op) hlt fun c hc => pk c (hss c hc).1
  have R2 : RowOne key (settled V ss op ++ op) := by
    refine ⟨fun c hc => ?_, fun c hc => ?_, ?_⟩
    · rcases List.mem_append.1 hc with hc | hc
      · exact (hpo c hc).one
      · exact RX.one c (List.mem_append_right _ hc)
    · rcases List.mem_append.1 hc with hc | hc
      · obtain ⟨c', g1, _, g3⟩ := settled_from hc; rw [g3]; exact Rs.key c' g1
      · exact RX.key c (List.mem_append_right _ hc)
    · have hs2 : (((settled V ss op ++ op).map dn1).map skel).Sublist (((ss ++ op).map dn1).map skel) := by
        rw [List.map_append, List.map_append, List.map_append, List.map_append]; exact hsub.append (List.Sublist.refl _)
      have hne : (((ss ++ op).map dn1).map skel).Pairwise (fun a b => a.1 ≠ b.1) := List.pairwise_map.2 (RX.ne.imp fun h => h); have h3 := hne.sublist hs2; exact (List.pairwise_map.1 h3).imp fun h => h
  refine ⟨R2, t.oneH, fun c hc => ?_, t.inH, fun at_ ha X hX => ?_, ?_, ?_⟩
  · rcases List.mem_append.1 hc with hc | hc
    · have h1 := hsub.subset (List.mem_map.2 ⟨dn1 c, List.mem_map.2 ⟨c, hc, rfl⟩, rfl⟩); obtain ⟨x, hx, e⟩ := List.mem_map.1 h1; obtain ⟨c', hc', rfl⟩ := List.mem_map.1 hx; rw [← skel_dot e]; exact t.in_ c' (hss c' hc').1
    · exact t.in_ c (hopm c hc)
  · refine Same.trans ?_ (t.same at_ (leB_trans hbl hbb ha) X hX); have hat : ∀ c ∈ ss, leB c.when_ at_ = true := fun c hc => leB_trans (hlen c (hss c hc).1) (hss c hc).2 ha
    have e1 : (ss ++ op).filter (fun c => leB c.when_ at_) = ss ++ op.filter fun c => leB c.when_ at_ := by
      rw [List.filter_append, List.filter_eq_self.2 hat]
    have e2 : (settled V ss op ++ op).filter (fun c => leB c.when_ at_) = settled V ss op ++ op.filter fun c => leB c.when_ at_ := by
      rw [List.filter_append, List.filter_eq_self.2 fun c hc => ?_]; obtain ⟨c', g1, g2, _⟩ := settled_from hc; rw [g2]; exact hat c' g1
    obtain ⟨Y, hY⟩ : ∃ Y, Y = op.filter fun c => leB c.when_ at_ := ⟨_, rfl⟩
    rw [← hY] at e1 e2; have hYm : ∀ c ∈ Y, c ∈ op := fun c hc => by rw [hY] at hc; exact (List.mem_filter.1 hc).1
    have hL : (r.filter fun c => leB c.when_ at_).Perm (ss ++ Y) := by rw [← e1]; exact (hall.filter _).symm
    have hsame := settled_same V hlt (fun c hc => pk c (hss c hc).1) (fun c hc => rk c (hss c hc).1) (O := op) (Y.map dn1 ++ X) (fun x hx hv => by
      rcases List.mem_append.1 hx with hx | hx
      · obtain ⟨c, hc, rfl⟩ := List.mem_map.1 hx; exact List.mem_map.2 ⟨c, hYm c hc, rfl⟩
      · rw [hX x hx] at hv; cases hv)
    rw [e2, List.map_append, List.append_assoc]; refine hsame.symm.trans (Same.perm ?_); rw [← List.append_assoc, ← List.map_append]; exact ((hL.map dn1).append_right X).symm
  · rw [← t.nil, List.append_eq_nil_iff, settled_nil hlt (fun c hc => pk c (hss c hc).1) (fun c hc => rk c (hss c hc).1), ← List.append_eq_nil_iff]
    constructor
    · intro e; rw [e] at hall; exact hall.symm.eq_nil
    · intro e; rw [e] at hall; exact hall.eq_nil
  · refine Nat.le_trans ?_ t.few; have h1 := hsub.length_le; simp only [List.length_map] at h1; rw [← hall.length_eq, List.length_append, List.length_append]; omega

structure Hist (s H : St) : Prop where
  dots : s.dots = H.dots
  tells : ∀ key, Tells s.base (fun d => decide (d ∈ s.dots)) key (rowOf s key) (rowOf H key)
theorem Hist.start (nb : Nat) : Hist (stOf nb []) (stOf nb []) := ⟨rfl, fun key => Tells.start _ _ key⟩
theorem Hist.putTo {s H : St} {c : ComV} (h : Hist s H) (hc : ComOk c) (hn : ∀ o ∈ c.ops, dotC c o ∉ s.dots) : ∀ t, t ≤ c.ops.length → Hist (putTo s c t) (putTo H c t)
  | 0, _ => by rw [putTo_zero, putTo_zero]; exact h
  | t + 1, ht => by
    have ih := Hist.putTo h hc hn t (by omega); have htl : t < c.ops.length := by omega
    rw [putTo_succ s c htl, putTo_succ H c htl]; have hd := ih.dots; have hm : c.ops[t]! ∈ c.ops := by rw [getElem!_pos c.ops t htl]; exact List.getElem_mem _
    have hnew : dotC c c.ops[t]! ∉ (Go.Proofs.YtdnebclemngdcaaGreatDoor.putTo s c t).dots := by
      unfold Go.Proofs.YtdnebclemngdcaaGreatDoor.putTo; intro hx; rcases List.mem_append.1 hx with hx | hx
      · exact hn _ hm hx
      · have hnd := dotsC_nodup hc; unfold dotsC at hnd; rw [← List.take_append_drop t c.ops, List.map_append, List.nodup_append] at hnd; refine hnd.2.2 _ hx (dotC c c.ops[t]!) (List.mem_map.2 ⟨c.ops[t]!, ?_, rfl⟩) rfl; rw [List.drop_eq_getElem_cons htl, getElem!_pos c.ops t htl]; exact List.mem_cons_self ..
    refine ⟨by dsimp only; rw [hd], fun key => ?_⟩; have e1 := rowOf_add (Go.Proofs.YtdnebclemngdcaaGreatDoor.putTo s c t) (partC c c.ops[t]!) key; have e2 := rowOf_add (Go.Proofs.YtdnebclemngdcaaGreatDoor.putTo H c t) (partC c c.ops[t]!) key; have f1 : rowOf ⟨s.base, (Go.Proofs.YtdnebclemngdcaaGreatDoor.putTo s c t).parts ++ [partC c c.ops[t]!], (Go.Proofs.YtdnebclemngdcaaGreatDoor.putTo s c t).dots ++ [dotC c c.ops[t]!]⟩ key = if keyOfC (partC c c.ops[t]!) = key then rowOf (Go.Proofs.YtdnebclemngdcaaGreatDoor.putTo s c t) key ++ [partC c c.ops[t]!] else rowOf (Go.Proofs.YtdnebclemngdcaaGreatDoor.putTo s c t) key := e1; have f2 : rowOf ⟨H.base, (Go.Proofs.YtdnebclemngdcaaGreatDoor.putTo H c t).parts ++ [partC c c.ops[t]!], (Go.Proofs.YtdnebclemngdcaaGreatDoor.putTo H c t).dots ++ [dotC c c.ops[t]!]⟩ key = if keyOfC (partC c c.ops[t]!) = key then rowOf (Go.Proofs.YtdnebclemngdcaaGreatDoor.putTo H c t) key ++ [partC c c.ops[t]!] else rowOf (Go.Proofs.YtdnebclemngdcaaGreatDoor.putTo H c t) key := e2; rw [f1, f2]
    have hV : ∀ d, decide (d ∈ (Go.Proofs.YtdnebclemngdcaaGreatDoor.putTo s c t).dots) = true → decide (d ∈ (Go.Proofs.YtdnebclemngdcaaGreatDoor.putTo s c t).dots ++ [dotC c c.ops[t]!]) = true := fun d hd => decide_eq_true (List.mem_append_left _ (of_decide_eq_true hd))
    by_cases hk : keyOfC (partC c c.ops[t]!) = key
    · rw [if_pos hk, if_pos hk]; exact (ih.tells key).add hV rfl hk (decide_eq_false hnew) (decide_eq_true (by simp [dn1, dnOf, partC, dotC, k1]))
    · rw [if_neg hk, if_neg hk]; exact (ih.tells key).grow hV
theorem Hist.put {s H : St} {c : ComV} (h : Hist s H) (hc : ComOk c) (hn : ∀ o ∈ c.ops, dotC c o ∉ s.dots) : Hist (Go.Proofs.YtdnebclemngdcaaGreatDoor.putTo s c c.ops.length) (Go.Proofs.YtdnebclemngdcaaGreatDoor.putTo H c c.ops.length) := h.putTo hc hn _ (Nat.le_refl _)
theorem Hist.prune {s H s' : St} {nb : Nat} (h : Hist s H) (hS : StOk s nb) (hd : s'.dots = s.dots) (hl : s'.base.length = nb) (hb : leB s.base s'.base = true) (hr : ∀ key, SettledAs (fun d => decide (d ∈ s.dots)) s'.base (rowOf s key) (rowOf s' key)) : Hist s' H := by
  refine ⟨hd.trans h.dots, fun key => ?_⟩; rw [hd]; exact (h.tells key).prune (fun c hc => hS.ok c (mem_rowOf hc)) (fun c hc => (hS.when_ c (mem_rowOf hc)).trans hl.symm) (hS.len.trans hl.symm) hb (hr key)
theorem flat_ops (c : ComV) (key : ByteArray) (at_ : List Int) : ∀ os : List OpV, (((os.map (partC c)).filter fun x => decide (keyOfC x = key)).filter fun x => leB x.when_ at_).map dn1 = if leB c.when_ at_ = true then (os.map (dnOf c)).filter fun x => decide (x.o.key = key) else []
  | [] => by simp
  | o :: os => by
    have ih := flat_ops c key at_ os; have e0 : (partC c o).when_ = c.when_ := rfl; have e1 : keyOfC (partC c o) = o.key := rfl; have e2 : (dnOf c o).o.key = o.key := rfl; have e3 : dn1 (partC c o) = dnOf c o := rfl; rw [List.map_cons, List.filter_cons, e1, List.map_cons, List.filter_cons, e2]
    by_cases hk : o.key = key
    · rw [if_pos (decide_eq_true hk), if_pos (decide_eq_true hk), List.filter_cons, e0]
      by_cases ha : leB c.when_ at_ = true
      · rw [if_pos ha] at ih ⊢; rw [if_pos ha, List.map_cons, e3, ih]
      · rw [if_neg ha] at ih ⊢; rw [if_neg ha, ih]
    · have hd : decide (o.key = key) = false := decide_eq_false hk; simp only [hd, Bool.false_eq_true, if_false]; exact ih
theorem flat_row (key : ByteArray) (at_ : List Int) : ∀ L : List ComV, (flatA (L.filter fun c => leB c.when_ at_)).filter (fun x => decide (x.o.key = key)) = (((L.flatMap partsC).filter fun x => decide (keyOfC x = key)).filter fun x => leB x.when_ at_).map dn1
  | [] => rfl
  | c :: L => by
    have ih := flat_row key at_ L; have h1 := flat_ops c key at_ c.ops; rw [List.flatMap_cons, List.filter_append, List.filter_append, List.map_append, ← ih]; unfold partsC; rw [h1, List.filter_cons]
    by_cases ha : leB c.when_ at_ = true
    · rw [if_pos ha, if_pos ha]; unfold flatA; rw [List.flatMap_cons, List.filter_append]
    · rw [if_neg ha, if_neg ha, List.nil_append]
theorem flat_sublist {l l' : List ComV} (h : l.Sublist l') : (flatA l).Sublist (flatA l') := by
  induction h with
  | slnil => exact List.Sublist.refl _
  | cons a _ ih => exact ih.trans (List.sublist_append_right _ _)
  | cons_cons a _ ih => exact (List.Sublist.refl _).append ih
theorem flatA_dots (l : List ComV) : (flatA l).map (·.dot) = l.flatMap dotsC := by
  unfold flatA; rw [List.map_flatMap]
  congr 1
  funext c
  rw [List.map_map]; rfl
structure Came (nb : Nat) (L : List ComV) : Prop where
  ok : ∀ c ∈ L, ComOk c
  len : ∀ c ∈ L, c.when_.length = nb
  dots : (L.flatMap dotsC).Nodup
theorem Came.nil (nb : Nat) : Came nb [] := ⟨fun _ h => by simp at h, fun _ h => by simp at h, by simp⟩
theorem Came.snoc {nb : Nat} {L : List ComV} (h : Came nb L) {c : ComV} (hc : ComOk c) (hl : c.when_.length = nb) (hn : ∀ o ∈ c.ops, dotC c o ∉ L.flatMap dotsC) : Came nb (L ++ [c]) := by
  refine ⟨fun x hx => ?_, fun x hx => ?_, ?_⟩
  · rcases List.mem_append.1 hx with hx | hx
    · exact h.ok x hx
    · obtain rfl := List.mem_singleton.1 hx; exact hc
  · rcases List.mem_append.1 hx with hx | hx
    · exact h.len x hx
    · obtain rfl := List.mem_singleton.1 hx; exact hl
  · rw [List.flatMap_append, List.nodup_append]; refine ⟨h.dots, by simpa using dotsC_nodup hc, fun a ha b hb e => ?_⟩; subst e; simp only [List.flatMap_cons, List.flatMap_nil, List.append_nil] at hb; obtain ⟨o, ho, rfl⟩ := List.mem_map.1 hb; exact hn o ho ha
theorem Came.once {nb : Nat} {L : List ComV} (h : Came nb L) (key : ByteArray) (at_ : List Int) : ((onceA (L.filter fun c => leB c.when_ at_)).filter fun x => decide (x.o.key = key)) = ((rowOf (stOf nb L) key).filter fun c => leB c.when_ at_).map dn1 := by
  have hn : (flatA (L.filter fun c => leB c.when_ at_)).Pairwise (fun a b => a.dot ≠ b.dot) := by
    have h1 := h.dots; rw [← flatA_dots, List.nodup_iff_pairwise_ne, List.pairwise_map] at h1; exact h1.sublist (flat_sublist List.filter_sublist)
  rw [onceA_flat, foldl_addDn_new _ [] (fun _ _ _ ha => by simp at ha) hn, List.nil_append, flat_row]; rfl
theorem Hist.both {s : St} {nb : Nat} {L : List ComV} {key : ByteArray} {at_ : List Int} {ds1 ds2 : List Dn} (h : Hist s (stOf nb L)) (hC : Came nb L) (hS : StOk s nb) (hle : leB s.base at_ = true) (h1 : IsOps key (seenL s key at_) ds1) (h2 : IsOps key (L.filter fun c => leB c.when_ at_) ds2) :
    ∃ ys1 ys2, ds1 = ofKind ys1 ∧ ds2 = ofKind ys2 ∧ Ord ys1 ∧ Ord ys2 ∧ Plain ys1 ∧ Plain ys2 ∧ Same ys1 ys2 := by
  obtain ⟨ys1, ⟨p1, r1⟩, rfl⟩ := h1; obtain ⟨ys2, ⟨p2, r2⟩, rfl⟩ := h2; have t := h.tells key; have R1 : RowOne key (seenL s key at_) := t.one.sub List.filter_sublist; have R2 : RowOne key ((rowOf (stOf nb L) key).filter fun c => leB c.when_ at_) := t.oneH.sub List.filter_sublist; rw [R1.once] at p1; rw [hC.once] at p2; have k1' : ∀ c ∈ seenL s key at_, PartOk c := fun c hc => (part_facts (hS.ok c (seenL_mem hc)) (R1.one c hc)).1
  have k2' : ∀ c ∈ (rowOf (stOf nb L) key).filter (fun c => leB c.when_ at_), PartOk c := fun c hc => by
    have hm : c ∈ (stOf nb L).parts := mem_rowOf (List.mem_filter.1 hc).1; obtain ⟨c0, hc0, hx⟩ := List.mem_flatMap.1 hm; obtain ⟨o, ho, rfl⟩ := List.mem_map.1 hx; exact (part_facts (comOk_one (hC.ok c0 hc0) ho) rfl).1
  refine ⟨ys1, ys2, rfl, rfl, ⟨r1, (p1.pairwise_iff (fun h e => h e.symm)).2 R1.ne⟩, ⟨r2, (p2.pairwise_iff (fun h e => h e.symm)).2 R2.ne⟩, plain_of k1' p1, plain_of k2' p2, ?_⟩; have hs := t.same at_ hle [] (fun _ hx => by simp at hx); rw [List.append_nil, List.append_nil] at hs; exact ((Same.perm p1).trans hs).trans (Same.perm p2).symm
theorem Hist.val {s : St} {nb : Nat} {L : List ComV} {key : ByteArray} {at_ : List Int} {ds1 ds2 : List Dn} (h : Hist s (stOf nb L)) (hC : Came nb L) (hS : StOk s nb) (hle : leB s.base at_ = true) (h1 : IsOps key (seenL s key at_) ds1) (h2 : IsOps key (L.filter fun c => leB c.when_ at_) ds2) : valA ds1 = valA ds2 := by
  obtain ⟨ys1, ys2, rfl, rfl, o1, o2, q1, q2, hs⟩ := h.both hC hS hle h1 h2; exact same_val o1 o2 q1 q2 hs
theorem Hist.isDots {s : St} {nb : Nat} {L : List ComV} {key text : ByteArray} {at_ : List Int} {ds1 ds2 : List Dn} {out : List D3} (h : Hist s (stOf nb L)) (hC : Came nb L) (hS : StOk s nb) (hle : leB s.base at_ = true) (h1 : IsOps key (seenL s key at_) ds1) (h2 : IsOps key (L.filter fun c => leB c.when_ at_) ds2) (hd : IsDots text ds1 out) : IsDots text ds2 out := by
  obtain ⟨ys1, ys2, rfl, rfl, o1, o2, q1, q2, hs⟩ := h.both hC hS hle h1 h2; exact same_dots o1 o2 q1 q2 hs hd
end Go.Proofs.YtdnebclemngdcaaGreatDoor
