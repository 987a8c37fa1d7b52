/- Prune, again and again: what stands besides while it goes over its keys; Prune, again and again, by its contract; A store that is pruned is a store again; Put into a store whose parts lie in blocks of their own: one op more; Put of a commit that may be put, into a store whose parts lie in blocks of their own, by its contract; The program's store and the document's answer's, side by side in memory. -/
import Derived.Test.YtdnebclemngdcaaGreatDoorJZM1
import Derived.Test.YtdnebclemngdcaaGreatDoorJVOfRP
namespace Go.Proofs.YtdnebclemngdcaaGreatDoor
open Go.RowKit Go.Sort Go.Maps
set_option maxRecDepth 100000
set_option linter.unusedSectionVars false
variable [Inhabited ComV] [DecidableEq D3] [Inhabited D3] [Inhabited Dd] [Inhabited Dn] [Inhabited OpV]

theorem ownsMap_tight {w : World} {k b n m : Nat} {R : Value → Option (DataW Unit × List MemPlace)} {D : DataW Unit} (h : w.ownsMap Tryz.prog k R b n D) (hm : Maps.size D ≤ m) : w.ownsMap Tryz.prog k R b m D := by
  obtain ⟨es, clock, hb, F, hs, rfl⟩ := h; refine ⟨es, clock, hb, F, ?_, rfl⟩
  simpa [Maps.size, length_sorted] using hm
structure PrX (w : World) (p mb n : Nat) (s : St) (ks : List (List UInt8)) (f0 : ByteArray → Value) (R0 : ByteArray → List Rp) (D0 : Nat → Value) (i : Nat) (f : ByteArray → Value) (R : ByteArray → List Rp) (D : Nat → Value) (wr : World) : Prop where
  map : ∃ Dm : DataW Unit, wr.ownsMap Tryz.prog 9 sliceElem mb n Dm ∧ ∀ k, Maps.has Dm (klS k) = decide (rowOf s k ≠ []) ∧ Dm.atKey (klS k) .nil = rowDat (f k)
  todo : ∀ k, k ∉ (ks.take i).map keyB → R k = R0 k ∧ ∀ r ∈ R k, D r.g = D0 r.g
  off : ∀ b, b < w.heap.size → b ≠ p → b ≠ mb → (∀ k, b ∉ blocksG (R0 k) D0) → wr.heap[b]? = w.heap[b]?
  own : ∀ k, ∀ r ∈ R k, r.g ∈ (R0 k).map (·.g) ∧ (D r.g).ownBlock = (D0 r.g).ownBlock
  fresh : ∀ k b, (f k).ownBlock = some b → (f0 k).ownBlock = some b ∨ w.heap.size ≤ b
  size : w.heap.size ≤ wr.heap.size
theorem PrX.drew {w : World} {p mb n : Nat} {s : St} {ks : List (List UInt8)} {f0 : ByteArray → Value} {R0 : ByteArray → List Rp} {D0 : Nat → Value} {i : Nat} {f : ByteArray → Value} {R : ByteArray → List Rp} {D : Nat → Value} {wr : World} (h : PrX w p mb n s ks f0 R0 D0 i f R D wr) : PrX w p mb n s ks f0 R0 D0 i f R D wr.drew := ⟨h.map, h.todo, h.off, h.own, h.fresh, h.size⟩
theorem blocksG_congr {rs : List Rp} {D D' : Nat → Value} (h : ∀ r ∈ rs, D r.g = D' r.g) : blocksG rs D = blocksG rs D' := by
  unfold blocksG
  congr 1
  induction rs with
  | nil => rfl
  | cons x r ih =>
    rw [List.flatMap_cons, List.flatMap_cons, h x (by simp), ih fun y hy => h y (by simp [hy])]
theorem keyB_inj {x y : List UInt8} (e : keyB x = keyB y) : x = y := by
  unfold keyB at e; injection e with e; exact List.toArray_inj e
theorem PrX.next {w w1 w2 w3 : World} {B p mb db n nb : Nat} {bv : Value} {base : List Int} {s : St} {V : D3 → Bool} {ks : List (List UInt8)} {kv : Value} {i : Nat} {f0 f : ByteArray → Value} {R0 R : ByteArray → List Rp} {E : Nat → OpV} {D0 D : Nat → Value} {x : List UInt8} {v2 : Value} {ss res : List Rp} {E' : Nat → OpV} {D' : Nat → Value} {Dm : DataW Unit}
    (hI : PrInv w B p mb db n nb bv base s V ks kv i f R E D w1) (h : PrX w p mb n s ks f0 R0 D0 i f R D w1) (hk : ks.Nodup) (hx : ks[i]? = some x) (hrow : rowOf s (keyB x) ≠ [])
    (hs : SettleOut V base nb (R (keyB x)) E D w1 v2 w2 ss res E' D') (hDk : ∀ k, Maps.has Dm (klS k) = decide (rowOf s k ≠ []) ∧ Dm.atKey (klS k) .nil = rowDat (f k)) (hDm : w2.ownsMap Tryz.prog 9 sliceElem mb n Dm) (hg : w2.grownBy w3 (some mb)) (hm : w3.ownsMap Tryz.prog 9 sliceElem mb (n + 1) (Dm.put (klS (keyB x)) (rowDat v2))) :
    PrX w p mb n s ks f0 R0 D0 (i + 1) (updF f (keyB x) v2) (updR R (keyB x) res) (setD (R (keyB x)) D' D) w3 := by
  have hin : ∀ r ∈ res, r.g ∈ (R (keyB x)).map (·.g) := fun r hr => List.mem_map.2 ⟨r, hs.sub r hr, rfl⟩
  have hout : ∀ k', k' ≠ keyB x → ∀ r ∈ R k', r.g ∉ (R (keyB x)).map (·.g) := fun k' hk r hr hm => by
    obtain ⟨q, hq, e⟩ := List.mem_map.1 hm; exact (hI.rows.sep k' _ hk r hr q hq).1 e.symm
  have hxin : ∀ k, k ∈ (ks.take (i + 1)).map keyB ↔ k ∈ (ks.take i).map keyB ∨ k = keyB x := fun k => by
    rw [take_snocQ hx, List.map_append, List.mem_append]; simp
  have hxnot : keyB x ∉ (ks.take i).map keyB := fun hm => by
    obtain ⟨y, hy, e⟩ := List.mem_map.1 hm; have e' : y = x := keyB_inj e; subst e'; obtain ⟨j, hj, hjy⟩ := List.mem_iff_getElem.1 hy; rw [List.getElem_take] at hjy; have hjl : j < i := by rw [List.length_take] at hj; omega
    obtain ⟨hil, hiy⟩ := List.getElem?_eq_some_iff.1 hx; exact (List.nodup_iff_pairwise_ne.1 hk |> fun hp => (List.pairwise_iff_getElem.1 hp) j i (by omega) hil hjl) (hjy.trans hiy.symm)
  obtain ⟨hR0, hD0⟩ := h.todo _ hxnot; have hhas : Maps.has Dm (klS (keyB x)) = true := by rw [(hDk _).1]; exact decide_eq_true hrow
  refine ⟨⟨_, ownsMap_tight hm ?_, fun k => ?_⟩, fun k hk' => ?_, fun b hb hbp hbm hbo => ?_, fun k r hr => ?_, fun k b hb => ?_, ?_⟩
  · rw [size_put (hDm.tidy keyed9), if_pos hhas]; exact hDm.size_le
  · by_cases e : k = keyB x
    · subst e; rw [has_put_same hDm.isMap (klS_key _), atKey_put_same hDm.isMap (klS_key _), updF_same]; exact ⟨(decide_eq_true hrow).symm, rfl⟩
    · rw [has_put_other (fun h => e (klS_inj h)), atKey_put_other (fun h => e (klS_inj h)), updF_other _ _ e]; exact hDk k
  · have h1 := fun z => hk' ((hxin k).2 z)
    have e : k ≠ keyB x := fun e => h1 (.inr e)
    obtain ⟨a, b⟩ := h.todo k fun z => h1 (.inl z)
    rw [updR_other _ _ e]; refine ⟨a, fun r hr => ?_⟩; unfold setD; rw [if_neg (hout k e r hr)]; exact b r hr
  · have h1 := h.off b hb hbp hbm hbo
    have h2 : w2.heap[b]? = w1.heap[b]? := hs.off.block b (Nat.lt_of_lt_of_le hb h.size) fun hm => by
      rw [blocksG_congr hD0, hR0] at hm; exact hbo _ hm
    have h3 : w3.heap[b]? = w2.heap[b]? := hg.block b (Nat.lt_of_lt_of_le hb (Nat.le_trans h.size hs.off.size)) fun e => hbm (Option.some.inj e)
    rw [h3, h2, h1]
  · by_cases e : k = keyB x
    · subst e; rw [updR_same] at hr; have ho := h.own _ r (hs.sub r hr); unfold setD; rw [if_pos (hin r hr), hs.own r hr]; exact ho
    · rw [updR_other _ _ e] at hr; unfold setD; rw [if_neg (hout k e r hr)]; exact h.own k r hr
  · by_cases e : k = keyB x
    · subst e; rw [updF_same] at hb; exact .inr (Nat.le_trans h.size (hs.row.lt b hb).1)
    · rw [updF_other _ _ e] at hb; exact h.fresh k b hb
  · exact Nat.le_trans h.size (Nat.le_trans hs.off.size hg.size)
def RoundX (w : World) (B p mb db n nb : Nat) (bv : Value) (base : List Int) (s : St) (V : D3 → Bool) (ks : List (List UInt8)) (kv : Value) (f0 : ByteArray → Value) (R0 : ByteArray → List Rp) (D0 : Nat → Value) (i : Nat) (ky : ByteArray) (e : Ending) (w2 : World) : Prop := ∃ a m c w3 f' R' E' D', e = .returned (.slice a m c) ∧ w2.cell? ⟨p, 1, none⟩ = some (.map (some mb)) ∧ (Instr.mapUpdate 80 (.map (some mb)) (.string ky) (.slice a m c)).run Tryz.prog w2 = .ok () w3 ∧ w3.cell? ⟨p, 1, none⟩ = some (.map (some mb)) ∧ PrInv w B p mb db n nb bv base s V ks kv (i + 1) f' R' E' D' w3 ∧ PrX w p mb n s ks f0 R0 D0 (i + 1) f' R' D' w3
theorem PrX.round {A : Nat → Addr} {w : World} {B p mb db n nb : Nat} {bv : Value} {base : List Int} {s : St} {V : D3 → Bool} {ks : List (List UInt8)} {kv : Value} {i : Nat} {f0 f : ByteArray → Value} {R0 R : ByteArray → List Rp} {E : Nat → OpV} {D0 D : Nat → Value} {w1 : World} {x : List UInt8} (hE : E4 A w) (h12 : 12 ≤ B) (h : PrInv w B p mb db n nb bv base s V ks kv i f R E D w1) (hX : PrX w p mb n s ks f0 R0 D0 i f R D w1) (hk : ks.Nodup) (hx : ks[i]? = some x) (hrow : rowOf s (keyB x) ≠ []) (hBm : B ≤ mb) (hne : mb ≠ db) (hc : chk base = 0) (hl : base.length = nb) (hx6 : (keyB x).size ≤ 1000000) (hni : n ≤ 2000000) :
    Calls Tryz.prog 45 #[.pointer (some ⟨p, 0, none⟩), f (keyB x)] w1 fun e w2 => RoundX w B p mb db n nb bv base s V ks kv f0 R0 D0 i (keyB x) e w2 := by
  obtain ⟨Dm, hDm, hDk⟩ := hX.map; have hBw : B ≤ w1.heap.size := Nat.le_trans hBm (Nat.le_of_lt hDm.lt); refine (settle_ok A w1 (hE.below h.below h12) (Nat.le_trans h12 hBw) p mb db n nb V bv base (f (keyB x)) (R (keyB x)) E D h.box h.ints hc hl h.dots ((h.rows.rows _).mono (Nat.zero_le _)) (h.rows.po _) (h.rows.nd _) (h.rows.ap _) (h.few _)).mono ?_; rintro e w2 ⟨v, ss, res, E', D', rfl, hs⟩; obtain ⟨a, c, rfl⟩ := hs.row.shape
  have hDm2 : w2.ownsMap Tryz.prog 9 sliceElem mb n Dm := ownsMap_block hDm (hs.off.block mb hDm.lt fun hm => by
    obtain ⟨es, clock, hb⟩ := map_obj hDm; rcases blocksG_type (h.rows.po _) hm with ⟨_, e, _⟩ | ⟨_, e, _⟩
    · rw [hb] at e; cases e
    · rw [hb] at e; cases e)
  obtain ⟨w3, hrun, hm3, hg3⟩ := hDm2.update keyed9 Tryz.underlying80 (show n < maxLen by unfold maxLen; omega) (keyOf_str (keyB x) hx6) (sliceElem_row hs.row)
  have hp2 : w2.heap[p]? = _ := (hs.off.block p (lt_of_heapQ h.box) fun hm => by
    rcases blocksG_type (h.rows.po _) hm with ⟨_, e, _⟩ | ⟨_, e, _⟩
    · exact absurd (cells_type h.box e) (by decide)
    · exact absurd (cells_type h.box e) (by decide)).trans h.box
  have hN := h.next hk hx hBm hne hs (fun k => (hDk k).2) (hDm2.mono (Nat.le_add_right n i)) hg3 (hm3.mono (by omega)); exact ⟨a, _, c, w3, _, _, _, _, rfl, by simp only [World.cell?, hp2]; rfl, hrun, by simp only [World.cell?, hN.box]; rfl, hN, hX.next h hk hx hrow hs hDk hDm2 hg3 hm3⟩
end Go.Proofs.YtdnebclemngdcaaGreatDoor
namespace Go.Proofs.YtdnebclemngdcaaGreatDoor
open Go.RowKit Go.Sort Go.Maps
set_option maxRecDepth 100000
set_option linter.unusedSectionVars false
variable [Inhabited ComV] [DecidableEq D3] [Inhabited D3] [Inhabited Dd] [Inhabited Dn] [Inhabited OpV]

def PruneX (w : World) (B p mb db n nb : Nat) (s : St) (at_ : List Int) (f0 : ByteArray → Value) (R0 : ByteArray → List Rp) (D0 : Nat → Value) (e : Ending) (w' : World) : Prop := ∃ bv ks kv f R E D, e = .returned .nilIface ∧ KeysOfSt s ks ∧ PrInv w B p mb db n nb bv (comb mxI s.base at_) s (fun d => decide (d ∈ s.dots)) ks kv ks.length f R E D w' ∧ PrX w p mb n s ks f0 R0 D0 ks.length f R D w'
theorem prune_startX {B : Nat} {w w1 w3 : World} {p mb db n nb : Nat} {f : ByteArray → Value} {s : St} {R : ByteArray → List Rp} {E : Nat → OpV} {D : Nat → Value} {r : Value} {base : List Int} {ks : List (List UInt8)} (hV2 : VerO B (w1.setCell ⟨p, 0, none⟩ r) p mb db n nb f ⟨base, s.parts, s.dots⟩ R E D) (hb1 : Below w.heap.size w w1) (hb3 : Below (w1.setCell ⟨p, 0, none⟩ r).heap.size (w1.setCell ⟨p, 0, none⟩ r) w3) : PrX w p mb n s ks f R D 0 f R D w3 := by
  have V3 := hV2.below hb3; have hs : (w1.setCell ⟨p, 0, none⟩ r).heap.size = w1.heap.size := by simp [World.setCell]
  refine ⟨V3.map, fun k _ => ⟨rfl, fun _ _ => rfl⟩, fun b hb hbp _ _ => ?_, fun k q hq => ⟨List.mem_map.2 ⟨q, hq, rfl⟩, rfl⟩, fun k b hb => .inl hb, ?_⟩
  · rw [hb3.block b (by rw [hs]; exact Nat.lt_of_lt_of_le hb hb1.size), Below.heap_setCell _ _ _ _ hbp]; exact hb1.block b hb
  · have h1 := hb3.size; rw [hs] at h1; exact Nat.le_trans hb1.size h1
set_option maxHeartbeats 8000000 in
theorem prune_okX (A : Nat → Addr) (w : World) (hE : E4 A w) (B p mb db n nb : Nat) (h12 : 12 ≤ B) (f : ByteArray → Value) (s : St) (R : ByteArray → List Rp) (E : Nat → OpV) (D : Nat → Value) (hV : VerO B w p mb db n nb f s R E D) (hBp : B ≤ p) (hBm : B ≤ mb) (hS : StOk s nb) (av : Value) (at_ : List Int) (ha : IntsAt w av at_) (hc : chk at_ = 0) (hal : at_.length = nb) (hfew : ∀ k, (rowOf s k).length ≤ 1000) (hn : n ≤ 1000000) :
    Calls Tryz.prog 12 #[.pointer (some ⟨p, 0, none⟩), av] w fun e w' => PruneX w B p mb db n nb s at_ f R D e w' := by
  obtain ⟨bv, hbox, hbT⟩ := hV.box; have K37 := hid (checkVector_ok A w hE p bv s.base (.map (some mb)) (.map (some db)) hbox hbT.at av at_ ha hc (by rw [hal, hS.len])); have h2 : two s.base at_ = 0 := two_zero.2 ⟨hS.base, hc, by rw [hal, hS.len]⟩; have K44 := fun W hE' h1 h2' => Most_ok A W hE' bv av s.base at_ h1 h2' h2
  obtain ⟨a1, c1, rfl⟩ := ha.slice; obtain ⟨ba, bc, rfl⟩ := hbT.at.slice; have k0 : w.cell? ⟨p, 0, none⟩ = some (.slice ba s.base.length bc) := by simp only [World.cell?, hbox]; rfl
  obtain ⟨bn, hbn⟩ : ∃ bn, bn = s.base.length := ⟨_, rfl⟩; obtain ⟨an, han⟩ : ∃ an, an = at_.length := ⟨_, rfl⟩; rw [← hbn] at k0 K44 hbox hbT; rw [← han] at K37 K44 ha ⊢; obtain ⟨f0, hf0⟩ : ∃ f0, f0 = f := ⟨_, rfl⟩; obtain ⟨R0, hR0⟩ : ∃ R0, R0 = R := ⟨_, rfl⟩; obtain ⟨D0, hD0⟩ : ∃ D0, D0 = D := ⟨_, rfl⟩; rw [← hf0, ← hR0, ← hD0]; have HF0 := hid hf0; have HR0 := hid hR0; have HD0 := hid hD0; have HV := hid hV; have HE := hid hE; have HA := hid ha; have HBT := hid hbT; have HS := hid hS; have HC := hid hc; have HFEW := hid hfew; have HBN := hid hbn; have HAN := hid han; have HAL := hid hal; have HBOX := hid hbox; have H2 := hid h2; clear hV hE ha hbT hS hc hfew hbn han hal hbox h2 hf0 hR0 hD0; go_enter Tryz.func12, Tryz.ntmps12; go_wp2_with fail; refine K37.out.mono ?_; rintro e w' ⟨rfl, rfl⟩; go_wp2_with fail; refine (K44 _ HE.out HBT.out.at HA.out).mono ?_; rintro e w1 ⟨r, rfl, hr, hb1⟩
  have V1 := HV.out.below hb1; have V2 := V1.rebase hr; obtain ⟨ra, rc, hre⟩ := hr.at.slice; have k1 : w1.cell? ⟨p, 0, none⟩ = some (.slice ba bn bc) := by rw [hb1.cell (lt_of_cell k0)]; exact k0
  have f1 : w1.frozen? ⟨p, 0, none⟩ = false := by
    have h1 : w1.heap[p]? = _ := (hb1.block p (lt_of_heapQ HBOX.out)).trans HBOX.out; simp only [World.frozen?, h1]; simp
  obtain ⟨rn, hrn⟩ : ∃ rn, rn = (comb mxI s.base at_).length := ⟨_, rfl⟩; rw [← hrn] at hre; subst hre; have HRN := hid hrn; have HR := hid hr; have HB1 := hid hb1; have HV2 := hid V2; clear hrn hr hb1 V1 V2 K44 K37; go_wp2_with fail; refine (keysR_ok _ p mb db n f _ HV2.out.ver hn).mono ?_; rintro e w3 ⟨kv, ks, rfl, hks, hkrow, hkl, hb3⟩; have hI : PrInv w' B p mb db n nb (.slice ra rn rc) (comb mxI s.base at_) s (fun d => decide (d ∈ s.dots)) ks kv 0 f R E D w3 := prune_start HV.out HV2.out HB1.out hb3 hkrow hBp HFEW.out
  have hX : PrX w' p mb n s ks f0 R0 D0 0 f R D w3 := by
    rw [HF0.out, HR0.out, HD0.out]; exact prune_startX HV2.out HB1.out hb3
  obtain ⟨ka, kc, hke⟩ := row_shape hkrow; obtain ⟨kn, hkn⟩ : ∃ kn, kn = ks.length := ⟨_, rfl⟩; rw [← hkn] at hke hkl; subst hke; have HI := hid hI; have HX := hid hX; have HKN := hid hkn; have HKS := hid hks; have hm3 : 12 ≤ w3.heap.size := by have := hb3.size; obtain ⟨_, hm, _⟩ := hI.map; have := hm.lt; omega
  clear hI hX hkn hks hkrow hb3 HV2 HR HB1 k1 f1 k0; go_wp2_with fail
  go_loopw [35] (fun i wr => ∃ (k : Nat) (f : ByteArray → Value) (R : ByteArray → List Rp) (E : Nat → OpV) (D : Nat → Value), k ≤ kn ∧ i = .int .i64 k ∧ Hid (PrInv w' B p mb db n nb (.slice ra rn rc) (comb mxI s.base at_) s (fun d => decide (d ∈ s.dots)) ks (.slice ka kn kc) k f R E D wr) ∧ Hid (PrX w' p mb n s ks f0 R0 D0 k f R D wr)) (fun i _ => kn - (intOf i).toNat)
  case atStart => exact ⟨0, _, _, _, _, Nat.zero_le _, rfl, HI, HX⟩
  case round =>
    obtain ⟨k, f, R, E, D, hk, rfl, HJ, HY⟩ := hrel
    by_cases hlt : k < kn
    · have hkl' : k < ks.length := by rw [← HKN.out]; exact hlt
      obtain ⟨kb, hka, q0⟩ := key_at HJ.out.keys hkl'; injection hka with e1 e2 e3; subst e1; clear e2 e3; obtain ⟨x, hx⟩ : ∃ x, x = ks[k]! := ⟨_, rfl⟩; rw [← hx] at q0; have hxk : ks[k]? = some x := by rw [hx, getElem!_pos ks k hkl']; exact List.getElem?_eq_getElem _
      have hxr : rowOf s (keyB x) ≠ [] := (keysOfSt_mem HKS.out x).1 (List.mem_of_getElem? hxk); have hx6 : (keyB x).size ≤ 1000000 := key_small HS.out hxr; have hround := PrX.round HE.out h12 HJ.out.drew HY.out.drew (keysOfSt_nodup HKS.out) hxk hxr hBm HV.out.ne (chk_most H2.out) (by rw [comb_length, HS.out.len]) hx6 (by omega)
      have hlook : (Instr.lookup 80 (.map (some mb)) (.string (keyB x)) false).run Tryz.prog wr.drew = .ok (f (keyB x)) wr.drew := by
        obtain ⟨Dm, hDm, hDk⟩ := HJ.out.drew.map; obtain ⟨v, ps, hrun, hR⟩ := hDm.lookup keyed9 Tryz.underlying80 (Tryz.zero43 _) (zd := .nil) (zp := []) rfl (keyOf_str (keyB x) hx6); have : v = f (keyB x) := sliceElem_inj hR (sliceElem_row (HJ.out.rows.rows (keyB x))) (hDk _); rw [hrun, this]
      obtain ⟨fa, fc, hf⟩ := (HJ.out.rows.rows (keyB x)).shape; obtain ⟨fn, hfn⟩ : ∃ fn, fn = (R (keyB x)).length := ⟨_, rfl⟩; rw [← hfn] at hf; rw [hf] at hround hlook; obtain ⟨ky, hky⟩ : ∃ ky, ky = keyB x := ⟨_, rfl⟩; rw [← hky] at hround hlook q0; have c1 : wr.cell? ⟨p, 1, none⟩ = some (.map (some mb)) := by simp only [World.cell?, HJ.out.box]; rfl
      have HR := hid hround; clear hround hf hfn hky hxk hx hx6 hxr; go_wp2_with fail
      go_region_held (fun u => u.cell? ⟨p, 1, none⟩ = some (.map (some mb))) (go_keep) (first | (go_at_call 45; refine HR.out.mono ?_; rintro e w2 ⟨a2, m2, c2, w3, f', R', E', D', rfl, k2, hrun2, k3, hI3, hX3⟩; have HI3 := hid hI3; have HX3 := hid hX3; clear hI3 hX3))
      all_goals
        go_wp2_with fail; exact ⟨⟨k + 1, _, _, _, _, by omega, by go_num, HI3, HX3⟩, by simp [intOf]; omega⟩
    · obtain rfl : k = kn := by omega
      have hend : PruneX w' B p mb db n nb s at_ f0 R0 D0 (.returned .nilIface) wr := ⟨_, ks, _, f, R, E, D, rfl, HKS.out, by rw [← HKN.out]; exact ⟨HJ.out, HY.out⟩⟩; have HEND := hid hend; clear hend; go_wp2_with fail; go_ret; exact HEND.out
end Go.Proofs.YtdnebclemngdcaaGreatDoor
namespace Go.Proofs.YtdnebclemngdcaaGreatDoor
open Go.RowKit Go.Sort Go.Maps
set_option maxRecDepth 100000
set_option linter.unusedSectionVars false
variable [Inhabited ComV] [DecidableEq D3] [Inhabited D3] [Inhabited Dd] [Inhabited Dn] [Inhabited OpV]

theorem SettledAs.nil_iff {V : D3 → Bool} {base : List Int} {key : ByteArray} {row new : List ComV} (hR : RowOne key row) (hok : ∀ c ∈ row, ComOk c) (h : SettledAs V base row new) : new = [] ↔ row = [] := by
  obtain ⟨ss, hp, ho, rfl⟩ := h; have hss : ∀ c ∈ ss, c ∈ row := fun c hc => (List.mem_filter.1 (hp.subset hc)).1
  have hall : (ss ++ row.filter fun c => !leB c.when_ base).Perm row := (hp.append_right _).trans (filter_split (fun c => leB c.when_ base) row); have Rs : RowOne key ss := (hR.perm hall).sub (List.sublist_append_left _ _); have hlt : (ss.map dn1).Pairwise fun a b => ltN a b = true := Ord.lt ⟨ho, Rs.ne⟩
  rw [List.append_eq_nil_iff, settled_nil hlt (fun c hc => (part_facts (hok c (hss c hc)) (hR.one c (hss c hc))).1) (fun c hc => (part_facts (hok c (hss c hc)) (hR.one c (hss c hc))).2), ← List.append_eq_nil_iff]
  constructor
  · intro e; rw [e] at hall; exact hall.symm.eq_nil
  · intro e; rw [e] at hall ⊢; exact hall.eq_nil
theorem settledAs_nil' (V : D3 → Bool) (base : List Int) : SettledAs V base [] [] := ⟨[], List.Perm.refl _, List.Pairwise.nil, rfl⟩
theorem settledAs_from {V : D3 → Bool} {base : List Int} {row new : List ComV} (h : SettledAs V base row new) : ∀ c ∈ new, From row c := fun c hc => by
  obtain ⟨ss, hp, _, rfl⟩ := h; rcases List.mem_append.1 hc with hc | hc
  · exact (settled_from hc).mono fun x hx => From.self (List.mem_filter.1 (hp.subset hx)).1
  · exact From.self (List.mem_filter.1 hc).1
theorem flat_keyed_out (g : ByteArray → List ComV) (k : ByteArray) : ∀ kl : List ByteArray, k ∉ kl → (∀ x ∈ kl, ∀ c ∈ g x, keyOfC c = x) → ((kl.flatMap g).filter fun c => decide (keyOfC c = k)) = []
  | [], _, _ => by simp
  | x :: kl, hn, hk => by
    have e : x ≠ k := fun e => hn (by rw [e]; exact List.mem_cons_self ..)
    rw [List.flatMap_cons, List.filter_append, flat_keyed_out g k kl (fun h => hn (List.mem_cons_of_mem _ h)) fun y hy => hk y (by simp [hy]), List.append_nil]; exact List.filter_eq_nil_iff.2 fun c hc h => e ((hk x (by simp) c hc).symm.trans (of_decide_eq_true h))
theorem flat_keyed_in (g : ByteArray → List ComV) (k : ByteArray) : ∀ kl : List ByteArray, kl.Nodup → k ∈ kl → (∀ x ∈ kl, ∀ c ∈ g x, keyOfC c = x) → ((kl.flatMap g).filter fun c => decide (keyOfC c = k)) = g k
  | [], _, hm, _ => by simp at hm
  | x :: kl, hn, hm, hk => by
    have hn' := List.nodup_cons.1 hn; rw [List.flatMap_cons, List.filter_append]
    by_cases e : x = k
    · subst e; rw [flat_keyed_out g x kl hn'.1 fun y hy => hk y (by simp [hy]), List.append_nil]; exact List.filter_eq_self.2 fun c hc => decide_eq_true (hk x (by simp) c hc)
    · have h1 : (g x).filter (fun c => decide (keyOfC c = k)) = [] := List.filter_eq_nil_iff.2 fun c hc h => e ((hk x (by simp) c hc).symm.trans (of_decide_eq_true h))
      rw [h1, List.nil_append]; exact flat_keyed_in g k kl hn'.2 ((List.mem_cons.1 hm).resolve_left fun h => e h.symm) fun y hy => hk y (by simp [hy])
structure Pruned (B : Nat) (w : World) (p mb db n nb : Nat) (s : St) (base : List Int) (f : ByteArray → Value) (R : ByteArray → List Rp) (E : Nat → OpV) (D : Nat → Value) (w' : World) (s' : St) (f' : ByteArray → Value) (R' : ByteArray → List Rp) (E' : Nat → OpV) (D' : Nat → Value) : Prop where
  ver : VerO B w' p mb db n nb f' s' R' E' D'
  base_ : s'.base = base
  dots : s'.dots = s.dots
  ok : StOk s' nb
  rows : ∀ key, SettledAs (fun d => decide (d ∈ s.dots)) base (rowOf s key) (rowOf s' key)
  off : ∀ b, b < w.heap.size → b ≠ p → b ≠ mb → (∀ k, b ∉ blocksG (R k) D) → w'.heap[b]? = w.heap[b]?
  own : ∀ k, ∀ r ∈ R' k, r.g ∈ (R k).map (·.g) ∧ (D' r.g).ownBlock = (D r.g).ownBlock
  fresh : ∀ k b, (f' k).ownBlock = some b → (f k).ownBlock = some b ∨ w.heap.size ≤ b
  below : Below B w w'
  size : w.heap.size ≤ w'.heap.size
theorem prune_end {B : Nat} {w w' : World} {p mb db n nb : Nat} {bv : Value} {base : List Int} {s : St} {ks : List (List UInt8)} {kv : Value} {f0 f : ByteArray → Value} {R0 R : ByteArray → List Rp} {E0 E : Nat → OpV} {D0 D : Nat → Value} (h : PrInv w B p mb db n nb bv base s (fun d => decide (d ∈ s.dots)) ks kv ks.length f R E D w') (hX : PrX w p mb n s ks f0 R0 D0 ks.length f R D w') (hks : KeysOfSt s ks) (hR : ∀ key, RowOne key (rowOf s key)) (hS : StOk s nb) (hc : chk base = 0) (hl : base.length = nb) (hne : mb ≠ db) :
    ∃ s', Pruned B w p mb db n nb s base f0 R0 E0 D0 w' s' f R E D := by
  have hset : ∀ key, SettledAs (fun d => decide (d ∈ s.dots)) base (rowOf s key) ((R key).map (absR E)) := fun key => by
    by_cases hk : key ∈ (ks.take ks.length).map keyB
    · exact h.done key hk
    · have h0 : rowOf s key = [] := by
        by_cases h1 : rowOf s key = []
        · exact h1
        · refine absurd ?_ hk; rw [List.take_length]; exact List.mem_map.2 ⟨key.data.toList, (keysOfSt_mem hks _).2 (by unfold keyB; simpa using h1), by unfold keyB; simp⟩
      rw [h.todo key hk, h0]; exact settledAs_nil' _ _
  have hkey : ∀ key, ∀ c ∈ (R key).map (absR E), keyOfC c = key := fun key c hc => by
    obtain ⟨c', h1, _, h3⟩ := settledAs_from (hset key) c hc; exact h3.trans ((hR key).key c' h1)
  have hnil : ∀ key, (R key).map (absR E) = [] ↔ rowOf s key = [] := fun key => (hset key).nil_iff (hR key) fun c hc => hS.ok c (mem_rowOf hc)
  obtain ⟨s', hs'⟩ : ∃ s' : St, s' = ⟨base, (ks.map keyB).flatMap fun k => (R k).map (absR E), s.dots⟩ := ⟨_, rfl⟩
  have hnd : (ks.map keyB).Nodup := by
    have := keysOfSt_nodup hks; rw [List.nodup_iff_pairwise_ne] at this ⊢; rw [List.pairwise_map]; exact this.imp fun hab e => hab (keyB_inj e)
  have hrow : ∀ k, rowOf s' k = (R k).map (absR E) := fun k => by
    rw [hs']; unfold rowOf
    by_cases hk : k ∈ ks.map keyB
    · exact flat_keyed_in (fun k => (R k).map (absR E)) k _ hnd hk fun x _ c hc => hkey x c hc
    · rw [flat_keyed_out (fun k => (R k).map (absR E)) k _ hk fun x _ c hc => hkey x c hc]; refine ((hnil k).2 ?_).symm
      by_cases h1 : rowOf s k = []
      · exact h1
      · exact absurd (List.mem_map.2 ⟨k.data.toList, (keysOfSt_mem hks _).2 (by unfold keyB; simpa using h1), by unfold keyB; simp⟩) hk
  have hpart : ∀ c ∈ s'.parts, ∃ k, ∃ r ∈ R k, c = absR E r := fun c hc => by
    rw [hs'] at hc; obtain ⟨k, _, hc⟩ := List.mem_flatMap.1 hc; obtain ⟨r, hr, rfl⟩ := List.mem_map.1 hc; exact ⟨k, r, hr, rfl⟩
  have hb' : s'.base = base := by rw [hs']
  have hd' : s'.dots = s.dots := by rw [hs']
  refine ⟨s', ⟨⟨⟨bv, h.box, by rw [hb']; exact h.ints⟩, by rw [hd']; exact h.dots, ?_, h.rows, fun k => (hrow k).symm, hne⟩, hb', hd', ⟨by rw [hb']; exact hc, by rw [hb']; exact hl, fun c hc => ?_, fun c hc => ?_, fun c hc => ?_⟩, fun key => by rw [hrow]; exact hset key, hX.off, hX.own, hX.fresh, h.below, hX.size⟩⟩
  · obtain ⟨Dm, h1, h2⟩ := hX.map; refine ⟨Dm, h1, fun k => ⟨?_, (h2 k).2⟩⟩; rw [(h2 k).1, hrow]; simp only [ne_eq, decide_eq_decide]; exact not_congr (hnil k).symm
  · obtain ⟨k, r, hr, rfl⟩ := hpart c hc; exact ((h.rows.po k).pf r hr).ok
  · obtain ⟨k, r, hr, rfl⟩ := hpart c hc; exact ((h.rows.po k).pf r hr).len
  · obtain ⟨k, r, hr, rfl⟩ := hpart c hc; have hp := (h.rows.po k).pf r hr; have h6 := (chk_zero.1 hp.ok.chk).2.1; refine ⟨by omega, Nat.le_trans hp.ok.few (by decide), fun o ho => ?_⟩; obtain rfl : o = E r.g := by simpa [absR] using ho
    exact ⟨Nat.le_trans hp.text (by decide), Nat.le_trans hp.fit.few (by decide)⟩
end Go.Proofs.YtdnebclemngdcaaGreatDoor
namespace Go.Proofs.YtdnebclemngdcaaGreatDoor
open Go.RowKit Go.Sort Go.Maps
set_option maxRecDepth 100000
set_option linter.unusedSectionVars false
variable [Inhabited ComV] [DecidableEq D3] [Inhabited D3] [Inhabited Dd] [Inhabited Dn] [Inhabited OpV]

theorem owns_unique {w : World} {b b' e size n : Nat} {v : Value} {xs xs' : List Value} (h : w.ownsRow b e size v n xs) (h' : w.ownsRow b' e size v n xs') : xs = xs' := by
  rcases h.2 with ⟨rfl, h0⟩ | ⟨g, cap, cur, rfl, _, hh, _, _, _, ht⟩
  · have h1 := h.1; have h2 := h'.1; rw [h0, Nat.zero_mul] at h1 h2; rw [List.eq_nil_of_length_eq_zero h1, List.eq_nil_of_length_eq_zero h2]
  · rcases h'.2 with ⟨e0, _⟩ | ⟨g', cap', cur', e0, _, hh', _, _, _, ht'⟩
    · cases e0
    · injection e0 with e1 _ _; injection e1 with e1; injection e1 with e1 _ _; subst e1; rw [hh] at hh'; injection hh' with hh'; injection hh' with hh' _ _; subst hh'; rw [← ht, ← ht']
theorem owns_rebase {w : World} {b B e size n : Nat} {v : Value} {xs : List Value} (h : w.ownsRow b e size v n xs) (hB : ∀ g, v.ownBlock = some g → B ≤ g) : w.ownsRow B e size v n xs := by
  refine ⟨h.1, ?_⟩; rcases h.2 with h0 | ⟨g, cap, cur, hv, _, h2⟩
  · exact .inl h0
  · exact .inr ⟨g, cap, cur, hv, hB g (by rw [hv]; rfl), h2⟩
def updEp (E : Nat → OpV) (g : Nat) (o : OpV) : Nat → OpV := fun x => if x = g then o else E x
def updVp (D : Nat → Value) (g : Nat) (v : Value) : Nat → Value := fun x => if x = g then v else D x
theorem updEp_same (E : Nat → OpV) (g : Nat) (o : OpV) : updEp E g o g = o := if_pos rfl
theorem updEp_other (E : Nat → OpV) {g x : Nat} (o : OpV) (h : x ≠ g) : updEp E g o x = E x := if_neg h
theorem updVp_same (D : Nat → Value) (g : Nat) (v : Value) : updVp D g v g = v := if_pos rfl
theorem updVp_other (D : Nat → Value) {g x : Nat} (v : Value) (h : x ≠ g) : updVp D g v x = D x := if_neg h
theorem RowsO.append {B : Nat} {w w' : World} {nb : Nat} {f : ByteArray → Value} {R : ByteArray → List Rp} {E : Nat → OpV} {D : Nat → Value} (h : RowsO B w nb f R E D) {k : ByteArray} {v : Value} {xs : List Value} {r : Rp} {o : OpV} {dv : Value} {M : Nat}
    (hB : B ≤ w.heap.size) (hrs : w.ownsRow 0 34 3 (f k) (R k).length xs) (h9 : w'.ownsRow 0 34 3 v ((R k).length + 1) (xs ++ r.cells)) (hg : w.grownBy w' (f k).ownBlock) (hat : v.ownBlock = (f k).ownBlock ∨ v.ownBlock = some w.heap.size)
    (hop : w.heap[r.g]? = some (.cells (opC o dv).toArray 76 (0, 0))) (hdo : DotsO w dv o.dots) (hin : IntsT w (.slice r.wa r.wn.length r.wc) r.wn) (hok : ComOk ⟨r.wn, r.pl, [o]⟩) (hlen : r.wn.length = nb) (htx : o.text.size ≤ 1000)
    (hlow : ∀ k, ∀ q ∈ R k, q.g < M ∧ ∀ b, (D q.g).ownBlock = some b → b < M) (hgM : M ≤ r.g) (hdM : ∀ b, dv.ownBlock = some b → M ≤ b) (hBM : B ≤ M) :
    RowsO B w' nb (updF f k v) (updR R k (R k ++ [r])) (updEp E r.g o) (updVp D r.g dv) := by
  have keep : ∀ {b : Nat} {cs : Array Value} {t : TypeId}, t ≠ 34 → w.heap[b]? = some (.cells cs t (0, 0)) → w'.heap[b]? = w.heap[b]? := fun {b cs t} ht hb => hg.block b (lt_of_heapQ hb) fun e => by
    obtain ⟨cs', h'⟩ := own_type hrs e.symm; exact ht (cells_type hb h')
  have exs : xs = (R k).flatMap Rp.cells := owns_unique hrs (h.rows k); have ne : ∀ k', ∀ q ∈ R k', q.g ≠ r.g := fun k' q hq => by have := (hlow k' q hq).1; omega
  have po0 : ∀ k', PO w' (updEp E r.g o) (updVp D r.g dv) nb (R k') := fun k' => by
    refine PO.fresh (E := E) (D := D) ⟨fun q hq => ?_, fun q hq => ?_, fun q hq => ?_, (h.po k').pf⟩ (fun q hq => updEp_other _ _ (ne k' q hq)) (fun q hq => updVp_other _ _ (ne k' q hq))
    · rw [keep (by decide) ((h.po k').ops q hq)]; exact (h.po k').ops q hq
    · refine ((h.po k').dots q hq).kept fun b hb => ?_
      obtain ⟨cs, hcs⟩ := ((h.po k').dots q hq).block hb; exact keep (by decide) hcs
    · exact RowT.kept ((h.po k').ints q hq) fun b cs hb => keep (by decide) hb
  have vge : ∀ b, v.ownBlock = some b → B ≤ b := fun b hb => by
    rcases hat with e | e
    · rw [e] at hb; exact ((h.rows k).lt b hb).1
    · rw [e] at hb; have := Option.some.inj hb; omega
  have mem : ∀ q ∈ R k ++ [r], q ∈ R k ∨ q = r := fun q hq => by
    rcases List.mem_append.1 hq with hq | hq
    · exact .inl hq
    · exact .inr (List.mem_singleton.1 hq)
  have Dold : ∀ k', ∀ q ∈ R k', updVp D r.g dv q.g = D q.g := fun k' q hq => updVp_other _ _ (ne k' q hq)
  have apD : ∀ k', ∀ q ∈ R k', ∀ b, (D q.g).ownBlock = some b → dv.ownBlock ≠ some b := fun k' q hq b h1 h2 => by
    have := (hlow k' q hq).2 b h1; have := hdM b h2; omega
  refine ⟨fun k' => ?_, fun k' => ?_, fun k' => ?_, fun k' => ?_, fun k1 k2 hk a ha q hq => ?_, fun k1 k2 hk b hb1 hb2 => ?_, fun k' q hq => ?_⟩
  · by_cases e : k' = k
    · subst e; rw [updF_same, updR_same]; refine RowR.snoc ?_; rw [← exs]; exact owns_rebase h9 vge
    · rw [updF_other _ _ e, updR_other _ _ e]; refine owns_own (h.rows k') fun b hb => hg.block b ((h.rows k').lt b hb).2 fun e' => h.apart k' k e b hb e'.symm
  · by_cases e : k' = k
    · subst e; rw [updR_same]; refine ⟨fun q hq => ?_, fun q hq => ?_, fun q hq => ?_, fun q hq => ?_⟩
      · rcases mem q hq with hq | rfl
        · exact (po0 k').ops q hq
        · rw [updEp_same, updVp_same, keep (by decide) hop]; exact hop
      · rcases mem q hq with hq | rfl
        · exact (po0 k').dots q hq
        · rw [updEp_same, updVp_same]; refine hdo.kept fun b hb => ?_
          obtain ⟨cs, hcs⟩ := hdo.block hb; exact keep (by decide) hcs
      · rcases mem q hq with hq | rfl
        · exact (po0 k').ints q hq
        · exact RowT.kept hin fun b cs hb => keep (by decide) hb
      · rcases mem q hq with hq | rfl
        · exact (po0 k').pf q hq
        · exact ⟨by unfold absR; rw [updEp_same]; exact hok, hlen, by rw [updEp_same]; exact htx⟩
    · rw [updR_other _ _ e]; exact po0 k'
  · by_cases e : k' = k
    · subst e; rw [updR_same, List.map_append, List.nodup_append]; refine ⟨h.nd k', by simp, fun a ha b hb e => ?_⟩; obtain ⟨q, hq, rfl⟩ := List.mem_map.1 ha; rw [List.map_cons, List.map_nil, List.mem_singleton] at hb; exact ne k' q hq (e.trans hb)
    · rw [updR_other _ _ e]; exact h.nd k'
  · by_cases e : k' = k
    · subst e; rw [updR_same]; intro q hq q' hq' hne b hb1 hb2; rcases mem q hq with g1 | g1
      · rw [Dold k' q g1] at hb1; rcases mem q' hq' with g2 | g2
        · rw [Dold k' q' g2] at hb2; exact h.ap k' q g1 q' g2 hne b hb1 hb2
        · rw [g2, updVp_same] at hb2; exact apD k' q g1 b hb1 hb2
      · rw [g1, updVp_same] at hb1; rcases mem q' hq' with g2 | g2
        · rw [Dold k' q' g2] at hb2; exact apD k' q' g2 b hb2 hb1
        · exact hne (by rw [g1, g2])
    · rw [updR_other _ _ e]; intro q hq q' hq' hne b hb1 hb2; rw [Dold k' q hq] at hb1; rw [Dold k' q' hq'] at hb2; exact h.ap k' q hq q' hq' hne b hb1 hb2
  · by_cases e1 : k1 = k
    · subst e1; have e2 : k2 ≠ k1 := fun x => hk x.symm
      rw [updR_same] at ha; rw [updR_other _ _ e2] at hq; rw [Dold k2 q hq]; rcases mem a ha with ha | rfl
      · rw [Dold k1 a ha]; exact h.sep k1 k2 hk a ha q hq
      · rw [updVp_same]; exact ⟨fun e => ne k2 q hq e.symm, fun b hb1 hb2 => apD k2 q hq b hb2 hb1⟩
    · rw [updR_other _ _ e1] at ha; rw [Dold k1 a ha]
      by_cases e2 : k2 = k
      · subst e2; rw [updR_same] at hq; rcases mem q hq with hq | rfl
        · rw [Dold k2 q hq]; exact h.sep k1 k2 hk a ha q hq
        · rw [updVp_same]; exact ⟨ne k1 a ha, fun b hb1 hb2 => apD k1 a ha b hb1 hb2⟩
      · rw [updR_other _ _ e2] at hq; rw [Dold k2 q hq]; exact h.sep k1 k2 hk a ha q hq
  · have vk : ∀ k', k' ≠ k → ∀ b, v.ownBlock = some b → (f k').ownBlock ≠ some b := fun k' e b hb hb' => by
      rcases hat with e' | e'
      · rw [e'] at hb; exact h.apart k k' (fun x => e x.symm) b hb hb'
      · rw [e'] at hb; have h1 := Option.some.inj hb; have h2 := ((h.rows k').lt b hb').2; omega
    by_cases e1 : k1 = k
    · subst e1; have e2 : k2 ≠ k1 := fun x => hk x.symm
      rw [updF_same] at hb1; rw [updF_other _ _ e2] at hb2; exact vk k2 e2 b hb1 hb2
    · rw [updF_other _ _ e1] at hb1
      by_cases e2 : k2 = k
      · subst e2; rw [updF_same] at hb2; exact vk k1 e1 b hb2 hb1
      · rw [updF_other _ _ e2] at hb2; exact h.apart k1 k2 hk b hb1 hb2
  · by_cases e : k' = k
    · subst e; rw [updR_same] at hq; rcases mem q hq with hq | rfl
      · rw [Dold k' q hq]; exact h.ge k' q hq
      · rw [updVp_same]; exact ⟨Nat.le_trans hBM hgM, fun b hb => Nat.le_trans hBM (hdM b hb)⟩
    · rw [updR_other _ _ e] at hq; rw [Dold k' q hq]; exact h.ge k' q hq
structure PutO (B nb : Nat) (s : St) (c : ComV) (w : World) (R : ByteArray → List Rp) (D : Nat → Value) (t : Nat) (wr : World) (ft : ByteArray → Value) (Rt : ByteArray → List Rp) (Et : Nat → OpV) (Dt : Nat → Value) : Prop where
  rows : RowsO B wr nb ft Rt Et Dt
  abs_ : ∀ k, (Rt k).map (absR Et) = rowOf (putTo s c t) k
  new : ∀ k, ∀ r ∈ Rt k, (r ∈ R k ∧ Dt r.g = D r.g) ∨ (w.heap.size ≤ r.g ∧ ∀ b, (Dt r.g).ownBlock = some b → w.heap.size ≤ b)
  size : w.heap.size ≤ wr.heap.size
theorem PutO.start {B nb : Nat} {s : St} {w wr : World} {R : ByteArray → List Rp} {E : Nat → OpV} {D : Nat → Value} {f : ByteArray → Value} (c : ComV) (h : RowsO B w nb f R E D) (ha : ∀ k, (R k).map (absR E) = rowOf s k) (hb : Below w.heap.size w wr) : PutO B nb s c w R D 0 wr f R E D := ⟨h.below hb, fun k => by rw [putTo_zero]; exact ha k, fun k r hr => .inl ⟨hr, rfl⟩, hb.size⟩
theorem rowOf_put {s : St} {c : ComV} {t : Nat} (ht : t < c.ops.length) (k : ByteArray) : rowOf (putTo s c (t + 1)) k = if (c.ops[t]!).key = k then rowOf (putTo s c t) k ++ [partC c c.ops[t]!] else rowOf (putTo s c t) k := by
  rw [putTo_succ s c ht]; exact rowOf_add (putTo s c t) (partC c c.ops[t]!) k
theorem PutO.next {B nb : Nat} {s : St} {c : ComV} {w : World} {R : ByteArray → List Rp} {D : Nat → Value} {t : Nat} {wr : World} {ft : ByteArray → Value} {Rt : ByteArray → List Rp} {Et : Nat → OpV} {Dt : Nat → Value} (TO : PutO B nb s c w R D t wr ft Rt Et Dt)
    {w5 w6 w7 w8 w9 w10 : World} {p mb db n n5 kt L : Nat} {S : St} {D5 : DataW Unit} {R5 : Value → Option (DataW Unit × List MemPlace)} {o : OpV} {dv fv v9 : Value} {a7 : Option Addr} {c7 gg : Nat} {xs : List Value}
    (hV : VerAt wr p mb db ft S n) (hb5 : Below wr.heap.size wr w5) (hD5 : w5.ownsMap Tryz.prog kt R5 db n5 D5) (hg6 : w5.grownBy w6 (some db)) (hb67 : Below w6.heap.size w6 w7) (hb78 : Below w7.heap.size w7 w8)
    (hI : IntsT w7 (.slice a7 c.when_.length c7) c.when_) (hop : w7.heap[gg]? = some (.cells (opCells o dv).toArray 76 (0, 0))) (hgg : w6.heap.size ≤ gg) (hdo : w7.ownsRow w6.heap.size 87 3 dv o.dots.length (o.dots.flatMap D3.cells))
    (hto : t < c.ops.length) (ho : o = c.ops[t]!) (hC : ComOk c) (hnb : c.when_.length = nb) (htx : o.text.size ≤ 1000) (hB : B ≤ w.heap.size)
    (hfv : fv = ft o.key) (hL : L = (rowOf (putTo s c t) o.key).length) (hrow8 : w8.ownsRow 0 34 3 fv L xs) (hrow9 : w9.ownsRow 0 34 3 v9 (L + 1) (xs ++ [.slice a7 c.when_.length c7, .int .i64 c.place, .slice (some ⟨gg, 0, none⟩) 1 1])) (hg9 : w8.grownBy w9 fv.ownBlock) (hat : v9.ownBlock = fv.ownBlock ∨ v9.ownBlock = some w8.heap.size) (hg10 : w9.grownBy w10 (some mb)) :
    PutO B nb s c w R D (t + 1) w10 (updF ft o.key v9) (updR Rt o.key (Rt o.key ++ [⟨a7, c7, c.when_, c.place, gg⟩])) (updEp Et gg o) (updVp Dt gg dv) := by
  obtain ⟨Dm, hDm, _⟩ := hV.map; have hD5m := map_no_cells hD5; have R5' := TO.rows.below hb5; have R6 := R5'.turned hg6 hD5m; have hb68 : Below w6.heap.size w6 w8 := hb67.trans (hb78.mono hb67.size); have R8 := R6.below hb68; have hs5 := hb5.size; have hs6 := hg6.size; have hs7 := hb67.size; have hs8 := hb78.size; have hsw := TO.size; have hop8 : w8.heap[gg]? = some (.cells (opC o dv).toArray 76 (0, 0)) := (hb78.block gg (lt_of_heapQ hop)).trans hop; have hdo8 : DotsO w8 dv o.dots := owns_belowQ (ownsMono (Nat.zero_le _) hdo) hb78; have hin8 : IntsT w8 (.slice a7 c.when_.length c7) c.when_ := RowT.kept hI (keepT_below hb78 (Nat.le_refl _)); have hmem : o ∈ c.ops := by rw [ho, getElem!_pos c.ops t hto]; exact List.getElem_mem _
  have hlow : ∀ k, ∀ q ∈ Rt k, q.g < w6.heap.size ∧ ∀ b, (Dt q.g).ownBlock = some b → b < w6.heap.size := fun k q hq => by
    refine ⟨Nat.lt_of_lt_of_le (lt_of_heapQ ((TO.rows.po k).ops q hq)) (by omega), fun b hb => ?_⟩; obtain ⟨cs, hcs⟩ := ((TO.rows.po k).dots q hq).block hb; exact Nat.lt_of_lt_of_le (lt_of_heapQ hcs) (by omega)
  have hlen : (Rt o.key).length = L := by rw [hL, ← TO.abs_ o.key, List.length_map]
  subst hfv; have R9 := R8.append (k := o.key) (v := v9) (xs := xs) (r := ⟨a7, c7, c.when_, c.place, gg⟩) (o := o) (dv := dv) (M := w6.heap.size) (by omega) (by rw [hlen]; exact hrow8) (by rw [hlen]; exact hrow9) hg9 hat hop8 hdo8 hin8 (comOk_one hC hmem) hnb htx hlow hgg (fun b hb => (hdo.lt b hb).1) (by omega)
  have hmb : ∀ cs t, w9.heap[mb]? ≠ some (.cells cs t (0, 0)) := by
    have h5 := hDm.kept (grown_belowQ none hb5) (by simp); have h6 : w6.ownsMap Tryz.prog 9 sliceElem mb n Dm := h5.kept hg6 (fun e => hV.ne (Option.some.inj e)); have h8 := h6.kept (grown_belowQ none hb68) (by simp)
    have h9 : w9.ownsMap Tryz.prog 9 sliceElem mb n Dm := h8.kept hg9 fun e => by
      obtain ⟨cs, hcs⟩ := own_type hrow8 e.symm; exact map_no_cells h8 cs 34 hcs
    exact map_no_cells h9
  have ne : ∀ k, ∀ q ∈ Rt k, q.g ≠ gg := fun k q hq => by have := (hlow k q hq).1; omega
  refine ⟨R9.turned hg10 hmb, fun k => ?_, fun k q hq => ?_, by have := hg9.size; have := hg10.size; omega⟩
  · have old : ∀ k, (Rt k).map (absR (updEp Et gg o)) = rowOf (putTo s c t) k := fun k => by
      rw [← TO.abs_ k]; exact List.map_congr_left fun q hq => by unfold absR; rw [updEp_other _ _ (ne k q hq)]
    rw [rowOf_put hto, ← ho]
    by_cases e : o.key = k
    · subst e; rw [updR_same, if_pos rfl, List.map_append, old, List.map_cons, List.map_nil]; unfold absR partC; rw [updEp_same]
    · rw [updR_other _ _ (fun x => e x.symm), if_neg e, old]
  · have old : ∀ q ∈ Rt k, (q ∈ R k ∧ updVp Dt gg dv q.g = D q.g) ∨ (w.heap.size ≤ q.g ∧ ∀ b, (updVp Dt gg dv q.g).ownBlock = some b → w.heap.size ≤ b) := fun q hq => by
      rw [updVp_other _ _ (ne k q hq)]; exact TO.new k q hq
    by_cases e : k = o.key
    · subst e; rw [updR_same] at hq; rcases List.mem_append.1 hq with hq | hq
      · exact old q hq
      · obtain rfl := List.mem_singleton.1 hq; refine .inr ⟨by show w.heap.size ≤ gg; omega, fun b hb => ?_⟩; rw [updVp_same] at hb; have := (hdo.lt b hb).1; omega
    · rw [updR_other _ _ e] at hq; exact old q hq
end Go.Proofs.YtdnebclemngdcaaGreatDoor
namespace Go.Proofs.YtdnebclemngdcaaGreatDoor
open Go.RowKit Go.Sort Go.Maps
set_option maxRecDepth 100000
set_option linter.unusedSectionVars false
variable [Inhabited ComV] [DecidableEq D3] [Inhabited D3] [Inhabited Dd] [Inhabited Dn] [Inhabited OpV]

structure PutRetO (B nb : Nat) (s : St) (c : ComV) (p mb db n : Nat) (f : ByteArray → Value) (w : World) (R : ByteArray → List Rp) (D : Nat → Value) (e : Ending) (w' : World) : Prop where
  nil : e = .returned .nilIface
  st : ∃ f' R' E' D', VerAt w' p mb db f' (putTo s c c.ops.length) (n + 24) ∧ Turn w w' mb db f f' ∧ Keep3 w w' ∧ PutO B nb s c w R D c.ops.length w' f' R' E' D'
set_option maxHeartbeats 8000000 in
theorem put_okO (A : Nat → Addr) (w : World) (hE : E4 A w) (h4 : 12 ≤ w.heap.size) (p mb db n : Nat) (f : ByteArray → Value) (s : St) (hV : VerAt w p mb db f s n) (hn : n ≤ 1000000) (hrl : ∀ k, (rowOf s k).length ≤ 1000000)
    (c : ComV) (wv ov : Value) (hcT : ComT w [wv, .int .i64 c.place, ov] c) (hsm : ∀ o ∈ c.ops, Small o) (hc : comErr c = (0, none)) (hpl : c.when_.length = s.base.length) (hold : leB c.when_ s.base = false) (hbase : chk s.base = 0) (hnew : ∀ o ∈ c.ops, dotC c o ∉ s.dots)
    (B npl : Nat) (R : ByteArray → List Rp) (E : Nat → OpV) (D : Nat → Value) (hRO : RowsO B w npl f R E D) (habs : ∀ k, (R k).map (absR E) = rowOf s k) (hBw : B ≤ w.heap.size) (hnb : s.base.length = npl) (htx : ∀ o ∈ c.ops, o.text.size ≤ 1000) :
    Calls Tryz.prog 9 #[.pointer (some ⟨p, 0, none⟩), .agg #[wv, .int .i64 c.place, ov]] w fun e w' => PutRetO B npl s c p mb db n f w R D e w' := by
  have HRO := hid hRO; have HABS := hid habs; have HTX := hid htx; have HNB := hid (hpl.trans hnb); clear hRO habs htx hnb; obtain ⟨wv', ov', hwe0, hwT, hoT⟩ := hcT; injection hwe0 with e1 e2; injection e2 with _ e2; injection e2 with e2 _; subst e1 e2; have hw := hwT.at; have ho := hoT.at; have HWT := hid hwT; have HOT := hid hoT; clear hwT hoT; have hC := comOk_of (c := c) (by rw [hc]); have hw6 := (chk_zero.1 hC.chk).2.1; have hmo := hC.few; obtain ⟨w1, hw1⟩ : ∃ w1, w1 = w.alloc (.cells #[wv, .int .i64 c.place, ov] 34) := ⟨_, rfl⟩; have hb1 : Below w.heap.size w w1 := by rw [hw1]; exact below_alloc _ _
  have hbx1 : w1.heap[w.heap.size]? = some (.cells #[wv, .int .i64 c.place, ov] 34 (0, 0)) := by rw [hw1]; exact (MapKept.heap_alloc _ _).1
  have hV1 := hV.moved hb1; have K15 := checkCommit A w1 (hE.below hb1 h4) (by have := hb1.size; omega) c wv ov (hw.mono hb1 (Nat.le_refl _)) (ho.mono hb1 (Nat.le_refl _)) (by omega) (by omega) hsm; unfold ComRet at K15; rw [hc] at K15; have HC := hid hC; have HW := hid hw; have HO := hid ho; have HV := hid hV; have HE := hid hE; have HNEW := hid hnew; have HSM := hid hsm; have HRL := hid hrl; obtain ⟨av, cv, hwe, _, hwc⟩ := hw; subst hwe
  obtain ⟨b1, o1, rfl, hw2⟩ : ∃ b1 o1, av = some ⟨b1, o1, none⟩ ∧ ∀ t, t < c.when_.length → w.cell? ⟨b1, o1 + t, none⟩ = some (.int .i64 (c.when_.getD t 0)) := by
    rcases hwc with h | h
    · have := (chk_zero.1 hC.chk).1; rw [h] at this; simp at this
    · exact h
  obtain ⟨ao, co, hoe, _, _, hos⟩ := ho.shape; subst hoe; obtain ⟨b2, o2, rfl, hos2⟩ := hos.resolve_left hC.some_; obtain ⟨pn, hpn⟩ : ∃ pn : Nat, c.place = pn := ⟨c.place.toNat, by have := hC.lo; omega⟩; have hplt : pn < c.when_.length := by have := hC.hi; omega
  have ct := hw2 pn hplt; obtain ⟨T, hT⟩ : ∃ T, T = c.when_.getD pn 0 := ⟨_, rfl⟩; rw [← hT] at ct; have HT := hid hT; have CT := hid ct; have HOS := hid hos2
  have HTB : Hid (0 ≤ T ∧ T ≤ 1099511627776) := by
    have := (chk_zero.1 hC.chk).2.2 pn (by omega); rw [← hT] at this; exact this
  have hpn6 : pn ≤ 6 := by omega
  clear hwc hw2 hos hos2 hT ct; obtain ⟨nw, hnw⟩ : ∃ nw, nw = c.when_.length := ⟨_, rfl⟩; obtain ⟨no, hno⟩ : ∃ no, no = c.ops.length := ⟨_, rfl⟩; rw [← hnw, ← hno, hpn] at hw1 hbx1 K15 ⊢; rw [← hnw] at HW hplt; have HNW := hid hnw; have HNO := hid hno; have HPN := hid hpn; have HPB := hid hpl; have HOLD := hid hold; have HBASE := hid hbase; have hs1 : w.heap.size < w1.heap.size := lt_of_heap hbx1; have X1 := hid hbx1; have B1 := hid hb1; have V1 := hid hV1; have c0 : w1.cell? ⟨w.heap.size, 0, none⟩ = some (.slice (some ⟨b1, o1, none⟩) nw cv) := by simp only [World.cell?, hbx1]; rfl
  have c1 : w1.cell? ⟨w.heap.size, 1, none⟩ = some (.int .i64 pn) := by simp only [World.cell?, hbx1]; rfl
  have c2 : w1.cell? ⟨w.heap.size, 2, none⟩ = some (.slice (some ⟨b2, o2, none⟩) no co) := by simp only [World.cell?, hbx1]; rfl
  clear hV hE ho hsm hc hpl hold hbase hnew hC hnw hno hpn hb1 hV1 hbx1 hrl; go_enter Tryz.func9, Tryz.ntmps9; go_wp2_with fail; rw [← hw1]; refine K15.mono ?_; rintro e w2 ⟨v2, rfl, hv2, hb2⟩; obtain rfl := nil_of_err hv2; have B2 := hid (B1.out.trans (hb2.mono B1.out.size)); have V2 := hid (V1.out.moved hb2); have x2 : w2.heap[w.heap.size]? = some (.cells #[.slice (some ⟨b1, o1, none⟩) nw cv, .int .i64 pn, .slice (some ⟨b2, o2, none⟩) no co] 34 (0, 0)) := (hb2.block _ hs1).trans X1.out; have d0 : w2.cell? ⟨w.heap.size, 0, none⟩ = some (.slice (some ⟨b1, o1, none⟩) nw cv) := by simp only [World.cell?, x2]; rfl
  obtain ⟨ba, bc, p0, p1, p2, hbt, hpx⟩ := V2.out.boxAt; have K59 := checkVector_ok A w2 (HE.out.below B2.out h4) p _ s.base _ _ hpx hbt.at (.slice (some ⟨b1, o1, none⟩) nw cv) c.when_ (HW.out.mono B2.out (Nat.le_refl _)) HC.out.chk HPB.out; have K60 := fun W (hW : Below w2.heap.size w2 W) => within_ok A W (HE.out.below (B2.out.trans (hW.mono B2.out.size)) h4) (.slice (some ⟨b1, o1, none⟩) nw cv) _ c.when_ s.base (HW.out.mono (B2.out.trans (hW.mono B2.out.size)) (Nat.le_refl _)) (hbt.at.mono hW (Nat.le_refl _)) (two_zero.2 ⟨HC.out.chk, HBASE.out, HPB.out⟩)
  rw [HOLD.out] at K60; have X2 := hid x2; have HPX := hid hpx; clear K15 hv2 hb2 hw1 c0 c1 c2 x2 hbt hpx V1
  go_wp2_with (go_at_call 37; refine K59.mono ?_; rintro e w' ⟨rfl, hw'⟩; rw [hw'])
  obtain ⟨nb, hnb⟩ : ∃ nb, nb = s.base.length := ⟨_, rfl⟩; rw [← hnb] at p0 K60 HPX; clear hnb K59
  go_region_held (fun w' => w'.cell? ⟨w.heap.size, 0, none⟩ = some (.slice (some ⟨b1, o1, none⟩) nw cv) ∧ w'.cell? ⟨p, 0, none⟩ = some (.slice ba nb bc)) (go_keep) (first | (go_at_call 38; refine (K60 _ ?hb60).mono ?_; (case hb60 => exact below_draws (Below.refl _ _) 1); rintro e w3 ⟨rfl, q3, hq3⟩; have k0 : w3.cell? ⟨w.heap.size, 0, none⟩ = some (.slice (some ⟨b1, o1, none⟩) nw cv) := (by rw [hq3]; exact d0); have k1 : w3.cell? ⟨p, 0, none⟩ = some (.slice ba nb bc) := (by rw [hq3]; exact p0); have HQ3 := hid hq3; clear hq3))
  have hb23 : Below w2.heap.size w2 w3 := by rw [HQ3.out]; exact below_draws (below_draws (Below.refl _ _) 1) q3
  have B3 := hid (B2.out.trans (hb23.mono B2.out.size)); have V3 := hid (V2.out.moved hb23); have hs2 : w.heap.size < w2.heap.size := lt_of_heap X2.out; have x3 : w3.heap[w.heap.size]? = some (.cells #[.slice (some ⟨b1, o1, none⟩) nw cv, .int .i64 pn, .slice (some ⟨b2, o2, none⟩) no co] 34 (0, 0)) := (hb23.block _ hs2).trans X2.out; have e2 : w3.cell? ⟨w.heap.size, 2, none⟩ = some (.slice (some ⟨b2, o2, none⟩) no co) := by simp only [World.cell?, x3]; rfl
  have X3 := hid x3; clear HQ3 k0 k1 hb23 x3 d0 p0 p1 p2 K60 V2 X2 HPX; have hno12 : no ≤ 12 := by have := HNO.out; have := HC.out.few; omega
  go_wp2; clear e2
  go_loopw [36] (fun i wr => ∃ j : Nat, j ≤ no ∧ i = .int .i64 j ∧ Hid (Below w3.heap.size w3 wr)) (fun i _ => no - (intOf i).toNat)
  case atStart => exact ⟨0, Nat.zero_le _, rfl, Below.refl _ _⟩
  case round =>
    obtain ⟨j, hj, rfl, JB⟩ := hrel
    by_cases hjl : j < no
    · obtain ⟨dp, dc, hd, q0, q1, q2, q3, q4, q5, q6⟩ := HOS.out j (by have := HNO.out; omega); have up : ∀ {a : Addr} {v : Value}, w.cell? a = some v → wr.cell? a = some v := fun {a v} h => by rw [(B3.out.trans (JB.out.mono B3.out.size)).cell (lt_of_cell h)]; exact h
      have r0 := up q0; have r1 := up q1; have r2 := up q2; have r3 := up q3; have r4 := up q4; have r5 := up q5; have r6 := up q6; have hmem : c.ops[j]! ∈ c.ops := by rw [getElem!_pos c.ops j (by have := HNO.out; omega)]; exact List.getElem_mem _
      have hoe := opErr_of_bad (HC.out.ops j (by have := HNO.out; omega)); have hnw' := HNEW.out _ hmem; obtain ⟨y, hy⟩ : ∃ y, y = c.ops[j]! := ⟨_, rfl⟩; rw [← hy] at r0 r1 r2 r3 r4 r5 r6 hoe hnw'; have hat := at_of_opErr hoe; obtain ⟨x1, x2, x3, x4, x5, x6, ds⟩ := y; simp only at r0 r1 r2 r3 r4 r5 r6 hat; obtain ⟨dl, hdl⟩ : ∃ dl, dl = ds.length := ⟨_, rfl⟩; rw [← hdl] at r6; have hwf : Hid (wf3 ⟨pn, T, x1⟩) := ⟨wf_i64 (by simp only; omega) (by simp only; omega), wf_i64 HTB.out.1 HTB.out.2, wf_i64 hat.1 (by simp only; omega)⟩
      have hnd : (⟨pn, T, x1⟩ : D3) ∉ s.dots := by
        unfold dotC at hnw'; rw [HPN.out, Int.toNat_natCast, ← HT.out] at hnw'; exact hnw'
      have HND := hid (decide_eq_false hnd); clear q0 q1 q2 q3 q4 q5 q6 hd hmem hoe hnw' hy hat hdl hnd up; go_upto_region 12 with (fail); obtain ⟨wq, hwq⟩ : ∃ wq, wq = wr.alloc (.cells #[.int .i64 x1, .string x2, .int .i64 x3, .string x4, .int .i64 x5, .bool x6, .slice dp dl dc] 76) := ⟨_, rfl⟩; rw [← hwq]; have bq : Below wr.heap.size wr wq := by rw [hwq]; exact below_alloc _ _
      have B3q := hid (JB.out.trans (bq.mono JB.out.size)); have VQ := hid (V3.out.moved B3q.out); have xq : wq.heap[w.heap.size]? = some (.cells #[.slice (some ⟨b1, o1, none⟩) nw cv, .int .i64 pn, .slice (some ⟨b2, o2, none⟩) no co] 34 (0, 0)) := (B3q.out.block _ (lt_of_heap X3.out)).trans X3.out; have oq : wq.heap[wr.heap.size]? = some (.cells #[.int .i64 x1, .string x2, .int .i64 x3, .string x4, .int .i64 x5, .bool x6, .slice dp dl dc] 76 (0, 0)) := by rw [hwq]; exact (MapKept.heap_alloc _ _).1
      obtain ⟨_, _, _, _, m2, _, _⟩ := VQ.out.boxAt; have n0 : wq.cell? ⟨w.heap.size, 0, none⟩ = some (.slice (some ⟨b1, o1, none⟩) nw cv) := by simp only [World.cell?, xq]; rfl
      have n1 : wq.cell? ⟨w.heap.size, 1, none⟩ = some (.int .i64 pn) := by simp only [World.cell?, xq]; rfl
      have n2 : wq.cell? ⟨w.heap.size, 2, none⟩ = some (.slice (some ⟨b2, o2, none⟩) no co) := by simp only [World.cell?, xq]; rfl
      have u0 : wq.cell? ⟨wr.heap.size, 0, none⟩ = some (.int .i64 x1) := by simp only [World.cell?, oq]; rfl
      have u1 : wq.cell? ⟨wr.heap.size, 1, none⟩ = some (.string x2) := by simp only [World.cell?, oq]; rfl
      have u2 : wq.cell? ⟨wr.heap.size, 2, none⟩ = some (.int .i64 x3) := by simp only [World.cell?, oq]; rfl
      have u3 : wq.cell? ⟨wr.heap.size, 3, none⟩ = some (.string x4) := by simp only [World.cell?, oq]; rfl
      have u4 : wq.cell? ⟨wr.heap.size, 4, none⟩ = some (.int .i64 x5) := by simp only [World.cell?, oq]; rfl
      have u5 : wq.cell? ⟨wr.heap.size, 5, none⟩ = some (.bool x6) := by simp only [World.cell?, oq]; rfl
      have u6 : wq.cell? ⟨wr.heap.size, 6, none⟩ = some (.slice dp dl dc) := by simp only [World.cell?, oq]; rfl
      have ctq : wq.cell? ⟨b1, o1 + pn, none⟩ = some (.int .i64 T) := by rw [(B3.out.trans (B3q.out.mono B3.out.size)).cell (lt_of_cell CT.out)]; exact CT.out
      clear hwq bq xq oq r0 r1 r2 r3 r4 r5 r6
      go_region_held (fun w' => w'.cell? ⟨p, 2, none⟩ = some (.map (some db)) ∧ w'.cell? ⟨w.heap.size, 0, none⟩ = some (.slice (some ⟨b1, o1, none⟩) nw cv) ∧ w'.cell? ⟨w.heap.size, 1, none⟩ = some (.int .i64 pn) ∧ w'.cell? ⟨w.heap.size, 2, none⟩ = some (.slice (some ⟨b2, o2, none⟩) no co) ∧ w'.cell? ⟨wr.heap.size, 0, none⟩ = some (.int .i64 x1) ∧ w'.cell? ⟨wr.heap.size, 1, none⟩ = some (.string x2) ∧ w'.cell? ⟨wr.heap.size, 2, none⟩ = some (.int .i64 x3) ∧ w'.cell? ⟨wr.heap.size, 3, none⟩ = some (.string x4) ∧ w'.cell? ⟨wr.heap.size, 4, none⟩ = some (.int .i64 x5) ∧ w'.cell? ⟨wr.heap.size, 5, none⟩ = some (.bool x6) ∧ w'.cell? ⟨wr.heap.size, 6, none⟩ = some (.slice dp dl dc)) (go_keep) (first | (go_at_call 39; refine (dotOf_any _ b1 o1 nw cv pn T _ _ _ _ _ _ _ _ _ _ _ _ hplt ?hct).mono ?_; (case hct => first | exact ctq | exact cell_alloc ctq _); rintro e w5 ⟨rfl, hb5⟩; have up5 : ∀ {a : Addr} {v : Value}, wq.cell? a = some v → w5.cell? a = some v := (fun {a v} h => by first | (rw [hb5.cell (lt_of_cell h)]; exact h) | (rw [hb5.cell (lt_of_cell (cell_alloc h _))]; exact cell_alloc h _)); have hbq5 : Below wq.heap.size wq w5 := (by first | exact (below_draws (Below.refl wq.heap.size wq) 1).trans hb5 | exact (below_draws (below_alloc wq _) 1).trans (hb5.mono (by show wq.heap.size ≤ (wq.alloc _).heap.size; simp))); have V5 := VQ.out.moved hbq5; have hl5 : (Instr.lookup 81 (.map (some db)) (.agg #[.int .i64 pn, .int .i64 T, .int .i64 x1]) true).run Tryz.prog w5 = .ok (.tuple #[.agg #[], .bool false]) w5 := (by have h := V5.look ⟨pn, T, x1⟩ hwf.out; rw [HND.out] at h; exact h); have hl6 : ∀ o, (Instr.lookup 81 (.map (some db)) (.agg #[.int .i64 pn, .int .i64 T, .int .i64 x1]) true).run Tryz.prog (w5.alloc o) = .ok (.tuple #[.agg #[], .bool false]) (w5.alloc o) := (fun o => by have h := (V5.moved (below_alloc w5 o)).look ⟨pn, T, x1⟩ hwf.out; rw [HND.out] at h; exact h); have m2' := up5 m2; have n0' := up5 n0; have n1' := up5 n1; have n2' := up5 n2; have u0' := up5 u0; have u1' := up5 u1; have u2' := up5 u2; have u3' := up5 u3; have u4' := up5 u4; have u5' := up5 u5; have u6' := up5 u6; clear up5 V5; have HBQ5 := hid hbq5; clear hb5 hbq5))
      all_goals
        go_wp2; refine ⟨⟨j + 1, by omega, by go_num, ?_⟩, by simp [intOf]; omega⟩
        first
          | exact (B3q.out.trans (HBQ5.out.mono B3q.out.size)).alloc (Nat.le_trans B3q.out.size HBQ5.out.size) _
          | exact B3q.out.trans (HBQ5.out.mono B3q.out.size)
    · obtain rfl : j = no := by omega
      have xj : wr.heap[w.heap.size]? = some (.cells #[.slice (some ⟨b1, o1, none⟩) nw cv, .int .i64 pn, .slice (some ⟨b2, o2, none⟩) j co] 34 (0, 0)) := (JB.out.block _ (lt_of_heap X3.out)).trans X3.out; have g2 : wr.cell? ⟨w.heap.size, 2, none⟩ = some (.slice (some ⟨b2, o2, none⟩) j co) := by simp only [World.cell?, xj]; rfl
      have I0 : Hid (PutInv s c p mb db n f w 0 wr f) := by
        refine ⟨by rw [putTo_zero]; exact V3.out.moved JB.out, (Turn.refl w mb db f).below (B3.out.trans (JB.out.mono B3.out.size)), Keep3.of_below (B3.out.trans (JB.out.mono B3.out.size)) (Nat.le_refl _), fun k e => ?_, lt_of_heap xj⟩; have := HV.out.few k e; omega
      have XJ := hid xj; have O0 := hid (PutO.start c HRO.out HABS.out (B3.out.trans (JB.out.mono B3.out.size))); obtain ⟨i28, hi28, hy0, hy1, hy2⟩ := info_parts Tryz.info28o; clear xj; go_wp2; clear g2
      go_loopw [62] (fun i wr => ∃ (t : Nat) (ft : ByteArray → Value) (Rt : ByteArray → List Rp) (Et : Nat → OpV) (Dt : Nat → Value), t ≤ j ∧ i = .int .i64 t ∧ Hid (PutInv s c p mb db n f w t wr ft) ∧ Hid (PutO B npl s c w R D t wr ft Rt Et Dt) ∧ Hid (wr.heap[w.heap.size]? = some (.cells #[.slice (some ⟨b1, o1, none⟩) nw cv, .int .i64 pn, .slice (some ⟨b2, o2, none⟩) j co] 34 (0, 0)))) (fun i _ => j - (intOf i).toNat)
      case atStart => exact ⟨0, f, R, E, D, Nat.zero_le _, rfl, I0.out, O0.out, XJ.out⟩
      case round =>
        obtain ⟨t, ft, Rt, Et, Dt, ht, rfl, TI, TO, TX⟩ := hrel
        by_cases htl : t < j
        · have hot := HOT.out.kept TI.out.keep; obtain ⟨ao', co', hoe', _, _, hos'⟩ := hot.at.shape; injection hoe' with ea _ ec; subst ec; obtain ⟨b2', o2', eb, hos2'⟩ := hos'.resolve_left HC.out.some_; rw [eb] at ea; injection ea with ea; injection ea with eb1 eb2 _; subst eb1 eb2; obtain ⟨dp, dc, hd, r0, r1, r2, r3, r4, r5, r6⟩ := hos2' t (by have := HNO.out; omega); have hmem : c.ops[t]! ∈ c.ops := by rw [getElem!_pos c.ops t (by have := HNO.out; omega)]; exact List.getElem_mem _
          have hoe := opErr_of_bad (HC.out.ops t (by have := HNO.out; omega)); have hsmall := HSM.out _ hmem; have hput := putTo_succ s c (j := t) (by have := HNO.out; omega); have hIw := (HWT.out.kept TI.out.keep.ints); obtain ⟨y, hy⟩ : ∃ y, y = c.ops[t]! := ⟨_, rfl⟩; rw [← hy] at r0 r1 r2 r3 r4 r5 r6 hoe hd hsmall hput; have hat := at_of_opErr hoe; obtain ⟨x1, x2, x3, x4, x5, x6, ds⟩ := y; simp only at r0 r1 r2 r3 r4 r5 r6 hat hd hsmall; obtain ⟨dl, hdl⟩ : ∃ dl, dl = ds.length := ⟨_, rfl⟩; rw [← hdl] at r6 hd; have HY := hid hy; have hwf : Hid (wf3 ⟨pn, T, x1⟩) := ⟨wf_i64 (by simp only; omega) (by simp only; omega), wf_i64 HTB.out.1 HTB.out.2, wf_i64 hat.1 (by simp only; omega)⟩; have hkn := name_of_opErr hoe; have HD := hid hd; have HPUT := hid hput
          have HDOT : Hid (dotC c ⟨x1, x2, x3, x4, x5, x6, ds⟩ = ⟨pn, T, x1⟩) := by
            unfold dotC; rw [HPN.out, Int.toNat_natCast, ← HT.out]; exact rfl
          have HIW := hid hIw; have hx16 : x2.size ≤ 16 := hkn; have hds : ds.length ≤ 1000000 := hsmall.2; have HDL := hid hdl; clear hmem hoe hsmall hput hy hat hd hIw hdl hkn hot hos' hos2' eb; go_upto_region 19 with (fail); obtain ⟨wq, hwq⟩ : ∃ wq, wq = wr.alloc (.cells #[.int .i64 x1, .string x2, .int .i64 x3, .string x4, .int .i64 x5, .bool x6, .slice dp dl dc] 76) := ⟨_, rfl⟩; rw [← hwq]; have bq : Below wr.heap.size wr wq := by rw [hwq]; exact below_alloc _ _
          have VQ := hid (TI.out.ver.moved bq); have BQ := hid bq; have xq : wq.heap[w.heap.size]? = some (.cells #[.slice (some ⟨b1, o1, none⟩) nw cv, .int .i64 pn, .slice (some ⟨b2, o2, none⟩) j co] 34 (0, 0)) := (bq.block _ (lt_of_heap TX.out)).trans TX.out; have oq : wq.heap[wr.heap.size]? = some (.cells #[.int .i64 x1, .string x2, .int .i64 x3, .string x4, .int .i64 x5, .bool x6, .slice dp dl dc] 76 (0, 0)) := by rw [hwq]; exact (MapKept.heap_alloc _ _).1
          obtain ⟨_, _, _, m1, md, _, hpx⟩ := VQ.out.boxAt; have n0 : wq.cell? ⟨w.heap.size, 0, none⟩ = some (.slice (some ⟨b1, o1, none⟩) nw cv) := by simp only [World.cell?, xq]; rfl
          have n1 : wq.cell? ⟨w.heap.size, 1, none⟩ = some (.int .i64 pn) := by simp only [World.cell?, xq]; rfl
          have n2 : wq.cell? ⟨w.heap.size, 2, none⟩ = some (.slice (some ⟨b2, o2, none⟩) j co) := by simp only [World.cell?, xq]; rfl
          have u0 : wq.cell? ⟨wr.heap.size, 0, none⟩ = some (.int .i64 x1) := by simp only [World.cell?, oq]; rfl
          have u1 : wq.cell? ⟨wr.heap.size, 1, none⟩ = some (.string x2) := by simp only [World.cell?, oq]; rfl
          have u2 : wq.cell? ⟨wr.heap.size, 2, none⟩ = some (.int .i64 x3) := by simp only [World.cell?, oq]; rfl
          have u3 : wq.cell? ⟨wr.heap.size, 3, none⟩ = some (.string x4) := by simp only [World.cell?, oq]; rfl
          have u4 : wq.cell? ⟨wr.heap.size, 4, none⟩ = some (.int .i64 x5) := by simp only [World.cell?, oq]; rfl
          have u5 : wq.cell? ⟨wr.heap.size, 5, none⟩ = some (.bool x6) := by simp only [World.cell?, oq]; rfl
          have u6 : wq.cell? ⟨wr.heap.size, 6, none⟩ = some (.slice dp dl dc) := by simp only [World.cell?, oq]; rfl
          have ctq : wq.cell? ⟨b1, o1 + pn, none⟩ = some (.int .i64 T) := by
            have h := ints_cell HIW.out (t := pn) (by have := HNW.out; omega); rw [← HT.out] at h; rw [BQ.out.cell (lt_of_cell h)]; exact h
          have OQH := hid oq; have XQ := hid xq; clear hwq bq xq r0 r1 r2 r3 r4 r5 r6 oq hpx; have hn2 : n + 2 * t < 9000000 := by omega
          go_region_held (fun w' => w'.cell? ⟨p, 2, none⟩ = some (.map (some db)) ∧ w'.cell? ⟨w.heap.size, 0, none⟩ = some (.slice (some ⟨b1, o1, none⟩) nw cv) ∧ w'.cell? ⟨w.heap.size, 1, none⟩ = some (.int .i64 pn) ∧ w'.cell? ⟨w.heap.size, 2, none⟩ = some (.slice (some ⟨b2, o2, none⟩) j co) ∧ w'.cell? ⟨wr.heap.size, 0, none⟩ = some (.int .i64 x1) ∧ w'.cell? ⟨wr.heap.size, 1, none⟩ = some (.string x2) ∧ w'.cell? ⟨wr.heap.size, 2, none⟩ = some (.int .i64 x3) ∧ w'.cell? ⟨wr.heap.size, 3, none⟩ = some (.string x4) ∧ w'.cell? ⟨wr.heap.size, 4, none⟩ = some (.int .i64 x5) ∧ w'.cell? ⟨wr.heap.size, 5, none⟩ = some (.bool x6) ∧ w'.cell? ⟨wr.heap.size, 6, none⟩ = some (.slice dp dl dc)) (go_keep) (first | (go_at_call 39; refine (dotOf_any _ b1 o1 nw cv pn T _ _ _ _ _ _ _ _ _ _ _ _ hplt ?hct).mono ?_; (case hct => exact ctq); rintro e w5 ⟨rfl, hb5⟩; have hbq5 : Below wq.heap.size wq w5 := (below_draws (Below.refl wq.heap.size wq) 1).trans hb5; have up5 : ∀ {a : Addr} {v : Value}, wq.cell? a = some v → w5.cell? a = some v := (fun {a v} h => by rw [hbq5.cell (lt_of_cell h)]; exact h); have V5 := VQ.out.moved hbq5; obtain ⟨D5, hD5, hs5⟩ := V5.dots; obtain ⟨w6, hrun6, hm6, hg6⟩ := hD5.update keyed65 Tryz.underlying81 (show n + 2 * t < maxLen from (by unfold maxLen; omega)) (key_dot ⟨pn, T, x1⟩ hwf.out) unitElem_mk; simp only at hrun6; have up6 : ∀ {a : Addr} {v : Value}, w5.cell? a = some v → w6.cell? a = some v := (fun {a v} h => hg6.cell h (fun e => cell_ne_map hD5 h (Option.some.inj e))); have mda := up5 md; have m1a := up5 m1; have n0a := up5 n0; have n1a := up5 n1; have n2a := up5 n2; have u0a := up5 u0; have u1a := up5 u1; have u2a := up5 u2; have u3a := up5 u3; have u4a := up5 u4; have u5a := up5 u5; have u6a := up5 u6; have mdb := up6 mda; have m1b := up6 m1a; have n0b := up6 n0a; have n1b := up6 n1a; have n2b := up6 n2a; have u0b := up6 u0a; have u1b := up6 u1a; have u2b := up6 u2a; have u3b := up6 u3a; have u4b := up6 u4a; have u5b := up6 u5a; have u6b := up6 u6a; have H5 := hid hbq5; have HV5 := hid V5; have HD5 := hid hD5; have HS5 := hid hs5; have HM6 := hid hm6; have HG6 := hid hg6; clear up5 up6 hb5 hbq5 V5 hD5 hs5 hm6 hg6))
          clear m1 n0 n1 n2 u0 u1 u2 u3 u4 u5 u6 md m1a n0a n1a n2a u0a u1a u2a u3a u4a u5a u6a mda mdb m1b n0b n1b n2b u0b u1b u2b u3b u4b u5b u6b; have V6 := hid (HV5.out.addDot HD5.out HS5.out hwf.out HG6.out HM6.out); have hx5 : w5.heap[w.heap.size]? = some (.cells #[.slice (some ⟨b1, o1, none⟩) nw cv, .int .i64 pn, .slice (some ⟨b2, o2, none⟩) j co] 34 (0, 0)) := (H5.out.block _ (lt_of_heap XQ.out)).trans XQ.out; have hx6 : w6.heap[w.heap.size]? = some (.cells #[.slice (some ⟨b1, o1, none⟩) nw cv, .int .i64 pn, .slice (some ⟨b2, o2, none⟩) j co] 34 (0, 0)) := (HG6.out.block _ (lt_of_heap hx5) (fun e => cells_ne_map HD5.out hx5 (Option.some.inj e))).trans hx5; have ho5 : w5.heap[wr.heap.size]? = some (.cells #[.int .i64 x1, .string x2, .int .i64 x3, .string x4, .int .i64 x5, .bool x6, .slice dp dl dc] 76 (0, 0)) := (H5.out.block _ (lt_of_heap OQH.out)).trans OQH.out
          have ho6 : w6.heap[wr.heap.size]? = some (.cells #[.int .i64 x1, .string x2, .int .i64 x3, .string x4, .int .i64 x5, .bool x6, .slice dp dl dc] 76 (0, 0)) := (HG6.out.block _ (lt_of_heap ho5) (fun e => cells_ne_map HD5.out ho5 (Option.some.inj e))).trans ho5; obtain ⟨ba6, bc6, _, _, _, _, hp6⟩ := V6.out.boxAt
          have HELD : Hid (∀ u : World, u.heap[p]? = w6.heap[p]? → u.heap[w.heap.size]? = w6.heap[w.heap.size]? → u.heap[wr.heap.size]? = w6.heap[wr.heap.size]? → u.cell? ⟨p, 1, none⟩ = some (.map (some mb)) ∧ u.cell? ⟨w.heap.size, 0, none⟩ = some (.slice (some ⟨b1, o1, none⟩) nw cv) ∧ u.cell? ⟨w.heap.size, 1, none⟩ = some (.int .i64 pn) ∧ u.cell? ⟨w.heap.size, 2, none⟩ = some (.slice (some ⟨b2, o2, none⟩) j co) ∧ u.cell? ⟨wr.heap.size, 0, none⟩ = some (.int .i64 x1) ∧ u.cell? ⟨wr.heap.size, 1, none⟩ = some (.string x2) ∧ u.cell? ⟨wr.heap.size, 2, none⟩ = some (.int .i64 x3) ∧ u.cell? ⟨wr.heap.size, 3, none⟩ = some (.string x4) ∧ u.cell? ⟨wr.heap.size, 4, none⟩ = some (.int .i64 x5) ∧ u.cell? ⟨wr.heap.size, 5, none⟩ = some (.bool x6) ∧ u.cell? ⟨wr.heap.size, 6, none⟩ = some (.slice dp dl dc)) := (show ∀ u : World, _ from fun u p1 p2 p3 => by
            have a1 := p1.trans hp6; have a2 := p2.trans hx6; have a3 := p3.trans ho6; refine ⟨?_, ?_, ?_, ?_, ?_, ?_, ?_, ?_, ?_, ?_, ?_⟩
            · simp only [World.cell?, a1]; rfl
            · simp only [World.cell?, a2]; rfl
            · simp only [World.cell?, a2]; rfl
            · simp only [World.cell?, a2]; rfl
            all_goals (simp only [World.cell?, a3]; rfl))
          obtain ⟨rows6, hrow6, hF6⟩ := V6.out.rows x2; obtain ⟨L, hL⟩ : ∃ L, L = (rowOf ⟨(putTo s c t).base, (putTo s c t).parts, (putTo s c t).dots ++ [⟨pn, T, x1⟩]⟩ x2).length := ⟨_, rfl⟩; rw [← hL] at hrow6
          have hLb : L ≤ 2000000 := by
            have h1 := rowOf_putTo s c t x2; have h2 := HRL.out x2; have h3 : L = (rowOf (putTo s c t) x2).length := hL; omega
          obtain ⟨fv, hfv⟩ : ∃ fv, fv = ft x2 := ⟨_, rfl⟩; have HFV := hid hfv; have HL := hid hL
          have HB : Hid (fv.ownBlock ≠ some p ∧ fv.ownBlock ≠ some w.heap.size ∧ fv.ownBlock ≠ some wr.heap.size ∧ p ≠ mb ∧ w.heap.size ≠ mb ∧ wr.heap.size ≠ mb ∧ p < w6.heap.size ∧ w.heap.size < w6.heap.size ∧ wr.heap.size < w6.heap.size) := (show _ ∧ _ from by
            obtain ⟨Dm, hDm, _⟩ := V6.out.map; refine ⟨fun e => ?_, by rw [hfv]; exact TI.out.off x2, fun e => ?_, cells_ne_map hDm hp6, cells_ne_map hDm hx6, cells_ne_map hDm ho6, lt_of_heap hp6, lt_of_heap hx6, lt_of_heap ho6⟩
            · rw [hfv] at e; obtain ⟨cs, hcs⟩ := own_type hrow6 e; rw [hp6] at hcs; injection hcs with hcs; injection hcs with _ hcs; cases hcs
            · rw [hfv] at e; have := TI.out.ver.few x2 e; omega)
          have LOOK : Hid (∀ W, Below w6.heap.size w6 W → (Instr.lookup 80 (.map (some mb)) (.string x2) false).run Tryz.prog W = .ok fv W) := (show ∀ W, _ → _ from fun W hW => by rw [hfv]; exact (V6.out.moved hW).row x2 (by omega)); have hr6 := LOOK.out w6.drew (Below.refl w6.heap.size w6).drew
          have K62b : Hid (∀ W, Below w6.heap.size w6 W → Calls Tryz.prog 40 #[.agg #[.slice (some ⟨b1, o1, none⟩) nw cv, .int .i64 pn, .slice (some ⟨b2, o2, none⟩) j co], .agg #[.int .i64 x1, .string x2, .int .i64 x3, .string x4, .int .i64 x5, .bool x6, .slice dp dl dc]] W fun e w' => ∃ a1 c1 a2 gg dv, e = .returned (.agg #[.slice a1 nw c1, .int .i64 pn, .slice a2 1 1]) ∧ a2 = some ⟨gg, 0, none⟩ ∧ (IntsT w' (.slice a1 nw c1) c.when_ ∧ w'.heap[gg]? = some (.cells (opCells ⟨x1, x2, x3, x4, x5, x6, ds⟩ dv).toArray 76 (0, 0)) ∧ W.heap.size ≤ gg ∧ w'.ownsRow W.heap.size 87 3 dv ds.length (ds.flatMap D3.cells)) ∧ Below W.heap.size W w') := (show ∀ W, _ → _ from fun W hW => by
            have h1 : IntsAt W (.slice (some ⟨b1, o1, none⟩) nw cv) c.when_ := by
              have h1 : IntsT w6 (.slice (some ⟨b1, o1, none⟩) nw cv) c.when_ := by
                have h := (RowT.kept (RowT.kept HIW.out (Keep3.of_below (BQ.out.trans (H5.out.mono BQ.out.size)) (Nat.le_refl _)).ints) (keep3_map HD5.out HG6.out).ints); rw [← HNW.out] at h; exact h
              exact h1.at.mono hW (Nat.le_refl _)
            have h2 : DotsAt W (.slice dp dl dc) ds := (rowAt_cells (HD.out.mono (BQ.out.trans (H5.out.mono BQ.out.size)) (Nat.le_refl _)) (fun a u h => HG6.out.cell h (fun e => cell_ne_map HD5.out h (Option.some.inj e))) : DotsAt w6 (.slice dp dl dc) ds).mono hW (Nat.le_refl _); have h := partOf_own W ⟨c.when_, pn, c.ops⟩ ⟨x1, x2, x3, x4, x5, x6, ds⟩ (.slice (some ⟨b1, o1, none⟩) nw cv) (some ⟨b2, o2, none⟩) j co (.slice dp dl dc) h1 h2 (by simp only; omega) hds; refine h.mono ?_; rintro e w' ⟨a1, c1, gg, dv, he, hf, hb⟩; simp only at he hf; rw [← HNW.out] at he hf; exact ⟨a1, c1, _, gg, dv, he, rfl, hf, hb⟩)
          have PFIN : Hid (∀ (w7 : World) (a7 : Option Addr) (c7 : Nat) (a8 : Option Addr) (gg : Nat) (dv : Value), a8 = some ⟨gg, 0, none⟩ → (IntsT w7 (.slice a7 nw c7) c.when_ ∧ w7.heap[gg]? = some (.cells (opCells ⟨x1, x2, x3, x4, x5, x6, ds⟩ dv).toArray 76 (0, 0)) ∧ w6.heap.size ≤ gg ∧ w7.ownsRow w6.heap.size 87 3 dv ds.length (ds.flatMap D3.cells)) → ComT w7 [.slice a7 nw c7, .int .i64 pn, .slice a8 1 1] (partC c ⟨x1, x2, x3, x4, x5, x6, ds⟩)) := (show ∀ w7 a7 c7 a8 gg dv, _ → _ → _ from fun w7 a7 c7 a8 gg dv e8 h => by
            subst e8; have h0 := h.1; rw [HNW.out] at h0; have h1 := part_fin (wf := w7) (pl := c.place) (o := ⟨x1, x2, x3, x4, x5, x6, ds⟩) h0 h.2.1 (dotsT_of_owns h.2.2.2); rw [← HNW.out, HPN.out] at h1; unfold partC; rw [HPN.out]; exact h1)
          have STEP : Hid (∀ (w7 : World) (a7 : Option Addr) (c7 : Nat) (a8 : Option Addr), ComT w7 [.slice a7 nw c7, .int .i64 pn, .slice a8 1 1] (partC c ⟨x1, x2, x3, x4, x5, x6, ds⟩) → Below w6.heap.size w6 w7 → ∃ rs, (w7.alloc (.cells #[.slice a7 nw c7, .int .i64 pn, .slice a8 1 1] 34)).ownsRow 0 34 3 fv L rs ∧ ∀ v9 w9, w9.ownsRow 0 34 3 v9 (L + 1) (rs ++ [.slice a7 nw c7, .int .i64 pn, .slice a8 1 1]) → (w7.alloc (.cells #[.slice a7 nw c7, .int .i64 pn, .slice a8 1 1] 34)).grownBy w9 fv.ownBlock → (v9.ownBlock = fv.ownBlock ∨ v9.ownBlock = some (w7.alloc (.cells #[.slice a7 nw c7, .int .i64 pn, .slice a8 1 1] 34)).heap.size) →
              ∃ w10, (Instr.mapUpdate 80 (.map (some mb)) (.string x2) v9).run Tryz.prog w9 = .ok () w10 ∧ Stepped (w7.alloc (.cells #[.slice a7 nw c7, .int .i64 pn, .slice a8 1 1] 34)) p mb db (n + 2 * t + 1) ft ⟨(putTo s c t).base, (putTo s c t).parts, (putTo s c t).dots ++ [⟨pn, T, x1⟩]⟩ (partC c ⟨x1, x2, x3, x4, x5, x6, ds⟩) fv v9 w9 w10) := (show ∀ w7 a7 c7 a8, _ → _ → _ from fun w7 a7 c7 a8 hct7 hb67 =>
            (V6.out.moved (hb67.trans ((below_alloc w7 _).mono hb67.size))).step2 (by omega) (partC c ⟨x1, x2, x3, x4, x5, x6, ds⟩) _ _ _ (hct7.kept (Keep3.of_below (below_alloc w7 _) (Nat.le_refl _))) (show x2.size ≤ 1000000 by omega) fv hfv.symm L hL.symm)
          have K62d := hid (K62b.out w6.drew (Below.refl w6.heap.size w6).drew); have hk2 : L + 1 ≤ maxLen := by unfold maxLen; omega
          have hk3 : (L + 1) * 56 ≤ 140737488355328 := by omega
          have hd6 : w6.drew.heap[p]? = w6.heap[p]? := rfl; have X6 := hid hx6; have P6 := hid hp6; have O6 := hid ho6; clear hrow6 hF6 hfv hL hx5 hx6 ho5 ho6 hp6; go_upto_region 20 with (fail)
          go_region_held_law (fun u => u.cell? ⟨p, 1, none⟩ = some (.map (some mb)) ∧ u.cell? ⟨w.heap.size, 0, none⟩ = some (.slice (some ⟨b1, o1, none⟩) nw cv) ∧ u.cell? ⟨w.heap.size, 1, none⟩ = some (.int .i64 pn) ∧ u.cell? ⟨w.heap.size, 2, none⟩ = some (.slice (some ⟨b2, o2, none⟩) j co) ∧ u.cell? ⟨wr.heap.size, 0, none⟩ = some (.int .i64 x1) ∧ u.cell? ⟨wr.heap.size, 1, none⟩ = some (.string x2) ∧ u.cell? ⟨wr.heap.size, 2, none⟩ = some (.int .i64 x3) ∧ u.cell? ⟨wr.heap.size, 3, none⟩ = some (.string x4) ∧ u.cell? ⟨wr.heap.size, 4, none⟩ = some (.int .i64 x5) ∧ u.cell? ⟨wr.heap.size, 5, none⟩ = some (.bool x6) ∧ u.cell? ⟨wr.heap.size, 6, none⟩ = some (.slice dp dl dc)) ((refine HELD.out _ ?_ ?_ ?_ <;> first | with_reducible assumption | rfl)) (first
            | (refine step_append_at rfl _ _ 22 rfl 0 34 i28 _ 3 56 Tryz.underlying22 hi28 hy0 hy1 hy2 rfl (by decide) fv L _ rfl ROW8.out _ 1 1 [.slice a7 nw c7, .int .i64 pn, .slice a8 1 1] rfl rfl (cells3_new _ _ _) ONE8.out hk2 hk3 (Nat.zero_le _) ?_; intro v9 w9 hrow9 hgr9 hat9; obtain ⟨w10, hrun10, hst10⟩ := STEP8.out v9 w9 hrow9 hgr9 hat9; have s9p : w9.heap[p]? = w6.heap[p]? := (hst10.old9 _ (Nat.lt_of_lt_of_le HB.out.2.2.2.2.2.2.1 H68.out.size) HB.out.1).trans s8p; have s9x : w9.heap[w.heap.size]? = w6.heap[w.heap.size]? := (hst10.old9 _ (Nat.lt_of_lt_of_le HB.out.2.2.2.2.2.2.2.1 H68.out.size) HB.out.2.1).trans s8x; have s9o : w9.heap[wr.heap.size]? = w6.heap[wr.heap.size]? := (hst10.old9 _ (Nat.lt_of_lt_of_le HB.out.2.2.2.2.2.2.2.2 H68.out.size) HB.out.2.2.1).trans s8o; have s10p : w10.heap[p]? = w6.heap[p]? := (hst10.old10 _ (Nat.lt_of_lt_of_le HB.out.2.2.2.2.2.2.1 H68.out.size) HB.out.2.2.2.1 HB.out.1).trans s8p; have s10x : w10.heap[w.heap.size]? = w6.heap[w.heap.size]? := (hst10.old10 _ (Nat.lt_of_lt_of_le HB.out.2.2.2.2.2.2.2.1 H68.out.size) HB.out.2.2.2.2.1 HB.out.2.1).trans s8x; have s10o : w10.heap[wr.heap.size]? = w6.heap[wr.heap.size]? := (hst10.old10 _ (Nat.lt_of_lt_of_le HB.out.2.2.2.2.2.2.2.2 H68.out.size) HB.out.2.2.2.2.2.1 HB.out.2.2.1).trans s8o; have ROW9 := hid hrow9; have ST10 := hid hst10; have AT9 := hid hat9; have G9 := hid hgr9; clear hst10 hat9 hgr9 hrow9)
            | (go_simp; refine K62d.out.mono ?_; rintro e w7 ⟨a7, c7, a8, gg, dv, rfl, ha8, hown7, hb7⟩; have hct7 := PFIN.out w7 a7 c7 a8 gg dv ha8 hown7; have HA8 := hid ha8; have OWN7 := hid hown7; clear ha8 hown7; have hb67 : Below w6.heap.size w6 w7 := below_undrew hb7; have hr7 := LOOK.out w7 hb67; obtain ⟨rs, hrow8, hstep8⟩ := STEP.out w7 a7 c7 a8 hct7 hb67; have hb68 : Below w6.heap.size w6 (w7.alloc (.cells #[.slice a7 nw c7, .int .i64 pn, .slice a8 1 1] 34)) := hb67.trans ((below_alloc w7 _).mono hb67.size); have s7p : w7.heap[p]? = w6.heap[p]? := hb67.block _ HB.out.2.2.2.2.2.2.1; have s7x : w7.heap[w.heap.size]? = w6.heap[w.heap.size]? := hb67.block _ HB.out.2.2.2.2.2.2.2.1; have s7o : w7.heap[wr.heap.size]? = w6.heap[wr.heap.size]? := hb67.block _ HB.out.2.2.2.2.2.2.2.2; have s8p : (w7.alloc (.cells #[.slice a7 nw c7, .int .i64 pn, .slice a8 1 1] 34)).heap[p]? = w6.heap[p]? := hb68.block _ HB.out.2.2.2.2.2.2.1; have s8x : (w7.alloc (.cells #[.slice a7 nw c7, .int .i64 pn, .slice a8 1 1] 34)).heap[w.heap.size]? = w6.heap[w.heap.size]? := hb68.block _ HB.out.2.2.2.2.2.2.2.1; have s8o : (w7.alloc (.cells #[.slice a7 nw c7, .int .i64 pn, .slice a8 1 1] 34)).heap[wr.heap.size]? = w6.heap[wr.heap.size]? := hb68.block _ HB.out.2.2.2.2.2.2.2.2; have hr8 := LOOK.out (w7.alloc (.cells #[.slice a7 nw c7, .int .i64 pn, .slice a8 1 1] 34)) hb68; have ROW8 := hid hrow8; have STEP8 := hid hstep8; have H67 := hid hb67; have H68 := hid hb68; have ONE8 := hid (one3v (.slice a7 nw c7) (.slice a8 1 1) pn a7 a8 nw c7 1 1 rfl rfl); clear hct7 hb7 hb67 hb68 hrow8 hstep8; dsimp only))
          all_goals
            have PI := hid (TI.out.next (BQ.out.trans (H5.out.mono BQ.out.size)) HD5.out HG6.out H68.out HFV.out G9.out AT9.out ST10.out rfl (by rw [HPUT.out, HDOT.out]; rfl)); have PO := hid (TO.out.next (o := ⟨x1, x2, x3, x4, x5, x6, ds⟩) TI.out.ver (BQ.out.trans (H5.out.mono BQ.out.size)) HD5.out HG6.out H67.out (below_alloc w7 _) (by rw [← HNW.out]; exact OWN7.out.1) OWN7.out.2.1 OWN7.out.2.2.1 OWN7.out.2.2.2 (by have := HNO.out; omega) HY.out HC.out HNB.out (HTX.out _ (by rw [HY.out, getElem!_pos c.ops t (by have := HNO.out; omega)]; exact List.getElem_mem _)) hBw HFV.out HL.out ROW8.out (by rw [← HNW.out, HPN.out, ← HA8.out]; exact ROW9.out) G9.out AT9.out ST10.out.grown); go_wp2; refine ⟨⟨t + 1, _, _, _, _, by omega, by go_num, PI.out, PO.out, s10x.trans X6.out⟩, by simp [intOf]; omega⟩
        · obtain rfl : t = j := by omega
          have hI := TI.out; have HF := hid hI.ver; have HTU := hid hI.turn; have HKE := hid hI.keep; have HTO := hid TO.out; clear hI; go_wp2; go_ret; exact ⟨rfl, ft, Rt, Et, Dt, by rw [HNO.out] at HF; exact HF.out.more (by have := HNO.out; omega), HTU.out, HKE.out, by rw [← HNO.out]; exact HTO.out⟩
end Go.Proofs.YtdnebclemngdcaaGreatDoor
namespace Go.Proofs.YtdnebclemngdcaaGreatDoor
open Go.RowKit Go.Sort Go.Maps
set_option maxRecDepth 100000
set_option linter.unusedSectionVars false
variable [Inhabited ComV] [DecidableEq D3] [Inhabited D3] [Inhabited Dd] [Inhabited Dn] [Inhabited OpV]

def Owns (p mb db : Nat) (f : ByteArray → Value) (R : ByteArray → List Rp) (D : Nat → Value) (b : Nat) : Prop := b = p ∨ b = mb ∨ b = db ∨ (∃ k, (f k).ownBlock = some b) ∨ ∃ k, b ∈ blocksG (R k) D
structure Moves (w w' : World) (O O' : Nat → Prop) : Prop where
  os : w'.os = w.os
  tape : w'.tape = w.tape
  output : w'.output = w.output
  size : w.heap.size ≤ w'.heap.size
  off : ∀ b, b < w.heap.size → ¬ O b → w'.heap[b]? = w.heap[b]?
  own : ∀ b, O' b → O b ∨ w.heap.size ≤ b
theorem mem_blocksG {rs : List Rp} {D : Nat → Value} {b : Nat} : b ∈ blocksG rs D ↔ (∃ r ∈ rs, r.g = b) ∨ ∃ r ∈ rs, (D r.g).ownBlock = some b := by
  unfold blocksG; rw [List.mem_append, List.mem_map, List.mem_flatMap]
  constructor
  · rintro (h | ⟨r, hr, h⟩)
    · exact .inl h
    · exact .inr ⟨r, hr, mem_ownL.1 h⟩
  · rintro (h | ⟨r, hr, h⟩)
    · exact .inl h
    · exact .inr ⟨r, hr, mem_ownL.2 h⟩
structure Store (B : Nat) (w : World) (p mb db n nb : Nat) (f : ByteArray → Value) (s : St) (R : ByteArray → List Rp) (E : Nat → OpV) (D : Nat → Value) : Prop where
  ver : VerO B w p mb db n nb f s R E D
  ok : StOk s nb
  hp : B ≤ p
  hm : B ≤ mb
  hd : B ≤ db
theorem Store.ge {B : Nat} {w : World} {p mb db n nb : Nat} {f : ByteArray → Value} {s : St} {R : ByteArray → List Rp} {E : Nat → OpV} {D : Nat → Value} (h : Store B w p mb db n nb f s R E D) {b : Nat} (hb : Owns p mb db f R D b) : B ≤ b := by
  rcases hb with rfl | rfl | rfl | ⟨k, hb⟩ | ⟨k, hb⟩
  · exact h.hp
  · exact h.hm
  · exact h.hd
  · exact ((h.ver.rows.rows k).lt b hb).1
  · rcases mem_blocksG.1 hb with ⟨r, hr, rfl⟩ | ⟨r, hr, hb⟩
    · exact (h.ver.rows.ge k r hr).1
    · exact (h.ver.rows.ge k r hr).2 b hb
theorem Store.lt {B : Nat} {w : World} {p mb db n nb : Nat} {f : ByteArray → Value} {s : St} {R : ByteArray → List Rp} {E : Nat → OpV} {D : Nat → Value} (h : Store B w p mb db n nb f s R E D) {b : Nat} (hb : Owns p mb db f R D b) : b < w.heap.size := by
  rcases hb with rfl | rfl | rfl | ⟨k, hb⟩ | ⟨k, hb⟩
  · obtain ⟨_, h1, _⟩ := h.ver.box; exact lt_of_heapQ h1
  · obtain ⟨_, h1, _⟩ := h.ver.map; exact h1.lt
  · obtain ⟨_, h1, _⟩ := h.ver.dots; exact h1.lt
  · exact ((h.ver.rows.rows k).lt b hb).2
  · rcases blocksG_type (h.ver.rows.po k) hb with ⟨_, e, _⟩ | ⟨_, e, _⟩
    · exact lt_of_heapQ e
    · exact lt_of_heapQ e
theorem Store.type {B : Nat} {w : World} {p mb db n nb : Nat} {f : ByteArray → Value} {s : St} {R : ByteArray → List Rp} {E : Nat → OpV} {D : Nat → Value} (h : Store B w p mb db n nb f s R E D) {b : Nat} (hb : Owns p mb db f R D b) {cs : Array Value} {t : TypeId} (hc : w.heap[b]? = some (.cells cs t (0, 0))) : t = 83 ∨ t = 34 ∨ t = 76 ∨ t = 87 := by
  rcases hb with rfl | rfl | rfl | ⟨k, hb⟩ | ⟨k, hb⟩
  · obtain ⟨_, h1, _⟩ := h.ver.box; exact .inl (cells_type hc h1)
  · obtain ⟨_, h1, _⟩ := h.ver.map; exact absurd hc (map_no_cells h1 _ _)
  · obtain ⟨_, h1, _⟩ := h.ver.dots; exact absurd hc (map_no_cells h1 _ _)
  · obtain ⟨_, h1⟩ := own_type (h.ver.rows.rows k) hb; exact .inr (.inl (cells_type hc h1))
  · rcases blocksG_type (h.ver.rows.po k) hb with ⟨_, e, _⟩ | ⟨_, e, _⟩
    · exact .inr (.inr (.inl (cells_type hc e)))
    · exact .inr (.inr (.inr (cells_type hc e)))
theorem Store.keepT {B : Nat} {w w' : World} {p mb db n nb : Nat} {f : ByteArray → Value} {s : St} {R : ByteArray → List Rp} {E : Nat → OpV} {D : Nat → Value} (h : Store B w p mb db n nb f s R E D) {O' : Nat → Prop} (hm : Moves w w' (Owns p mb db f R D) O') {t : TypeId} (ht : t ≠ 83 ∧ t ≠ 34 ∧ t ≠ 76 ∧ t ≠ 87) : KeepT t w w' := fun b cs hb => hm.off b (lt_of_heapQ hb) fun ho => by
  rcases h.type ho hb with e | e | e | e
  · exact ht.1 e
  · exact ht.2.1 e
  · exact ht.2.2.1 e
  · exact ht.2.2.2 e
theorem Store.below {B : Nat} {w w' : World} {p mb db n nb : Nat} {f : ByteArray → Value} {s : St} {R : ByteArray → List Rp} {E : Nat → OpV} {D : Nat → Value} (h : Store B w p mb db n nb f s R E D) (hb : Below w.heap.size w w') : Store B w' p mb db n nb f s R E D := ⟨h.ver.below hb, h.ok, h.hp, h.hm, h.hd⟩
theorem Store.belowOf {B : Nat} {w w' : World} {p mb db n nb : Nat} {f : ByteArray → Value} {s : St} {R : ByteArray → List Rp} {E : Nat → OpV} {D : Nat → Value} (h : Store B w p mb db n nb f s R E D) {O' : Nat → Prop} (hm : Moves w w' (Owns p mb db f R D) O') : Below B w w' := ⟨hm.os, hm.tape, hm.output, hm.size, fun b hb => hm.off b (Nat.lt_of_lt_of_le hb (Nat.le_trans h.hp (Nat.le_of_lt (h.lt (.inl rfl))))) fun ho => by have := h.ge ho; omega⟩
theorem Store.framed {B : Nat} {w w' : World} {p mb db n nb : Nat} {f : ByteArray → Value} {s : St} {R : ByteArray → List Rp} {E : Nat → OpV} {D : Nat → Value} (h : Store B w p mb db n nb f s R E D) (hk : ∀ b, Owns p mb db f R D b → w'.heap[b]? = w.heap[b]?) (hi : KeepT 3 w w') : Store B w' p mb db n nb f s R E D := by
  obtain ⟨bv, h1, h2⟩ := h.ver.box; obtain ⟨Dm, h3, h4⟩ := h.ver.map; obtain ⟨Dd, h5, h6⟩ := h.ver.dots; refine ⟨⟨⟨bv, (hk p (.inl rfl)).trans h1, RowT.kept h2 hi⟩, ⟨Dd, ownsMap_block h5 (hk db (.inr (.inr (.inl rfl)))), h6⟩, ⟨Dm, ownsMap_block h3 (hk mb (.inr (.inl rfl))), h4⟩, ⟨fun k => ?_, fun k => ⟨fun r hr => ?_, fun r hr => ?_, fun r hr => ?_, (h.ver.rows.po k).pf⟩, h.ver.rows.nd, h.ver.rows.ap, h.ver.rows.sep, h.ver.rows.apart, h.ver.rows.ge⟩, h.ver.abs_, h.ver.ne⟩, h.ok, h.hp, h.hm, h.hd⟩
  · exact owns_own (h.ver.rows.rows k) fun b hb => hk b (.inr (.inr (.inr (.inl ⟨k, hb⟩))))
  · rw [hk r.g (.inr (.inr (.inr (.inr ⟨k, mem_blocksG.2 (.inl ⟨r, hr, rfl⟩)⟩))))]; exact (h.ver.rows.po k).ops r hr
  · exact ((h.ver.rows.po k).dots r hr).kept fun b hb => hk b (.inr (.inr (.inr (.inr ⟨k, mem_blocksG.2 (.inr ⟨r, hr, hb⟩)⟩))))
  · exact RowT.kept ((h.ver.rows.po k).ints r hr) hi
theorem put_moves {B nb : Nat} {s : St} {c : ComV} {w w' : World} {p mb db : Nat} {f f' : ByteArray → Value} {R R' : ByteArray → List Rp} {E' : Nat → OpV} {D D' : Nat → Value} {t : Nat} (ht : Turn w w' mb db f f') (ho : PutO B nb s c w R D t w' f' R' E' D') : Moves w w' (Owns p mb db f R D) (Owns p mb db f' R' D') := by
  refine ⟨ht.os, ht.tape, ht.output, ht.size, fun b hb hn => ht.block b hb (fun e => hn (.inr (.inl e))) (fun e => hn (.inr (.inr (.inl e)))) (fun k e => hn (.inr (.inr (.inr (.inl ⟨k, e⟩))))), fun b hb => ?_⟩; rcases hb with rfl | rfl | rfl | ⟨k, hb⟩ | ⟨k, hb⟩
  · exact .inl (.inl rfl)
  · exact .inl (.inr (.inl rfl))
  · exact .inl (.inr (.inr (.inl rfl)))
  · rcases ht.fresh k b hb with ⟨k', h⟩ | h
    · exact .inl (.inr (.inr (.inr (.inl ⟨k', h⟩))))
    · exact .inr h
  · rcases mem_blocksG.1 hb with ⟨r, hr, rfl⟩ | ⟨r, hr, hb⟩
    · rcases ho.new k r hr with ⟨h1, _⟩ | ⟨h1, _⟩
      · exact .inl (.inr (.inr (.inr (.inr ⟨k, mem_blocksG.2 (.inl ⟨r, h1, rfl⟩)⟩))))
      · exact .inr h1
    · rcases ho.new k r hr with ⟨h1, h2⟩ | ⟨_, h2⟩
      · rw [h2] at hb; exact .inl (.inr (.inr (.inr (.inr ⟨k, mem_blocksG.2 (.inr ⟨r, h1, hb⟩)⟩))))
      · exact .inr (h2 b hb)
theorem put_store {B nb : Nat} {s : St} {c : ComV} {w w' : World} {p mb db n n' : Nat} {f f' : ByteArray → Value} {R R' : ByteArray → List Rp} {E E' : Nat → OpV} {D D' : Nat → Value} (h : Store B w p mb db n nb f s R E D) (hV : VerAt w' p mb db f' (putTo s c c.ops.length) n') (ho : PutO B nb s c w R D c.ops.length w' f' R' E' D') (hS : StOk (putTo s c c.ops.length) nb) : Store B w' p mb db n' nb f' (putTo s c c.ops.length) R' E' D' := ⟨⟨hV.box, hV.dots, hV.map, ho.rows, ho.abs_, hV.ne⟩, hS, h.hp, h.hm, h.hd⟩
theorem put_stOk {s : St} {c : ComV} {nb : Nat} (h : StOk s nb) (hc : ComOk c) (hl : c.when_.length = nb) (hs : SmallC c) : StOk (putTo s c c.ops.length) nb := by
  have mem : ∀ x ∈ (putTo s c c.ops.length).parts, x ∈ s.parts ∨ ∃ o ∈ c.ops, x = partC c o := fun x hx => by
    unfold putTo at hx; rw [List.take_length] at hx; rcases List.mem_append.1 hx with hx | hx
    · exact .inl hx
    · obtain ⟨o, ho, rfl⟩ := List.mem_map.1 hx; exact .inr ⟨o, ho, rfl⟩
  refine ⟨h.base, h.len, fun x hx => ?_, fun x hx => ?_, fun x hx => ?_⟩
  · rcases mem x hx with hx | ⟨o, ho, rfl⟩
    · exact h.ok x hx
    · exact comOk_one hc ho
  · rcases mem x hx with hx | ⟨o, ho, rfl⟩
    · exact h.when_ x hx
    · exact hl
  · rcases mem x hx with hx | ⟨o, ho, rfl⟩
    · exact h.small x hx
    · refine ⟨hs.1, by simp [partC], fun o' ho' => ?_⟩; obtain rfl : o' = o := by simpa [partC] using ho'
      exact hs.2.2 _ ho
theorem prune_moves {B : Nat} {w w' : World} {p mb db n nb : Nat} {s s' : St} {base : List Int} {f f' : ByteArray → Value} {R R' : ByteArray → List Rp} {E E' : Nat → OpV} {D D' : Nat → Value} (h : Pruned B w p mb db n nb s base f R E D w' s' f' R' E' D') : Moves w w' (Owns p mb db f R D) (Owns p mb db f' R' D') := by
  refine ⟨h.below.os, h.below.tape, h.below.output, h.size, fun b hb hn => h.off b hb (fun e => hn (.inl e)) (fun e => hn (.inr (.inl e))) (fun k e => hn (.inr (.inr (.inr (.inr ⟨k, e⟩))))), fun b hb => ?_⟩; rcases hb with rfl | rfl | rfl | ⟨k, hb⟩ | ⟨k, hb⟩
  · exact .inl (.inl rfl)
  · exact .inl (.inr (.inl rfl))
  · exact .inl (.inr (.inr (.inl rfl)))
  · rcases h.fresh k b hb with h | h
    · exact .inl (.inr (.inr (.inr (.inl ⟨k, h⟩))))
    · exact .inr h
  · rcases mem_blocksG.1 hb with ⟨r, hr, rfl⟩ | ⟨r, hr, hb⟩
    · obtain ⟨q, hq, e⟩ := List.mem_map.1 (h.own k r hr).1; exact .inl (.inr (.inr (.inr (.inr ⟨k, mem_blocksG.2 (.inl ⟨q, hq, e⟩)⟩))))
    · obtain ⟨h1, h2⟩ := h.own k r hr; obtain ⟨q, hq, e⟩ := List.mem_map.1 h1; rw [h2, ← e] at hb; exact .inl (.inr (.inr (.inr (.inr ⟨k, mem_blocksG.2 (.inr ⟨q, hq, hb⟩)⟩))))
structure RefV (w0 w : World) (q : Nat) (bs : List Int) (bv lv : Value) (L : List ComV) : Prop where
  box : w.heap[q]? = some (.cells #[bv, lv] 73 (0, 0))
  base : IntsT w bv bs
  row : ∃ rows, w.ownsRow w0.heap.size 34 3 lv L.length rows.flatten ∧ F2 (ComRow w0) rows L
  hq : w0.heap.size ≤ q
theorem RefV.framed {w0 w w' : World} {q : Nat} {bs : List Int} {bv lv : Value} {L : List ComV} (h : RefV w0 w q bs bv lv L) (hq : w'.heap[q]? = w.heap[q]?) (hl : ∀ b, lv.ownBlock = some b → w'.heap[b]? = w.heap[b]?) (hi : KeepT 3 w w') : RefV w0 w' q bs bv lv L := by
  obtain ⟨rows, h1, h2⟩ := h.row; exact ⟨hq.trans h.box, RowT.kept h.base hi, ⟨rows, owns_own h1 hl, h2⟩, h.hq⟩
theorem RefV.below {w0 w w' : World} {q : Nat} {bs : List Int} {bv lv : Value} {L : List ComV} (h : RefV w0 w q bs bv lv L) (hb : Below w.heap.size w w') : RefV w0 w' q bs bv lv L := h.framed (hb.block q (lt_of_heapQ h.box)) (fun b hl => by
  obtain ⟨rows, h1, _⟩ := h.row; exact hb.block b (h1.lt b hl).2) (keepT_below hb (Nat.le_refl _))
structure MemI (w0 w : World) (p mb db n nb : Nat) (f : ByteArray → Value) (s : St) (R : ByteArray → List Rp) (E : Nat → OpV) (D : Nat → Value) (q : Nat) (bs : List Int) (bv lv : Value) (L : List ComV) : Prop where
  st : Store w0.heap.size w p mb db n nb f s R E D
  rf : RefV w0 w q bs bv lv L
  nq : ¬ Owns p mb db f R D q
  nl : ∀ b, lv.ownBlock = some b → ¬ Owns p mb db f R D b
  below : Below w0.heap.size w0 w
theorem MemI.moved {w0 w w' : World} {p mb db n nb : Nat} {f : ByteArray → Value} {s : St} {R : ByteArray → List Rp} {E : Nat → OpV} {D : Nat → Value} {q : Nat} {bs : List Int} {bv lv : Value} {L : List ComV} (h : MemI w0 w p mb db n nb f s R E D q bs bv lv L) (hb : Below w.heap.size w w') : MemI w0 w' p mb db n nb f s R E D q bs bv lv L := ⟨h.st.below hb, h.rf.below hb, h.nq, h.nl, h.below.trans (hb.mono h.below.size)⟩
theorem MemI.prog {w0 w w' : World} {p mb db n nb : Nat} {f : ByteArray → Value} {s : St} {R : ByteArray → List Rp} {E : Nat → OpV} {D : Nat → Value} {q : Nat} {bs : List Int} {bv lv : Value} {L : List ComV} (h : MemI w0 w p mb db n nb f s R E D q bs bv lv L) {n' : Nat} {f' : ByteArray → Value} {s' : St} {R' : ByteArray → List Rp} {E' : Nat → OpV} {D' : Nat → Value} (hm : Moves w w' (Owns p mb db f R D) (Owns p mb db f' R' D')) (hS : Store w0.heap.size w' p mb db n' nb f' s' R' E' D') : MemI w0 w' p mb db n' nb f' s' R' E' D' q bs bv lv L := by
  obtain ⟨rows, h1, _⟩ := h.rf.row; have hql : q < w.heap.size := lt_of_heapQ h.rf.box; have hll : ∀ b, lv.ownBlock = some b → b < w.heap.size := fun b hb => (h1.lt b hb).2
  refine ⟨hS, h.rf.framed (hm.off q hql h.nq) (fun b hb => hm.off b (hll b hb) (h.nl b hb)) (h.st.keepT hm (by decide)), fun ho => ?_, fun b hb ho => ?_, h.below.trans (h.st.belowOf hm)⟩
  · rcases hm.own q ho with h2 | h2
    · exact h.nq h2
    · omega
  · rcases hm.own b ho with h2 | h2
    · exact h.nl b hb h2
    · have := hll b hb; omega
theorem MemI.ref {w0 w w' : World} {p mb db n nb : Nat} {f : ByteArray → Value} {s : St} {R : ByteArray → List Rp} {E : Nat → OpV} {D : Nat → Value} {q : Nat} {bs : List Int} {bv lv : Value} {L : List ComV} (h : MemI w0 w p mb db n nb f s R E D q bs bv lv L) {bs' : List Int} {bv' lv' : Value} {L' : List ComV} (hr : RefV w0 w' q bs' bv' lv' L') (hos : w'.os = w.os) (htp : w'.tape = w.tape) (hot : w'.output = w.output) (hsz : w.heap.size ≤ w'.heap.size)
    (hk : ∀ b, b < w.heap.size → b ≠ q → lv.ownBlock ≠ some b → w'.heap[b]? = w.heap[b]?) (hl : ∀ b, lv'.ownBlock = some b → lv.ownBlock = some b ∨ w.heap.size ≤ b) : MemI w0 w' p mb db n nb f s R E D q bs' bv' lv' L' := by
  obtain ⟨rows, h1, _⟩ := h.rf.row
  have hi : KeepT 3 w w' := fun b cs hb => hk b (lt_of_heapQ hb) (fun e => by
    subst e
    exact absurd (cells_type hb h.rf.box) (by decide)) (fun e => by
    obtain ⟨cs', hcs⟩ := own_type h1 e; exact absurd (cells_type hb hcs) (by decide))
  refine ⟨h.st.framed (fun b ho => hk b (h.st.lt ho) (fun e => h.nq (e ▸ ho)) (fun e => h.nl b e ho)) hi, hr, h.nq, fun b hb ho => ?_, h.below.trans ⟨hos, htp, hot, hsz, fun b hb => hk b (Nat.lt_of_lt_of_le hb h.below.size) (fun e => by have := h.rf.hq; omega) (fun e => by have := (h1.lt b e).1; omega)⟩⟩; rcases hl b hb with h2 | h2
  · exact h.nl b h2 ho
  · have := h.st.lt ho; omega
end Go.Proofs.YtdnebclemngdcaaGreatDoor
