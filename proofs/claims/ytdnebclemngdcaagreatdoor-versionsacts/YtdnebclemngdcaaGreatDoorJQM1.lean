/- copyParts: where its copies stand; copyParts by its contract; A store whose parts all lie in blocks of their own; Copy by its contract: the loop over the keys; withoutSpentRemoves by its contract; What ops tell, settled or not: plain mathematics. -/
import Derived.Test.YtdnebclemngdcaaGreatDoorJQE
import Derived.Test.YtdnebclemngdcaaGreatDoorJQN1
import Derived.Test.YtdnebclemngdcaaGreatDoorJWSeen
import Derived.Deep.RegionHeld
import Derived.WalkLawsBesides
import Derived.Test.YtdnebclemngdcaaGreatDoorJZR3
import Derived.Test.YtdnebclemngdcaaGreatDoorJWNew
import Derived.Maps.RangeWalk
import Derived.Test.YtdnebclemngdcaaGreatDoorJVOfVM
import Derived.Test.YtdnebclemngdcaaGreatDoorJVOfRA
namespace Go.Proofs.YtdnebclemngdcaaGreatDoor
open Go.RowKit Go.Sort Go.Maps
set_option maxRecDepth 100000
set_option linter.unusedSectionVars false
variable [Inhabited ComV] [DecidableEq D3] [Inhabited D3] [Inhabited Dd] [Inhabited Dn] [Inhabited OpV]

theorem op_at {w : World} {wv ov : Value} {p : Int} {c : ComV} {o : OpV} (h : ComT w [wv, .int .i64 p, ov] c) (ho : c.ops = [o]) : IntsT w wv c.when_ ∧ ∃ b off cap dv, ov = .slice (some ⟨b, off, none⟩) 1 cap ∧ (∀ i u, (opCells o dv)[i]? = some u → w.cell? ⟨b, off + i, none⟩ = some u) ∧ DotsAt w dv o.dots := by
  obtain ⟨wv', ov', he, hI, rows, hr, hf⟩ := h; injection he with e1 e2; injection e2 with _ e2; injection e2 with e2; subst e1 e2; refine ⟨hI, ?_⟩; rw [ho] at hf
  match rows, hf with
  | [r], hf =>
    obtain ⟨⟨dv, er, hd⟩, _⟩ := hf; obtain ⟨ad, cap, rfl, h0, h1, h2⟩ := hr; rcases h2 with h2 | ⟨b, off, cs, rfl, hh, hc⟩
    · cases h2
    · refine ⟨b, off, cap, dv, rfl, fun i u hu => ?_, hd.at⟩; have := (hc 0 r rfl).2 i u (by rw [er]; exact hu); simp only [World.cell?, hh]
      simpa using this
theorem set3_take {c : List Value} {o : Nat} (h : o + 3 ≤ c.length) (x y z : Value) : (((c.set o x).set (o + 1) y).set (o + 2) z).take (o + 3) = c.take o ++ [x, y, z] := by
  refine List.ext_getElem? fun i => ?_
  rw [List.getElem?_take]
  by_cases hi : i < o + 3
  · rw [if_pos hi, List.getElem?_set, List.getElem?_set, List.getElem?_set]; simp only [List.length_set]
    by_cases h2 : o + 2 = i
    · subst h2; rw [if_pos rfl, if_pos (by omega), List.getElem?_append_right (by rw [List.length_take]; omega), List.length_take, show o + 2 - min o c.length = 2 by omega]; rfl
    · rw [if_neg h2]
      by_cases h1 : o + 1 = i
      · subst h1; rw [if_pos rfl, if_pos (by omega), List.getElem?_append_right (by rw [List.length_take]; omega), List.length_take, show o + 1 - min o c.length = 1 by omega]; rfl
      · rw [if_neg h1]
        by_cases h0 : o = i
        · subst h0; rw [if_pos rfl, if_pos (by omega), List.getElem?_append_right (by rw [List.length_take]; omega), List.length_take, show o - min o c.length = 0 by omega]; rfl
        · rw [if_neg h0, List.getElem?_append_left (by rw [List.length_take]; omega), List.getElem?_take, if_pos (by omega)]
  · rw [if_neg hi, List.getElem?_eq_none (by rw [List.length_append, List.length_take]; simp; omega)]
def OutAt (w : World) (ob L : Nat) (rs : List Rp) : Prop := ∃ cur, w.heap[ob]? = some (.cells cur 34 (0, 0)) ∧ cur.size = L * 3 ∧ cur.toList.take (rs.length * 3) = rs.flatMap Rp.cells
theorem OutAt.below {w w' : World} {ob L : Nat} {rs : List Rp} (h : OutAt w ob L rs) (hb : Below w.heap.size w w') : OutAt w' ob L rs := let ⟨cur, h1, h2⟩ := h; ⟨cur, (hb.block _ (lt_of_heapQ h1)).trans h1, h2⟩
theorem OutAt.step {w : World} {ob L : Nat} {rs : List Rp} (h : OutAt w ob L rs) (hl : rs.length < L) (r : Rp) : OutAt (w.setCells ob (rs.length * 3) r.cells) ob L (rs ++ [r]) := by
  obtain ⟨cur, h1, h2, h3⟩ := h; refine ⟨((cur.setIfInBounds (rs.length * 3) (.slice r.wa r.wn.length r.wc)).setIfInBounds (rs.length * 3 + 1) (.int .i64 r.pl)).setIfInBounds (rs.length * 3 + 2) (.slice (some ⟨r.g, 0, none⟩) 1 1), heap_setQ (heap_setQ (heap_setQ h1 _ _) _ _) _ _, by simpa using h2, ?_⟩; have hcl : cur.toList.length = L * 3 := by simpa using h2
  have hl' : rs.length * 3 + 3 ≤ cur.toList.length := by omega
  have := set3_take hl' (.slice r.wa r.wn.length r.wc) (.int .i64 r.pl) (.slice (some ⟨r.g, 0, none⟩) 1 1); rw [List.length_append, List.length_singleton, show (rs.length + 1) * 3 = rs.length * 3 + 3 by omega, List.flatMap_append, ← h3]; simp only [Array.toList_setIfInBounds]; rw [this]; simp [Rp.cells]
theorem OutAt.cells {w : World} {ob L : Nat} {rs : List Rp} (h : OutAt w ob L rs) {k : Nat} (hk : k < L) : (∀ j, j < 3 → (w.cell? ⟨ob, k * 3 + j, none⟩).isSome = true) ∧ ∀ j, j < 3 → w.frozen? ⟨ob, k * 3 + j, none⟩ = false := by
  obtain ⟨cur, h1, h2, _⟩ := h; refine ⟨fun j hj => ?_, fun j _ => ?_⟩
  · simp only [World.cell?, h1]; have : k * 3 + j < cur.size := by omega
    rw [if_neg (by simp), Array.getElem?_eq_getElem this]; rfl
  · simp only [World.frozen?, h1]; simp
structure CpInv (w : World) (nb : Nat) (l : List ComV) (k : Nat) (rs : List Rp) (E : Nat → OpV) (D : Nat → Value) (wr : World) : Prop where
  po : PO wr E D nb rs
  nd : (rs.map (·.g)).Nodup
  ap : ∀ q ∈ rs, ∀ q' ∈ rs, q.g ≠ q'.g → ∀ b, (D q.g).ownBlock = some b → (D q'.g).ownBlock ≠ some b
  ge : ∀ r ∈ rs, w.heap.size ≤ r.g ∧ ∀ b, (D r.g).ownBlock = some b → w.heap.size ≤ b
  abs_ : rs.map (absR E) = l.take k
theorem CpInv.below {w wr w' : World} {nb : Nat} {l : List ComV} {k : Nat} {rs : List Rp} {E : Nat → OpV} {D : Nat → Value} (h : CpInv w nb l k rs E D wr) (hb : Below wr.heap.size wr w') : CpInv w nb l k rs E D w' := ⟨h.po.below hb, h.nd, h.ap, h.ge, h.abs_⟩
theorem CpInv.rows {w wr w' : World} {nb : Nat} {l : List ComV} {k : Nat} {rs : List Rp} {E : Nat → OpV} {D : Nat → Value} {G : List Nat} (h : CpInv w nb l k rs E D wr) (ho : Off G wr w') (hG : ∀ b ∈ G, ∃ cs, wr.heap[b]? = some (.cells cs 34 (0, 0))) : CpInv w nb l k rs E D w' := ⟨h.po.rows ho hG, h.nd, h.ap, h.ge, h.abs_⟩
theorem PO.fresh {w : World} {E E' : Nat → OpV} {D D' : Nat → Value} {nb : Nat} {rs : List Rp} (h : PO w E D nb rs) (hE : ∀ r ∈ rs, E' r.g = E r.g) (hD : ∀ r ∈ rs, D' r.g = D r.g) : PO w E' D' nb rs := by
  refine ⟨fun r hr => ?_, fun r hr => ?_, h.ints, fun r hr => ?_⟩
  · rw [hE r hr, hD r hr]; exact h.ops r hr
  · rw [hE r hr, hD r hr]; exact h.dots r hr
  · have hp := h.pf r hr; refine ⟨?_, hp.len, by rw [hE r hr]; exact hp.text⟩; have : absR E' r = absR E r := by unfold absR; rw [hE r hr]
    rw [this]; exact hp.ok
theorem CpInv.step {w wr w' : World} {nb : Nat} {l : List ComV} {k : Nat} {rs : List Rp} {E : Nat → OpV} {D : Nat → Value} {c : ComV} {o : OpV} {a1 : Option Addr} {c1 gg : Nat} {dv : Value} (h : CpInv w nb l k rs E D wr) (hw : w.heap.size ≤ wr.heap.size) (hb : Below wr.heap.size wr w') (hc : l[k]? = some c) (ho : c.ops = [o]) (hok : ComOk c) (hlen : c.when_.length = nb) (htx : o.text.size ≤ 1000)
    (hI : IntsT w' (.slice a1 c.when_.length c1) c.when_) (hO : w'.heap[gg]? = some (.cells (opCells o dv).toArray 76 (0, 0))) (hge : wr.heap.size ≤ gg) (hd : w'.ownsRow wr.heap.size 87 3 dv o.dots.length (o.dots.flatMap D3.cells)) :
    CpInv w nb l (k + 1) (rs ++ [⟨a1, c1, c.when_, c.place, gg⟩]) (updE E gg o) (updD D gg dv) w' := by
  have old : ∀ r ∈ rs, r.g ≠ gg := fun r hr e => by have := lt_of_heapQ (h.po.ops r hr); omega
  have oE : ∀ r ∈ rs, updE E gg o r.g = E r.g := fun r hr => updE_other _ _ (old r hr)
  have oD : ∀ r ∈ rs, updD D gg dv r.g = D r.g := fun r hr => if_neg (old r hr)
  have nE : updE E gg o gg = o := updE_same _ _ _; have nD : updD D gg dv gg = dv := if_pos rfl; have P := (h.po.below hb).fresh oE oD
  have ca : absR (updE E gg o) ⟨a1, c1, c.when_, c.place, gg⟩ = c := by
    unfold absR; rw [nE, ← ho]
  have dlt : ∀ r ∈ rs, ∀ b, (D r.g).ownBlock = some b → b < wr.heap.size := fun r hr b hb => by
    obtain ⟨cs, hcs⟩ := (h.po.dots r hr).block hb; exact lt_of_heapQ hcs
  refine ⟨⟨fun r hr => ?_, fun r hr => ?_, fun r hr => ?_, fun r hr => ?_⟩, ?_, fun q hq q' hq' hne b hb1 hb2 => ?_, fun r hr => ?_, ?_⟩
  · rcases List.mem_append.1 hr with hr | hr
    · exact P.ops r hr
    · rw [List.mem_singleton.1 hr]
      dsimp only
      rw [nE, nD]; exact hO
  · rcases List.mem_append.1 hr with hr | hr
    · exact P.dots r hr
    · rw [List.mem_singleton.1 hr]
      dsimp only
      rw [nE, nD]; exact ownsMono (Nat.zero_le _) hd
  · rcases List.mem_append.1 hr with hr | hr
    · exact P.ints r hr
    · rw [List.mem_singleton.1 hr]; exact hI
  · rcases List.mem_append.1 hr with hr | hr
    · exact P.pf r hr
    · rw [List.mem_singleton.1 hr]; exact ⟨by rw [ca]; exact hok, hlen, by dsimp only; rw [nE]; exact htx⟩
  · rw [List.map_append, List.nodup_append]; refine ⟨h.nd, by simp, fun a ha b hb e => ?_⟩; obtain ⟨r, hr, rfl⟩ := List.mem_map.1 ha; simp only [List.map_cons, List.map_nil, List.mem_singleton] at hb; exact old r hr (e.trans hb)
  · rcases List.mem_append.1 hq with hq | hq
    · rw [oD q hq] at hb1; rcases List.mem_append.1 hq' with hq' | hq'
      · rw [oD q' hq'] at hb2; exact h.ap q hq q' hq' hne b hb1 hb2
      · rw [List.mem_singleton.1 hq'] at hb2
        dsimp only at hb2
        rw [nD] at hb2; have := (hd.lt b hb2).1; have := dlt q hq b hb1; omega
    · rw [List.mem_singleton.1 hq] at hb1 hne
      dsimp only at hb1 hne
      rw [nD] at hb1; rcases List.mem_append.1 hq' with hq' | hq'
      · rw [oD q' hq'] at hb2; have := (hd.lt b hb1).1; have := dlt q' hq' b hb2; omega
      · rw [List.mem_singleton.1 hq'] at hne; exact hne rfl
  · rcases List.mem_append.1 hr with hr | hr
    · rw [oD r hr]; exact h.ge r hr
    · rw [List.mem_singleton.1 hr]
      dsimp only
      rw [nD]; exact ⟨by omega, fun b hb => by have := (hd.lt b hb).1; omega⟩
  · rw [List.map_append, take_snocQ hc, List.map_cons, List.map_nil, ca, ← h.abs_]
    congr 1
    exact List.map_congr_left fun r hr => by unfold absR; rw [oE r hr]
end Go.Proofs.YtdnebclemngdcaaGreatDoor
namespace Go.Proofs.YtdnebclemngdcaaGreatDoor
open Go.RowKit Go.Sort Go.Maps
set_option maxRecDepth 100000
set_option linter.unusedSectionVars false
variable [Inhabited ComV] [DecidableEq D3] [Inhabited D3] [Inhabited Dd] [Inhabited Dn] [Inhabited OpV]

structure PartIn (nb : Nat) (c : ComV) : Prop where
  ok : ComOk c
  one : ∃ o, c.ops = [o]
  len : c.when_.length = nb
  text : ∀ o, c.ops = [o] → o.text.size ≤ 1000
def CopyRet (nb : Nat) (l : List ComV) (w : World) (e : Ending) (w' : World) : Prop := ∃ v rs E D, e = .returned v ∧ RowR w' w.heap.size v rs ∧ CpInv w nb l l.length rs E D w' ∧ Below w.heap.size w w'
set_option maxHeartbeats 8000000 in
theorem copyParts_ok (w : World) (lv : Value) (nb : Nat) (l : List ComV) (rows : List (List Value)) (hv : w.ownsRow 0 34 3 lv l.length rows.flatten) (hF : F2 (ComT w) rows l) (hl : ∀ c ∈ l, PartIn nb c) (hfew : l.length ≤ 1000) :
    Calls Tryz.prog 41 #[lv] w fun e w' => CopyRet nb l w e w' := by
  obtain ⟨i28, hi28, hy0, hy1, hy2⟩ := info_parts Tryz.info34q; obtain ⟨L, hL⟩ : ∃ L, L = l.length := ⟨_, rfl⟩; obtain ⟨la, lc, hle⟩ := row_shape hv; rw [← hL] at hle; have HV := hid hv; have HF := hid hF; have HLL := hid hl; have HL := hid hL; have HLE := hid hle; rw [hle]; rw [← hL] at hfew; clear hv hF hl hL hle; go_enter Tryz.func41, Tryz.ntmps41
  go_wp2_with (first | (refine wpList_make_full _ rfl _ _ 22 rfl w.heap.size 34 i28 (.agg #[.slice none 0 0, .int .i64 0, .slice none 0 0]) 3 Tryz.underlying22 hi28 hy0 hy1 .i64 .i64 _ _ L rfl rfl rfl rfl ?b2 ?b3 ?b4 ?_))
  case b2 => rw [hy2]; omega
  case b3 => unfold maxLen; omega
  case b4 => exact Nat.le_refl _
  intro w1 hown hgrow
  have O1 : Hid (OutAt w1 w.heap.size L []) := by
    rcases hown.2 with ⟨h, _⟩ | ⟨g, cap, cur, he, _, hh, hc, _, hs, _⟩
    · cases h
    · injection he with e1 e2 e3; injection e1 with e1; injection e1 with e1; subst e1 e3; exact ⟨cur, hh, hs, by simp⟩
  have B1 : Hid (Below w.heap.size w w1) := (Below.refl _ _).grown hgrow (Nat.le_refl _) (fun k hk => by cases hk); obtain ⟨ob, hob⟩ : ∃ ob, ob = w.heap.size := ⟨_, rfl⟩; rw [← hob] at O1 ⊢; have HOB := hid hob; clear hown hgrow hob; go_wp2_with fail
  go_loopw [11] (fun i wr => ∃ (k : Nat) (rs : List Rp) (E : Nat → OpV) (D : Nat → Value), k ≤ L ∧ i = .int .i64 k ∧ rs.length = k ∧ Hid (OutAt wr ob L rs) ∧ Hid (CpInv w nb l k rs E D wr) ∧ Hid (Below w.heap.size w wr)) (fun i _ => L - (intOf i).toNat)
  case atStart => exact ⟨0, [], fun _ => ⟨0, ByteArray.empty, 0, ByteArray.empty, 0, false, []⟩, fun _ => .slice none 0 0, Nat.zero_le _, rfl, rfl, O1.out, ⟨⟨fun r hr => by simp at hr, fun r hr => by simp at hr, fun r hr => by simp at hr, fun r hr => by simp at hr⟩, by simp, fun q hq => by simp at hq, fun r hr => by simp at hr, by simp⟩, B1.out⟩
  case round =>
    obtain ⟨k, rs, E, D, hk, rfl, hrk, HO, HI, HB⟩ := hrel
    by_cases hlt : k < L
    · have hkl : k < l.length := by rw [← HL.out]; exact hlt
      obtain ⟨b, cap, wv, ov, hv, hct, q0, q1, q2⟩ := part_at HV.out HF.out hkl; have hc : l[k]? = some l[k]! := by rw [getElem!_pos l k hkl]; exact List.getElem?_eq_getElem _
      obtain ⟨c, hce⟩ : ∃ c, c = l[k]! := ⟨_, rfl⟩; rw [← hce] at hct q1 hc; have hpi := HLL.out c (List.mem_of_getElem? hc); obtain ⟨o, ho⟩ := hpi.one; obtain ⟨hI, b2, off, cap2, dv, hov, hop, hdd⟩ := op_at hct ho; rw [HLE.out] at hv; injection hv with e1 e2 e3; subst e1 e3; clear e2; subst hov; have r0 := upQ HB.out q0; have r1 := upQ HB.out q1; have r2 := upQ HB.out q2; have u : ∀ i u, (opCells o dv)[i]? = some u → wr.cell? ⟨b2, off + i, none⟩ = some u := fun i u hu => upQ HB.out (hop i u hu)
      obtain ⟨wva, wvc, hwv⟩ := hI.at.slice; obtain ⟨dva, dvc, hdv⟩ := hdd.len; subst hwv hdv; obtain ⟨x1, x2, x3, x4, x5, x6, ds⟩ := o; have u0 := u 0 _ rfl; have u1 := u 1 _ rfl; have u2 := u 2 _ rfl; have u3 := u 3 _ rfl; have u4 := u 4 _ rfl; have u5 := u 5 _ rfl; have u6 := u 6 _ rfl; simp only [Nat.add_zero] at u0 u1 u2 u3 u4 u5 u6; have hi1 : (k : Int) < (L : Int) := by omega
      obtain ⟨zs, pl, ops⟩ := c; simp only at r0 r1 r2 hI hdd ho; obtain ⟨w2, hw2⟩ : ∃ w2, w2 = wr.alloc (.cells #[.slice wva zs.length wvc, .int .i64 pl, .slice (some ⟨b2, off, none⟩) 1 cap2] 34) := ⟨_, rfl⟩; have hB2 : Below wr.heap.size wr w2 := by rw [hw2]; exact below_alloc _ _
      have hBw : Below w.heap.size w w2 := HB.out.trans (hB2.mono HB.out.size); have x2' : w2.heap[wr.heap.size]? = some (.cells #[.slice wva zs.length wvc, .int .i64 pl, .slice (some ⟨b2, off, none⟩) 1 cap2] 34 (0, 0)) := by rw [hw2]; exact (MapKept.heap_alloc _ _).1
      obtain ⟨y0, y1, y2⟩ := box3Q x2'; have v0 := upQ hB2 u0; have v1 := upQ hB2 u1; have v2 := upQ hB2 u2; have v3 := upQ hB2 u3; have v4 := upQ hB2 u4; have v5 := upQ hB2 u5; have v6 := upQ hB2 u6; have hb2lt : b2 < w.heap.size := lt_of_cell (hop 0 _ rfl); obtain ⟨bx, hbx⟩ : ∃ bx, bx = wr.heap.size := ⟨_, rfl⟩; rw [← hbx] at y0 y1 y2; have O2 := HO.out.below hB2; have obwr : ob < wr.heap.size := by obtain ⟨cur, h, _⟩ := HO.out; exact lt_of_heapQ h
      have nb1 : ob ≠ bx := by omega
      have nb2 : ob ≠ b2 := by have := HOB.out; omega
      have nb3 : bx ≠ ob := by omega
      have nb4 : b2 ≠ ob := by have := HOB.out; omega
      have hzl : zs.length ≤ 1000000 := by have h6 := (chk_zero.1 hpi.ok.chk).2.1; simp only at h6; omega
      have hdl : ds.length ≤ 1000000 := by
        have h0 := hpi.ok.ops 0 (by simp only [ho]; simp); have h1 := opErr_of_bad h0; simp only [ho] at h1; have := (opOk h1).2.2.2.2; exact Nat.le_trans this (by decide)
      have K40 : ∀ q, Calls Tryz.prog 40 #[.agg #[.slice wva zs.length wvc, .int .i64 pl, .slice (some ⟨b2, off, none⟩) 1 cap2], .agg #[.int .i64 x1, .string x2, .int .i64 x3, .string x4, .int .i64 x5, .bool x6, .slice dva ds.length dvc]] (w2.drewN q) fun e w' => PartOwn ⟨zs, pl, ops⟩ ⟨x1, x2, x3, x4, x5, x6, ds⟩ (w2.drewN q) e w' := fun q => partOf_own (w2.drewN q) ⟨zs, pl, ops⟩ ⟨x1, x2, x3, x4, x5, x6, ds⟩ _ _ _ _ _ (hI.at.mono (below_draws hBw q) (Nat.le_refl _)) (hdd.mono (below_draws hBw q) (Nat.le_refl _)) hzl hdl
      have HK40 := hid K40; have HC := hid hc; have HOPS := hid ho; have HPI := hid hpi; have HB2 := hid hB2; have HO2 := hid O2; have HI2 := hid (HI.out.below hB2); have HBW := hid hBw; have hsz2 : w.heap.size ≤ w2.heap.size := hBw.size; obtain ⟨n1, hn1⟩ : ∃ n1, n1 = zs.length := ⟨_, rfl⟩; obtain ⟨dl, hdl2⟩ : ∃ dl, dl = ds.length := ⟨_, rfl⟩; rw [← hn1] at r0 y0 hw2 HK40; rw [← hdl2] at v6 HK40; have HN1 := hid hn1; clear q0 q1 q2 hct hce hpi hI hop hdd u u0 u1 u2 u3 u4 u5 u6 ho hc hkl hB2 hBw x2' K40 O2 hn1 hdl2 HO HI hzl hdl obwr; go_wp2_with fail; rw [← hw2, ← hbx]; clear hw2 hbx r0 r1 r2
      go_region_held (fun w' => w'.cell? ⟨bx, 0, none⟩ = some (.slice wva n1 wvc) ∧ w'.cell? ⟨bx, 1, none⟩ = some (.int .i64 pl) ∧ w'.cell? ⟨bx, 2, none⟩ = some (.slice (some ⟨b2, off, none⟩) 1 cap2) ∧ w'.cell? ⟨b2, off, none⟩ = some (.int .i64 x1) ∧ w'.cell? ⟨b2, off + 1, none⟩ = some (.string x2) ∧ w'.cell? ⟨b2, off + 2, none⟩ = some (.int .i64 x3) ∧ w'.cell? ⟨b2, off + 3, none⟩ = some (.string x4) ∧ w'.cell? ⟨b2, off + 4, none⟩ = some (.int .i64 x5) ∧ w'.cell? ⟨b2, off + 5, none⟩ = some (.bool x6) ∧ w'.cell? ⟨b2, off + 6, none⟩ = some (.slice dva dl dvc)) (go_keep) (first | (go_at_call 40; refine (HK40.out 1).mono ?_; rintro e w5 ⟨a5, c5, g5, dv5, rfl, ⟨hI5, hO5, hg5, hd5⟩, hb5⟩; have hb6 : Below w2.heap.size w2 w5 := (below_draws (Below.refl _ _) 1).trans hb5; have y0' := upQ hb6 y0; have y1' := upQ hb6 y1; have y2' := upQ hb6 y2; have v0' := upQ hb6 v0; have v1' := upQ hb6 v1; have v2' := upQ hb6 v2; have v3' := upQ hb6 v3; have v4' := upQ hb6 v4; have v5' := upQ hb6 v5; have v6' := upQ hb6 v6; have O5 := HO2.out.below hb6; obtain ⟨cz, fz⟩ := O5.cells (k := k) (by omega); obtain ⟨t0, ht0⟩ := Option.isSome_iff_exists.1 (cz 0 (by omega)); obtain ⟨t1, ht1⟩ := Option.isSome_iff_exists.1 (cz 1 (by omega)); obtain ⟨t2, ht2⟩ := Option.isSome_iff_exists.1 (cz 2 (by omega)); have f0 := fz 0 (by omega); have f1 := fz 1 (by omega); have f2 := fz 2 (by omega); simp only [Nat.add_zero] at ht0 f0; have HO5 := hid O5; have HHO5 := hid hO5; have HI5 := hid hI5; have HD5 := hid hd5; have HG5 := hid hg5; have HB6 := hid hb6; clear cz fz O5 hI5 hO5 hd5 hg5 hb5 hb6))
      obtain ⟨w6, hw6⟩ : ∃ w6, w6 = ((w5.setCell ⟨ob, k * 3, none⟩ (.slice a5 zs.length c5)).setCell ⟨ob, k * 3 + 1, none⟩ (.int .i64 pl)).setCell ⟨ob, k * 3 + 2, none⟩ (.slice (some ⟨g5, 0, none⟩) 1 1) := ⟨_, rfl⟩; rw [← hw6]; have hsc : w6 = w5.setCells ob (k * 3) (Rp.cells ⟨a5, c5, zs, pl, g5⟩) := by rw [hw6]; rfl
      have hoff : Off [ob] w5 w6 := by rw [hsc]; exact Off.cells (List.mem_singleton.2 rfl) _ _
      have h34 : ∀ i ∈ [ob], ∃ cs, w5.heap[i]? = some (.cells cs 34 (0, 0)) := fun i hi => by
        rw [List.mem_singleton.1 hi]; obtain ⟨cur, h1, _⟩ := HO5.out; exact ⟨cur, h1⟩
      have J5 := HI2.out.step hsz2 HB6.out HC.out HOPS.out HPI.out.ok HPI.out.len (HPI.out.text _ HOPS.out) HI5.out HHO5.out HG5.out HD5.out; have J6 := hid (J5.rows hoff h34)
      have O6 : Hid (OutAt w6 ob L (rs ++ [⟨a5, c5, zs, pl, g5⟩])) := by
        rw [hsc]; have := HO5.out.step (by rw [hrk]; exact hlt) ⟨a5, c5, zs, pl, g5⟩; rw [hrk] at this; exact this
      have B6 : Hid (Below w.heap.size w w6) := by
        have hb : Below w.heap.size w w5 := HBW.out.trans (HB6.out.mono HBW.out.size); have hge : w.heap.size ≤ ob := by rw [HOB.out]; exact Nat.le_refl _
        rw [hw6]; exact ((hb.setCell hge _).setCell hge _).setCell hge _
      clear hw6 hsc hoff h34 J5 y0 y1 y2 v0 v1 v2 v3 v4 v5 v6 y0' y1' y2' v0' v1' v2' v3' v4' v5' v6' ht0 ht1 ht2 f0 f1 f2; go_wp2_with fail; refine ⟨⟨k + 1, rs ++ [(⟨a5, c5, zs, pl, g5⟩ : Rp)], _, _, by omega, by go_num, by rw [List.length_append, hrk]; rfl, O6, J6, B6⟩, by simp [intOf]; omega⟩
    · obtain rfl : k = L := by omega
      have hi3 : ¬ (k : Int) < (k : Int) := by omega
      have ROW : Hid (RowR wr w.heap.size (.slice (some ⟨ob, 0, none⟩) k k) rs) := by
        obtain ⟨cur, h1, h2, h3⟩ := HO.out; refine ⟨flatR_length rs, .inr ⟨ob, k, cur, by rw [hrk], by rw [HOB.out]; exact Nat.le_refl _, h1, by omega, by unfold maxLen; omega, h2, h3⟩⟩
      have CP : Hid (CpInv w nb l l.length rs E D wr) := by have h := HI.out; rw [HL.out] at h; exact h
      clear HO HI; go_wp2; go_ret; exact ⟨_, rs, E, D, rfl, ROW.out, CP.out, HB.out⟩
end Go.Proofs.YtdnebclemngdcaaGreatDoor
namespace Go.Proofs.YtdnebclemngdcaaGreatDoor
open Go.RowKit Go.Sort Go.Maps
set_option maxRecDepth 100000
set_option linter.unusedSectionVars false
variable [Inhabited ComV] [DecidableEq D3] [Inhabited D3] [Inhabited Dd] [Inhabited Dn] [Inhabited OpV]

structure RowsO (B : Nat) (w : World) (nb : Nat) (f : ByteArray → Value) (R : ByteArray → List Rp) (E : Nat → OpV) (D : Nat → Value) : Prop where
  rows : ∀ k, RowR w B (f k) (R k)
  po : ∀ k, PO w E D nb (R k)
  nd : ∀ k, ((R k).map (·.g)).Nodup
  ap : ∀ k, ∀ q ∈ R k, ∀ q' ∈ R k, q.g ≠ q'.g → ∀ b, (D q.g).ownBlock = some b → (D q'.g).ownBlock ≠ some b
  sep : ∀ k k', k ≠ k' → ∀ r ∈ R k, ∀ q ∈ R k', r.g ≠ q.g ∧ ∀ b, (D r.g).ownBlock = some b → (D q.g).ownBlock ≠ some b
  apart : ∀ k k', k ≠ k' → ∀ b, (f k).ownBlock = some b → (f k').ownBlock ≠ some b
  ge : ∀ k, ∀ r ∈ R k, B ≤ r.g ∧ ∀ b, (D r.g).ownBlock = some b → B ≤ b
theorem RowsO.below {B : Nat} {w w' : World} {nb : Nat} {f : ByteArray → Value} {R : ByteArray → List Rp} {E : Nat → OpV} {D : Nat → Value} (h : RowsO B w nb f R E D) (hb : Below w.heap.size w w') : RowsO B w' nb f R E D := ⟨fun k => (h.rows k).below hb, fun k => (h.po k).below hb, h.nd, h.ap, h.sep, h.apart, h.ge⟩
theorem cells_keep {w w' : World} {r : Nat} (hg : w.grownBy w' (some r)) (hr : ∀ cs t, w.heap[r]? ≠ some (.cells cs t (0, 0))) {b : Nat} {cs : Array Value} {t : TypeId} (hb : w.heap[b]? = some (.cells cs t (0, 0))) : w'.heap[b]? = w.heap[b]? := hg.block b (lt_of_heapQ hb) fun e => by
  cases e; exact hr cs t hb
theorem RowsO.turned {B : Nat} {w w' : World} {nb : Nat} {f : ByteArray → Value} {R : ByteArray → List Rp} {E : Nat → OpV} {D : Nat → Value} {r : Nat} (h : RowsO B w nb f R E D) (hg : w.grownBy w' (some r)) (hr : ∀ cs t, w.heap[r]? ≠ some (.cells cs t (0, 0))) : RowsO B w' nb f R E D := by
  have keep := fun {b cs t} => cells_keep (b := b) (cs := cs) (t := t) hg hr
  refine ⟨fun k => ?_, fun k => ⟨fun r hr => ?_, fun r hr => ?_, fun r hr => ?_, (h.po k).pf⟩, h.nd, h.ap, h.sep, h.apart, h.ge⟩
  · refine ⟨(h.rows k).1, ?_⟩; rcases (h.rows k).2 with h0 | ⟨g, cap, cur, hv, h1, hh, h2⟩
    · exact .inl h0
    · exact .inr ⟨g, cap, cur, hv, h1, by rw [keep hh]; exact hh, h2⟩
  · rw [keep ((h.po k).ops r hr)]; exact (h.po k).ops r hr
  · refine ((h.po k).dots r hr).kept fun b hb => ?_
    obtain ⟨cs, hcs⟩ := ((h.po k).dots r hr).block hb; exact keep hcs
  · exact RowT.kept ((h.po k).ints r hr) fun b cs hb => keep hb
theorem PO.comT {w : World} {nb : Nat} {rs : List Rp} {E : Nat → OpV} {D : Nat → Value} (h : PO w E D nb rs) : F2 (ComT w) (rs.map Rp.cells) (rs.map (absR E)) := by
  have one : ∀ r ∈ rs, ComT w r.cells (absR E r) := fun r hr => by
    obtain ⟨a, c, hs⟩ := (h.dots r hr).shape; exact part_fin (dv := D r.g) (h.ints r hr) (h.ops r hr) (dotsT_of_owns (h.dots r hr))
  clear h
  induction rs with
  | nil => exact trivial
  | cons x r ih => exact ⟨one x (by simp), ih fun y hy => one y (by simp [hy])⟩
theorem flatten_map (rs : List Rp) : (rs.map Rp.cells).flatten = rs.flatMap Rp.cells := by rw [List.flatMap_def]
def joinE (m : Nat) (E E' : Nat → OpV) : Nat → OpV := fun g => if g < m then E g else E' g
def joinV (m : Nat) (D D' : Nat → Value) : Nat → Value := fun g => if g < m then D g else D' g
def updR (R : ByteArray → List Rp) (k : ByteArray) (rs : List Rp) : ByteArray → List Rp := fun k' => if k' = k then rs else R k'
theorem updR_same (R : ByteArray → List Rp) (k : ByteArray) (rs : List Rp) : updR R k rs k = rs := if_pos rfl
theorem updR_other (R : ByteArray → List Rp) {k k' : ByteArray} (rs : List Rp) (h : k' ≠ k) : updR R k rs k' = R k' := if_neg h
theorem updF_same (f : ByteArray → Value) (k : ByteArray) (v : Value) : updF f k v k = v := if_pos rfl
theorem updF_other (f : ByteArray → Value) {k k' : ByteArray} (v : Value) (h : k' ≠ k) : updF f k v k' = f k' := if_neg h
theorem RowsO.add {B : Nat} {w w' : World} {nb : Nat} {f : ByteArray → Value} {R : ByteArray → List Rp} {E E' : Nat → OpV} {D D' : Nat → Value} {k : ByteArray} {v : Value} {rs : List Rp} {l : List ComV} (h : RowsO B w nb f R E D) (hb : Below w.heap.size w w') (hB : B ≤ w.heap.size) (hv : RowR w' w.heap.size v rs) (hc : CpInv w nb l l.length rs E' D' w') :
    RowsO B w' nb (updF f k v) (updR R k rs) (joinE w.heap.size E E') (joinV w.heap.size D D') := by
  have lo : ∀ k', ∀ r ∈ R k', r.g < w.heap.size := fun k' r hr => lt_of_heapQ ((h.po k').ops r hr)
  have hE1 : ∀ k', ∀ r ∈ R k', joinE w.heap.size E E' r.g = E r.g := fun k' r hr => if_pos (lo k' r hr)
  have hD1 : ∀ k', ∀ r ∈ R k', joinV w.heap.size D D' r.g = D r.g := fun k' r hr => if_pos (lo k' r hr)
  have hE2 : ∀ r ∈ rs, joinE w.heap.size E E' r.g = E' r.g := fun r hr => if_neg (by have := (hc.ge r hr).1; omega)
  have hD2 : ∀ r ∈ rs, joinV w.heap.size D D' r.g = D' r.g := fun r hr => if_neg (by have := (hc.ge r hr).1; omega)
  have dlt : ∀ k', ∀ r ∈ R k', ∀ b, (D r.g).ownBlock = some b → b < w.heap.size := fun k' r hr b hb => by
    obtain ⟨cs, hcs⟩ := ((h.po k').dots r hr).block hb; exact lt_of_heapQ hcs
  have nw : ∀ k', k' ≠ k → ∀ r ∈ R k', ∀ q ∈ rs, r.g ≠ q.g ∧ ∀ b, (D r.g).ownBlock = some b → (D' q.g).ownBlock ≠ some b := fun k' _ r hr q hq => by
    refine ⟨fun e => ?_, fun b hb1 hb2 => ?_⟩
    · have := lo k' r hr; have := (hc.ge q hq).1; omega
    · have := dlt k' r hr b hb1; have := (hc.ge q hq).2 b hb2; omega
  refine ⟨fun k' => ?_, fun k' => ?_, fun k' => ?_, fun k' => ?_, fun k1 k2 hk r hr q hq => ?_, fun k1 k2 hk b hb1 hb2 => ?_, fun k' r hr => ?_⟩
  · by_cases e : k' = k
    · subst e; rw [updF_same, updR_same]; exact hv.mono hB
    · rw [updF_other _ _ e, updR_other _ _ e]; exact (h.rows k').below hb
  · by_cases e : k' = k
    · subst e; rw [updR_same]; exact hc.po.fresh hE2 hD2
    · rw [updR_other _ _ e]; exact ((h.po k').below hb).fresh (hE1 k') (hD1 k')
  · by_cases e : k' = k
    · subst e; rw [updR_same]; exact hc.nd
    · rw [updR_other _ _ e]; exact h.nd k'
  · by_cases e : k' = k
    · subst e; rw [updR_same]; intro q hq q' hq' hne b hb1 hb2; rw [hD2 q hq] at hb1; rw [hD2 q' hq'] at hb2; exact hc.ap q hq q' hq' hne b hb1 hb2
    · rw [updR_other _ _ e]; intro q hq q' hq' hne b hb1 hb2; rw [hD1 k' q hq] at hb1; rw [hD1 k' q' hq'] at hb2; exact h.ap k' q hq q' hq' hne b hb1 hb2
  · by_cases e1 : k1 = k
    · subst e1; have e2 : k2 ≠ k1 := fun x => hk x.symm
      rw [updR_same] at hr; rw [updR_other _ _ e2] at hq; obtain ⟨n1, n2⟩ := nw k2 e2 q hq r hr; rw [hD2 r hr, hD1 k2 q hq]; exact ⟨fun e => n1 e.symm, fun b hb1 hb2 => n2 b hb2 hb1⟩
    · rw [updR_other _ _ e1] at hr
      by_cases e2 : k2 = k
      · subst e2; rw [updR_same] at hq; rw [hD1 k1 r hr, hD2 q hq]; exact nw k1 e1 r hr q hq
      · rw [updR_other _ _ e2] at hq; rw [hD1 k1 r hr, hD1 k2 q hq]; exact h.sep k1 k2 hk r hr q hq
  · by_cases e1 : k1 = k
    · subst e1; have e2 : k2 ≠ k1 := fun x => hk x.symm
      rw [updF_same] at hb1; rw [updF_other _ _ e2] at hb2; have := (hv.lt b hb1).1; have := ((h.rows k2).lt b hb2).2; omega
    · rw [updF_other _ _ e1] at hb1
      by_cases e2 : k2 = k
      · subst e2; rw [updF_same] at hb2; have := (hv.lt b hb2).1; have := ((h.rows k1).lt b hb1).2; omega
      · rw [updF_other _ _ e2] at hb2; exact h.apart k1 k2 hk b hb1 hb2
  · by_cases e : k' = k
    · subst e; rw [updR_same] at hr; rw [hD2 r hr]; exact ⟨Nat.le_trans hB (hc.ge r hr).1, fun b hb => Nat.le_trans hB ((hc.ge r hr).2 b hb)⟩
    · rw [updR_other _ _ e] at hr; rw [hD1 k' r hr]; exact h.ge k' r hr
end Go.Proofs.YtdnebclemngdcaaGreatDoor
namespace Go.Proofs.YtdnebclemngdcaaGreatDoor
open Go.RowKit Go.Sort Go.Maps
set_option maxRecDepth 100000
set_option linter.unusedSectionVars false
variable [Inhabited ComV] [DecidableEq D3] [Inhabited D3] [Inhabited Dd] [Inhabited Dn] [Inhabited OpV]

theorem run_makeMap80 (m : Int) (w : World) : (Instr.makeMap 80 (some (.int .i64 m))).run Tryz.prog w = .ok (.map (some w.heap.size)) (w.alloc (.map #[] 0)) := by
  simp [Instr.makeMap, run_underlying Tryz.underlying80, asInt, asIntOf, Result.andThen]
theorem keyStr_inv {key : Value} {kl : Lit} (h : keyOf Tryz.prog 9 key = some kl) : ∃ x : ByteArray, key = .string x := by
  cases key <;> simp [keyOf, Tryz.underlying9, mapKey] at h
  exact ⟨_, rfl⟩
theorem keyStr_lit {x : ByteArray} {kl : Lit} (h : keyOf Tryz.prog 9 (.string x) = some kl) : kl = klS x := by
  simp [keyOf, Tryz.underlying9, mapKey] at h; exact h.2.symm
def mkSl (c : Option Addr × Nat × Nat) : Value := .slice c.1 c.2.1 c.2.2
theorem sliceV_inv {v : Value} {y : DataW Unit × List MemPlace} (h : sliceElem v = some y) : ∃ c, v = mkSl c := by
  rcases sliceElem_inv h with ⟨rfl, _⟩ | ⟨g, n, c, rfl, _⟩
  · exact ⟨(none, 0, 0), rfl⟩
  · exact ⟨(some ⟨g, 0, none⟩, n, c), rfl⟩
def doneK (D0 : DataW Unit) (left : Lit → Bool) (k : ByteArray) : Bool := Maps.has D0 (klS k) && !left (klS k)
structure CopyInv (w : World) (nb ob : Nat) (s : St) (D0 : DataW Unit) (left : Lit → Bool) (m : Nat) (f : ByteArray → Value) (R : ByteArray → List Rp) (E : Nat → OpV) (D : Nat → Value) (wr : World) : Prop where
  rows : RowsO w.heap.size wr nb f R E D
  abs_ : ∀ k, (R k).map (absR E) = if doneK D0 left k = true then rowOf s k else []
  out : ∃ Dm : DataW Unit, wr.ownsMap Tryz.prog 9 sliceElem ob m Dm ∧ ∀ k, Maps.has Dm (klS k) = doneK D0 left k ∧ Dm.atKey (klS k) .nil = rowDat (f k)
  below : Below w.heap.size w wr
  none_ : ∀ k, doneK D0 left k = false → f k = .slice none 0 0
  left : ∀ z, left z = true → Maps.has D0 z = true
structure VerO (B : Nat) (w : World) (p mb db n nb : Nat) (f : ByteArray → Value) (s : St) (R : ByteArray → List Rp) (E : Nat → OpV) (D : Nat → Value) : Prop where
  box : ∃ bv, w.heap[p]? = some (.cells #[bv, .map (some mb), .map (some db)] 83 (0, 0)) ∧ IntsT w bv s.base
  dots : DotSet w db n fun d => decide (d ∈ s.dots)
  map : ∃ Dm : DataW Unit, w.ownsMap Tryz.prog 9 sliceElem mb n Dm ∧ ∀ k, Maps.has Dm (klS k) = decide (rowOf s k ≠ []) ∧ Dm.atKey (klS k) .nil = rowDat (f k)
  rows : RowsO B w nb f R E D
  abs_ : ∀ k, (R k).map (absR E) = rowOf s k
  ne : mb ≠ db
def CopyOut (w : World) (s : St) (n nb : Nat) (e : Ending) (w' : World) : Prop := ∃ p' mb' db' f' R E D, e = .returned (.pointer (some ⟨p', 0, none⟩)) ∧ VerO w.heap.size w' p' mb' db' n nb f' s R E D ∧ Below w.heap.size w w' ∧ w.heap.size ≤ p' ∧ w.heap.size ≤ mb' ∧ w.heap.size ≤ db'
theorem map_no_cells {w : World} {k b n : Nat} {R : Value → Option (DataW Unit × List MemPlace)} {D : DataW Unit} (h : w.ownsMap Tryz.prog k R b n D) : ∀ cs t, w.heap[b]? ≠ some (.cells cs t (0, 0)) := fun _ _ e => cells_ne_map h e rfl
theorem iter_no_cells {w : World} {k b r n cnt : Nat} {R : Value → Option (DataW Unit × List MemPlace)} {D : DataW Unit} {left : Lit → Bool} (h : w.ranges Tryz.prog k R b r n D left cnt) : ∀ cs t, w.heap[r]? ≠ some (.cells cs t (0, 0)) := fun _ _ e => by
  obtain ⟨_, _, _, _, _, _, _, _, _, h, _⟩ := h; rw [e] at h; cases h
theorem doneK_next {D0 : DataW Unit} {left : Lit → Bool} {x : ByteArray} (hl : left (klS x) = true) (hD : Maps.has D0 (klS x) = true) (k : ByteArray) : doneK D0 (fun z => left z && !z.sameKey (klS x)) k = if k = x then true else doneK D0 left k := by
  unfold doneK
  dsimp only
  by_cases e : k = x
  · subst e; rw [WideAt.sameKey_self (klS_key _), hD, if_pos rfl]; simp
  · rw [Maps.sameKey_ne (fun h => e (klS_inj h)), if_neg e]; simp
theorem CopyInv.next {w w1 w2 w3 : World} {nb ob m : Nat} {s : St} {D0 : DataW Unit} {left : Lit → Bool} {f : ByteArray → Value} {R : ByteArray → List Rp} {E E2 : Nat → OpV} {D D2 : Nat → Value} {x : ByteArray} {v2 : Value} {rs2 : List Rp} {Dm : DataW Unit}
    (hrows : RowsO w.heap.size w1 nb f R E D) (habs : ∀ k, (R k).map (absR E) = if doneK D0 left k = true then rowOf s k else []) (hDk : ∀ k, Maps.has Dm (klS k) = doneK D0 left k ∧ Dm.atKey (klS k) .nil = rowDat (f k)) (hnone : ∀ k, doneK D0 left k = false → f k = .slice none 0 0) (hleft : ∀ z, left z = true → Maps.has D0 z = true)
    (hB1 : Below w.heap.size w w1) (hob : w.heap.size ≤ ob) (hl : left (klS x) = true) (hB2 : Below w1.heap.size w1 w2) (hrow2 : RowR w2 w1.heap.size v2 rs2) (hcp : CpInv w1 nb (rowOf s x) (rowOf s x).length rs2 E2 D2 w2)
    (hDm : w2.ownsMap Tryz.prog 9 sliceElem ob m Dm) (hg3 : w2.grownBy w3 (some ob)) (hm3 : w3.ownsMap Tryz.prog 9 sliceElem ob (m + 1) (Dm.put (klS x) (rowDat v2))) :
    CopyInv w nb ob s D0 (fun z => left z && !z.sameKey (klS x)) (m + 1) (updF f x v2) (updR R x rs2) (joinE w1.heap.size E E2) (joinV w1.heap.size D D2) w3 := by
  have hd := doneK_next hl (hleft _ hl); have hRA := (hrows.add (k := x) hB2 hB1.size hrow2 hcp).turned hg3 (map_no_cells hDm); have lo : ∀ k', ∀ r ∈ R k', r.g < w1.heap.size := fun k' r hr => lt_of_heapQ ((hrows.po k').ops r hr)
  refine ⟨hRA, fun k => ?_, ⟨_, hm3, fun k => ?_⟩, ?_, fun k hk => ?_, fun z hz => ?_⟩
  · rw [hd k]
    by_cases e : k = x
    · subst e; rw [updR_same, if_pos rfl, if_pos rfl]; have h1 := hcp.abs_; rw [List.take_length] at h1; refine Eq.trans (List.map_congr_left fun r hr => ?_) h1; unfold absR joinE; rw [if_neg (by have := (hcp.ge r hr).1; omega)]
    · rw [updR_other _ _ e, if_neg e]; refine Eq.trans (List.map_congr_left fun r hr => ?_) (habs k); unfold absR joinE; rw [if_pos (lo k r hr)]
  · rw [hd k]
    by_cases e : k = x
    · subst e; rw [has_put_same hDm.isMap (klS_key _), atKey_put_same hDm.isMap (klS_key _), updF_same, if_pos rfl]; exact ⟨rfl, rfl⟩
    · rw [has_put_other (fun h => e (klS_inj h)), atKey_put_other (fun h => e (klS_inj h)), updF_other _ _ e, if_neg e]; exact hDk k
  · have h2 : Below w.heap.size w w2 := hB1.trans ⟨hB2.os, hB2.tape, hB2.output, hB2.size, fun i hi => hB2.block i (Nat.lt_of_lt_of_le hi hB1.size)⟩; exact h2.grown hg3 h2.size (fun j hj => by cases hj; exact hob)
  · rw [hd k] at hk
    by_cases e : k = x
    · rw [if_pos e] at hk; cases hk
    · rw [if_neg e] at hk; rw [updF_other _ _ e]; exact hnone k hk
  · exact hleft z (by revert hz; cases left z <;> simp)
theorem below_up {a b : World} {B B' : Nat} (h : Below B a b) (hB : B' ≤ B) : Below B' a b := ⟨h.os, h.tape, h.output, h.size, fun i hi => h.block i (Nat.lt_of_lt_of_le hi hB)⟩
theorem copy_end {w wr w4 w5 : World} {nb ob m n : Nat} {s : St} {D0 D1 : DataW Unit} {left : Lit → Bool} {f : ByteArray → Value} {R : ByteArray → List Rp} {E : Nat → OpV} {D : Nat → Value} {bv : Value}
    (hI : CopyInv w nb ob s D0 left m f R E D wr) (hleft : ∀ z, left z = false) (hsp : ∀ k, Maps.has D0 (klS k) = decide (rowOf s k ≠ [])) (hm : m ≤ n) (hob : w.heap.size ≤ ob) (hoblt : ob < wr.heap.size)
    (hB4 : Below wr.drew.heap.size wr.drew w4) (hT4 : IntsT w4 bv s.base) (hB5 : Below w4.heap.size w4 w5) (hM5 : w5.ownsMap Tryz.prog 87 unitElem w4.heap.size n D1) (hdk : ∀ d, wf3 d → Maps.has D1 (klD d) = decide (d ∈ s.dots)) :
    CopyOut w s n nb (.returned (.pointer (some ⟨w5.heap.size, 0, none⟩))) (w5.alloc (.cells #[bv, .map (some ob), .map (some w4.heap.size)] 83 (0, 0))) := by
  have hb4 : Below wr.heap.size wr w4 := (below_draws (Below.refl wr.heap.size wr) 1).trans hB4; have hb5 : Below wr.heap.size wr w5 := hb4.trans (below_up hB5 hb4.size); have hb6 : Below wr.heap.size wr (w5.alloc (.cells #[bv, .map (some ob), .map (some w4.heap.size)] 83 (0, 0))) := hb5.alloc hb5.size _; have hdone : ∀ k, doneK D0 left k = decide (rowOf s k ≠ []) := fun k => by unfold doneK; rw [hleft, hsp k]; simp
  obtain ⟨Dm, hDm, hDk⟩ := hI.out; have h45 := hB5.size; have h4r := hb4.size; have hwr := hI.below.size; have h4r' : wr.heap.size ≤ w4.heap.size := h4r; refine ⟨w5.heap.size, ob, w4.heap.size, f, R, E, D, rfl, ⟨⟨bv, (MapKept.heap_alloc _ _).1, ?_⟩, ⟨D1, hM5.alloc _, hdk⟩, ⟨Dm, ?_, fun k => ?_⟩, hI.rows.below hb6, fun k => ?_, by omega⟩, hI.below.trans (below_up hb6 hwr), by omega, hob, by omega⟩
  · exact intsT_keep (intsT_keep hT4 (Keep3.of_below hB5 (Nat.le_refl _))) (Keep3.of_below (below_alloc w5 _) (Nat.le_refl _))
  · exact (hDm.kept (grown_belowQ none hb6) (by simp)).mono hm
  · rw [← hdone k]; exact hDk k
  · rw [hI.abs_ k, hdone k]
    by_cases h : rowOf s k = []
    · rw [h]; simp
    · rw [if_pos (decide_eq_true h)]
set_option maxHeartbeats 8000000 in
theorem copy_ok (w : World) (p mb db n nb : Nat) (f : ByteArray → Value) (s : St) (hV : VerAt w p mb db f s n) (hS : StOk s nb) (hin : ∀ c ∈ s.parts, PartIn nb c) (hfew : ∀ k, (rowOf s k).length ≤ 1000) (hn : n ≤ 1000000) :
    Calls Tryz.prog 11 #[.pointer (some ⟨p, 0, none⟩)] w fun e w' => CopyOut w s n nb e w' := by
  obtain ⟨bv, hbox, hbT⟩ := hV.box; obtain ⟨D0, hD0, hsp⟩ := hV.map; have hmm := fun m => run_makeMap80 m
  have hlen := fun ty => hD0.len Tryz.underlying80 ty
  have nq : ∀ w, (binOp .eql 26 (.pointer (some ⟨p, 0, none⟩)) (.pointer none)).run Tryz.prog w = .ok (.bool false) w := fun w => by kernel_rfl
  have c1 : w.cell? ⟨p, 1, none⟩ = some (.map (some mb)) := by simp only [World.cell?, hbox]; rfl
  have hplt : p < w.heap.size := lt_of_heapQ hbox; have hmlt : mb < w.heap.size := hD0.lt; obtain ⟨m0, hm0⟩ : ∃ m0 : Nat, m0 = Maps.size D0 := ⟨_, rfl⟩; rw [← hm0] at hlen; have c1a : (w.alloc (.map #[] 0)).cell? ⟨p, 1, none⟩ = some (.map (some mb)) := cell_alloc c1 _; have e1 : (w.alloc (.map #[] 0)).heap.size = w.heap.size + 1 := by simp
  obtain ⟨ob, hob⟩ : ∃ ob, ob = w.heap.size := ⟨_, rfl⟩; have HD0 := hid hD0; have HSP := hid hsp; have HV := hid hV; have HS := hid hS; have HIN := hid hin; have HFEW := hid hfew; have HM0 := hid hm0; clear hV hS hin hfew hm0 hsp; go_enter Tryz.func11, Tryz.ntmps11
  go_wp2_with (first | (at_range; refine wpList_range_own _ rfl _ 80 rfl 9 22 keyed9 Tryz.underlying80 _ mb n _ rfl (HD0.out.alloc _) ?_; intro w0 hrg0 hg0 hs0) | go_in)
  go_frame
  rw [e1] at hrg0 hs0 ⊢; rw [← hob] at hrg0 ⊢; have hg0w : w.grownBy w0 none := ⟨hg0.os, hg0.tape, hg0.output, Nat.le_trans (by omega) hg0.size, fun i hi hne => (hg0.block i (by omega) (by simp)).trans ((MapKept.heap_alloc _ _).2 i hi)⟩; have hB0 : Below w.heap.size w w0 := ⟨hg0w.os, hg0w.tape, hg0w.output, hg0w.size, fun i hi => hg0w.block i hi (by simp)⟩; have hout0 : w0.ownsMap Tryz.prog 9 sliceElem ob 0 (.map []) := by rw [hob]; exact (World.ownsMap_made (H := Unit) w Tryz.prog 9 sliceElem).kept hg0 (by simp)
  have hd0 : ∀ k, doneK D0 (Maps.has D0) k = false := fun k => by unfold doneK; cases Maps.has D0 (klS k) <;> rfl
  have C0 : Hid (CopyInv w nb ob s D0 (Maps.has D0) 0 (fun _ => .slice none 0 0) (fun _ => []) (fun _ => ⟨0, ByteArray.empty, 0, ByteArray.empty, 0, false, []⟩) (fun _ => .slice none 0 0) w0) := by
    refine ⟨⟨fun k => RowR.nil _ _, fun k => ⟨fun r hr => by simp at hr, fun r hr => by simp at hr, fun r hr => by simp at hr, fun r hr => by simp at hr⟩, fun k => by simp, fun k q hq => by simp at hq, fun k k' _ r hr => by simp at hr, fun k k' _ b hb => (by cases hb), fun k r hr => by simp at hr⟩, fun k => by rw [hd0 k]; rfl, ⟨_, hout0, fun k => ⟨by rw [hd0 k]; rfl, rfl⟩⟩, hB0, fun _ _ => rfl, fun z hz => hz⟩
  have HRG0 := hid hrg0; have HOB := hid hob; clear hg0 hg0w hB0 hout0 hd0 hob c1a hs0 hD0 hlen
  go_loopw [4] (fun _ wr => ∃ (left : Lit → Bool) (cnt m : Nat) (f' : ByteArray → Value) (R : ByteArray → List Rp) (E : Nat → OpV) (D : Nat → Value), Hid (wr.ranges Tryz.prog 9 sliceElem mb (ob + 1) n D0 left cnt) ∧ m + cnt ≤ m0 ∧ Hid (CopyInv w nb ob s D0 left m f' R E D wr)) (fun _ wr => wr.rangeLeft mb (ob + 1))
  case atStart => exact ⟨_, _, 0, _, _, _, _, hrg0, (by rw [HM0.out]; omega), C0.out⟩
  case round =>
    obtain ⟨left, cnt, m, f', R, E, D, HR, hcnt, HI⟩ := hrel; have hrg := HR.out
    go_wp2_with (first
      | (at_next; refine wpList_next_ranges _ rfl _ rfl 9 keyed9 sliceElem Value.string mkSl (fun key kl h => keyStr_inv h) (fun v y h => sliceV_inv h) mb (ob + 1) n _ _ _ rfl hrg ?_ ?_)
      | go_in)
    · intro hc0 hl0; have hBr := HI.out.below; have hboxr : wr.heap[p]? = _ := (hBr.block p hplt).trans hbox; have hIr : IntsT wr bv s.base := intsT_keep hbT (Keep3.of_below hBr (Nat.le_refl _)); obtain ⟨D1, hD1, hdk⟩ := (HV.out.moved hBr).dots; obtain ⟨ba, bc, rfl⟩ := hIr.at.slice; have hblen : s.base.length ≤ 1000000 := Nat.le_of_not_lt fun h => by have h1 := chk_shape (zs := s.base) (.inr (by omega)); rw [HS.out.base] at h1; cases h1
      obtain ⟨bn, hbn⟩ : ∃ bn, bn = s.base.length := ⟨_, rfl⟩; have k0 : wr.cell? ⟨p, 0, none⟩ = some (.slice ba s.base.length bc) := by simp only [World.cell?, hboxr]; rfl
      have k2 : wr.cell? ⟨p, 2, none⟩ = some (.map (some db)) := by simp only [World.cell?, hboxr]; rfl
      have K42 := fun W (h : IntsAt W (.slice ba s.base.length bc) s.base) => clone_ints W _ s.base h hblen
      rw [← hbn] at k0 K42; have HBN := hid hbn; have K43 : ∀ W : World, W.ownsMap Tryz.prog 87 unitElem db n D1 → Calls Tryz.prog 43 #[.map (some db)] W fun e w' => e = .returned (.map (some W.heap.size)) ∧ w'.ownsMap Tryz.prog 87 unitElem W.heap.size n D1 ∧ w'.ownsMap Tryz.prog 87 unitElem db n D1 ∧ Below W.heap.size W w' := fun W h => AnyW.maps_Clone_owns Tryz.cloneDots 87 unitElem db n D1 W h
      have HD2 : Hid (wr.drew.ownsMap Tryz.prog 87 unitElem db n D1) := hid hD1; have HIr := hid hIr; have HD1 := hid hD1; have HDK := hid hdk; have HBR := hid hBr; clear hrg hBr hboxr hIr hD1 hdk HR c1 hblen hbn hbox hbT; go_wp2_with fail
      go_region_held (fun w' => w'.cell? ⟨p, 0, none⟩ = some (.slice ba bn bc) ∧ w'.cell? ⟨p, 2, none⟩ = some (.map (some db))) (go_keep) (first
        | (go_at_call 42; refine (K42 _ ?hI).mono ?_; (case hI => rw [HBN.out]; exact HIr.out.at); rintro e w4 ⟨a4, c4, rfl, hT4, hb4⟩; have k0' : w4.cell? ⟨p, 0, none⟩ = some (.slice ba bn bc) := (by rw [hb4.cell (lt_of_cell k0)]; exact k0); have k2' : w4.cell? ⟨p, 2, none⟩ = some (.map (some db)) := (by rw [hb4.cell (lt_of_cell k2)]; exact k2); have HB4 := hid hb4; have HT4 := hid hT4; clear hb4 hT4)
        | (go_at_call 43; refine (K43 _ ?hM).mono ?_; (case hM => exact HD2.out.kept (row := none) (grown_belowQ none HB4.out) (by simp)); rintro e w5 ⟨rfl, hM5, _, hb5⟩; have k0'' : w5.cell? ⟨p, 0, none⟩ = some (.slice ba bn bc) := (by rw [hb5.cell (lt_of_cell k0')]; exact k0'); have k2'' : w5.cell? ⟨p, 2, none⟩ = some (.map (some db)) := (by rw [hb5.cell (lt_of_cell k2')]; exact k2'); have HB5 := hid hb5; have HM5 := hid hM5; clear hb5 hM5))
      have hsz : Maps.size D0 ≤ n := HD0.out.size_le; have hend := hid (copy_end HI.out hl0 (fun k => (HSP.out k).1) (by have := HM0.out; omega) (by have := HOB.out; omega) (by obtain ⟨Dm, hDm, _⟩ := HI.out.out; exact hDm.lt) HB4.out HT4.out HB5.out HM5.out HDK.out); go_wp2_with fail; go_ret; exact hend.out
    · intro x ca cn cc kl y1 y2 w1 cnt1 hkey hlk hv hat hrg1 hlt hg1 hs1 hen; obtain rfl := keyStr_lit hkey; obtain ⟨rows, hrow, hF⟩ := HV.out.rows x; have hfx : mkSl (ca, cn, cc) = f x := sliceElem_inj hv (sliceElem_row hrow) ((hat .nil).symm.trans (HSP.out x).2); have hBr := HI.out.below; have hB1 : Below w.heap.size w w1 := hBr.grown hg1 hBr.size (fun j hj => by cases hj; have := HOB.out; omega); have V1 := HV.out.moved hB1; obtain ⟨rows1, hrow1, hF1⟩ := V1.rows x; rw [← hfx] at hrow1; have K41 := hid (copyParts_ok w1 (mkSl (ca, cn, cc)) nb (rowOf s x) rows1 hrow1 hF1 (fun c hc => HIN.out c (mem_rowOf hc)) (HFEW.out x)); have hRows1 := HI.out.rows.turned hg1 (iter_no_cells hrg); obtain ⟨Dm, hDm, hDk⟩ := HI.out.out; have hDm1 := hDm.kept hg1 (by simp)
      have hne : rowOf s x ≠ [] := by
        have h1 := HI.out.left _ hlk; rw [(HSP.out x).1] at h1; exact of_decide_eq_true h1
      have hdx : doneK D0 left x = false := by unfold doneK; rw [hlk]; simp
      have HABS := hid HI.out.abs_; have HNONE := hid HI.out.none_; have HLEFT := hid HI.out.left; have HDK := hid hDk; have HRG1 := hid hrg1; have HROWS1 := hid hRows1; have HDM1 := hid hDm1; have HB1 := hid hB1; have HFX := hid hfx; have HKEY := hid hkey; clear hrow hF hrow1 hF1 V1 hBr hB1 hRows1 hDm hDk hDm1 hrg1 hrg hat hv HI hfx; unfold mkSl at hen K41 ⊢
      dsimp only at hen K41 ⊢
      go_wp2_with fail; refine K41.out.mono ?_
      rintro e w2 ⟨v2, rs2, E2, D2, rfl, hrow2, hcp2, hB2⟩; have hDm2 := HDM1.out.kept (grown_belowQ none hB2) (by simp); obtain ⟨w3, hrun, hm3, hg3⟩ := hDm2.update keyed9 Tryz.underlying80 (show m < maxLen by unfold maxLen; have := HM0.out; have hsz : Maps.size D0 ≤ n := HD0.out.size_le; omega) HKEY.out (sliceElem_row hrow2); obtain ⟨a2, c2, hv2⟩ := hrow2.shape; have HN := hid (CopyInv.next HROWS1.out HABS.out HDK.out HNONE.out HLEFT.out HB1.out (by have := HOB.out; omega) hlk hB2 hrow2 hcp2 hDm2 hg3 hm3); have hrg3 := (HRG1.out.kept (grown_belowQ none hB2) (by simp) (by simp)).kept hg3 (by have := HOB.out; intro h; injection h; omega) (by intro h; injection h; omega); have HRG3 := hid hrg3; clear hrg3 hDm2 hm3 hg3 hcp2 hB2; rw [hv2] at hrun; rw [hv2]; go_wp2_with fail; exact ⟨⟨_, _, _, _, _, _, _, HRG3, (by omega), HN⟩, (by rw [HRG3.out.left_eq, HR.out.left_eq]; exact hlt)⟩
end Go.Proofs.YtdnebclemngdcaaGreatDoor
namespace Go.Proofs.YtdnebclemngdcaaGreatDoor
open Go.RowKit Go.Maps
set_option maxRecDepth 100000
set_option linter.unusedSectionVars false
variable [Inhabited ComV] [DecidableEq D3] [Inhabited D3] [Inhabited Dd] [Inhabited Dn] [Inhabited OpV]

set_option maxHeartbeats 8000000 in
theorem withoutSpent_ok (w : World) (vp db base nd : Nat) (V : D3 → Bool) (sv ov : Value) (rs os : List Rp) (E : Nat → OpV) (D : Nat → Value) (hs : RowR w base sv rs) (ho : RowR w base ov os) (hrs : BothOk w E D rs) (hos : BothOk w E D os) (hl1 : rs.length ≤ 1000) (hl2 : os.length ≤ 1000) (x0 x1 : Value) (hvp : w.heap[vp]? = some (.cells #[x0, x1, .map (some db)] 83 (0, 0))) (hV : DotSet w db nd V) (hnd : (rs.map (·.g)).Nodup) (hap : ∀ q ∈ rs, ∀ q' ∈ rs, q.g ≠ q'.g → ∀ b, (D q.g).ownBlock = some b → (D q'.g).ownBlock ≠ some b) :
    Calls Tryz.prog 74 #[.pointer (some ⟨vp, 0, none⟩), sv, ov] w fun e w' => SpentRet V (addsT E rs ++ addsT E os) rs E D w e w' := by
  have hmm := @run_makeMap Tryz.prog; obtain ⟨i28, hi28, hy0, hy1, hy2⟩ := info_parts Tryz.info34q; obtain ⟨sa, sc, hse⟩ := hs.shape; obtain ⟨oa, oc, hoe⟩ := ho.shape; obtain ⟨w0, hw0⟩ : ∃ w0, w0 = (((w.alloc (.cells #[.pointer (some ⟨vp, 0, none⟩)] 26)).alloc (.map #[] 0)).alloc (.cells #[.map (some (w.heap.size + 1))] 154)).alloc (.cells #[sv, ov] 22) := ⟨_, rfl⟩; obtain ⟨kv, hkv⟩ : ∃ kv, kv = w.heap.size := ⟨_, rfl⟩; obtain ⟨mb, hmb⟩ : ∃ mb, mb = w.heap.size + 1 := ⟨_, rfl⟩; obtain ⟨ka, hka⟩ : ∃ ka, ka = w.heap.size + 1 + 1 := ⟨_, rfl⟩; obtain ⟨bs, hbs⟩ : ∃ bs, bs = w.heap.size + 1 + 1 + 1 := ⟨_, rfl⟩; have A4 := alloc4 w (.cells #[.pointer (some ⟨vp, 0, none⟩)] 26) (.map #[] 0) (.cells #[.map (some (w.heap.size + 1))] 154) (.cells #[sv, ov] 22); rw [← hw0] at A4
  have hB0 : Below w.heap.size w w0 := by rw [hw0]; exact (((below_alloc w _).alloc (by simp) _).alloc (by simp; omega) _).alloc (by simp; omega) _
  have xkv : w0.heap[kv]? = some (.cells #[.pointer (some ⟨vp, 0, none⟩)] 26 (0, 0)) := by rw [hkv, A4.2.1]; exact (MapKept.heap_alloc _ _).1
  have xka : w0.heap[ka]? = some (.cells #[.map (some mb)] 154 (0, 0)) := by
    rw [hka, A4.2.2, hmb]; have := (MapKept.heap_alloc ((w.alloc (.cells #[.pointer (some ⟨vp, 0, none⟩)] 26)).alloc (.map #[] 0)) (.cells #[.map (some (w.heap.size + 1))] 154)).1
    simpa using this
  have xbs : w0.heap[bs]? = some (.cells #[sv, ov] 22 (0, 0)) := by
    rw [hbs, hw0]; have := (MapKept.heap_alloc (((w.alloc (.cells #[.pointer (some ⟨vp, 0, none⟩)] 26)).alloc (.map #[] 0)).alloc (.cells #[.map (some (w.heap.size + 1))] 154)) (.cells #[sv, ov] 22)).1
    simpa using this
  have T0 : TInv w mb [] 0 w0 := by
    refine ⟨?_, hB0⟩; have h1 := TgtAt.start (w.alloc (.cells #[.pointer (some ⟨vp, 0, none⟩)] 26)); rw [hw0]; have e : (w.alloc (.cells #[.pointer (some ⟨vp, 0, none⟩)] 26)).heap.size = mb := by rw [hmb]; simp
    rw [e] at h1; exact (h1.below (below_alloc _ _)).below (below_alloc _ _)
  have hwmb : w.heap.size ≤ mb := by omega
  have pick : ∀ q, q < 2 → ∃ la lc l, w0.cell? ⟨bs, q, none⟩ = some (.slice la l.length lc) ∧ RowR w base (.slice la l.length lc) l ∧ BothOk w E D l ∧ l.length ≤ 1000 ∧ accQ E rs os (q + 1) = accQ E rs os q ++ addsT E l := fun q hq => by
    rcases (by omega : q = 0 ∨ q = 1) with rfl | rfl
    · refine ⟨sa, sc, rs, ?_, by rw [← hse]; exact hs, hrs, hl1, rfl⟩; rw [← hse]; simp only [World.cell?, xbs]; rfl
    · refine ⟨oa, oc, os, ?_, by rw [← hoe]; exact ho, hos, hl2, rfl⟩; rw [← hoe]; simp only [World.cell?, xbs]; rfl
  have PICK := hid pick; have HT0 := hid T0; have HXKV := hid xkv; have HXKA := hid xka; have HXBS := hid xbs; have HB0 := hid hB0; have HRS := hid hrs; have HS := hid hs; have HVP := hid hvp; have HV := hid hV; have HND := hid hnd; have HAP := hid hap; rw [hse, hoe] at hw0 ⊢; obtain ⟨sn, hsn⟩ : ∃ sn, sn = rs.length := ⟨_, rfl⟩; obtain ⟨on, hon⟩ : ∃ on, on = os.length := ⟨_, rfl⟩; rw [← hsn] at hw0 ⊢; rw [← hon] at hw0 ⊢; have HSE := hid hse; have HSN := hid hsn; have hl1' : rs.length ≤ 1000 := hl1; rw [← hsn] at hl1'; clear hs ho hrs hos hl1 hl2 hvp hV hnd hap A4 hB0 xkv xka xbs T0 pick hse hoe hsn hon; go_enter Tryz.func74, Tryz.ntmps74; go_wp2_with fail; rw [← hw0, ← hbs, ← hka, ← hmb, ← hkv]; have HKV := hid hkv; clear hw0 hbs hka hmb hkv
  go_loopw [21] (fun i wr => ∃ (q n : Nat), q ≤ 2 ∧ i = .int .i64 q ∧ n ≤ q * 1000 ∧ Hid (AddW w w0 mb n (accQ E rs os q) wr)) (fun i _ => 2 - (intOf i).toNat)
  case atStart => exact ⟨0, 0, Nat.zero_le _, rfl, Nat.zero_le _, HT0.out, grown_belowQ _ (Below.refl _ _)⟩
  case round =>
    obtain ⟨q, n, hq, rfl, hn, HI⟩ := hrel
    by_cases hlt : q < 2
    · obtain ⟨la, lc, l, c0, hrow, hok, hl, hacc⟩ := PICK.out q hlt; have c1 := cellNe HT0.out.set HI.out.grown c0; obtain ⟨L, hL⟩ : ∃ L, L = l.length := ⟨_, rfl⟩; rw [← hL] at c1 hrow hl; have HROW := hid hrow; have HOK := hid hok; have HL := hid hL; have HACC := hid hacc; obtain ⟨T, hT⟩ : ∃ T, T = accQ E rs os q := ⟨_, rfl⟩; rw [← hT] at HI HACC; clear hT hrow hok hL hacc c0; have hi1 : (q : Int) < 2 := by omega
      obtain ⟨w1, hw1⟩ : ∃ w1, w1 = wr := ⟨_, rfl⟩; subst hw1; go_wp2_with fail; clear c1
      go_loopw [27] (fun i wr => ∃ (j m : Nat), j ≤ L ∧ i = .int .i64 j ∧ m ≤ n + j ∧ Hid (AddW w w0 mb m (T ++ addsT E (l.take j)) wr)) (fun i _ => L - (intOf i).toNat)
      case atStart => exact ⟨0, n, Nat.zero_le _, rfl, Nat.le_refl _, (by show AddW _ _ _ _ _ _; simpa [addsT] using HI.out)⟩
      case round =>
        obtain ⟨j, m, hj, rfl, hm, HJ⟩ := hrel
        by_cases hltj : j < L
        · obtain ⟨r, hr⟩ := some_of_lt (l := l) (k := j) (by rw [← HL.out]; exact hltj); have hrow' := HROW.out; rw [HL.out] at hrow'; obtain ⟨b, cap, e1, q0, q1, q2⟩ := hrow'.at hr; injection e1 with e1 e2 e3; subst e1 e3; clear e2 hrow'; have hmem := List.mem_of_getElem? hr; have ho := HOK.out.ops r hmem; have hd := HOK.out.dots r hmem; have hf := HOK.out.fit r hmem; have hv := HOK.out.vec r hmem; obtain ⟨b1, o1, p, hwa, hpl, hpn, ct⟩ := hv.at; have hwf := hv.wf; have hB := HJ.out.inv.below; have r0 := upQ hB q0; have r1 := upQ hB q1; have r2 := upQ hB q2; have ctr := upQ hB ct; have hsn := addsT_snoc E hr; have hi2 : (j : Int) < (L : Int) := by omega
          obtain ⟨da, dc, hdve⟩ := hd.shape; have hor : wr.heap[r.g]? = some (.cells (opC (E r.g) (D r.g)).toArray 76 (0, 0)) := by rw [hB.block _ (lt_of_heapQ ho)]; exact ho
          rw [hdve] at hor; have hft := hf.text; obtain ⟨bb, hbb⟩ : ∃ bb, bb = isAddQ E r := ⟨_, rfl⟩; rw [← hbb] at hsn; unfold isAddQ at hbb; obtain ⟨wa, wc, wn, pl, g⟩ := r; simp only at hwa hpl; subst hwa hpl; have tq : dotR E ⟨some ⟨b1, o1, none⟩, wc, wn, p, g⟩ = ⟨p, wn.getD (p : Int).toNat 0, (E g).at_⟩ := rfl; rw [tq] at hsn hwf; simp only at r0 r1 r2 hor ctr hpn hft hbb hsn; obtain ⟨n1, hn1⟩ : ∃ n1, n1 = wn.length := ⟨_, rfl⟩; obtain ⟨TT, hTT⟩ : ∃ TT, TT = wn.getD (p : Int).toNat 0 := ⟨_, rfl⟩; rw [← hn1] at r0 hpn; rw [← hTT] at ctr hsn hwf; have HSNN := hid hsn; clear q0 q1 q2 ho hd hf hv ct hr hmem hdve hn1 hTT tq hsn hB; obtain ⟨w2, hw2⟩ : ∃ w2, w2 = wr.alloc (.cells #[.slice (some ⟨b1, o1, none⟩) n1 wc, .int .i64 p, .slice (some ⟨g, 0, none⟩) 1 1] 34) := ⟨_, rfl⟩; have hB2 : Below wr.heap.size wr w2 := by rw [hw2]; exact below_alloc _ _
          have x2 : w2.heap[wr.heap.size]? = some (.cells #[.slice (some ⟨b1, o1, none⟩) n1 wc, .int .i64 p, .slice (some ⟨g, 0, none⟩) 1 1] 34 (0, 0)) := by rw [hw2]; exact (MapKept.heap_alloc _ _).1
          have ho2 : w2.heap[g]? = _ := (hB2.block _ (lt_of_heapQ hor)).trans hor; have K104 := hid (isAdd_ok w2 (some ⟨b1, o1, none⟩) n1 wc p g (E g) _ ho2); rw [← hbb] at K104; obtain ⟨w3, hw3⟩ : ∃ w3, w3 = w2.alloc (.cells #[.slice (some ⟨b1, o1, none⟩) n1 wc, .int .i64 p, .slice (some ⟨g, 0, none⟩) 1 1] 34) := ⟨_, rfl⟩; rw [← hw3] at K104; have hB3 : Below w2.heap.size w2 w3 := by rw [hw3]; exact below_alloc _ _
          have hB13 : Below wr.heap.size wr w3 := hB2.trans (hB3.mono hB2.size); have x3 := (hB3.block _ (lt_of_heapQ x2)).trans x2; obtain ⟨y0, y1, y2⟩ := box3Q x3; have J3 := HJ.out.moved hB13
          have k3 : w3.cell? ⟨ka, 0, none⟩ = some (.map (some mb)) := by
            have := OffHeap HT0.out.set J3.grown HXKA.out; simp only [World.cell?, this]; rfl
          have HJ3 := hid J3; obtain ⟨bx, hbx⟩ : ∃ bx, bx = wr.heap.size := ⟨_, rfl⟩; rw [← hbx] at y0 y1 y2; have HO3 := hid ((hB13.block _ (lt_of_heapQ hor)).trans hor); have HCT := hid (upQ hB13 ctr); have HWF := hid hwf; have HBB := hid hbb; go_wp2_with fail; rw [← hw2]; refine K104.out.mono ?_; rintro e w' ⟨rfl, hw'⟩; subst hw'; rw [← hbx]; clear hw2 hB2 x2 ho2 K104 hB3 hB13 x3 J3 r0 r1 r2 ctr hor hw3 hwf hbb hbx
          cases bb with
          | false =>
            go_wp2_with fail; refine ⟨⟨j + 1, m, by omega, by go_num, by omega, ?_⟩, by simp [intOf]; omega⟩
            show AddW _ _ _ _ _ _; rw [HSNN.out]
            simpa using HJ3.out
          | true =>
            go_wp2_with fail
            go_region_held (fun w' => w'.cell? ⟨ka, 0, none⟩ = some (.map (some mb)) ∧ w'.cell? ⟨bx, 0, none⟩ = some (.slice (some ⟨b1, o1, none⟩) n1 wc) ∧ w'.cell? ⟨bx, 1, none⟩ = some (.int .i64 p) ∧ w'.cell? ⟨bx, 2, none⟩ = some (.slice (some ⟨g, 0, none⟩) 1 1)) (go_keep) (first | (go_at_call 103; refine (targetOf_ok _ b1 o1 n1 wc p g TT (E g) da (E g).dots.length dc ?ho ?hp ?hc).mono ?_; (case ho => exact HO3.out); (case hp => exact hpn); (case hc => exact HCT.out); rintro e w5 ⟨rfl, hb5⟩; have hb6 : Below w'.heap.size w' w5 := (below_draws (Below.refl _ _) 1).trans hb5; have J5 := HJ3.out.moved hb6; obtain ⟨w6, hrun, hset, hg6⟩ := J5.inv.set.put ⟨p, TT, (E g).at_⟩ (E g).text HWF.out hft (by unfold maxLen; omega); have k3' := upQ hb6 k3; have y0' := upQ hb6 y0; have y1' := upQ hb6 y1; have y2' := upQ hb6 y2; have k3'' := cellNe J5.inv.set hg6 k3'; have y0'' := cellNe J5.inv.set hg6 y0'; have y1'' := cellNe J5.inv.set hg6 y1'; have y2'' := cellNe J5.inv.set hg6 y2'; have J6 : Hid (AddW w w0 mb (m + 1) ((T ++ addsT E (l.take j)) ++ [(⟨p, TT, (E g).at_⟩, (E g).text)]) w6) := ⟨J5.inv.step hwmb hset hg6, grown_transQ J5.grown hg6⟩; clear hb5 hb6 J5 hset hg6))
            clear k3 y0 y1 y2 k3' y0' y1' y2' k3'' y0'' y1'' y2'' hrun; go_wp2_with fail; refine ⟨⟨j + 1, m + 1, by omega, by go_num, by omega, ?_⟩, by simp [intOf]; omega⟩; show AddW _ _ _ _ _ _; rw [HSNN.out, if_pos trivial, ← List.append_assoc]; exact J6.out
        · obtain rfl : j = L := by omega
          have hi3 : ¬ (j : Int) < (j : Int) := by omega
          have J : Hid (AddW w w0 mb m (accQ E rs os (q + 1)) wr) := by
            have := HJ.out; rw [List.take_of_length_le (by rw [← HL.out]; exact Nat.le_refl _)] at this; rw [HACC.out]; exact this
          clear HJ; go_wp2_with fail; refine ⟨⟨q + 1, m, by omega, by go_num, by omega, J.out⟩, by simp [intOf]; omega⟩
    · obtain rfl : q = 2 := by omega
      have hi3 : ¬ (2 : Int) < 2 := by omega
      obtain ⟨T, hT⟩ : ∃ T, T = addsT E rs ++ addsT E os := ⟨_, rfl⟩; have HTT := hid hT; have hA : AddW w w0 mb n T wr := by rw [hT]; exact HI.out
      obtain ⟨w1, hw1⟩ : ∃ w1, w1 = wr := ⟨_, rfl⟩; subst hw1; have A0 := hid (SpW.start (f := keepD V T) HRS.out.ops HRS.out.dots hA.inv.below); have KV1 := hid (OffHeap HT0.out.set hA.grown HXKV.out); have KA1 := hid (OffHeap HT0.out.set hA.grown HXKA.out); have AS := hid hA.inv.set; have AB := hid hA.inv.below; clear hT hA HI hlt; go_wp2_with fail
      go_loopw [12, 41] (fun kvv i wr => ∃ (k : Nat) (Dk : Nat → Value), k ≤ sn ∧ i = .int .i64 k ∧ Hid (RowR wr w.heap.size kvv (keepL (spQ V T E) 0 (rs.take k))) ∧ Hid (SpW (keepD V T) w rs E D k Dk wr) ∧ Hid (wr.heap[kv]? = some (.cells #[.pointer (some ⟨vp, 0, none⟩)] 26 (0, 0))) ∧ Hid (wr.heap[ka]? = some (.cells #[.map (some mb)] 154 (0, 0))) ∧ Hid (TgtAt wr mb n T)) (fun _ i _ => sn - (intOf i).toNat)
      case atStart => exact ⟨0, D, Nat.zero_le _, rfl, RowR.nil _ _, A0.out, KV1.out, KA1.out, AS.out⟩
      case round =>
        obtain ⟨k, Dk, hk, rfl, HR, HI, HKV2, HKA2, HTG⟩ := hrel
        by_cases hlt : k < sn
        · obtain ⟨r, hr⟩ := some_of_lt (l := rs) (k := k) (by rw [← HSN.out]; exact hlt); obtain ⟨b, cap, e1, q0, q1, q2⟩ := HS.out.at hr; obtain ⟨cur34, hc34⟩ := RowR.type (by rw [← e1]; exact HS.out : RowR w base (.slice (some ⟨b, 0, none⟩) rs.length cap) rs); rw [HSE.out] at e1; injection e1 with e1 e2 e3; subst e1 e3; clear e2; have hmem := List.mem_of_getElem? hr; have hbG := not_blocksG HRS.out.ops HRS.out.dots hc34 (by decide) (by decide); have r0 := HI.out.off.cell q0 hbG; have r1 := HI.out.off.cell q1 hbG; have r2 := HI.out.off.cell q2 hbG; have ho := HI.out.ops r hmem; have hd := HI.out.dots r hmem; rw [trimK_old HND.out hr] at ho hd; have hf := HRS.out.fit r hmem; have vpG := not_blocksG HRS.out.ops HRS.out.dots HVP.out (by decide) (by decide)
          have hvpr : wr.heap[vp]? = some (.cells #[x0, x1, .map (some db)] 83 (0, 0)) := (HI.out.off.block _ (lt_of_heapQ HVP.out) vpG).trans HVP.out; obtain ⟨des, dcl, hdo⟩ := HV.out.obj; have hVr : DotSet wr db nd V := HV.out.off HI.out.off (map_notG HRS.out.ops HRS.out.dots hdo); have hs := keepL_snoc (spQ V T E) hr; obtain ⟨dv, hdv⟩ : ∃ dv, dv = Dk r.g := ⟨_, rfl⟩; rw [← hdv] at ho hd; obtain ⟨da, dc, hde⟩ := hd.shape; have hrow := HR.out; obtain ⟨m, hm⟩ : ∃ m, m = (keepL (spQ V T E) 0 (rs.take k)).length := ⟨_, rfl⟩; have hmk : m ≤ k := by rw [hm]; exact Nat.le_trans (keepL_sub _ _ _).length_le (by rw [List.length_take]; omega)
          unfold RowR at hrow; rw [← hm] at hrow; obtain ⟨va2, vc2, hve2⟩ := HR.out.shape; rw [← hm] at hve2; subst hve2; have hws : w.heap.size ≤ wr.heap.size := HI.out.off.size; obtain ⟨bb, hbb⟩ : ∃ bb, bb = spQ V T E k r := ⟨_, rfl⟩; rw [← hbb] at hs; unfold spQ at hbb; have hft := hf.text; have hfw := hf.few; have hfd := hf.dots; have hi5 : (k : Int) < (sn : Int) := by omega
          obtain ⟨w2, hw2⟩ : ∃ w2, w2 = wr.alloc (.cells #[.slice r.wa r.wn.length r.wc, .int .i64 r.pl, .slice (some ⟨r.g, 0, none⟩) 1 1] 34) := ⟨_, rfl⟩; obtain ⟨w3, hw3⟩ : ∃ w3, w3 = w2.alloc (.cells #[.pointer (some ⟨r.g, 0, none⟩)] 159) := ⟨_, rfl⟩; have hB2 : Below wr.heap.size wr w2 := by rw [hw2]; exact below_alloc _ _
          have hB3' : Below w2.heap.size w2 w3 := by rw [hw3]; exact below_alloc _ _
          have hB3 : Below wr.heap.size wr w3 := hB2.trans (hB3'.mono hB2.size); have hs2 : w2.heap.size = wr.heap.size + 1 := by rw [hw2]; simp
          have x2 : w3.heap[wr.heap.size]? = some (.cells #[.slice r.wa r.wn.length r.wc, .int .i64 r.pl, .slice (some ⟨r.g, 0, none⟩) 1 1] 34 (0, 0)) := by
            rw [hw3, (MapKept.heap_alloc _ _).2 _ (by omega), hw2]; exact (MapKept.heap_alloc _ _).1
          have x3 : w3.heap[wr.heap.size + 1]? = some (.cells #[.pointer (some ⟨r.g, 0, none⟩)] 159 (0, 0)) := by
            rw [hw3, ← hs2]; exact (MapKept.heap_alloc _ _).1
          have up3 : ∀ {i : Nat} {o : Obj}, wr.heap[i]? = some o → w3.heap[i]? = some o := fun {i o} h => (hB3.block _ (lt_of_heapQ h)).trans h
          have ho3 := up3 ho; have hd3 := hd.below hB3; have hvp3 := up3 hvpr; have hkv3 := up3 HKV2.out; have hka3 := up3 HKA2.out; have hV3 := hVr.below hB3; have hT3 := HTG.out.below hB3; have hSp3 := HI.out.moved hB3
          have K106 : ∀ u, Below w3.heap.size w3 u → Calls Tryz.prog 106 #[dv, .func (.func 107) #[] #[.pointer (some ⟨kv, 0, none⟩), .pointer (some ⟨ka, 0, none⟩), .pointer (some ⟨wr.heap.size + 1, 0, none⟩)]] u fun e w' => ∃ dv', e = .returned dv' ∧ DotsO w' dv' (keepD V T (E r.g)) ∧ dv'.ownBlock = dv.ownBlock ∧ Off (ownL dv) u w' := fun u hu => by
            have c : ∀ {i : Nat} {cs : Array Value} {t : TypeId} {j : Nat} {v : Value}, w3.heap[i]? = some (.cells cs t (0, 0)) → cs[j]? = some v → u.cell? ⟨i, j, none⟩ = some v := fun {i cs t j v} h hj => by
              have h' := (hu.block _ (lt_of_heapQ h)).trans h; simp only [World.cell?, h']; exact hj
            refine spentDots_ok u dv (E r.g).dots kv ka (wr.heap.size + 1) vp db mb r.g nd n V T (E r.g).text (hd3.below hu) hfd hfw hft (c hkv3 rfl) (c hvp3 rfl) (c hka3 rfl) (c x3 rfl) (c ho3 rfl) (hV3.below hu) (hT3.below hu) fun bq hbq => ?_
            obtain ⟨cq, hcq⟩ := hd3.block hbq
            have ne : ∀ {i : Nat} {cs : Array Value} {t : TypeId}, w3.heap[i]? = some (.cells cs t (0, 0)) → t ≠ 87 → bq ≠ i := fun {i cs t} h ht e => by
              rw [← e, hcq] at h; injection h with h; injection h with _ h; exact ht h.symm
            exact ⟨ne hkv3 (by decide), ne hvp3 (by decide), ne hka3 (by decide), ne x3 (by decide), ne ho3 (by decide)⟩
          have post : ∀ u w5 dv', Below w3.heap.size w3 u → DotsO w5 dv' (keepD V T (E r.g)) → dv'.ownBlock = dv.ownBlock → Off (ownL dv) u w5 → w5.heap[r.g]? = some (.cells (opC (E r.g) dv).toArray 76 (0, 0)) ∧ w5.heap[wr.heap.size]? = some (.cells #[.slice r.wa r.wn.length r.wc, .int .i64 r.pl, .slice (some ⟨r.g, 0, none⟩) 1 1] 34 (0, 0)) ∧ w5.heap[wr.heap.size + 1]? = some (.cells #[.pointer (some ⟨r.g, 0, none⟩)] 159 (0, 0)) ∧ w5.ownsRow w.heap.size 34 3 (.slice va2 m vc2) m ((keepL (spQ V T E) 0 (rs.take k)).flatMap Rp.cells) ∧ SpW (keepD V T) w rs E D (k + 1) (updD Dk r.g dv') (w5.setCell ⟨r.g, 6, none⟩ dv') ∧ w5.heap[kv]? = some (.cells #[.pointer (some ⟨vp, 0, none⟩)] 26 (0, 0)) ∧ w5.heap[ka]? = some (.cells #[.map (some mb)] 154 (0, 0)) ∧ TgtAt w5 mb n T ∧ w.heap.size ≤ w5.heap.size := fun u w5 dv' hu h1 h2 h3 => by
            have k5 : ∀ {i : Nat} {cs : Array Value} {t : TypeId}, w3.heap[i]? = some (.cells cs t (0, 0)) → t ≠ 87 → w5.heap[i]? = some (.cells cs t (0, 0)) := fun {i cs t} h ht => by
              have h' := (hu.block _ (lt_of_heapQ h)).trans h; rw [h3.block _ (lt_of_heapQ h') (not_ownL (hd3.below hu) h' fun cs' e => by injection e with _ e; exact ht e)]; exact h'
            refine ⟨k5 ho3 (by decide), k5 x2 (by decide), k5 x3 (by decide), ?_, ?_, k5 hkv3 (by decide), k5 hka3 (by decide), ?_, Nat.le_trans hws (Nat.le_trans hB3.size (Nat.le_trans hu.size h3.size))⟩
            · have hr3 := owns_belowQ hrow hB3; refine ⟨hr3.1, ?_⟩; rcases hr3.2 with h0 | ⟨g', cap', cur', e1, e2, e3, e4⟩
              · exact .inl h0
              · exact .inr ⟨g', cap', cur', e1, e2, k5 e3 (by decide), e4⟩
            · have := (hSp3.moved hu).step (w5 := w5) (dv := dv') hr HND.out HAP.out (by rw [← hdv]; exact h3) h1 (by rw [← hdv]; exact h2); exact this
            · have hTu := hT3.below hu; obtain ⟨es, cl, hob⟩ := hTu.obj; exact hTu.off h3 (not_ownL (hd3.below hu) hob fun cs' e => by cases e)
          have HPOST := hid post; have HK106 := hid K106; have HSS := hid hs; have HM := hid hm; have HBB := hid hbb; obtain ⟨rm, hrm⟩ : ∃ rm, rm = (E r.g).rem := ⟨_, rfl⟩; rw [← hrm] at HBB; have o6 : w3.cell? ⟨r.g, 6, none⟩ = some dv := by simp only [World.cell?, ho3]; rfl
          have o6f : w3.frozen? ⟨r.g, 6, none⟩ = false := by simp only [World.frozen?, ho3]; simp
          have p3 : w3.cell? ⟨wr.heap.size + 1, 0, none⟩ = some (.pointer (some ⟨r.g, 0, none⟩)) := by simp only [World.cell?, x3]; rfl
          obtain ⟨ko, hko⟩ : ∃ ko, ko = wr.heap.size + 1 := ⟨_, rfl⟩; obtain ⟨bx, hbx⟩ : ∃ bx, bx = wr.heap.size := ⟨_, rfl⟩; rw [← hko] at HK106 HPOST p3; rw [← hbx] at HPOST; have HRM := hid hrm; clear q0 q1 q2 ho hd hmem hf hvpr hVr hs hm hrow hbb hbG vpG hdo hc34 hB2 hB3' x2 x3 up3 ho3 hd3 hvp3 hkv3 hka3 hV3 hT3 hSp3 K106 post hft hfw hfd hs2 hrm hdv HR HI HKV2 HKA2 HTG; obtain ⟨wa, wc, wn, pl, g⟩ := r; simp only at r0 r1 r2 hw2 hw3 HK106 HPOST HSS HBB HRM p3 o6 o6f; obtain ⟨n1, hn1⟩ : ∃ n1, n1 = wn.length := ⟨_, rfl⟩; rw [← hn1] at r0 hw2 HPOST
          have HONE : Hid (∀ v ∈ [Value.slice wa n1 wc, .int .i64 pl, .slice (some ⟨g, 0, none⟩) 1 1], v.oneCell' = true) := by
            rw [hn1]; exact Rp.one ⟨wa, wc, wn, pl, g⟩
          have HN1 := hid hn1; obtain ⟨dl, hdl⟩ : ∃ dl, dl = (E g).dots.length := ⟨_, rfl⟩; rw [← hdl] at hde; subst hde; have HB3 := hid hB3; clear hn1 hdl hr hB3; go_wp2_with fail; rw [← hw2, ← hw3, ← hko, ← hbx]; clear hw2 hw3 hko hbx r0 r1 r2; have hBd : Hid (Below w3.heap.size w3 w3.drew) := (below_draws (Below.refl _ _) 1 : Below w3.heap.size w3 w3.drew)
          go_region_with (first | (go_at_call 106; refine (HK106.out _ hBd.out).mono ?_; rintro e w5 ⟨dv5, rfl, hd5, hw5, ho5⟩; obtain ⟨a5, c5, hs5⟩ := hd5.shape; have P5 := hid (HPOST.out w3.drew w5 dv5 hBd.out hd5 hw5 ho5); obtain ⟨M5, hM5⟩ : ∃ M5, M5 = (keepD V T (E g)).length := ⟨_, rfl⟩; rw [← hM5] at hs5; subst hs5; have p5 : w5.cell? ⟨ko, 0, none⟩ = some (.pointer (some ⟨g, 0, none⟩)) := (by have h := P5.out.2.2.1; simp only [World.cell?, h]; rfl); have q5 : w5.cell? ⟨g, 6, none⟩ = some (.slice da dl dc) := (by have h := P5.out.1; simp only [World.cell?, h]; rfl); have q5f : w5.frozen? ⟨g, 6, none⟩ = false := (by have h := P5.out.1; simp only [World.frozen?, h]; simp); have HM5 := hid hM5; clear hd5 hw5 ho5 hM5))
          all_goals (
            obtain ⟨w6, hw6⟩ : ∃ w6, w6 = w5.setCell ⟨g, 6, none⟩ (.slice a5 M5 c5) := ⟨_, rfl⟩; rw [← hw6]; obtain ⟨z1, z2, z3, z4, z5, z6, z7, z8, z9⟩ := P5.out; rw [← hw6] at z5
            have oth : ∀ {i : Nat} {cs : Array Value} {t : TypeId}, w5.heap[i]? = some (.cells cs t (0, 0)) → t ≠ 76 → w6.heap[i]? = some (.cells cs t (0, 0)) := fun {i cs t} h ht => by
              rw [hw6, Below.heap_setCell _ _ _ _ fun e => by
                have e' : i = g := e; rw [e', z1] at h; injection h with h; injection h with _ h; exact ht h.symm]
              exact h
            have g6 : w6.heap[g]? = some (.cells ((opC (E g) (.slice da dl dc)).toArray.setIfInBounds 6 (.slice a5 M5 c5)) 76 (0, 0)) := by rw [hw6]; exact heap_setQ z1 _ _
            have y0 : w6.cell? ⟨bx, 0, none⟩ = some (.slice wa n1 wc) := by have h := oth z2 (by decide); simp only [World.cell?, h]; rfl
            have y1 : w6.cell? ⟨bx, 1, none⟩ = some (.int .i64 pl) := by have h := oth z2 (by decide); simp only [World.cell?, h]; rfl
            have y2 : w6.cell? ⟨bx, 2, none⟩ = some (.slice (some ⟨g, 0, none⟩) 1 1) := by have h := oth z2 (by decide); simp only [World.cell?, h]; rfl
            have y3 : w6.cell? ⟨ko, 0, none⟩ = some (.pointer (some ⟨g, 0, none⟩)) := by have h := oth z3 (by decide); simp only [World.cell?, h]; rfl
            have y4 : w6.cell? ⟨g, 5, none⟩ = some (.bool rm) := by rw [HRM.out]; simp only [World.cell?, g6]; rfl
            have y5 : w6.cell? ⟨g, 6, none⟩ = some (.slice a5 M5 c5) := by simp only [World.cell?, g6]; rfl
            have ROW6 : Hid (w6.ownsRow w.heap.size 34 3 (.slice va2 m vc2) m ((keepL (spQ V T E) 0 (rs.take k)).flatMap Rp.cells)) := by
              refine ⟨z4.1, ?_⟩; rcases z4.2 with h0 | ⟨g', cap', cur', e1, e2, e3, e4⟩
              · exact .inl h0
              · exact .inr ⟨g', cap', cur', e1, e2, oth e3 (by decide), e4⟩
            have kv6 := oth z6 (by decide); have ka6 := oth z7 (by decide)
            have T6 : TgtAt w6 mb n T := by
              rw [hw6]; refine z8.off (Off.set (G := [g]) (List.mem_singleton.2 rfl) _ _) fun hm => ?_
              obtain ⟨es, cl, hob⟩ := z8.obj; rw [List.mem_singleton.1 hm, z1] at hob; cases hob
            have hs6 : w.heap.size ≤ w6.heap.size := by rw [hw6]; simpa [World.setCell] using z9
            have fin0 : bb = false → RowR w6 w.heap.size (.slice va2 m vc2) (keepL (spQ V T E) 0 (rs.take (k + 1))) := fun h => by
              rw [HSS.out, h]; show World.ownsRow _ _ _ _ _ _ _; rw [if_neg (by decide), List.append_nil, ← HM.out]; exact ROW6.out
            have fin1 : bb = true → ∀ (W' : World) (v' : Value) (o : Obj), (w6.alloc o).grownBy W' (Value.slice va2 m vc2).ownBlock → W'.ownsRow w.heap.size 34 3 v' (m + 1) ((keepL (spQ V T E) 0 (rs.take k)).flatMap Rp.cells ++ [.slice wa n1 wc, .int .i64 pl, .slice (some ⟨g, 0, none⟩) 1 1]) → RowR W' w.heap.size v' (keepL (spQ V T E) 0 (rs.take (k + 1))) ∧ SpW (keepD V T) w rs E D (k + 1) (updD Dk g (.slice a5 M5 c5)) W' ∧ W'.heap[kv]? = some (.cells #[.pointer (some ⟨vp, 0, none⟩)] 26 (0, 0)) ∧ W'.heap[ka]? = some (.cells #[.map (some mb)] 154 (0, 0)) ∧ TgtAt W' mb n T := fun h W' v' o hg ho => by
              refine ⟨?_, spent_app ROW6.out z5 kv6 ka6 T6 o hg⟩; rw [HSS.out, h, if_pos rfl]; refine RowR.snoc ?_; rw [← HM.out]; have : Rp.cells ⟨wa, wc, wn, pl, g⟩ = [.slice wa n1 wc, .int .i64 pl, .slice (some ⟨g, 0, none⟩) 1 1] := by rw [HN1.out]; rfl
              rw [this]; exact ho
            have FIN0 := hid fin0; have FIN1 := hid fin1; have SP6 := hid z5; have KV6 := hid kv6; have KA6 := hid ka6; have TT6 := hid T6; have b1' : ((k : Int) == 0) = decide (k = 0) := by rw [Bool.eq_iff_iff]; simp
            obtain ⟨B1, hB1⟩ : ∃ B1, B1 = decide (k = 0) := ⟨_, rfl⟩; rw [← hB1] at b1' HBB
            have b3 : decide (keepD V T (E g) ≠ []) = decide (0 < M5) := by
              rw [HM5.out, decide_eq_decide]; exact (List.length_pos_iff).symm
            rw [b3] at HBB; clear hw6 z1 z2 z3 z4 z5 z6 z7 z8 z9 oth g6 kv6 ka6 T6 fin0 fin1 p5 q5 q5f p3 o6 o6f hB1 b3 P5
            cases B1 with
            | true =>
              go_wp2_with (at_builtin; refine wpList_append_own _ rfl _ _ 22 rfl w.heap.size 34 i28 _ 3 56 Tryz.underlying22 hi28 hy0 hy1 hy2 rfl (by decide) _ _ _ rfl (ROW6.out.alloc _) ⟨w6.heap.size, 0, none⟩ 1 1 [.slice wa n1 wc, .int .i64 pl, .slice (some ⟨g, 0, none⟩) 1 1] rfl rfl (cells_newQ _ _ _ _ (by simp)) ?ho1 ?ho2 ?ho3 ?ho4 ?_; (case ho1 => exact HONE.out); (case ho2 => unfold maxLen; omega); (case ho3 => omega); (case ho4 => simp; omega); intro v9 w9 hown9 hgr9 _; have G9 := hid hgr9; have O9 := hid hown9; clear hown9 hgr9)
              obtain ⟨F1, F2, F3, F4, F5⟩ := FIN1.out HBB.out w9 v9 _ G9.out O9.out; refine ⟨⟨k + 1, updD Dk g (.slice a5 M5 c5), by omega, by go_num, F1, F2, F3, F4, F5⟩, by simp [intOf]; omega⟩
            | false =>
              cases rm with
              | false =>
                go_wp2_with (at_builtin; refine wpList_append_own _ rfl _ _ 22 rfl w.heap.size 34 i28 _ 3 56 Tryz.underlying22 hi28 hy0 hy1 hy2 rfl (by decide) _ _ _ rfl (ROW6.out.alloc _) ⟨w6.heap.size, 0, none⟩ 1 1 [.slice wa n1 wc, .int .i64 pl, .slice (some ⟨g, 0, none⟩) 1 1] rfl rfl (cells_newQ _ _ _ _ (by simp)) ?ho1 ?ho2 ?ho3 ?ho4 ?_; (case ho1 => exact HONE.out); (case ho2 => unfold maxLen; omega); (case ho3 => omega); (case ho4 => simp; omega); intro v9 w9 hown9 hgr9 _; have G9 := hid hgr9; have O9 := hid hown9; clear hown9 hgr9)
                obtain ⟨F1, F2, F3, F4, F5⟩ := FIN1.out HBB.out w9 v9 _ G9.out O9.out; refine ⟨⟨k + 1, updD Dk g (.slice a5 M5 c5), by omega, by go_num, F1, F2, F3, F4, F5⟩, by simp [intOf]; omega⟩
              | true =>
                by_cases hM : 0 < M5
                · have hM' : (0 : Int) < (M5 : Int) := by omega
                  rw [decide_eq_true hM] at HBB; clear hM
                  go_wp2_with (at_builtin; refine wpList_append_own _ rfl _ _ 22 rfl w.heap.size 34 i28 _ 3 56 Tryz.underlying22 hi28 hy0 hy1 hy2 rfl (by decide) _ _ _ rfl (ROW6.out.alloc _) ⟨w6.heap.size, 0, none⟩ 1 1 [.slice wa n1 wc, .int .i64 pl, .slice (some ⟨g, 0, none⟩) 1 1] rfl rfl (cells_newQ _ _ _ _ (by simp)) ?ho1 ?ho2 ?ho3 ?ho4 ?_; (case ho1 => exact HONE.out); (case ho2 => unfold maxLen; omega); (case ho3 => omega); (case ho4 => simp; omega); intro v9 w9 hown9 hgr9 _; have G9 := hid hgr9; have O9 := hid hown9; clear hown9 hgr9)
                  obtain ⟨F1, F2, F3, F4, F5⟩ := FIN1.out HBB.out w9 v9 _ G9.out O9.out; refine ⟨⟨k + 1, updD Dk g (.slice a5 M5 c5), by omega, by go_num, F1, F2, F3, F4, F5⟩, by simp [intOf]; omega⟩
                · obtain rfl : M5 = 0 := by omega
                  rw [decide_eq_false hM] at HBB; clear hM; go_wp2_with fail; refine ⟨⟨k + 1, updD Dk g (.slice a5 0 c5), by omega, by go_num, FIN0.out HBB.out, SP6.out, KV6.out, KA6.out, TT6.out⟩, by simp [intOf]; omega⟩)
        · obtain rfl : k = sn := by omega
          have hi4 : ¬ (k : Int) < (k : Int) := by omega
          have H1 := HR.out; have H2 := HI.out; rw [List.take_of_length_le (by rw [← HSN.out]; exact Nat.le_refl _)] at H1; rw [HSN.out] at H2; have HH1 := hid H1; have HH2 := hid H2; clear H1 H2 HR HI; go_wp2; go_ret; refine ⟨_, Dk, rfl, ?_, ?_⟩
          · rw [← HTT.out]; exact HH1.out
          · rw [← HTT.out]; exact HH2.out
end Go.Proofs.YtdnebclemngdcaaGreatDoor
namespace Go.Proofs.YtdnebclemngdcaaGreatDoor
open Go.RowKit Go.Sort Go.Maps
set_option linter.unusedSectionVars false
variable [Inhabited ComV] [DecidableEq D3] [Inhabited D3] [Inhabited Dd] [Inhabited Dn] [Inhabited OpV]

theorem setA_ext {a b : List ByteArray} (h : ∀ t, t ∈ a ↔ t ∈ b) : setA a = setA b := by
  refine rise_unique (setA_rise a) (setA_rise b) fun x => ?_
  unfold setA; rw [mem_compact, mem_compact, List.mem_mergeSort, List.mem_mergeSort, List.mem_map, List.mem_map]; exact ⟨fun ⟨t, ht, e⟩ => ⟨t, (h t).1 ht, e⟩, fun ⟨t, ht, e⟩ => ⟨t, (h t).2 ht, e⟩⟩
def skel (x : Dn) : D3 × Int × Int × ByteArray × Bool := (x.dot, x.wt, x.o.kind, x.o.text, x.o.rem)
theorem skel_dot {x y : Dn} (h : skel x = skel y) : x.dot = y.dot := congrArg (·.1) h
theorem skel_wt {x y : Dn} (h : skel x = skel y) : x.wt = y.wt := congrArg (·.2.1) h
theorem skel_kind {x y : Dn} (h : skel x = skel y) : x.o.kind = y.o.kind := congrArg (·.2.2.1) h
theorem skel_text {x y : Dn} (h : skel x = skel y) : x.o.text = y.o.text := congrArg (·.2.2.2.1) h
theorem skel_rem {x y : Dn} (h : skel x = skel y) : x.o.rem = y.o.rem := congrArg (·.2.2.2.2) h
theorem skel_lt {x x' y y' : Dn} (h : skel x = skel x') (h' : skel y = skel y') : ltN x y = ltN x' y' := by
  unfold ltN; rw [skel_wt h, skel_wt h', skel_dot h, skel_dot h']
theorem ltN_irrefl (x : Dn) : ltN x x = false := by
  cases h : ltN x x with
  | false => rfl
  | true => exact absurd (ltN_asymm h) (by rw [h]; decide)

def KindIs (L : List Dn) (k : Int) : Prop := ∃ x ∈ L, x.o.kind = k ∧ ∀ y ∈ L, ltN y x = false
def RegIs (L : List Dn) (t : ByteArray) : Prop := ∃ x ∈ L, x.o.kind = 1 ∧ x.o.text = t ∧ ∀ y ∈ L, y.o.kind = 1 → ltN x y = false
def sumK (L : List Dn) : Int := sumN (L.filter fun x => decide (x.o.kind = 2))
def rmv (y : Dn) (t : ByteArray) (d : D3) : Prop := y.o.kind = 3 ∧ y.o.rem = true ∧ y.o.text = t ∧ d ∈ y.o.dots
def addd (x : Dn) (t : ByteArray) (d : D3) : Prop := x.o.kind = 3 ∧ x.o.rem = false ∧ x.o.text = t ∧ x.dot = d
def LiveIs (L : List Dn) (t : ByteArray) (d : D3) : Prop := (∃ x ∈ L, addd x t d) ∧ ¬ ∃ y ∈ L, rmv y t d
structure Same (L L' : List Dn) : Prop where
  kind : ∀ k, KindIs L k ↔ KindIs L' k
  reg : ∀ t, RegIs L t ↔ RegIs L' t
  sum : sumK L = sumK L'
  live : ∀ t d, LiveIs L t d ↔ LiveIs L' t d
theorem Same.refl (L : List Dn) : Same L L := ⟨fun _ => Iff.rfl, fun _ => Iff.rfl, rfl, fun _ _ => Iff.rfl⟩
theorem Same.symm {L L' : List Dn} (h : Same L L') : Same L' L := ⟨fun k => (h.kind k).symm, fun t => (h.reg t).symm, h.sum.symm, fun t d => (h.live t d).symm⟩
theorem Same.trans {L L' L'' : List Dn} (h : Same L L') (h' : Same L' L'') : Same L L'' := ⟨fun k => (h.kind k).trans (h'.kind k), fun t => (h.reg t).trans (h'.reg t), h.sum.trans h'.sum, fun t d => (h.live t d).trans (h'.live t d)⟩
theorem sumK_perm {L M : List Dn} (h : L.Perm M) : sumK L = sumK M := sum_perm (h.filter _) 0
theorem Same.perm {L M : List Dn} (h : L.Perm M) : Same L M := by
  refine ⟨fun k => ?_, fun t => ?_, sumK_perm h, fun t d => ?_⟩
  · unfold KindIs; simp only [h.mem_iff]
  · unfold RegIs; simp only [h.mem_iff]
  · unfold LiveIs; simp only [h.mem_iff]
theorem sumN_from (l : List Dn) : ∀ s : Int, l.foldl (fun s d => s + d.o.n) s = s + sumN l := by
  unfold sumN
  induction l with
  | nil => intro s; simp
  | cons x r ih => intro s; rw [List.foldl_cons, List.foldl_cons, ih, ih (0 + x.o.n)]; omega
theorem sumN_append (a b : List Dn) : sumN (a ++ b) = sumN a + sumN b := by
  unfold sumN; rw [List.foldl_append, sumN_from b]; rfl
theorem sumK_append (a b : List Dn) : sumK (a ++ b) = sumK a + sumK b := by
  unfold sumK; rw [List.filter_append, sumN_append]
theorem sumK_one (x : Dn) : sumK [x] = if x.o.kind = 2 then x.o.n else 0 := by
  unfold sumK
  by_cases h : x.o.kind = 2
  · simp [h, sumN]
  · simp [h, sumN]
theorem has_most (p : Dn → Prop) : ∀ L : List Dn, (∃ x ∈ L, p x) → ∃ m ∈ L, p m ∧ ∀ y ∈ L, p y → ltN m y = false
  | [], h => by obtain ⟨x, hx, _⟩ := h; simp at hx
  | a :: L, h => by
    by_cases hL : ∃ x ∈ L, p x
    · obtain ⟨m, hm, hp, hmax⟩ := has_most p L hL
      by_cases ha : p a ∧ ltN m a = true
      · refine ⟨a, List.mem_cons_self .., ha.1, fun y hy hpy => ?_⟩; rcases List.mem_cons.1 hy with rfl | hy
        · exact ltN_irrefl _
        · exact ltN_le_trans (hmax y hy hpy) (ltN_asymm ha.2)
      · refine ⟨m, List.mem_cons_of_mem _ hm, hp, fun y hy hpy => ?_⟩; rcases List.mem_cons.1 hy with rfl | hy
        · cases h' : ltN m y with
          | false => rfl
          | true => exact absurd ⟨hpy, h'⟩ ha
        · exact hmax y hy hpy
    · obtain ⟨x, hx, hpx⟩ := h; rcases List.mem_cons.1 hx with rfl | hx
      · refine ⟨x, List.mem_cons_self .., hpx, fun y hy hpy => ?_⟩; rcases List.mem_cons.1 hy with rfl | hy
        · exact ltN_irrefl _
        · exact absurd ⟨y, hy, hpy⟩ hL
      · exact absurd ⟨x, hx, hpx⟩ hL

structure Step (S S' O : List Dn) : Prop where
  sub : (S'.map skel).Sublist (S.map skel)
  head : (S'.map skel).head? = (S.map skel).head?
  reg : ∀ x ∈ S, x.o.kind = 1 → (∀ y ∈ S, y.o.kind = 1 → ltN x y = false) → x ∈ S'
  sum : sumK S' = sumK S
  gone : ∀ x ∈ S, x.o.kind = 3 → x.o.rem = false → skel x ∈ S'.map skel ∨ ∃ y ∈ S, rmv y x.o.text x.dot
  rmv : ∀ x ∈ S' ++ O, x.o.kind = 3 → x.o.rem = false → ((∃ y ∈ S, rmv y x.o.text x.dot) ↔ ∃ y ∈ S', rmv y x.o.text x.dot)
theorem Step.back {S S' O : List Dn} (h : Step S S' O) {x : Dn} (hx : x ∈ S') : ∃ y ∈ S, skel y = skel x := by
  have := h.sub.subset (List.mem_map.2 ⟨x, hx, rfl⟩); obtain ⟨y, hy, e⟩ := List.mem_map.1 this; exact ⟨y, hy, e⟩
theorem Step.kindSame {S S' O : List Dn} (h : Step S S' O) (hs : S.Pairwise fun a b => ltN a b = true) (k : Int) : KindIs (S ++ O) k ↔ KindIs (S' ++ O) k := by
  cases S with
  | nil =>
    have : S' = [] := by
      have := h.sub; rw [List.map_nil, List.sublist_nil, List.map_eq_nil_iff] at this; exact this
    rw [this]
  | cons s T =>
    cases S' with
    | nil => have := h.head; simp at this
    | cons s' T' =>
      have hss : skel s' = skel s := by have := h.head; simpa using this
      have hT := (List.pairwise_cons.1 hs).1
      have least : ∀ y ∈ s :: T, ltN y s = false := fun y hy => by
        rcases List.mem_cons.1 hy with rfl | hy
        · exact ltN_irrefl _
        · exact ltN_asymm (hT y hy)
      have least' : ∀ y ∈ s' :: T', ltN y s' = false := fun y hy => by
        obtain ⟨y0, hy0, e⟩ := h.back hy; rw [skel_lt e.symm hss]; exact least y0 hy0
      constructor
      · rintro ⟨x, hx, hk, hl⟩; rcases List.mem_append.1 hx with hx | hx
        · have : x = s := by
            rcases List.mem_cons.1 hx with e | hx
            · exact e
            · have h1 := hT x hx; rw [hl s (by simp)] at h1; cases h1
          subst this; refine ⟨s', by simp, by rw [skel_kind hss, hk], fun y hy => ?_⟩; rcases List.mem_append.1 hy with hy | hy
          · exact least' y hy
          · rw [skel_lt rfl hss]; exact hl y (List.mem_append_right _ hy)
        · refine ⟨x, List.mem_append_right _ hx, hk, fun y hy => ?_⟩; rcases List.mem_append.1 hy with hy | hy
          · obtain ⟨y0, hy0, e⟩ := h.back hy; rw [skel_lt e.symm rfl]; exact hl y0 (List.mem_append_left _ hy0)
          · exact hl y (List.mem_append_right _ hy)
      · rintro ⟨x, hx, hk, hl⟩; rcases List.mem_append.1 hx with hx | hx
        · obtain ⟨x0, hx0, e⟩ := h.back hx
          have : skel s = skel x := by
            rcases List.mem_cons.1 hx0 with e' | hx0
            · rw [← e', e]
            · have h1 := hT x0 hx0; have h2 := hl s' (by simp); rw [skel_lt hss e.symm] at h2; rw [h2] at h1; cases h1
          refine ⟨s, by simp, by rw [skel_kind this, hk], fun y hy => ?_⟩; rcases List.mem_append.1 hy with hy | hy
          · exact least y hy
          · rw [skel_lt rfl this]; exact hl y (List.mem_append_right _ hy)
        · refine ⟨x, List.mem_append_right _ hx, hk, fun y hy => ?_⟩; rcases List.mem_append.1 hy with hy | hy
          · have h1 := hl s' (by simp); rw [skel_lt hss rfl] at h1; exact ltN_le_trans h1 (least y hy)
          · exact hl y (List.mem_append_right _ hy)
theorem Step.regSame {S S' O : List Dn} (h : Step S S' O) (t : ByteArray) : RegIs (S ++ O) t ↔ RegIs (S' ++ O) t := by
  constructor
  · rintro ⟨x, hx, hk, ht, hl⟩; rcases List.mem_append.1 hx with hx | hx
    · refine ⟨x, List.mem_append_left _ (h.reg x hx hk fun y hy hy1 => hl y (List.mem_append_left _ hy) hy1), hk, ht, fun y hy hy1 => ?_⟩; rcases List.mem_append.1 hy with hy | hy
      · obtain ⟨y0, hy0, e⟩ := h.back hy; rw [skel_lt rfl e.symm]; exact hl y0 (List.mem_append_left _ hy0) ((skel_kind e).trans hy1)
      · exact hl y (List.mem_append_right _ hy) hy1
    · refine ⟨x, List.mem_append_right _ hx, hk, ht, fun y hy hy1 => ?_⟩; rcases List.mem_append.1 hy with hy | hy
      · obtain ⟨y0, hy0, e⟩ := h.back hy; rw [skel_lt rfl e.symm]; exact hl y0 (List.mem_append_left _ hy0) ((skel_kind e).trans hy1)
      · exact hl y (List.mem_append_right _ hy) hy1
  · rintro ⟨x, hx, hk, ht, hl⟩
    have up : ∀ y ∈ S, y.o.kind = 1 → ltN x y = false := fun y hy hy1 => by
      obtain ⟨m, hm, hm1, hmax⟩ := has_most (fun z => z.o.kind = 1) S ⟨y, hy, hy1⟩; exact ltN_le_trans (hmax y hy hy1) (hl m (List.mem_append_left _ (h.reg m hm hm1 hmax)) hm1)
    have up2 : ∀ y ∈ S ++ O, y.o.kind = 1 → ltN x y = false := fun y hy hy1 => by
      rcases List.mem_append.1 hy with hy | hy
      · exact up y hy hy1
      · exact hl y (List.mem_append_right _ hy) hy1
    rcases List.mem_append.1 hx with hx | hx
    · obtain ⟨x0, hx0, e⟩ := h.back hx; exact ⟨x0, List.mem_append_left _ hx0, (skel_kind e).trans hk, (skel_text e).trans ht, fun y hy hy1 => by rw [skel_lt e rfl]; exact up2 y hy hy1⟩
    · exact ⟨x, List.mem_append_right _ hx, hk, ht, up2⟩
theorem Step.liveSame {S S' O : List Dn} (h : Step S S' O) (t : ByteArray) (d : D3) : LiveIs (S ++ O) t d ↔ LiveIs (S' ++ O) t d := by
  constructor
  · rintro ⟨⟨x, hx, h3, hr, ht, hd⟩, hn⟩
    have hx' : ∃ x' ∈ S' ++ O, addd x' t d := by
      rcases List.mem_append.1 hx with hx | hx
      · rcases h.gone x hx h3 hr with h1 | ⟨y, hy, h1⟩
        · obtain ⟨x', hx', e⟩ := List.mem_map.1 h1; exact ⟨x', List.mem_append_left _ hx', (skel_kind e).trans h3, (skel_rem e).trans hr, (skel_text e).trans ht, (skel_dot e).trans hd⟩
        · exact absurd ⟨y, List.mem_append_left _ hy, by rw [← ht, ← hd]; exact h1⟩ hn
      · exact ⟨x, List.mem_append_right _ hx, h3, hr, ht, hd⟩
    refine ⟨hx', ?_⟩; rintro ⟨y, hy, hry⟩; obtain ⟨x', hx', h3', hr', ht', hd'⟩ := hx'; rcases List.mem_append.1 hy with hy | hy
    · have := (h.rmv x' hx' h3' hr').2 ⟨y, hy, by rw [ht', hd']; exact hry⟩; obtain ⟨z, hz, hz'⟩ := this; exact hn ⟨z, List.mem_append_left _ hz, by rw [← ht', ← hd']; exact hz'⟩
    · exact hn ⟨y, List.mem_append_right _ hy, hry⟩
  · rintro ⟨⟨x, hx, h3, hr, ht, hd⟩, hn⟩; refine ⟨?_, ?_⟩
    · rcases List.mem_append.1 hx with hx | hx
      · obtain ⟨x0, hx0, e⟩ := h.back hx; exact ⟨x0, List.mem_append_left _ hx0, (skel_kind e).trans h3, (skel_rem e).trans hr, (skel_text e).trans ht, (skel_dot e).trans hd⟩
      · exact ⟨x, List.mem_append_right _ hx, h3, hr, ht, hd⟩
    · rintro ⟨y, hy, hry⟩; rcases List.mem_append.1 hy with hy | hy
      · obtain ⟨z, hz, hz'⟩ := (h.rmv x hx h3 hr).1 ⟨y, hy, by rw [ht, hd]; exact hry⟩; exact hn ⟨z, List.mem_append_left _ hz, by rw [← ht, ← hd]; exact hz'⟩
      · exact hn ⟨y, List.mem_append_right _ hy, hry⟩
theorem Step.same {S S' O : List Dn} (h : Step S S' O) (hs : S.Pairwise fun a b => ltN a b = true) : Same (S ++ O) (S' ++ O) where
  kind := h.kindSame hs
  reg := h.regSame
  sum := by rw [sumK_append, sumK_append, h.sum]
  live := h.liveSame
theorem Step.rise {S S' O : List Dn} (h : Step S S' O) (hs : S.Pairwise fun a b => ltN a b = true) : S'.Pairwise fun a b => ltN a b = true := by
  have key : ∀ L : List Dn, (L.Pairwise fun a b => ltN a b = true) ↔ (L.map skel).Pairwise fun a b => decide (a.2.1 < b.2.1 ∨ a.2.1 = b.2.1 ∧ ltD a.1 b.1 = true) = true := fun L => by
    rw [List.pairwise_map]; exact Iff.rfl
  rw [key] at hs ⊢; exact hs.sublist h.sub
end Go.Proofs.YtdnebclemngdcaaGreatDoor
