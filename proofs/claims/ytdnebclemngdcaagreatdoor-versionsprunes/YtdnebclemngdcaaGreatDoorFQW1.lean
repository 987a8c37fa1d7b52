/- What the walks make of rows of parts is what the mathematics speaks of; settle by its contract: which are settled, which are open; A store whose parts lie apart, when one of its rows is settled; What stands while Prune goes over its keys; Prune by its contract; A store as it is read: its keys aside. -/
import Derived.Test.YtdnebclemngdcaaGreatDoorFQM4
import Derived.Test.YtdnebclemngdcaaGreatDoorFQT
import Derived.Test.YtdnebclemngdcaaGreatDoorFWKeys
import Derived.Test.YtdnebclemngdcaaGreatDoorFWReadB
namespace Go.Proofs.YtdnebclemngdcaaGreatDoor
open Go.RowKit Go.Sort Go.Maps
set_option linter.unusedSectionVars false
variable [Inhabited ComV] [DecidableEq D3] [Inhabited D3] [Inhabited Dd] [Inhabited Dn] [Inhabited OpV]

theorem keepI_take (p : Nat → ComV → Bool) (l : List ComV) : ∀ k, k ≤ l.length → keepI p l k = keepL p 0 (l.take k)
  | 0, _ => by simp [keepI, keepL]
  | k + 1, hk => by
    have hg : l[k]? = some l[k]! := by rw [getElem!_pos l k (by omega)]; exact List.getElem?_eq_getElem _
    rw [keepL_snoc p hg, ← keepI_take p l k (by omega)]
    rfl
theorem keepI_keepL (p : Nat → ComV → Bool) (l : List ComV) : keepI p l l.length = keepL p 0 l := by
  rw [keepI_take p l _ (Nat.le_refl _), List.take_length]
theorem keepL_congr {α : Type} {p q : Nat → α → Bool} : ∀ (l : List α) (i : Nat), (∀ j a, a ∈ l → p j a = q j a) → keepL p i l = keepL q i l
  | [], _, _ => rfl
  | a :: r, i, h => by
    rw [keepL_cons, keepL_cons, h i a (by simp), keepL_congr r (i + 1) fun j b hb => h j b (by simp [hb])]
theorem map_get {E : Nat → OpV} {rs : List Rp} {k : Nat} {r : Rp} (h : rs[k]? = some r) : (rs.map (absR E))[k]! = absR E r := by
  obtain ⟨hk, e⟩ := List.getElem?_eq_some_iff.1 h
  rw [getElem!_pos _ k (by simpa using hk), List.getElem_map, e]
theorem lastIx_at (E : Nat → OpV) (rs : List Rp) : ∀ k, k ≤ rs.length → lastIx (rs.map (absR E)) k = lastAt E rs k
  | 0, _ => rfl
  | k + 1, hk => by
    obtain ⟨r, hr⟩ := some_of_lt (l := rs) (k := k) (by omega)
    rw [lastAt_succ E rs k r hr, ← lastIx_at E rs k (by omega)]
    show (if (k1 (rs.map (absR E))[k]!).kind = 1 then _ else _) = _
    rw [map_get hr]
    rfl
theorem lastReg_map (E : Nat → OpV) (rs : List Rp) : (keepL (regB E rs) 0 rs).map (absR E) = lastReg (rs.map (absR E)) := by
  unfold lastReg
  rw [keepI_keepL, keepL_map]
  congr 1
  refine keepL_congr rs 0 fun j a _ => ?_
  unfold regB regP
  rw [List.length_map, lastIx_at E rs _ (Nat.le_refl _)]
  rfl
theorem remT_any (E : Nat → OpV) (rs : List Rp) (d : D3) (t : ByteArray) : tgtB (remT E rs) d t = removedB (rs.map (absR E)) d t := by
  unfold tgtB remT removedB
  rw [List.any_flatMap, List.any_map]
  congr 1
  funext r
  show ((E r.g).dots.map fun e => (e, (E r.g).text)).any _ = (decide ((E r.g).text = t) && decide (d ∈ (E r.g).dots))
  rw [List.any_map, Bool.eq_iff_iff, List.any_eq_true]
  simp only [Function.comp, Bool.and_eq_true, decide_eq_true_eq]
  constructor
  · rintro ⟨e, he, rfl, h⟩
    exact ⟨h, he⟩
  · rintro ⟨h, he⟩
    exact ⟨d, he, rfl, h⟩
theorem withoutRem_map (E : Nat → OpV) (rs : List Rp) : (keepL (wrQ E (remT E rs)) 0 rs).map (absR E) = withoutRem (rs.map (absR E)) := by
  unfold withoutRem
  rw [keepI_keepL, keepL_map]
  congr 1
  refine keepL_congr rs 0 fun j a _ => ?_
  unfold wrQ wrP
  rw [remT_any]
  rfl
theorem addsT_any (E : Nat → OpV) (rs : List Rp) (d : D3) (t : ByteArray) : tgtB (addsT E rs) d t = addsB (rs.map (absR E)) d t := by
  unfold tgtB addsT addsB
  rw [List.any_map, List.any_filter, List.any_map]
  rfl
theorem tgtB_append (T T' : List (D3 × ByteArray)) (d : D3) (t : ByteArray) : tgtB (T ++ T') d t = (tgtB T d t || tgtB T' d t) := List.any_append
theorem addsB_append (l l' : List ComV) (d : D3) (t : ByteArray) : addsB (l ++ l') d t = (addsB l d t || addsB l' d t) := List.any_append
theorem spentL_map (V : D3 → Bool) (E E' : Nat → OpV) (rs os : List Rp) (hE : ∀ r ∈ rs, E' r.g = withDots (keepD V (addsT E rs ++ addsT E os)) (E r.g)) : (keepL (spQ V (addsT E rs ++ addsT E os) E) 0 rs).map (absR E') = spentL V (rs.map (absR E)) (os.map (absR E)) := by
  have tr : ∀ r ∈ rs, trim V (rs.map (absR E) ++ os.map (absR E)) (absR E r) = absR E' r := fun r hr => by
    have hf : ((E r.g).dots.filter fun d => !spentB V (rs.map (absR E) ++ os.map (absR E)) (E r.g).text d) = (E r.g).dots.filter fun d => !spB V (addsT E rs ++ addsT E os) (E r.g).text d := List.filter_congr fun d _ => by
      unfold spentB spB
      rw [tgtB_append, addsT_any, addsT_any, addsB_append]
    show (⟨r.wn, r.pl, [{ E r.g with dots := (E r.g).dots.filter fun d => !spentB V (rs.map (absR E) ++ os.map (absR E)) (E r.g).text d }]⟩ : ComV) = ⟨r.wn, r.pl, [E' r.g]⟩
    rw [hE r hr, hf]
    rfl
  have e : (rs.map (absR E)).map (trim V (rs.map (absR E) ++ os.map (absR E))) = rs.map (absR E') := by
    rw [List.map_map]
    exact List.map_congr_left tr
  unfold spentL
  rw [e, List.length_map]
  have := keepI_keepL spP (rs.map (absR E'))
  rw [List.length_map] at this
  rw [this, keepL_map]
  congr 1
  refine keepL_congr rs 0 fun j a ha => ?_
  unfold spQ spP
  have h1 : k1 (absR E' a) = E' a.g := rfl
  rw [h1, hE a ha]
  rfl
/-- The sum's row, in both tellings. -/
structure SumSame (l : List ComV) (k : Nat) (st : SumQ) : Prop where
  kept : st.kept.map (absR st.E) = (sumSt l k).1
  pos : ∀ s, st.sum = some s → ∃ j r, st.kept[j]? = some r ∧ r.g = s ∧ (sumSt l k).2 = some j
  none_ : st.sum = none → (sumSt l k).2 = none
theorem sumB_sumOk (n : Int) : sumB n = sumOkB n := by
  unfold sumB sumOkB
  rw [Bool.eq_iff_iff, Bool.and_eq_true, decide_eq_true_eq, decide_eq_true_eq, decide_eq_true_eq]
theorem sumSame (E : Nat → OpV) (rs : List Rp) (hn : (rs.map (·.g)).Nodup) : ∀ k, k ≤ rs.length → SumSame (rs.map (absR E)) k (sumQ E (rs.take k))
  | 0, _ => by
    refine ⟨by simp [sumQ, sumSt], fun s hs => by simp [sumQ] at hs, fun _ => rfl⟩
  | k + 1, hk => by
    obtain ⟨r, hr⟩ := some_of_lt (l := rs) (k := k) (by omega)
    have ih := sumSame E rs hn k (by omega)
    have hget := map_get (E := E) hr
    -- what is not taken yet is as it was
    have hnew : r.g ∉ (rs.take k).map (·.g) := fun hm => by
      obtain ⟨q, hq, e⟩ := List.mem_map.1 hm
      obtain ⟨i, hi, rfl⟩ := List.getElem_of_mem hq
      obtain ⟨hk', rfl⟩ := List.getElem?_eq_some_iff.1 hr
      rw [List.length_take] at hi
      rw [List.getElem_take] at e
      rw [List.nodup_iff_pairwise_ne, List.pairwise_map, List.pairwise_iff_getElem] at hn
      exact hn i k (by omega) hk' (by omega) e
    have hsub := sumQ_sub E (rs.take k)
    rw [sumQ_snoc E hr]
    have hEr : (sumQ E (rs.take k)).E r.g = E r.g := by
      rcases sumE_rest E (rs.take k) r.g with e | ⟨_, hm, _⟩
      · exact e
      · exact absurd hm hnew
    obtain ⟨st, hst⟩ : ∃ st, st = sumQ E (rs.take k) := ⟨_, rfl⟩
    rw [← hst] at ih hsub hEr ⊢
    obtain ⟨h1, h2, h3⟩ := ih
    have knd : ((k1 (rs.map (absR E))[k]!).kind = 2) ↔ (st.E r.g).kind = 2 := by rw [hget, hEr]; exact Iff.rfl
    have step : sumSt (rs.map (absR E)) (k + 1) = if (k1 (rs.map (absR E))[k]!).kind = 2 then
        match (sumSt (rs.map (absR E)) k).2 with
        | none => ((sumSt (rs.map (absR E)) k).1 ++ [(rs.map (absR E))[k]!], some (sumSt (rs.map (absR E)) k).1.length)
        | some j => if sumOkB ((k1 (sumSt (rs.map (absR E)) k).1[j]!).n + (k1 (rs.map (absR E))[k]!).n) = true then ((sumSt (rs.map (absR E)) k).1.set j (addN (sumSt (rs.map (absR E)) k).1[j]! (k1 (rs.map (absR E))[k]!).n), some j) else ((sumSt (rs.map (absR E)) k).1 ++ [(rs.map (absR E))[k]!], some (sumSt (rs.map (absR E)) k).1.length)
      else ((sumSt (rs.map (absR E)) k).1 ++ [(rs.map (absR E))[k]!], (sumSt (rs.map (absR E)) k).2) := rfl
    have last : (st.kept ++ [r]).map (absR st.E) = (sumSt (rs.map (absR E)) k).1 ++ [(rs.map (absR E))[k]!] := by
      rw [List.map_append, h1, hget, List.map_cons, List.map_nil]
      unfold absR
      rw [hEr]
    have len : st.kept.length = (sumSt (rs.map (absR E)) k).1.length := by rw [← h1, List.length_map]
    have newpos : ∀ s, some r.g = some s → ∃ j q, (st.kept ++ [r])[j]? = some q ∧ q.g = s ∧ some (sumSt (rs.map (absR E)) k).1.length = some j := fun s hs => by
      cases hs
      exact ⟨st.kept.length, r, by simp, rfl, by rw [len]⟩
    by_cases hk2 : (st.E r.g).kind = 2
    · rw [if_pos (knd.2 hk2)] at step
      cases hs : st.sum with
      | none =>
        rw [h3 hs] at step
        rw [stepQ_first hk2 hs]
        exact ⟨by rw [step]; exact last, fun s hs => by rw [step]; exact newpos s hs, fun h => by cases h⟩
      | some s =>
        obtain ⟨j, q, hj, hq, hp⟩ := h2 s hs
        rw [hp] at step
        have hjl : j < st.kept.length := (List.getElem?_eq_some_iff.1 hj).1
        have hgj : (sumSt (rs.map (absR E)) k).1[j]! = absR st.E q := by rw [← h1]; exact map_get hj
        have hsum : (k1 (sumSt (rs.map (absR E)) k).1[j]!).n + (k1 (rs.map (absR E))[k]!).n = (st.E s).n + (st.E r.g).n := by
          rw [hgj, hget, hEr, ← hq]
          rfl
        simp only at step
        rw [hsum, ← sumB_sumOk] at step
        by_cases hb : sumB ((st.E s).n + (st.E r.g).n) = true
        · rw [if_pos hb] at step
          rw [stepQ_sum hk2 hs hb]
          refine ⟨?_, fun t ht => ?_, fun h => by cases h⟩
          · rw [step]
            dsimp only
            rw [← h1]
            have hgj' : (st.kept.map (absR st.E))[j]! = absR st.E q := map_get hj
            rw [hgj']
            refine List.ext_getElem (by simp) fun i hi1 hi2 => ?_
            have hi3 : i < st.kept.length := by simpa using hi1
            rw [List.getElem_map, List.getElem_set]
            by_cases e : j = i
            · subst e
              rw [if_pos rfl]
              have hqi : st.kept[j] = q := (List.getElem?_eq_some_iff.1 hj).2
              rw [hqi]
              rw [show k1 (rs.map (absR E))[k]! = st.E r.g from by rw [hget, hEr]; rfl]
              show (⟨q.wn, q.pl, [updE st.E s _ q.g]⟩ : ComV) = ⟨q.wn, q.pl, [{ st.E q.g with n := (st.E q.g).n + (st.E r.g).n }]⟩
              rw [hq, updE_same]
            · rw [if_neg e, List.getElem_map]
              unfold absR
              have hne : st.kept[i].g ≠ s := fun x => by
                have hnd : (st.kept.map (·.g)).Nodup := ((hsub.trans (List.take_sublist _ _)).map _).nodup hn
                rw [List.nodup_iff_pairwise_ne, List.pairwise_map, List.pairwise_iff_getElem] at hnd
                have hqi : st.kept[j] = q := (List.getElem?_eq_some_iff.1 hj).2
                rcases Nat.lt_or_ge i j with h | h
                · exact hnd i j hi3 hjl h (by rw [hqi, hq, x])
                · exact hnd j i hjl hi3 (by omega) (by rw [hqi, hq, x])
              rw [updE_other _ _ hne]
          · cases ht
            rw [step]
            exact ⟨j, q, hj, hq, rfl⟩
        · rw [if_neg hb] at step
          rw [stepQ_full hk2 hs hb]
          exact ⟨by rw [step]; exact last, fun s hs => by rw [step]; exact newpos s hs, fun h => by cases h⟩
    · rw [if_neg (fun h => hk2 (knd.1 h))] at step
      rw [stepQ_other hk2]
      refine ⟨by rw [step]; exact last, fun s hs => ?_, fun h => by rw [step]; exact h3 h⟩
      obtain ⟨j, q, hj, hq, hp⟩ := h2 s hs
      rw [step]
      exact ⟨j, q, by rw [List.getElem?_append_left (List.getElem?_eq_some_iff.1 hj).1]; exact hj, hq, hp⟩
theorem sumC_map (E : Nat → OpV) (rs : List Rp) (hn : (rs.map (·.g)).Nodup) : (sumQ E rs).kept.map (absR (sumQ E rs).E) = sumC (rs.map (absR E)) := by
  have := (sumSame E rs hn rs.length (Nat.le_refl _)).kept
  rw [List.take_length] at this
  rw [this]
  unfold sumC
  rw [List.length_map]
end Go.Proofs.YtdnebclemngdcaaGreatDoor
namespace Go.Proofs.YtdnebclemngdcaaGreatDoor
open Go.RowKit Go.Maps Go.Sort
set_option maxRecDepth 100000
set_option linter.unusedSectionVars false
variable [Inhabited ComV] [DecidableEq D3] [Inhabited D3] [Inhabited Dd] [Inhabited Dn] [Inhabited OpV]

def inB (base : List Int) (r : Rp) : Bool := leB r.wn base
theorem filter_both {α : Type} (p : α → Bool) : ∀ l : List α, (l.filter p).length + (l.filter fun a => !p a).length = l.length
  | [] => rfl
  | a :: r => by
    have := filter_both p r
    cases h : p a with
    | true => rw [List.filter_cons, List.filter_cons, if_pos h, if_neg (by rw [h]; decide), List.length_cons, List.length_cons]; omega
    | false => rw [List.filter_cons, List.filter_cons, if_neg (by rw [h]; decide), if_pos (by rw [h]; decide), List.length_cons, List.length_cons]; omega
theorem g_inj {rs : List Rp} (hn : (rs.map (·.g)).Nodup) {r q : Rp} (hr : r ∈ rs) (hq : q ∈ rs) (e : r.g = q.g) : r = q := by
  obtain ⟨i, hi, rfl⟩ := List.getElem_of_mem hr
  obtain ⟨j, hj, rfl⟩ := List.getElem_of_mem hq
  rw [List.nodup_iff_pairwise_ne, List.pairwise_map, List.pairwise_iff_getElem] at hn
  rcases Nat.lt_trichotomy i j with h | h | h
  · exact absurd e (hn i j hi hj h)
  · subst h; rfl
  · exact absurd e.symm (hn j i hj hi h)
/-- What settle hands back. -/
structure SettleOut (V : D3 → Bool) (base : List Int) (nb : Nat) (rs : List Rp) (E : Nat → OpV) (D : Nat → Value) (w : World) (v : Value) (w' : World) (ss : List Rp) (res : List Rp) (E' : Nat → OpV) (D' : Nat → Value) : Prop where
  perm : ss.Perm (rs.filter (inB base))
  order : (ss.map (dnR E)).Pairwise (fun a b => ltN b a = false)
  row : RowR w' w.heap.size v res
  po : PO w' E' D' nb res
  sub : ∀ r ∈ res, r ∈ rs
  nd : (res.map (·.g)).Nodup
  own : ∀ r ∈ res, (D' r.g).ownBlock = (D r.g).ownBlock
  off : Off (blocksG rs D) w w'
  abs_ : res.map (absR E') = settled V (ss.map (absR E)) ((rs.filter fun r => !inB base r).map (absR E)) ++ (rs.filter fun r => !inB base r).map (absR E)
  few : res.length ≤ rs.length
def SettleRet (V : D3 → Bool) (base : List Int) (nb : Nat) (rs : List Rp) (E : Nat → OpV) (D : Nat → Value) (w : World) (e : Ending) (w' : World) : Prop := ∃ v ss res E' D', e = .returned v ∧ SettleOut V base nb rs E D w v w' ss res E' D'
set_option maxHeartbeats 8000000 in
theorem settle_ok (A : Nat → Addr) (w : World) (hE : E4 A w) (h12 : 12 ≤ w.heap.size) (vp mbv db nd nb : Nat) (V : D3 → Bool) (bv : Value) (base : List Int) (lv : Value) (rs : List Rp) (E : Nat → OpV) (D : Nat → Value) (hvp : w.heap[vp]? = some (.cells #[bv, .map (some mbv), .map (some db)] 83 (0, 0))) (hbv : IntsT w bv base) (hbc : chk base = 0) (hbl : base.length = nb) (hV : DotSet w db nd V) (hlv : RowR w 0 lv rs) (hP : PO w E D nb rs) (hnd : (rs.map (·.g)).Nodup)
    (hap : ∀ q ∈ rs, ∀ q' ∈ rs, q.g ≠ q'.g → ∀ b, (D q.g).ownBlock = some b → (D q'.g).ownBlock ≠ some b) (hfew : rs.length ≤ 1000) :
    Calls Tryz.prog 45 #[.pointer (some ⟨vp, 0, none⟩), lv] w fun e w' => SettleRet V base nb rs E D w e w' := by
  obtain ⟨i28, hi28, hy0, hy1, hy2⟩ := info_parts Tryz.info34q
  obtain ⟨L, hL⟩ : ∃ L, L = rs.length := ⟨_, rfl⟩
  obtain ⟨la, lc, hle⟩ := hlv.shape
  obtain ⟨ba, bc, hbe⟩ := hbv.at.slice
  rw [← hL] at hle
  have HVP := hid hvp
  have HBV := hid hbv
  have HV := hid hV
  have HLV := hid hlv
  have HP := hid hP
  have HND := hid hnd
  have HAP := hid hap
  have HE := hid hE
  have HLE := hid hle
  have HL := hid hL
  have HBE := hid hbe
  have HBC := hid hbc
  have HBL := hid hbl
  rw [hle]
  rw [← hL] at hfew
  clear hvp hbv hV hlv hP hnd hap hE hle hL hbe hbc hbl
  go_enter Tryz.func45, Tryz.ntmps45
  go_wp2_with fail
  go_loopw [5, 6, 11] (fun sv ov i wr => ∃ (k : Nat), k ≤ L ∧ i = .int .i64 k ∧ Hid (TwoR w sv ((rs.take k).filter (inB base)) ov ((rs.take k).filter fun r => !inB base r) wr)) (fun _ _ i _ => L - (intOf i).toNat)
  case atStart => exact ⟨0, Nat.zero_le _, rfl, (by show TwoR _ _ _ _ _ _; simpa using TwoR.start w)⟩
  case round =>
    obtain ⟨k, hk, rfl, HI⟩ := hrel
    by_cases hlt : k < L
    · obtain ⟨r, hr⟩ := some_of_lt (l := rs) (k := k) (by rw [← HL.out]; exact hlt)
      obtain ⟨b, cap, e1, q0, q1, q2⟩ := HLV.out.at hr
      rw [HLE.out] at e1
      injection e1 with e1 e2 e3
      subst e1 e3
      clear e2
      have hmem := List.mem_of_getElem? hr
      have r0 := upQ HI.out.below q0
      have r1 := upQ HI.out.below q1
      have r2 := upQ HI.out.below q2
      have hs1 := filter_snocQ (inB base) hr
      have hs2 := filter_snocQ (fun r => !inB base r) hr
      have hpf := HP.out.pf r hmem
      have hin := HP.out.ints r hmem
      have hi1 : (k : Int) < (L : Int) := by omega
      obtain ⟨bb, hbb⟩ : ∃ bb, bb = inB base r := ⟨_, rfl⟩
      rw [← hbb] at hs1 hs2
      obtain ⟨w2, hw2⟩ : ∃ w2, w2 = wr.alloc (.cells #[.slice r.wa r.wn.length r.wc, .int .i64 r.pl, .slice (some ⟨r.g, 0, none⟩) 1 1] 34) := ⟨_, rfl⟩
      have hB2 : Below wr.heap.size wr w2 := by rw [hw2]; exact below_alloc _ _
      have hBw : Below w.heap.size w w2 := HI.out.below.trans (hB2.mono HI.out.below.size)
      have x2 : w2.heap[wr.heap.size]? = some (.cells #[.slice r.wa r.wn.length r.wc, .int .i64 r.pl, .slice (some ⟨r.g, 0, none⟩) 1 1] 34 (0, 0)) := by rw [hw2]; exact (MapKept.heap_alloc _ _).1
      obtain ⟨y0, y1, y2⟩ := box3Q x2
      have v0 : w2.cell? ⟨vp, 0, none⟩ = some bv := by
        have := (hBw.block _ (lt_of_heapQ HVP.out)).trans HVP.out
        simp only [World.cell?, this]; rfl
      have K38 : ∀ q, Calls Tryz.prog 38 #[.slice r.wa r.wn.length r.wc, bv] (w2.drewN q) fun e w' => e = .returned (.bool bb) ∧ ∃ q', w' = (w2.drewN q).drewN q' := fun q => by
        rw [hbb]
        have hBq : Below w.heap.size w (w2.drewN q) := below_draws hBw q
        exact within_ok A (w2.drewN q) (HE.out.below hBq h12) _ _ r.wn base (hin.at.mono hBq (Nat.le_refl _)) (HBV.out.at.mono hBq (Nat.le_refl _)) (two_zero.2 ⟨hpf.ok.chk, HBC.out, hpf.len.trans HBL.out.symm⟩)
      rw [HBE.out] at v0 K38
      obtain ⟨bn, hbn⟩ : ∃ bn, bn = base.length := ⟨_, rfl⟩
      rw [← hbn] at v0 K38
      have HK38 := hid K38
      obtain ⟨m1, hm1⟩ : ∃ m1, m1 = ((rs.take k).filter (inB base)).length := ⟨_, rfl⟩
      obtain ⟨m2, hm2⟩ : ∃ m2, m2 = ((rs.take k).filter fun r => !inB base r).length := ⟨_, rfl⟩
      have hmk1 : m1 ≤ k := by rw [hm1]; exact Nat.le_trans (List.length_filter_le _ _) (by rw [List.length_take]; omega)
      have hmk2 : m2 ≤ k := by rw [hm2]; exact Nat.le_trans (List.length_filter_le _ _) (by rw [List.length_take]; omega)
      obtain ⟨s1a, s1c, hse⟩ := HI.out.row1.shape
      obtain ⟨s2a, s2c, hoe⟩ := HI.out.row2.shape
      rw [← hm1] at hse
      rw [← hm2] at hoe
      subst hse hoe
      have HS1 := hid hs1
      have HS2 := hid hs2
      have HM1 := hid hm1
      have HM2 := hid hm2
      have hws : w.heap.size ≤ wr.heap.size := HI.out.below.size
      obtain ⟨bx, hbx⟩ : ∃ bx, bx = wr.heap.size := ⟨_, rfl⟩
      rw [← hbx] at y0 y1 y2
      have HB2 := hid hB2
      obtain ⟨wa, wc, wn, pl, g⟩ := r
      simp only at r0 r1 r2 y0 y1 y2 hw2 HK38
      obtain ⟨n1, hn1⟩ : ∃ n1, n1 = wn.length := ⟨_, rfl⟩
      rw [← hn1] at r0 y0 hw2 HK38
      have HONE : Hid (∀ v ∈ [Value.slice wa n1 wc, .int .i64 pl, .slice (some ⟨g, 0, none⟩) 1 1], v.oneCell' = true) := by
        rw [hn1]
        exact Rp.one ⟨wa, wc, wn, pl, g⟩
      have HN1 := hid hn1
      clear q0 q1 q2 hmem hs1 hs2 hpf hin hB2 hBw x2 K38 hm1 hm2 hn1 hr hbb hbn
      go_wp2_with fail
      rw [← hw2, ← hbx]
      clear hw2 hbx r0 r1 r2
      go_region_held (fun w' => w'.cell? ⟨bx, 0, none⟩ = some (.slice wa n1 wc) ∧ w'.cell? ⟨vp, 0, none⟩ = some (.slice ba bn bc)) (go_keep) (first | (go_at_call 38; refine (HK38.out 1).mono ?_; rintro e w3 ⟨rfl, q3, hq3⟩; have z0 : w3.cell? ⟨bx, 0, none⟩ = some (.slice wa n1 wc) := (by rw [hq3]; exact y0); have z1 : w3.cell? ⟨bx, 1, none⟩ = some (.int .i64 pl) := (by rw [hq3]; exact y1); have z2 : w3.cell? ⟨bx, 2, none⟩ = some (.slice (some ⟨g, 0, none⟩) 1 1) := (by rw [hq3]; exact y2); have z3 : w3.cell? ⟨vp, 0, none⟩ = some (.slice ba bn bc) := (by rw [hq3]; exact v0); have HB3 : Hid (Below wr.heap.size wr w3) := (by rw [hq3]; exact below_draws (below_draws HB2.out 1) q3); clear hq3))
      have I3 := hid (HI.out.moved HB3.out)
      have R1 : Hid (w3.ownsRow w.heap.size 34 3 (.slice s1a m1 s1c) m1 (((rs.take k).filter (inB base)).flatMap Rp.cells)) := by have h := I3.out.row1; unfold RowR at h; rw [← HM1.out] at h; exact h
      have R2 : Hid (w3.ownsRow w.heap.size 34 3 (.slice s2a m2 s2c) m2 (((rs.take k).filter fun r => !inB base r).flatMap Rp.cells)) := by have h := I3.out.row2; unfold RowR at h; rw [← HM2.out] at h; exact h
      have hs3 : w.heap.size ≤ w3.heap.size := Nat.le_trans hws HB3.out.size
      have hcl : Hid (Rp.cells ⟨wa, wc, wn, pl, g⟩ = [.slice wa n1 wc, .int .i64 pl, .slice (some ⟨g, 0, none⟩) 1 1]) := by rw [HN1.out]; rfl
      clear y0 y1 y2 v0 z3 HI
      cases bb with
      | true =>
        go_wp2_with (at_builtin; refine wpList_append_own_at _ rfl _ _ 22 rfl w.heap.size 34 i28 _ 3 56 Tryz.underlying22 hi28 hy0 hy1 hy2 rfl (by decide) _ _ _ rfl (R1.out.alloc _) ⟨w3.heap.size, 0, none⟩ 1 1 [.slice wa n1 wc, .int .i64 pl, .slice (some ⟨g, 0, none⟩) 1 1] rfl rfl (cells_newQ _ _ _ _ (by simp)) ?ho1 ?ho2 ?ho3 ?ho4 ?_; (case ho1 => exact HONE.out); (case ho2 => unfold maxLen; omega); (case ho3 => omega); (case ho4 => simp; omega); intro v9 w9 hown9 hgr9 _ hloc9; have G9 := hid hgr9; have O9 := hid hown9; have L9 := hid hloc9; clear hown9 hgr9 hloc9)
        refine ⟨⟨k + 1, by omega, by go_num, ?_⟩, by simp [intOf]; omega⟩
        show TwoR _ _ _ _ _ _
        rw [HS1.out, HS2.out, if_pos rfl, if_neg (by decide), List.append_nil]
        have J := (I3.out.moved (below_alloc w3 _)).step1 (v' := v9) (r := ⟨wa, wc, wn, pl, g⟩) G9.out (by rw [← HM1.out, hcl.out]; exact O9.out) L9.out
        exact J
      | false =>
        go_wp2_with (at_builtin; refine wpList_append_own_at _ rfl _ _ 22 rfl w.heap.size 34 i28 _ 3 56 Tryz.underlying22 hi28 hy0 hy1 hy2 rfl (by decide) _ _ _ rfl (R2.out.alloc _) ⟨w3.heap.size, 0, none⟩ 1 1 [.slice wa n1 wc, .int .i64 pl, .slice (some ⟨g, 0, none⟩) 1 1] rfl rfl (cells_newQ _ _ _ _ (by simp)) ?ho1 ?ho2 ?ho3 ?ho4 ?_; (case ho1 => exact HONE.out); (case ho2 => unfold maxLen; omega); (case ho3 => omega); (case ho4 => simp; omega); intro v9 w9 hown9 hgr9 _ hloc9; have G9 := hid hgr9; have O9 := hid hown9; have L9 := hid hloc9; clear hown9 hgr9 hloc9)
        refine ⟨⟨k + 1, by omega, by go_num, ?_⟩, by simp [intOf]; omega⟩
        show TwoR _ _ _ _ _ _
        rw [HS1.out, HS2.out, if_neg (by decide), if_pos (by decide), List.append_nil]
        have J := ((I3.out.moved (below_alloc w3 _)).swap.step1 (v' := v9) (r := ⟨wa, wc, wn, pl, g⟩) G9.out (by rw [← HM2.out, hcl.out]; exact O9.out) L9.out).swap
        exact J
    · obtain rfl : k = L := by omega
      have hi3 : ¬ (k : Int) < (k : Int) := by omega
      have hT := HI.out
      rw [List.take_of_length_le (by rw [← HL.out]; exact Nat.le_refl _)] at hT
      obtain ⟨S0, hS0⟩ : ∃ S0, S0 = rs.filter (inB base) := ⟨_, rfl⟩
      obtain ⟨O0, hO0⟩ : ∃ O0, O0 = rs.filter fun r => !inB base r := ⟨_, rfl⟩
      rw [← hS0, ← hO0] at hT
      have HS0 := hid hS0
      have HO0 := hid hO0
      obtain ⟨w1, hw1⟩ : ∃ w1, w1 = wr := ⟨_, rfl⟩
      subst hw1
      have subS : ∀ r ∈ S0, r ∈ rs := fun r hr => by rw [hS0] at hr; exact (List.mem_filter.1 hr).1
      have subO : ∀ r ∈ O0, r ∈ rs := fun r hr => by rw [hO0] at hr; exact (List.mem_filter.1 hr).1
      have lenS : S0.length ≤ 1000 := by rw [hS0]; exact Nat.le_trans (List.length_filter_le _ _) (by rw [← HL.out]; exact hfew)
      have lenO : O0.length ≤ 1000 := by rw [hO0]; exact Nat.le_trans (List.length_filter_le _ _) (by rw [← HL.out]; exact hfew)
      have P1 := HP.out.below hT.below
      have glt : ∀ r ∈ rs, r.g < w.heap.size := fun r hr => lt_of_heapQ (HP.out.ops r hr)
      have vlt : ∀ r ∈ rs, ∀ a, r.wa = some a → a.block < w.heap.size := fun r hr a ha => by
        obtain ⟨ad, c, e, _, h2⟩ := (HP.out.ints r hr).at
        injection e with e1 _ _
        rcases h2 with h2 | ⟨b, o, e2, h2⟩
        · have := (HP.out.pf r hr).ok.hi
          have h0 := (HP.out.pf r hr).ok.lo
          have : r.pl < r.wn.length := this
          have : 0 ≤ r.pl := h0
          rw [h2] at *
          simp at *
          omega
        · have hh := (HP.out.pf r hr).ok.hi
          have h0 := (HP.out.pf r hr).ok.lo
          have hh' : r.pl < r.wn.length := hh
          have h0' : 0 ≤ r.pl := h0
          have := lt_of_cell (h2 0 (by omega))
          rw [← e1, ha] at e2
          cases e2
          exact this
      have KS := hid (sortParts A w1 (HE.out.below hT.below h12) (Nat.le_trans h12 hT.below.size) E nb w.heap.size _ S0 hT.row1 h12 lenS (P1.sub subS).cmp (fun r hr b hb => by
        have hge := (hT.row1.lt b hb).1
        refine ⟨fun e => ?_, fun a ha e => ?_⟩
        · have := glt r (subS r hr); omega
        · have := vlt r (subS r hr) a ha; omega))
      have hvp1 := (hT.below.block _ (lt_of_heapQ HVP.out)).trans HVP.out
      obtain ⟨s1a, s1c, hse⟩ := hT.row1.shape
      obtain ⟨s2a, s2c, hoe⟩ := hT.row2.shape
      obtain ⟨m1, hm1⟩ : ∃ m1, m1 = S0.length := ⟨_, rfl⟩
      obtain ⟨m2, hm2⟩ : ∃ m2, m2 = O0.length := ⟨_, rfl⟩
      rw [← hm1] at hse
      rw [← hm2] at hoe
      subst hse hoe
      have HT := hid hT
      have HM2 := hid hm2
      clear hT HI hlt hS0 hO0 hm1 hm2
      go_wp2_with fail
      refine KS.out.mono ?_
      rintro e w2 ⟨rfl, ss, hperm, hord, hrow2, hoff2⟩
      have h34 : ∀ b ∈ ownL (.slice s1a m1 s1c), ∃ cs, w1.heap[b]? = some (.cells cs 34 (0, 0)) := fun b hb => HT.out.row1.typed (mem_ownL.1 hb)
      have P2 := P1.rows hoff2 h34
      have rowO2 := HT.out.row2.off hoff2 fun b hb hm => HT.out.apart b (mem_ownL.1 hm) hb
      have subSs : ∀ r ∈ ss, r ∈ rs := fun r hr => subS r (hperm.mem_iff.1 hr)
      have lenSs : ss.length ≤ 1000 := by rw [hperm.length_eq]; exact lenS
      have O2 : Off (blocksG rs D) w w2 := (Off.of_below HT.out.below).fresh hoff2 fun i hi => .inr (HT.out.row1.lt i (mem_ownL.1 hi)).1
      have K73 := hid (lastRegister_ok w2 w.heap.size _ ss E D hrow2 (P2.ops.sub subSs) lenSs)
      have HPERM := hid hperm
      have HORD := hid hord
      have HRO2 := hid rowO2
      have HO2 := hid O2
      have HP2 := hid P2
      clear hperm hord hrow2 hoff2 rowO2 O2 h34 P2 KS
      go_wp2_with fail
      refine K73.out.mono ?_
      rintro e w3 ⟨v3, rfl, hrow3, hB3⟩
      obtain ⟨S1, hS1⟩ : ∃ S1, S1 = keepL (regB E ss) 0 ss := ⟨_, rfl⟩
      rw [← hS1] at hrow3
      have P3 := HP2.out.below hB3
      have sub1 : S1.Sublist ss := by rw [hS1]; exact keepL_sub _ _ _
      have len1 : S1.length ≤ 1000 := Nat.le_trans sub1.length_le lenSs
      have nb1 : ∀ g ∈ S1.map (·.g), -1099511627776 ≤ (E g).n ∧ (E g).n ≤ 1099511627776 := fun g hg => by
        obtain ⟨q, hq, rfl⟩ := List.mem_map.1 hg
        obtain ⟨_, a1, a2, _, _⟩ := opOk (HP.out.pf q (subSs q (sub1.subset hq))).err
        exact ⟨a1, a2⟩
      have K72 := hid (sumCounters_ok w3 w2.heap.size v3 S1 E D hrow3 (P3.ops.sub fun r hr => subSs r (sub1.subset hr)) nb1 len1)
      obtain ⟨a3, c3, hv3⟩ := hrow3.shape
      subst hv3
      have HRO3 := hid (HRO2.out.below hB3)
      have HO3 := hid (HO2.out.trans (Off.of_below hB3))
      have HP3 := hid P3
      have HS1 := hid hS1
      have hws3 : w.heap.size ≤ w3.heap.size := HO3.out.size
      clear hrow3 hB3 P3 nb1 hS1 K73
      go_wp2_with fail
      refine K72.out.mono ?_
      rintro e w4 ⟨v4, rfl, hsw⟩
      obtain ⟨S2, hS2⟩ : ∃ S2, S2 = (sumQ E S1).kept := ⟨_, rfl⟩
      obtain ⟨E2, hE2⟩ : ∃ E2, E2 = (sumQ E S1).E := ⟨_, rfl⟩
      have P4 := HP3.out.summed (fun r hr => subSs r (sub1.subset hr)) hsw
      have hrow4 := hsw.row
      rw [← hE2] at P4
      rw [← hS2] at hrow4
      have sub2 : S2.Sublist S1 := by rw [hS2]; exact sumQ_sub E S1
      have len2 : S2.length ≤ 1000 := Nat.le_trans sub2.length_le len1
      have s2all : ∀ r ∈ S2, r ∈ rs := fun r hr => subSs r (sub1.subset (sub2.subset hr))
      have P4S := (P4.sub s2all).both
      have K71 := hid (withoutRemoved_ok w4 w3.heap.size v4 S2 E2 D hrow4 P4S.ops P4S.dots P4S.fit P4S.vec len2)
      have rowO4 : RowR w4 w.heap.size (.slice s2a m2 s2c) O0 := HRO3.out.off hsw.off fun b hb hm => by
        obtain ⟨q, hq, e⟩ := List.mem_map.1 hm
        obtain ⟨cs, hcs⟩ := HRO3.out.typed hb
        have := HP3.out.ops q (subSs q (sub1.subset hq))
        rw [e, hcs] at this
        injection this with this
        injection this with _ this
        exact absurd this (by decide)
      have O4 : Off (blocksG rs D) w w4 := HO3.out.trans (hsw.off.mono fun i hi => by
        obtain ⟨q, hq, e⟩ := List.mem_map.1 hi
        exact List.mem_append_left _ (List.mem_map.2 ⟨q, subSs q (sub1.subset hq), e⟩))
      obtain ⟨a4, c4, hv4⟩ := hrow4.shape
      subst hv4
      have HRO4 := hid rowO4
      have HO4 := hid O4
      have HP4 := hid P4
      have HS2 := hid hS2
      have HE2 := hid hE2
      clear hrow4 P4 P4S rowO4 O4 hS2 hE2 hsw K72
      go_wp2_with fail
      refine K71.out.mono ?_
      rintro e w5 ⟨v5, rfl, hrow5, hB5⟩
      obtain ⟨S3, hS3⟩ : ∃ S3, S3 = keepL (wrQ E2 (remT E2 S2)) 0 S2 := ⟨_, rfl⟩
      rw [← hS3] at hrow5
      have P5 := HP4.out.below hB5
      have sub3 : S3.Sublist S2 := by rw [hS3]; exact keepL_sub _ _ _
      have len3 : S3.length ≤ 1000 := Nat.le_trans sub3.length_le len2
      have s3all : ∀ r ∈ S3, r ∈ rs := fun r hr => s2all r (sub3.subset hr)
      have O5 : Off (blocksG rs D) w w5 := HO4.out.trans (Off.of_below hB5)
      have vpG := not_blocksG HP.out.ops HP.out.dots HVP.out (by decide) (by decide)
      have hvp5 : w5.heap[vp]? = some (.cells #[bv, .map (some mbv), .map (some db)] 83 (0, 0)) := (O5.block _ (lt_of_heapQ HVP.out) vpG).trans HVP.out
      obtain ⟨des, dcl, hdo⟩ := HV.out.obj
      have hV5 := HV.out.off O5 (map_notG HP.out.ops HP.out.dots hdo)
      have nd3 : (S3.map (·.g)).Nodup := by
        have hss : (ss.map (·.g)).Nodup := (HPERM.out.map (·.g)).nodup_iff.2 ((by rw [HS0.out]; exact List.filter_sublist : S0.Sublist rs).map _ |>.nodup HND.out)
        exact (((sub3.trans sub2).trans sub1).map _).nodup hss
      have K74 := hid (withoutSpent_ok w5 vp db 0 nd V v5 (.slice s2a m2 s2c) S3 O0 E2 D (hrow5.mono (Nat.zero_le _)) ((HRO4.out.below hB5).mono (Nat.zero_le _)) (P5.sub s3all).both (P5.sub subO).both len3 lenO bv _ hvp5 hV5 nd3 (fun q hq q' hq' => HAP.out q (s3all q hq) q' (s3all q' hq')))
      obtain ⟨a5, c5, hv5⟩ := hrow5.shape
      subst hv5
      have HRO5 := hid (HRO4.out.below hB5)
      have HO5 := hid O5
      have HP5 := hid P5
      have HS3 := hid hS3
      have HND3 := hid nd3
      clear hrow5 hB5 P5 O5 hvp5 hV5 nd3 hS3 K71
      go_wp2_with fail
      refine K74.out.mono ?_
      rintro e w6 ⟨v6, D6, rfl, hrow6, hsp6⟩
      obtain ⟨T6, hT6⟩ : ∃ T6, T6 = addsT E2 S3 ++ addsT E2 O0 := ⟨_, rfl⟩
      rw [← hT6] at hrow6 hsp6
      obtain ⟨S4, hS4⟩ : ∃ S4, S4 = keepL (spQ V T6 E2) 0 S3 := ⟨_, rfl⟩
      rw [← hS4] at hrow6
      have rowO6 : RowR w6 w.heap.size (.slice s2a m2 s2c) O0 := HRO5.out.off hsp6.off fun b hb hm => by
        obtain ⟨cs, hcs⟩ := HRO5.out.typed hb
        exact not_blocksG (HP5.out.ops.sub s3all) (fun r hr => HP5.out.dots r (s3all r hr)) hcs (by decide) (by decide) hm
      have sub4 : S4.Sublist S3 := by rw [hS4]; exact keepL_sub _ _ _
      have len4 : S4.length ≤ 1000 := Nat.le_trans sub4.length_le len3
      have inS0 : ∀ r ∈ S3, r ∈ S0 := fun r hr => HPERM.out.mem_iff.1 (sub1.subset (sub2.subset (sub3.subset hr)))
      have dis : ∀ r ∈ S3, ∀ q ∈ O0, r.g ≠ q.g := fun r hr q hq e => by
        have e1 := g_inj HND.out (s3all r hr) (subO q hq) e
        have h1 := inS0 r hr
        rw [HS0.out] at h1
        rw [HO0.out] at hq
        have a1 := (List.mem_filter.1 h1).2
        have a2 := (List.mem_filter.1 hq).2
        rw [e1] at a1
        rw [a1] at a2
        cases a2
      have SP := HP5.out.spent s3all subO dis HAP.out hsp6
      have O6 : Off (blocksG rs D) w w6 := HO5.out.trans (hsp6.off.mono (blocksG_sub s3all))
      have ROW6 := hid hrow6
      obtain ⟨a6, c6, hv6⟩ := hrow6.shape
      obtain ⟨m4, hm4⟩ : ∃ m4, m4 = S4.length := ⟨_, rfl⟩
      rw [← hm4] at hv6 len4
      subst hv6
      have ROW6' : Hid (w6.ownsRow w5.heap.size 34 3 (.slice a6 m4 c6) m4 (S4.flatMap Rp.cells)) := by have h := ROW6.out; unfold RowR at h; rw [← hm4] at h; exact h
      have SRC : Hid (SrcAt w6 (.slice s2a m2 s2c) m2 3 (O0.flatMap Rp.cells)) := by have h := srcR rowO6; rw [← HM2.out] at h; exact h
      have h56 : w5.heap.size ≤ w6.heap.size := hsp6.off.size
      have hm2l : m2 ≤ 1000 := by rw [HM2.out]; exact lenO
      have HSP := hid SP
      have HO6 := hid O6
      have HS4 := hid hS4
      have HT6 := hid hT6
      have HM4 := hid hm4
      have hw5 : w.heap.size ≤ w5.heap.size := HO5.out.size
      clear hrow6 hsp6 rowO6 SP O6 hS4 hT6 hm4 K74
      go_wp2_with (at_builtin; refine wpList_append_own_src rfl _ _ 22 rfl w5.heap.size 34 i28 _ 3 56 Tryz.underlying22 hi28 hy0 hy1 hy2 rfl (by decide) _ _ _ rfl ROW6'.out _ m2 (O0.flatMap Rp.cells) rfl SRC.out (flatR_one _) ?hm2 ?hm3 ?hm4 ?_; (case hm2 => unfold maxLen; omega); (case hm3 => omega); (case hm4 => exact h56); intro v7 w7 hown7 hgr7)
      go_ret
      have rowA : RowR w7 w5.heap.size v7 (S4 ++ O0) := by
        unfold RowR
        rw [List.length_append, List.flatMap_append, ← HM4.out, ← HM2.out]
        exact hown7
      have h34 : ∀ b ∈ ownL (.slice a6 m4 c6), ∃ cs, w6.heap[b]? = some (.cells cs 34 (0, 0)) := fun b hb => ROW6.out.typed (by rw [← HM4.out] at *; exact mem_ownL.1 hb)
      have PO7 := (HSP.out.1.sub (rs' := S4 ++ O0) fun r hr => by
        rcases List.mem_append.1 hr with hr | hr
        · exact List.mem_append_left _ (sub4.subset hr)
        · exact List.mem_append_right _ hr).rows (Off.of_grown hgr7) h34
      have eO : ∀ q ∈ O0, E2 q.g = E q.g := fun q hq => by
        rw [HE2.out]
        rcases sumE_rest E S1 q.g with e | ⟨_, hm, _⟩
        · exact e
        · obtain ⟨r, hr, e⟩ := List.mem_map.1 hm
          have e1 := g_inj HND.out (subSs r (sub1.subset hr)) (subO q hq) e
          have h1 := HPERM.out.mem_iff.1 (sub1.subset hr)
          rw [HS0.out] at h1
          rw [HO0.out] at hq
          have a1 := (List.mem_filter.1 h1).2
          have a2 := (List.mem_filter.1 hq).2
          rw [e1] at a1
          rw [a1] at a2
          cases a2
      have mO : O0.map (absR E2) = O0.map (absR E) := List.map_congr_left fun q hq => by unfold absR; rw [eO q hq]
      have mO' : O0.map (absR (trimK (keepD V T6) E2 S3 S3.length)) = O0.map (absR E) := List.map_congr_left fun q hq => by
        unfold absR trimK
        rw [List.take_length, if_neg (fun hm => by
          obtain ⟨r, hr, e⟩ := List.mem_map.1 hm
          exact dis r hr q hq e), eO q hq]
      have nd1 : (S1.map (·.g)).Nodup := by
        have hss : (ss.map (·.g)).Nodup := (HPERM.out.map (·.g)).nodup_iff.2 ((by rw [HS0.out]; exact List.filter_sublist : S0.Sublist rs).map _ |>.nodup HND.out)
        exact (sub1.map _).nodup hss
      have m4 : S4.map (absR (trimK (keepD V T6) E2 S3 S3.length)) = spentL V (S3.map (absR E2)) (O0.map (absR E2)) := by
        rw [HS4.out, HT6.out]
        exact spentL_map V E2 _ S3 O0 fun r hr => by
          unfold trimK
          rw [List.take_length, if_pos (List.mem_map.2 ⟨r, hr, rfl⟩)]
      have m3 : S3.map (absR E2) = withoutRem (S2.map (absR E2)) := by rw [HS3.out]; exact withoutRem_map E2 S2
      have m2' : S2.map (absR E2) = sumC (S1.map (absR E)) := by rw [HS2.out, HE2.out]; exact sumC_map E S1 nd1
      have m1' : S1.map (absR E) = lastReg (ss.map (absR E)) := by rw [HS1.out]; exact lastReg_map E ss
      refine ⟨v7, ss, S4 ++ O0, trimK (keepD V T6) E2 S3 S3.length, joinD S3 D6 D, rfl, ⟨by rw [← HS0.out]; exact HPERM.out, HORD.out, rowA.mono hw5, PO7, ?_, ?_, ?_, ?_, ?_, ?_⟩⟩
      · intro r hr
        rcases List.mem_append.1 hr with hr | hr
        · exact s3all r (sub4.subset hr)
        · exact subO r hr
      · rw [List.map_append, List.nodup_append]
        refine ⟨(sub4.map _).nodup HND3.out, ((by rw [HO0.out]; exact List.filter_sublist : O0.Sublist rs).map _).nodup HND.out, fun a ha b hb e => ?_⟩
        obtain ⟨r, hr, rfl⟩ := List.mem_map.1 ha
        obtain ⟨q, hq, rfl⟩ := List.mem_map.1 hb
        exact dis r (sub4.subset hr) q hq e
      · intro r hr
        refine HSP.out.2 r ?_
        rcases List.mem_append.1 hr with hr | hr
        · exact List.mem_append_left _ (sub4.subset hr)
        · exact List.mem_append_right _ hr
      · exact HO6.out.fresh (Off.of_grown hgr7) fun i hi => .inr (by have := (ROW6'.out.lt i (mem_ownL.1 hi)).1; omega)
      · rw [List.map_append, mO', m4, mO, m3, m2', m1', ← HO0.out]
        rfl
      · rw [List.length_append]
        have h1 := ((sub4.trans sub3).trans sub2).trans sub1 |>.length_le
        have h2 := HPERM.out.length_eq
        have h3 := filter_both (inB base) rs
        rw [← HS0.out, ← HO0.out] at h3
        omega
end Go.Proofs.YtdnebclemngdcaaGreatDoor
namespace Go.Proofs.YtdnebclemngdcaaGreatDoor
open Go.RowKit Go.Sort Go.Maps
set_option maxRecDepth 100000
set_option linter.unusedSectionVars false
variable [Inhabited ComV] [DecidableEq D3] [Inhabited D3] [Inhabited Dd] [Inhabited Dn] [Inhabited OpV]

/-- All blocks of cells but a store's own stay. -/
theorem RowsO.keep {B : Nat} {w w' : World} {nb : Nat} {f : ByteArray → Value} {R : ByteArray → List Rp} {E : Nat → OpV} {D : Nat → Value} (h : RowsO B w nb f R E D) (keep : ∀ {b : Nat} {cs : Array Value} {t : TypeId}, t ≠ 83 → w.heap[b]? = some (.cells cs t (0, 0)) → w'.heap[b]? = w.heap[b]?) : RowsO B w' nb f R E D := by
  refine ⟨fun k => ?_, fun k => ⟨fun r hr => ?_, fun r hr => ?_, fun r hr => ?_, (h.po k).pf⟩, h.nd, h.ap, h.sep, h.apart, h.ge⟩
  · refine ⟨(h.rows k).1, ?_⟩
    rcases (h.rows k).2 with h0 | ⟨g, cap, cur, hv, h1, hh, h2⟩
    · exact .inl h0
    · exact .inr ⟨g, cap, cur, hv, h1, by rw [keep (by decide) hh]; exact hh, h2⟩
  · rw [keep (by decide) ((h.po k).ops r hr)]; exact (h.po k).ops r hr
  · refine ((h.po k).dots r hr).kept fun b hb => ?_
    obtain ⟨cs, hcs⟩ := ((h.po k).dots r hr).block hb
    exact keep (by decide) hcs
  · exact RowT.kept ((h.po k).ints r hr) fun b cs hb => keep (by decide) hb
theorem cells_type {w : World} {b : Nat} {cs cs' : Array Value} {t t' : TypeId} (h : w.heap[b]? = some (.cells cs t (0, 0))) (h' : w.heap[b]? = some (.cells cs' t' (0, 0))) : t = t' := by
  rw [h] at h'
  injection h' with h'
  injection h' with _ h'
/-- The blocks of settled parts: of two types only. -/
theorem blocksG_type {w : World} {E : Nat → OpV} {D : Nat → Value} {nb : Nat} {rs : List Rp} (h : PO w E D nb rs) {b : Nat} (hb : b ∈ blocksG rs D) : (∃ cs, w.heap[b]? = some (.cells cs 76 (0, 0)) ∧ b ∈ rs.map (·.g)) ∨ (∃ cs, w.heap[b]? = some (.cells cs 87 (0, 0)) ∧ ∃ r ∈ rs, (D r.g).ownBlock = some b) := by
  rcases List.mem_append.1 hb with hb | hb
  · obtain ⟨q, hq, e⟩ := List.mem_map.1 hb
    exact .inl ⟨_, by rw [← e]; exact h.ops q hq, List.mem_map.2 ⟨q, hq, e⟩⟩
  · obtain ⟨q, hq, e⟩ := List.mem_flatMap.1 hb
    obtain ⟨cs, hcs⟩ := (h.dots q hq).block (mem_ownL.1 e)
    exact .inr ⟨cs, hcs, q, hq, mem_ownL.1 e⟩
def setE (rs : List Rp) (E' E : Nat → OpV) : Nat → OpV := fun g => if g ∈ rs.map (·.g) then E' g else E g
def setD (rs : List Rp) (D' D : Nat → Value) : Nat → Value := fun g => if g ∈ rs.map (·.g) then D' g else D g
theorem RowsO.settle {B : Nat} {w w' : World} {nb : Nat} {f : ByteArray → Value} {R : ByteArray → List Rp} {E E' : Nat → OpV} {D D' : Nat → Value} {k : ByteArray} {v : Value} {V : D3 → Bool} {base : List Int} {ss res : List Rp} (h : RowsO B w nb f R E D) (hs : SettleOut V base nb (R k) E D w v w' ss res E' D') (hB : B ≤ w.heap.size) :
    RowsO B w' nb (updF f k v) (updR R k res) (setE (R k) E' E) (setD (R k) D' D) := by
  have hin : ∀ r ∈ res, r.g ∈ (R k).map (·.g) := fun r hr => List.mem_map.2 ⟨r, hs.sub r hr, rfl⟩
  have hout : ∀ k', k' ≠ k → ∀ r ∈ R k', r.g ∉ (R k).map (·.g) := fun k' hk r hr hm => by
    obtain ⟨q, hq, e⟩ := List.mem_map.1 hm
    exact (h.sep k' k hk r hr q hq).1 e.symm
  have hE1 : ∀ k', k' ≠ k → ∀ r ∈ R k', setE (R k) E' E r.g = E r.g := fun k' hk r hr => if_neg (hout k' hk r hr)
  have hD1 : ∀ k', k' ≠ k → ∀ r ∈ R k', setD (R k) D' D r.g = D r.g := fun k' hk r hr => if_neg (hout k' hk r hr)
  have hE2 : ∀ r ∈ res, setE (R k) E' E r.g = E' r.g := fun r hr => if_pos (hin r hr)
  have hD2 : ∀ r ∈ res, setD (R k) D' D r.g = D' r.g := fun r hr => if_pos (hin r hr)
  have keep : ∀ {b : Nat} {cs : Array Value} {t : TypeId}, t ≠ 76 → t ≠ 87 → w.heap[b]? = some (.cells cs t (0, 0)) → w'.heap[b]? = w.heap[b]? := fun {b cs t} h1 h2 hb => hs.off.block b (lt_of_heapQ hb) fun hm => by
    rcases blocksG_type (h.po k) hm with ⟨_, e, _⟩ | ⟨_, e, _⟩
    · exact h1 (cells_type hb e)
    · exact h2 (cells_type hb e)
  refine ⟨fun k' => ?_, fun k' => ?_, fun k' => ?_, fun k' => ?_, fun k1 k2 hk r hr q hq => ?_, fun k1 k2 hk b hb1 hb2 => ?_, fun k' r hr => ?_⟩
  · by_cases e : k' = k
    · subst e; rw [updF_same, updR_same]; exact hs.row.mono hB
    · rw [updF_other _ _ e, updR_other _ _ e]
      refine ⟨(h.rows k').1, ?_⟩
      rcases (h.rows k').2 with h0 | ⟨g, cap, cur, hv, h1, hh, h2⟩
      · exact .inl h0
      · exact .inr ⟨g, cap, cur, hv, h1, by rw [keep (by decide) (by decide) hh]; exact hh, h2⟩
  · by_cases e : k' = k
    · subst e; rw [updR_same]; exact hs.po.fresh hE2 hD2
    · rw [updR_other _ _ e]
      refine PO.fresh (E := E) (D := D) ⟨fun r hr => ?_, fun r hr => ?_, fun r hr => ?_, (h.po k').pf⟩ (hE1 k' e) (hD1 k' e)
      · rw [hs.off.block _ (lt_of_heapQ ((h.po k').ops r hr)) fun hm => ?_]
        · exact (h.po k').ops r hr
        · rcases blocksG_type (h.po k) hm with ⟨_, _, x⟩ | ⟨_, x, _⟩
          · exact hout k' e r hr x
          · exact absurd (cells_type ((h.po k').ops r hr) x) (by decide)
      · refine ((h.po k').dots r hr).kept fun b hb => ?_
        obtain ⟨cs, hcs⟩ := ((h.po k').dots r hr).block hb
        refine hs.off.block b (lt_of_heapQ hcs) fun hm => ?_
        rcases blocksG_type (h.po k) hm with ⟨_, x, _⟩ | ⟨_, _, q, hq, x⟩
        · exact absurd (cells_type hcs x) (by decide)
        · exact (h.sep k' k e r hr q hq).2 b hb x
      · exact RowT.kept ((h.po k').ints r hr) fun b cs hb => keep (by decide) (by decide) hb
  · by_cases e : k' = k
    · subst e; rw [updR_same]; exact hs.nd
    · rw [updR_other _ _ e]; exact h.nd k'
  · by_cases e : k' = k
    · subst e; rw [updR_same]
      intro q hq q' hq' hne b hb1 hb2
      rw [hD2 q hq, hs.own q hq] at hb1
      rw [hD2 q' hq', hs.own q' hq'] at hb2
      exact h.ap _ q (hs.sub q hq) q' (hs.sub q' hq') hne b hb1 hb2
    · rw [updR_other _ _ e]
      intro q hq q' hq' hne b hb1 hb2
      rw [hD1 k' e q hq] at hb1
      rw [hD1 k' e q' hq'] at hb2
      exact h.ap k' q hq q' hq' hne b hb1 hb2
  · by_cases e1 : k1 = k
    · subst e1
      have e2 : k2 ≠ k1 := fun x => hk x.symm
      rw [updR_same] at hr
      rw [updR_other _ _ e2] at hq
      rw [hD2 r hr, hD1 k2 e2 q hq, hs.own r hr]
      exact h.sep k1 k2 hk r (hs.sub r hr) q hq
    · rw [updR_other _ _ e1] at hr
      by_cases e2 : k2 = k
      · subst e2
        rw [updR_same] at hq
        rw [hD1 k1 e1 r hr, hD2 q hq, hs.own q hq]
        exact h.sep k1 k2 hk r hr q (hs.sub q hq)
      · rw [updR_other _ _ e2] at hq
        rw [hD1 k1 e1 r hr, hD1 k2 e2 q hq]
        exact h.sep k1 k2 hk r hr q hq
  · by_cases e1 : k1 = k
    · subst e1
      have e2 : k2 ≠ k1 := fun x => hk x.symm
      rw [updF_same] at hb1
      rw [updF_other _ _ e2] at hb2
      have := (hs.row.lt b hb1).1
      have := ((h.rows k2).lt b hb2).2
      omega
    · rw [updF_other _ _ e1] at hb1
      by_cases e2 : k2 = k
      · subst e2
        rw [updF_same] at hb2
        have := (hs.row.lt b hb2).1
        have := ((h.rows k1).lt b hb1).2
        omega
      · rw [updF_other _ _ e2] at hb2
        exact h.apart k1 k2 hk b hb1 hb2
  · by_cases e : k' = k
    · subst e
      rw [updR_same] at hr
      rw [hD2 r hr, hs.own r hr]
      exact h.ge _ r (hs.sub r hr)
    · rw [updR_other _ _ e] at hr
      rw [hD1 k' e r hr]
      exact h.ge k' r hr
/-- What a row becomes when it is settled at a base. -/
def SettledAs (V : D3 → Bool) (base : List Int) (row new : List ComV) : Prop := ∃ ss : List ComV, ss.Perm (row.filter fun c => leB c.when_ base) ∧ (ss.map dn1).Pairwise (fun a b => ltN b a = false) ∧ new = settled V ss (row.filter fun c => !leB c.when_ base) ++ row.filter fun c => !leB c.when_ base
theorem filter_abs (E : Nat → OpV) (p : ComV → Bool) (q : Rp → Bool) : ∀ (rs : List Rp), (∀ r, q r = p (absR E r)) → (rs.filter q).map (absR E) = (rs.map (absR E)).filter p
  | [], _ => rfl
  | r :: rs, h => by
    rw [List.map_cons, List.filter_cons, List.filter_cons, ← h r]
    cases q r with
    | true => rw [if_pos rfl, if_pos rfl, List.map_cons, filter_abs E p q rs h]
    | false => rw [if_neg (by decide), if_neg (by decide), filter_abs E p q rs h]
theorem SettleOut.as {V : D3 → Bool} {base : List Int} {nb : Nat} {rs : List Rp} {E : Nat → OpV} {D : Nat → Value} {w : World} {v : Value} {w' : World} {ss res : List Rp} {E' : Nat → OpV} {D' : Nat → Value} (h : SettleOut V base nb rs E D w v w' ss res E' D') : SettledAs V base (rs.map (absR E)) (res.map (absR E')) := by
  have e1 := filter_abs E (fun c => leB c.when_ base) (inB base) rs fun r => rfl
  have e2 := filter_abs E (fun c => !leB c.when_ base) (fun r => !inB base r) rs fun r => rfl
  refine ⟨ss.map (absR E), by rw [← e1]; exact h.perm.map _, ?_, by rw [h.abs_, e2]⟩
  have : (ss.map (absR E)).map dn1 = ss.map (dnR E) := by
    rw [List.map_map]
    rfl
  rw [this]
  exact h.order
theorem VerO.ver {B : Nat} {w : World} {p mb db n nb : Nat} {f : ByteArray → Value} {s : St} {R : ByteArray → List Rp} {E : Nat → OpV} {D : Nat → Value} (h : VerO B w p mb db n nb f s R E D) : VerAt w p mb db f s n := by
  refine ⟨h.box, h.dots, h.map, fun k => ⟨(R k).map Rp.cells, ?_, ?_⟩, h.rows.apart, h.ne⟩
  · rw [flatten_map, ← h.abs_ k, List.length_map]
    exact (h.rows.rows k).mono (Nat.zero_le _)
  · rw [← h.abs_ k]
    exact (h.rows.po k).comT
end Go.Proofs.YtdnebclemngdcaaGreatDoor
namespace Go.Proofs.YtdnebclemngdcaaGreatDoor
open Go.RowKit Go.Sort Go.Maps
set_option maxRecDepth 100000
set_option linter.unusedSectionVars false
variable [Inhabited ComV] [DecidableEq D3] [Inhabited D3] [Inhabited Dd] [Inhabited Dn] [Inhabited OpV]

set_option maxHeartbeats 2000000 in
theorem keysR_ok (w : World) (p mb db n : Nat) (f : ByteArray → Value) (s : St) (hV : VerAt w p mb db f s n) (hn : n ≤ 1000000) :
    Calls Tryz.prog 19 #[.pointer (some ⟨p, 0, none⟩)] w fun e w' => ∃ v ss, e = .returned v ∧ KeysOfSt s ss ∧ w'.ownsRow 0 9 1 v ss.length (ss.map encStr) ∧ ss.length ≤ 1000000 ∧ Below w.heap.size w w' := by
  obtain ⟨ba, bc, p0, p1, p2, hbt, hpx⟩ := hV.boxAt
  obtain ⟨D, hD, hs⟩ := hV.map
  have hsz := hD.size_le
  have K52 := (callsIn_wide (n := 5)).1 (Tryz.maps_Keys_52 (some mb) w)
  have K51 := hid ((callsIn_wide (n := 5)).1 (Tryz.slices_Sorted_keys_51_52 mb n D sliceElem w hD (by unfold maxLen; omega) (by omega)))
  have HD := hid hD
  have HS := hid hs
  have HSZ := hid hsz
  clear hV hbt hpx p0 p2 hs hD hsz
  go_enter Tryz.func19, Tryz.ntmps19
  go_wp2_with (go_at_call 52; refine K52.mono ?_; rintro e w' ⟨rfl, rfl⟩)
  refine K51.out.mono ?_
  rintro e w1 ⟨v, ss, rfl, hperm, hrow, _, hb⟩
  have H1 := hid hperm
  have H2 := hid hrow
  have hb0 := below_alloc w (.cells #[.map (some mb)] 80)
  have B1 := hid (hb0.trans (hb.mono hb0.size))
  clear hperm hrow hb hb0 K52 K51
  go_wp2_with fail
  go_ret
  have hlen : (ss.mergeSort fun x y => decide (x ≤ y)).length = ss.length := List.length_mergeSort _
  obtain ⟨hnd, hmem⟩ := strKeys_has HD.out
  have hkl : (strKeys D).length = Maps.size D := by
    obtain ⟨es, hD', _⟩ := HD.out.keysOf
    rw [hD']
    simp [strKeys, Maps.size]
  refine ⟨_, ss.mergeSort fun x y => decide (x ≤ y), rfl, ⟨strKeys D, hnd, fun x => ?_, mergeSort_of_perm H1.out⟩, ownsMono (Nat.zero_le _) (by rw [hlen]; exact H2.out), ?_, B1.out⟩
  · have := (HS.out ⟨x.toArray⟩).1
    rw [hmem, show (Lit.string x) = klS ⟨x.toArray⟩ by simp [klS], this, decide_eq_true_eq]
  · rw [hlen, H1.out.length_eq, hkl]
    have := HSZ.out
    omega

theorem comb_length (F : Int → Int → Int) (zs ys : List Int) : (comb F zs ys).length = zs.length := mid_length F zs ys _ _
theorem comb_getD (F : Int → Int → Int) (zs ys : List Int) {t : Nat} (ht : t < zs.length) : (comb F zs ys).getD t 0 = F (zs.getD t 0) (ys.getD t 0) := by
  unfold comb mid
  rw [List.getD_eq_getElem?_getD, List.getElem?_map, List.getElem?_range ht]
  simp [ht]
theorem chk_most {zs ys : List Int} (h : two zs ys = 0) : chk (comb mxI zs ys) = 0 := by
  obtain ⟨h1, h2, h3⟩ := two_zero.1 h
  obtain ⟨a1, a2, a3⟩ := chk_zero.1 h1
  obtain ⟨b1, b2, b3⟩ := chk_zero.1 h2
  refine chk_zero.2 ⟨by rw [comb_length]; exact a1, by rw [comb_length]; exact a2, fun t ht => ?_⟩
  rw [comb_length] at ht
  rw [comb_getD _ _ _ ht]
  unfold mxI
  split
  · exact b3 t (by omega)
  · exact a3 t ht
/-- A key of the list. -/
def keyB (x : List UInt8) : ByteArray := ⟨x.toArray⟩
structure PrInv (w : World) (B p mb db n nb : Nat) (bv : Value) (base : List Int) (s : St) (V : D3 → Bool) (ks : List (List UInt8)) (kv : Value) (i : Nat) (f : ByteArray → Value) (R : ByteArray → List Rp) (E : Nat → OpV) (D : Nat → Value) (wr : World) : Prop where
  box : wr.heap[p]? = some (.cells #[bv, .map (some mb), .map (some db)] 83 (0, 0))
  ints : IntsT wr bv base
  dots : DotSet wr db n V
  map : ∃ Dm : DataW Unit, wr.ownsMap Tryz.prog 9 sliceElem mb (n + i) Dm ∧ ∀ k, Dm.atKey (klS k) .nil = rowDat (f k)
  rows : RowsO B wr nb f R E D
  todo : ∀ k, k ∉ (ks.take i).map keyB → (R k).map (absR E) = rowOf s k
  done : ∀ k, k ∈ (ks.take i).map keyB → SettledAs V base (rowOf s k) ((R k).map (absR E))
  few : ∀ k, (R k).length ≤ 1000
  keys : wr.ownsRow 0 9 1 kv ks.length (ks.map encStr)
  below : Below B w wr
/-- A key more is settled. -/
theorem PrInv.next {w w1 w2 w3 : World} {B p mb db n nb : Nat} {bv : Value} {base : List Int} {s : St} {V : D3 → Bool} {ks : List (List UInt8)} {kv : Value} {i : Nat} {f : ByteArray → Value} {R : ByteArray → List Rp} {E : Nat → OpV} {D : Nat → Value} {x : List UInt8} {v2 : Value} {ss res : List Rp} {E' : Nat → OpV} {D' : Nat → Value} {Dm : DataW Unit}
    (h : PrInv w B p mb db n nb bv base s V ks kv i f R E D w1) (hk : ks.Nodup) (hx : ks[i]? = some x) (hB : B ≤ mb) (hne : mb ≠ db)
    (hs : SettleOut V base nb (R (keyB x)) E D w1 v2 w2 ss res E' D') (hDk : ∀ k, Dm.atKey (klS k) .nil = rowDat (f k)) (hDm : w2.ownsMap Tryz.prog 9 sliceElem mb (n + i) Dm) (hg : w2.grownBy w3 (some mb)) (hm : w3.ownsMap Tryz.prog 9 sliceElem mb (n + i + 1) (Dm.put (klS (keyB x)) (rowDat v2))) :
    PrInv w B p mb db n nb bv base s V ks kv (i + 1) (updF f (keyB x) v2) (updR R (keyB x) res) (setE (R (keyB x)) E' E) (setD (R (keyB x)) D' D) w3 := by
  have hin : ∀ r ∈ res, r.g ∈ (R (keyB x)).map (·.g) := fun r hr => List.mem_map.2 ⟨r, hs.sub r hr, rfl⟩
  have hout : ∀ k', k' ≠ keyB x → ∀ r ∈ R k', r.g ∉ (R (keyB x)).map (·.g) := fun k' hk r hr hm => by
    obtain ⟨q, hq, e⟩ := List.mem_map.1 hm
    exact (h.rows.sep k' _ hk r hr q hq).1 e.symm
  have same : res.map (absR (setE (R (keyB x)) E' E)) = res.map (absR E') := List.map_congr_left fun r hr => by
    unfold absR setE
    rw [if_pos (hin r hr)]
  have other : ∀ k, k ≠ keyB x → (R k).map (absR (setE (R (keyB x)) E' E)) = (R k).map (absR E) := fun k hk => List.map_congr_left fun r hr => by
    unfold absR setE
    rw [if_neg (hout k hk r hr)]
  have keep2 : ∀ {b : Nat} {cs : Array Value} {t : TypeId}, t ≠ 76 → t ≠ 87 → w1.heap[b]? = some (.cells cs t (0, 0)) → w2.heap[b]? = w1.heap[b]? := fun {b cs t} h1 h2 hb => hs.off.block b (lt_of_heapQ hb) fun hm => by
    rcases blocksG_type (h.rows.po _) hm with ⟨_, e, _⟩ | ⟨_, e, _⟩
    · exact h1 (cells_type hb e)
    · exact h2 (cells_type hb e)
  have keep3 : ∀ {b : Nat} {cs : Array Value} {t : TypeId}, w2.heap[b]? = some (.cells cs t (0, 0)) → w3.heap[b]? = w2.heap[b]? := fun {b cs t} hb => cells_keep hg (map_no_cells hDm) hb
  have keep : ∀ {b : Nat} {cs : Array Value} {t : TypeId}, t ≠ 76 → t ≠ 87 → w1.heap[b]? = some (.cells cs t (0, 0)) → w3.heap[b]? = w1.heap[b]? := fun {b cs t} h1 h2 hb => by
    have e2 := keep2 h1 h2 hb
    rw [keep3 (e2.trans hb), e2]
  have hxin : ∀ k, k ∈ (ks.take (i + 1)).map keyB ↔ k ∈ (ks.take i).map keyB ∨ k = keyB x := fun k => by
    rw [take_snocQ hx, List.map_append, List.mem_append]
    simp
  have hxnot : keyB x ∉ (ks.take i).map keyB := fun hm => by
    obtain ⟨y, hy, e⟩ := List.mem_map.1 hm
    have e' : y = x := by
      unfold keyB at e
      injection e with e
      exact List.toArray_inj e
    subst e'
    obtain ⟨j, hj, hjy⟩ := List.mem_iff_getElem.1 hy
    rw [List.getElem_take] at hjy
    have hjl : j < i := by rw [List.length_take] at hj; omega
    obtain ⟨hil, hiy⟩ := List.getElem?_eq_some_iff.1 hx
    exact (List.nodup_iff_pairwise_ne.1 hk |> fun hp => (List.pairwise_iff_getElem.1 hp) j i (by omega) hil hjl) (hjy.trans hiy.symm)
  have hbl : ∀ b ∈ blocksG (R (keyB x)) D, B ≤ b := fun b hb => by
    rcases List.mem_append.1 hb with hb | hb
    · obtain ⟨q, hq, e⟩ := List.mem_map.1 hb
      exact e ▸ (h.rows.ge _ q hq).1
    · obtain ⟨q, hq, e⟩ := List.mem_flatMap.1 hb
      exact (h.rows.ge _ q hq).2 b (mem_ownL.1 e)
  have hB2 : Below B w w2 := h.below.trans ⟨hs.off.os, hs.off.tape, hs.off.output, hs.off.size, fun j hj => hs.off.block j (Nat.lt_of_lt_of_le hj (Nat.le_trans hB (Nat.le_of_lt (by obtain ⟨_, hm1, _⟩ := h.map; exact hm1.lt)))) fun hm => by have := hbl j hm; omega⟩
  refine ⟨?_, ?_, ?_, ⟨_, hm, fun k => ?_⟩, ?_, fun k hk => ?_, fun k hk => ?_, fun k => ?_, ?_, ?_⟩
  · rw [keep (by decide) (by decide) h.box]; exact h.box
  · exact RowT.kept h.ints fun b cs hb => keep (by decide) (by decide) hb
  · obtain ⟨D1, hD1, hd⟩ := h.dots
    have h2 : w2.ownsMap Tryz.prog 87 unitElem db n D1 := by
      have hlt := hD1.lt
      obtain ⟨es, clock, hb, F, hs', hD'⟩ := hD1
      refine ⟨es, clock, (hs.off.block db hlt fun hm => ?_).trans hb, F, hs', hD'⟩
      rcases blocksG_type (h.rows.po _) hm with ⟨_, e, _⟩ | ⟨_, e, _⟩
      · rw [hb] at e; cases e
      · rw [hb] at e; cases e
    exact ⟨D1, h2.kept hg (fun e => hne (Option.some.inj e).symm), hd⟩
  · by_cases e : k = keyB x
    · subst e
      rw [atKey_put_same hDm.isMap (klS_key _), updF_same]
    · rw [atKey_put_other (fun h => e (klS_inj h)), updF_other _ _ e]
      exact hDk k
  · exact (h.rows.settle hs (Nat.le_trans hB (Nat.le_of_lt (by obtain ⟨_, hm1, _⟩ := h.map; exact hm1.lt)))).turned hg (map_no_cells hDm)
  · have hk' := fun z => hk ((hxin k).2 z)
    have e : k ≠ keyB x := fun e => hk' (.inr e)
    rw [updR_other _ _ e, other k e]
    exact h.todo k fun z => hk' (.inl z)
  · by_cases e : k = keyB x
    · subst e
      rw [updR_same, same, ← h.todo _ hxnot]
      exact hs.as
    · rw [updR_other _ _ e, other k e]
      exact h.done k (((hxin k).1 hk).resolve_right e)
  · by_cases e : k = keyB x
    · subst e
      rw [updR_same]
      exact Nat.le_trans hs.few (h.few _)
    · rw [updR_other _ _ e]
      exact h.few k
  · exact owns_below (owns_below h.keys fun b cs hb => keep2 (by decide) (by decide) hb) fun b cs hb => keep3 hb
  · exact hB2.grown hg (Nat.le_trans hB (Nat.le_of_lt hDm.lt)) (fun j hj => by cases hj; exact hB)
end Go.Proofs.YtdnebclemngdcaaGreatDoor
namespace Go.Proofs.YtdnebclemngdcaaGreatDoor
open Go.RowKit Go.Sort Go.Maps
set_option maxRecDepth 100000
set_option linter.unusedSectionVars false
variable [Inhabited ComV] [DecidableEq D3] [Inhabited D3] [Inhabited Dd] [Inhabited Dn] [Inhabited OpV]

theorem ownsMap_block {w w' : World} {k b n : Nat} {R : Value → Option (DataW Unit × List MemPlace)} {D : DataW Unit} (h : w.ownsMap Tryz.prog k R b n D) (hb : w'.heap[b]? = w.heap[b]?) : w'.ownsMap Tryz.prog k R b n D := by
  obtain ⟨es, clock, h1, F, hs, hD⟩ := h
  exact ⟨es, clock, hb.trans h1, F, hs, hD⟩
theorem VerO.below {B : Nat} {w w' : World} {p mb db n nb : Nat} {f : ByteArray → Value} {s : St} {R : ByteArray → List Rp} {E : Nat → OpV} {D : Nat → Value} (h : VerO B w p mb db n nb f s R E D) (hb : Below w.heap.size w w') : VerO B w' p mb db n nb f s R E D := by
  obtain ⟨bv, h1, h2⟩ := h.box
  obtain ⟨Dm, h3, h4⟩ := h.map
  exact ⟨⟨bv, (hb.block p (lt_of_heapQ h1)).trans h1, RowT.kept h2 (keepT_below hb (Nat.le_refl _))⟩, h.dots.below hb, ⟨Dm, ownsMap_block h3 (hb.block _ h3.lt), h4⟩, h.rows.below hb, h.abs_, h.ne⟩
/-- The base is set anew. -/
theorem VerO.rebase {B : Nat} {w : World} {p mb db n nb : Nat} {f : ByteArray → Value} {s : St} {R : ByteArray → List Rp} {E : Nat → OpV} {D : Nat → Value} (h : VerO B w p mb db n nb f s R E D) {r : Value} {base : List Int} (hr : IntsT w r base) : VerO B (w.setCell ⟨p, 0, none⟩ r) p mb db n nb f ⟨base, s.parts, s.dots⟩ R E D := by
  obtain ⟨bv, h1, h2⟩ := h.box
  obtain ⟨Dm, h3, h4⟩ := h.map
  obtain ⟨Dd, h5, h6⟩ := h.dots
  have keep : ∀ {b : Nat}, b ≠ p → (w.setCell ⟨p, 0, none⟩ r).heap[b]? = w.heap[b]? := fun {b} hb => Below.heap_setCell _ _ _ _ hb
  have keepC : ∀ {b : Nat} {cs : Array Value} {t : TypeId}, t ≠ 83 → w.heap[b]? = some (.cells cs t (0, 0)) → (w.setCell ⟨p, 0, none⟩ r).heap[b]? = w.heap[b]? := fun {b cs t} ht hb => keep fun e => ht (cells_type (by rw [← e]; exact hb) h1)
  refine ⟨⟨r, by rw [heap_set h1]; rfl, RowT.kept hr fun b cs hb => keepC (by decide) hb⟩, ⟨Dd, ownsMap_block h5 (keep fun e => map_no_cells h5 _ _ (by rw [e]; exact h1)), h6⟩, ⟨Dm, ownsMap_block h3 (keep fun e => map_no_cells h3 _ _ (by rw [e]; exact h1)), h4⟩, h.rows.keep keepC, h.abs_, h.ne⟩
theorem prune_start {B : Nat} {w w1 w3 : World} {p mb db n nb : Nat} {f : ByteArray → Value} {s : St} {R : ByteArray → List Rp} {E : Nat → OpV} {D : Nat → Value} {r kv : Value} {base : List Int} {ks : List (List UInt8)} (hV : VerO B w p mb db n nb f s R E D) (hV2 : VerO B (w1.setCell ⟨p, 0, none⟩ r) p mb db n nb f ⟨base, s.parts, s.dots⟩ R E D) (hb1 : Below w.heap.size w w1) (hb3 : Below (w1.setCell ⟨p, 0, none⟩ r).heap.size (w1.setCell ⟨p, 0, none⟩ r) w3) (hk : w3.ownsRow 0 9 1 kv ks.length (ks.map encStr)) (hBp : B ≤ p) (hfew : ∀ k, (rowOf s k).length ≤ 1000) :
    PrInv w B p mb db n nb r base s (fun d => decide (d ∈ s.dots)) ks kv 0 f R E D w3 := by
  have V3 := hV2.below hb3
  obtain ⟨bv, h1, h2⟩ := hV.box
  have h1' : w1.heap[p]? = _ := (hb1.block p (lt_of_heapQ h1)).trans h1
  have h12 : (w1.setCell ⟨p, 0, none⟩ r).heap[p]? = some (.cells #[r, .map (some mb), .map (some db)] 83 (0, 0)) := by rw [heap_set h1']; rfl
  have hB : B ≤ w.heap.size := Nat.le_trans hBp (Nat.le_of_lt (lt_of_heapQ h1))
  have hs : (w1.setCell ⟨p, 0, none⟩ r).heap.size = w1.heap.size := by simp [World.setCell]
  have hb2 : Below B w (w1.setCell ⟨p, 0, none⟩ r) := (below_up hb1 hB).setCell hBp _
  obtain ⟨Dm, h3, h4⟩ := V3.map
  have h13 : w3.heap[p]? = some (.cells #[r, .map (some mb), .map (some db)] 83 (0, 0)) := (hb3.block p (lt_of_heapQ h12)).trans h12
  refine ⟨h13, ?_, V3.dots, ⟨Dm, h3, fun k => (h4 k).2⟩, V3.rows, fun k _ => V3.abs_ k, fun k hk => by simp at hk, fun k => ?_, hk, hb2.trans (below_up hb3 (by rw [hs]; exact Nat.le_trans hB hb1.size))⟩
  · obtain ⟨bv', h1'', h2''⟩ := V3.box
    rw [h13] at h1''
    injection h1'' with h1''
    injection h1'' with h1''
    injection h1'' with h1''
    injection h1'' with h1''
    rw [h1'']
    exact h2''
  · have := congrArg List.length (V3.abs_ k)
    rw [List.length_map] at this
    rw [this]
    exact hfew k
def sliceCap : Value → Nat
  | .slice _ _ c => c
  | _ => 0
theorem key_at {w : World} {v : Value} {ks : List (List UInt8)} (h : w.ownsRow 0 9 1 v ks.length (ks.map encStr)) {k : Nat} (hk : k < ks.length) : ∃ b, v = .slice (some ⟨b, 0, none⟩) ks.length (sliceCap v) ∧ w.cell? ⟨b, k, none⟩ = some (.string (keyB ks[k]!)) := by
  obtain ⟨ad, cap, rfl, h0 | ⟨b, rfl, h1⟩⟩ := strs_of_row h
  · rw [h0] at hk; simp at hk
  · exact ⟨b, rfl, h1 k hk⟩
theorem PrInv.drew {w : World} {B p mb db n nb : Nat} {bv : Value} {base : List Int} {s : St} {V : D3 → Bool} {ks : List (List UInt8)} {kv : Value} {i : Nat} {f : ByteArray → Value} {R : ByteArray → List Rp} {E : Nat → OpV} {D : Nat → Value} {w1 : World} (h : PrInv w B p mb db n nb bv base s V ks kv i f R E D w1) : PrInv w B p mb db n nb bv base s V ks kv i f R E D w1.drew := ⟨h.box, h.ints, h.dots, h.map, ⟨h.rows.rows, fun k => ⟨(h.rows.po k).ops, (h.rows.po k).dots, (h.rows.po k).ints, (h.rows.po k).pf⟩, h.rows.nd, h.rows.ap, h.rows.sep, h.rows.apart, h.rows.ge⟩, h.todo, h.done, h.few, h.keys, h.below.drew⟩
def RoundRet (w : World) (B p mb db n nb : Nat) (bv : Value) (base : List Int) (s : St) (V : D3 → Bool) (ks : List (List UInt8)) (kv : Value) (i : Nat) (ky : ByteArray) (e : Ending) (w2 : World) : Prop := ∃ a m c w3 f' R' E' D', e = .returned (.slice a m c) ∧ w2.cell? ⟨p, 1, none⟩ = some (.map (some mb)) ∧ (Instr.mapUpdate 80 (.map (some mb)) (.string ky) (.slice a m c)).run Tryz.prog w2 = .ok () w3 ∧ w3.cell? ⟨p, 1, none⟩ = some (.map (some mb)) ∧ PrInv w B p mb db n nb bv base s V ks kv (i + 1) f' R' E' D' w3
/-- One round: a key's row is settled, and put back. -/
theorem PrInv.round {A : Nat → Addr} {w : World} {B p mb db n nb : Nat} {bv : Value} {base : List Int} {s : St} {V : D3 → Bool} {ks : List (List UInt8)} {kv : Value} {i : Nat} {f : ByteArray → Value} {R : ByteArray → List Rp} {E : Nat → OpV} {D : Nat → Value} {w1 : World} {x : List UInt8} (hE : E4 A w) (h12 : 12 ≤ B) (h : PrInv w B p mb db n nb bv base s V ks kv i f R E D w1) (hk : ks.Nodup) (hx : ks[i]? = some x) (hBm : B ≤ mb) (hne : mb ≠ db) (hc : chk base = 0) (hl : base.length = nb) (hx6 : (keyB x).size ≤ 1000000) (hni : n + i ≤ 2000000) :
    Calls Tryz.prog 45 #[.pointer (some ⟨p, 0, none⟩), f (keyB x)] w1 fun e w2 => RoundRet w B p mb db n nb bv base s V ks kv i (keyB x) e w2 := by
  obtain ⟨Dm, hDm, hDk⟩ := h.map
  have hBw : B ≤ w1.heap.size := Nat.le_trans hBm (Nat.le_of_lt hDm.lt)
  refine (settle_ok A w1 (hE.below h.below h12) (Nat.le_trans h12 hBw) p mb db n nb V bv base (f (keyB x)) (R (keyB x)) E D h.box h.ints hc hl h.dots ((h.rows.rows _).mono (Nat.zero_le _)) (h.rows.po _) (h.rows.nd _) (h.rows.ap _) (h.few _)).mono ?_
  rintro e w2 ⟨v, ss, res, E', D', rfl, hs⟩
  obtain ⟨a, c, rfl⟩ := hs.row.shape
  have hDm2 : w2.ownsMap Tryz.prog 9 sliceElem mb (n + i) Dm := ownsMap_block hDm (hs.off.block mb hDm.lt fun hm => by
    obtain ⟨es, clock, hb⟩ := map_obj hDm
    rcases blocksG_type (h.rows.po _) hm with ⟨_, e, _⟩ | ⟨_, e, _⟩
    · rw [hb] at e; cases e
    · rw [hb] at e; cases e)
  obtain ⟨w3, hrun, hm3, hg3⟩ := hDm2.update keyed9 Tryz.underlying80 (show n + i < maxLen by unfold maxLen; omega) (keyOf_str (keyB x) hx6) (sliceElem_row hs.row)
  have hp2 : w2.heap[p]? = _ := (hs.off.block p (lt_of_heapQ h.box) fun hm => by
    rcases blocksG_type (h.rows.po _) hm with ⟨_, e, _⟩ | ⟨_, e, _⟩
    · exact absurd (cells_type h.box e) (by decide)
    · exact absurd (cells_type h.box e) (by decide)).trans h.box
  have hN := h.next hk hx hBm hne hs hDk hDm2 hg3 hm3
  exact ⟨a, _, c, w3, _, _, _, _, rfl, by simp only [World.cell?, hp2]; rfl, hrun, by simp only [World.cell?, hN.box]; rfl, hN⟩
theorem keysOfSt_nodup {s : St} {ks : List (List UInt8)} (h : KeysOfSt s ks) : ks.Nodup := by
  obtain ⟨l, h1, _, rfl⟩ := h
  exact (List.mergeSort_perm _ _).nodup_iff.2 h1
theorem keysOfSt_mem {s : St} {ks : List (List UInt8)} (h : KeysOfSt s ks) (x : List UInt8) : x ∈ ks ↔ rowOf s (keyB x) ≠ [] := by
  obtain ⟨l, h1, h2, rfl⟩ := h
  rw [(List.mergeSort_perm _ _).mem_iff]
  exact h2 x
theorem key_small {s : St} {nb : Nat} (hS : StOk s nb) {k : ByteArray} (h : rowOf s k ≠ []) : k.size ≤ 1000000 := by
  obtain ⟨c, hc⟩ := List.exists_mem_of_ne_nil _ h
  have hk : keyOfC c = k := of_decide_eq_true (List.mem_filter.1 hc).2
  rw [← hk]
  unfold keyOfC
  by_cases h0 : 0 < c.ops.length
  · have h1 := name_of_opErr (opErr_of_bad (os := c.ops) (i := 0) ((hS.ok c (mem_rowOf hc)).ops 0 h0))
    omega
  · exact absurd (List.eq_nil_of_length_eq_zero (by omega)) (hS.ok c (mem_rowOf hc)).some_
def PruneRet (w : World) (B p mb db n nb : Nat) (s : St) (at_ : List Int) (e : Ending) (w' : World) : Prop := ∃ bv ks kv f R E D, e = .returned .nilIface ∧ KeysOfSt s ks ∧ PrInv w B p mb db n nb bv (comb mxI s.base at_) s (fun d => decide (d ∈ s.dots)) ks kv ks.length f R E D w'
set_option maxHeartbeats 8000000 in
theorem prune_ok (A : Nat → Addr) (w : World) (hE : E4 A w) (B p mb db n nb : Nat) (h12 : 12 ≤ B) (f : ByteArray → Value) (s : St) (R : ByteArray → List Rp) (E : Nat → OpV) (D : Nat → Value) (hV : VerO B w p mb db n nb f s R E D) (hBp : B ≤ p) (hBm : B ≤ mb) (hS : StOk s nb) (av : Value) (at_ : List Int) (ha : IntsAt w av at_) (hc : chk at_ = 0) (hal : at_.length = nb) (hfew : ∀ k, (rowOf s k).length ≤ 1000) (hn : n ≤ 1000000) :
    Calls Tryz.prog 12 #[.pointer (some ⟨p, 0, none⟩), av] w fun e w' => PruneRet w B p mb db n nb s at_ e w' := by
  obtain ⟨bv, hbox, hbT⟩ := hV.box
  have K37 := hid (checkVector_ok A w hE p bv s.base (.map (some mb)) (.map (some db)) hbox hbT.at av at_ ha hc (by rw [hal, hS.len]))
  have h2 : two s.base at_ = 0 := two_zero.2 ⟨hS.base, hc, by rw [hal, hS.len]⟩
  have K44 := fun W hE' h1 h2' => Most_ok A W hE' bv av s.base at_ h1 h2' h2
  obtain ⟨a1, c1, rfl⟩ := ha.slice
  obtain ⟨ba, bc, rfl⟩ := hbT.at.slice
  have k0 : w.cell? ⟨p, 0, none⟩ = some (.slice ba s.base.length bc) := by simp only [World.cell?, hbox]; rfl
  obtain ⟨bn, hbn⟩ : ∃ bn, bn = s.base.length := ⟨_, rfl⟩
  obtain ⟨an, han⟩ : ∃ an, an = at_.length := ⟨_, rfl⟩
  rw [← hbn] at k0 K44 hbox hbT
  rw [← han] at K37 K44 ha ⊢
  have HV := hid hV
  have HE := hid hE
  have HA := hid ha
  have HBT := hid hbT
  have HS := hid hS
  have HC := hid hc
  have HFEW := hid hfew
  have HBN := hid hbn
  have HAN := hid han
  have HAL := hid hal
  have HBOX := hid hbox
  have H2 := hid h2
  clear hV hE ha hbT hS hc hfew hbn han hal hbox h2
  go_enter Tryz.func12, Tryz.ntmps12
  go_wp2_with fail
  refine K37.out.mono ?_
  rintro e w' ⟨rfl, rfl⟩
  go_wp2_with fail
  refine (K44 _ HE.out HBT.out.at HA.out).mono ?_
  rintro e w1 ⟨r, rfl, hr, hb1⟩
  have V1 := HV.out.below hb1
  have V2 := V1.rebase hr
  obtain ⟨ra, rc, hre⟩ := hr.at.slice
  have k1 : w1.cell? ⟨p, 0, none⟩ = some (.slice ba bn bc) := by rw [hb1.cell (lt_of_cell k0)]; exact k0
  have f1 : w1.frozen? ⟨p, 0, none⟩ = false := by
    have h1 : w1.heap[p]? = _ := (hb1.block p (lt_of_heapQ HBOX.out)).trans HBOX.out
    simp only [World.frozen?, h1]; simp
  obtain ⟨rn, hrn⟩ : ∃ rn, rn = (comb mxI s.base at_).length := ⟨_, rfl⟩
  rw [← hrn] at hre
  subst hre
  have HRN := hid hrn
  have HR := hid hr
  have HB1 := hid hb1
  have HV2 := hid V2
  clear hrn hr hb1 V1 V2 K44 K37
  go_wp2_with fail
  refine (keysR_ok _ p mb db n f _ HV2.out.ver hn).mono ?_
  rintro e w3 ⟨kv, ks, rfl, hks, hkrow, hkl, hb3⟩
  have hI : PrInv w' B p mb db n nb (.slice ra rn rc) (comb mxI s.base at_) s (fun d => decide (d ∈ s.dots)) ks kv 0 f R E D w3 := prune_start HV.out HV2.out HB1.out hb3 hkrow hBp HFEW.out
  obtain ⟨ka, kc, hke⟩ := row_shape hkrow
  obtain ⟨kn, hkn⟩ : ∃ kn, kn = ks.length := ⟨_, rfl⟩
  rw [← hkn] at hke hkl
  subst hke
  have HI := hid hI
  have HKN := hid hkn
  have HKS := hid hks
  have hm3 : 12 ≤ w3.heap.size := by have := hb3.size; obtain ⟨_, hm, _⟩ := hI.map; have := hm.lt; omega
  clear hI hkn hks hkrow hb3 HV2 HR HB1 k1 f1 k0
  go_wp2_with fail
  go_loopw [35] (fun i wr => ∃ (k : Nat) (f : ByteArray → Value) (R : ByteArray → List Rp) (E : Nat → OpV) (D : Nat → Value), k ≤ kn ∧ i = .int .i64 k ∧ Hid (PrInv w' B p mb db n nb (.slice ra rn rc) (comb mxI s.base at_) s (fun d => decide (d ∈ s.dots)) ks (.slice ka kn kc) k f R E D wr)) (fun i _ => kn - (intOf i).toNat)
  case atStart => exact ⟨0, _, _, _, _, Nat.zero_le _, rfl, HI⟩
  case round =>
    obtain ⟨k, f, R, E, D, hk, rfl, HJ⟩ := hrel
    by_cases hlt : k < kn
    · have hkl' : k < ks.length := by rw [← HKN.out]; exact hlt
      obtain ⟨kb, hka, q0⟩ := key_at HJ.out.keys hkl'
      injection hka with e1 e2 e3
      subst e1
      clear e2 e3
      obtain ⟨x, hx⟩ : ∃ x, x = ks[k]! := ⟨_, rfl⟩
      rw [← hx] at q0
      have hxk : ks[k]? = some x := by rw [hx, getElem!_pos ks k hkl']; exact List.getElem?_eq_getElem _
      have hx6 : (keyB x).size ≤ 1000000 := key_small HS.out ((keysOfSt_mem HKS.out x).1 (List.mem_of_getElem? hxk))
      have hround := PrInv.round HE.out h12 HJ.out.drew (keysOfSt_nodup HKS.out) hxk hBm HV.out.ne (chk_most H2.out) (by rw [comb_length, HS.out.len]) hx6 (by omega)
      have hlook : (Instr.lookup 80 (.map (some mb)) (.string (keyB x)) false).run Tryz.prog wr.drew = .ok (f (keyB x)) wr.drew := by
        obtain ⟨Dm, hDm, hDk⟩ := HJ.out.drew.map
        obtain ⟨v, ps, hrun, hR⟩ := hDm.lookup keyed9 Tryz.underlying80 (Tryz.zero43 _) (zd := .nil) (zp := []) rfl (keyOf_str (keyB x) hx6)
        have : v = f (keyB x) := sliceElem_inj hR (sliceElem_row (HJ.out.rows.rows (keyB x))) (hDk _)
        rw [hrun, this]
      obtain ⟨fa, fc, hf⟩ := (HJ.out.rows.rows (keyB x)).shape
      obtain ⟨fn, hfn⟩ : ∃ fn, fn = (R (keyB x)).length := ⟨_, rfl⟩
      rw [← hfn] at hf
      rw [hf] at hround hlook
      obtain ⟨ky, hky⟩ : ∃ ky, ky = keyB x := ⟨_, rfl⟩
      rw [← hky] at hround hlook q0
      have c1 : wr.cell? ⟨p, 1, none⟩ = some (.map (some mb)) := by simp only [World.cell?, HJ.out.box]; rfl
      have HR := hid hround
      clear hround hf hfn hky hxk hx hx6
      go_wp2_with fail
      go_region_held (fun u => u.cell? ⟨p, 1, none⟩ = some (.map (some mb))) (go_keep) (first | (go_at_call 45; refine HR.out.mono ?_; rintro e w2 ⟨a2, m2, c2, w3, f', R', E', D', rfl, k2, hrun2, k3, hI3⟩; have HI3 := hid hI3; clear hI3))
      all_goals
        go_wp2_with fail
        exact ⟨⟨k + 1, _, _, _, _, by omega, by go_num, HI3⟩, by simp [intOf]; omega⟩
    · obtain rfl : k = kn := by omega
      have hend : PruneRet w' B p mb db n nb s at_ (.returned .nilIface) wr := ⟨_, ks, _, f, R, E, D, rfl, HKS.out, by rw [← HKN.out]; exact HJ.out⟩
      have HEND := hid hend
      clear hend
      go_wp2_with fail
      go_ret
      exact HEND.out
end Go.Proofs.YtdnebclemngdcaaGreatDoor
namespace Go.Proofs.YtdnebclemngdcaaGreatDoor
open Go.RowKit Go.Sort Go.Maps
set_option maxRecDepth 100000
set_option linter.unusedSectionVars false
variable [Inhabited ComV] [DecidableEq D3] [Inhabited D3] [Inhabited Dd] [Inhabited Dn] [Inhabited OpV]

structure VerR (w : World) (p mb db : Nat) (key : ByteArray) (f : ByteArray → Value) (s : St) (n : Nat) : Prop where
  box : ∃ bv, w.heap[p]? = some (.cells #[bv, .map (some mb), .map (some db)] 83 (0, 0)) ∧ IntsT w bv s.base
  map : ∃ D : DataW Unit, w.ownsMap Tryz.prog 9 sliceElem mb n D ∧ D.atKey (klS key) .nil = rowDat (f key)
  rows : ∃ rows, w.ownsRow 0 34 3 (f key) (rowOf s key).length rows.flatten ∧ F2 (ComT w) rows (rowOf s key)
theorem VerR.moved {w w' : World} {p mb db n : Nat} {key : ByteArray} {f : ByteArray → Value} {s : St} (h : VerR w p mb db key f s n) (hb : Below w.heap.size w w') : VerR w' p mb db key f s n := by
  have hk : Keep3 w w' := Keep3.of_below hb (Nat.le_refl _)
  obtain ⟨bv, h1, h2⟩ := h.box
  obtain ⟨D, h3, h4⟩ := h.map
  refine ⟨⟨bv, (hb.block p (lt_of_heapQ h1)).trans h1, intsT_keep h2 hk⟩, ⟨D, ownsMap_block h3 (hb.block _ h3.lt), h4⟩, ?_⟩
  obtain ⟨rows, h5, h6⟩ := h.rows
  exact ⟨rows, owns_belowQ h5 hb, f2_keep h6 hk⟩
theorem VerR.row {w : World} {p mb db n : Nat} {key : ByteArray} {f : ByteArray → Value} {s : St} (h : VerR w p mb db key f s n) (hk : key.size ≤ 1000000) : (Instr.lookup 80 (.map (some mb)) (.string key) false).run Tryz.prog w = .ok (f key) w := by
  obtain ⟨D, h1, h2⟩ := h.map
  obtain ⟨v, ps, hrun, hR⟩ := h1.lookup keyed9 Tryz.underlying80 (Tryz.zero43 w) (zd := .nil) (zp := []) rfl (keyOf_str key hk)
  obtain ⟨rows, hr, _⟩ := h.rows
  have : v = f key := sliceElem_inj hR (sliceElem_row hr) h2
  rw [hrun, this]
theorem VerR.boxAt {w : World} {p mb db n : Nat} {key : ByteArray} {f : ByteArray → Value} {s : St} (h : VerR w p mb db key f s n) : ∃ a c, w.cell? ⟨p, 0, none⟩ = some (.slice a s.base.length c) ∧ w.cell? ⟨p, 1, none⟩ = some (.map (some mb)) ∧ w.cell? ⟨p, 2, none⟩ = some (.map (some db)) ∧ IntsT w (.slice a s.base.length c) s.base ∧ w.heap[p]? = some (.cells #[.slice a s.base.length c, .map (some mb), .map (some db)] 83 (0, 0)) := by
  obtain ⟨bv, h1, h2⟩ := h.box
  obtain ⟨a, c, rfl⟩ := h2.at.slice
  refine ⟨a, c, ?_, ?_, ?_, h2, h1⟩ <;> (simp only [World.cell?, h1]; rfl)
set_option maxHeartbeats 4000000 in
theorem seenR_ok (A : Nat → Addr) (w : World) (hE : E4 A w) (h12 : 12 ≤ w.heap.size) (p mb db n nb : Nat) (key : ByteArray) (f : ByteArray → Value) (s : St) (hV : VerR w p mb db key f s n) (hS : StOk s nb) (hk : nameB key = true) (hk6 : key.size ≤ 1000000) (av : Value) (at_ : List Int) (ha : IntsAt w av at_) (hc : chk at_ = 0) (hal : at_.length = nb) (hle : leB s.base at_ = true) (hfew : (rowOf s key).length ≤ 1000) :
    Calls Tryz.prog 46 #[.pointer (some ⟨p, 0, none⟩), .string key, av] w fun e w' => ∃ v, e = .returned (.tuple #[v, .nilIface]) ∧ ComsAt w' v (seenL s key at_) ∧ Below w.heap.size w w' := by
  obtain ⟨i28, hi28, hy0, hy1, hy2⟩ := info_parts Tryz.info28o
  obtain ⟨ba, bc, p0, p1, p2, hbt, hpx⟩ := hV.boxAt
  have K75 := fun W => checkName_ok W key hk
  have K37 := checkVector_ok A w hE p _ s.base _ _ hpx hbt.at av at_ ha hc (hal.trans hS.len.symm)
  have K38 := hid (fun W (hW : Below w.heap.size w W) => within_ok A W (hE.below hW h12) _ _ s.base at_ (hbt.at.mono hW (Nat.le_refl _)) (ha.mono hW (Nat.le_refl _)) (two_zero.2 ⟨hS.base, hc, hS.len.trans hal.symm⟩))
  rw [hle] at K38
  have HV := hid hV
  have HA := hid ha
  have HE := hid hE
  have HS := hid hS
  have HBT := hid hbt
  have HPX := hid hpx
  have HAL := hid hal
  have HC := hid hc
  obtain ⟨aa, ac, rfl⟩ := ha.slice
  obtain ⟨nb', hnb'⟩ : ∃ nb', nb' = s.base.length := ⟨_, rfl⟩
  obtain ⟨na, hna⟩ : ∃ na, na = at_.length := ⟨_, rfl⟩
  rw [← hnb'] at p0 HPX K38
  rw [← hna] at K37 K38 HA ⊢
  clear hV ha hE hS hbt hpx hnb' hna hal hc hle
  go_enter Tryz.func46, Tryz.ntmps46
  go_wp2_with (first | (go_at_call 75; refine (K75 _).mono ?_; rintro e w' ⟨rfl, hw'⟩; rw [hw']; clear hw') | (go_at_call 37; refine K37.mono ?_; rintro e w' ⟨rfl, hw'⟩; rw [hw']; clear hw'))
  refine (K38.out w (Below.refl _ _)).mono ?_
  rintro e w3 ⟨rfl, q3, hq3⟩
  have B3 : Hid (Below w.heap.size w w3) := (show Below _ _ _ from by rw [hq3]; exact below_draws (Below.refl _ _) q3)
  have V3 := hid (HV.out.moved B3.out)
  have c1 : w3.cell? ⟨p, 1, none⟩ = some (.map (some mb)) := by obtain ⟨_, _, _, h, _⟩ := V3.out.boxAt; exact h
  obtain ⟨rows, hrow, hF⟩ := V3.out.rows
  obtain ⟨fa, fc, hfe⟩ := row_shape hrow
  have hl3 := V3.out.row hk6
  rw [hfe] at hrow hl3
  obtain ⟨L, hL⟩ : ∃ L, L = (rowOf s key).length := ⟨_, rfl⟩
  rw [← hL] at hrow hl3 hfew
  have HL := hid hL
  have HF := hid hF
  have HROW := hid hrow
  clear hq3 K37 K75 p0 p1 p2 hrow hF hL hfe
  go_wp2_with fail
  go_loopw [10, 39] (fun v i wr => ∃ (k : Nat) (rs : List (List Value)), k ≤ L ∧ i = .int .i64 k ∧ Hid (OwnsInv w3 (((rowOf s key).take k).filter fun c => leB c.when_ at_) v rs wr)) (fun _ i _ => L - (intOf i).toNat)
  case atStart => exact ⟨0, [], Nat.zero_le _, rfl, OwnsInv.start w3⟩
  case round =>
    obtain ⟨k, rs, hk, rfl, HI⟩ := hrel
    by_cases hlt : k < L
    · have hkl : k < (rowOf s key).length := by rw [← HL.out]; exact hlt
      have hrow' := HROW.out
      rw [HL.out] at hrow'
      obtain ⟨b, cap, wv, ov, hv, hct, q0, q1, q2⟩ := part_at hrow' HF.out hkl
      have hmem : (rowOf s key)[k]! ∈ rowOf s key := by rw [getElem!_pos _ k hkl]; exact List.getElem_mem _
      have hok := HS.out.ok _ (mem_rowOf hmem)
      have hwl := HS.out.when_ _ (mem_rowOf hmem)
      have hft := filter_take_succ hkl (fun c => leB c.when_ at_)
      obtain ⟨c, hce⟩ : ∃ c, c = (rowOf s key)[k]! := ⟨_, rfl⟩
      rw [← hce] at hct q1 hok hwl hft
      injection hv with ha1 _ ha3
      subst ha1
      subst ha3
      have hct3 := hct
      obtain ⟨wv', ov', he, hwT, hoT⟩ := hct
      injection he with e1 he
      injection he with _ he
      injection he with e2 _
      subst e1 e2
      have hwB : Below w.heap.size w wr := B3.out.trans (HI.out.below.mono B3.out.size)
      have up : ∀ {a : Addr} {v : Value}, w3.cell? a = some v → wr.cell? a = some v := fun {a v} h => by rw [HI.out.below.cell (lt_of_cell h)]; exact h
      have r0 := up q0
      have r1 := up q1
      have r2 := up q2
      have K := hid (fun W (hW : Below wr.heap.size wr W) => within_ok A W (HE.out.below (hwB.trans (hW.mono hwB.size)) h12) wv (.slice aa na ac) c.when_ at_ (hwT.at.mono (HI.out.below.trans (hW.mono HI.out.below.size)) (Nat.le_refl _)) (HA.out.mono (hwB.trans (hW.mono hwB.size)) (Nat.le_refl _)) (two_zero.2 ⟨hok.chk, HC.out, hwl.trans HAL.out.symm⟩))
      obtain ⟨⟨a1, c1', ex⟩, a2, c2, ey⟩ := hct3.shape
      subst ex ey
      obtain ⟨n1, hn1⟩ : ∃ n1, n1 = c.when_.length := ⟨_, rfl⟩
      obtain ⟨n2, hn2⟩ : ∃ n2, n2 = c.ops.length := ⟨_, rfl⟩
      obtain ⟨pl, hpl⟩ : ∃ pl, pl = c.place := ⟨_, rfl⟩
      rw [← hn1] at r0 K
      rw [← hn2] at r2
      rw [← hpl] at r1
      have hi1 : (k : Int) < (L : Int) := by omega
      obtain ⟨bb, hbb⟩ : ∃ bb, bb = leB c.when_ at_ := ⟨_, rfl⟩
      rw [← hbb] at K hft
      have HT := hid (hct3.kept (Keep3.of_below HI.out.below (Nat.le_refl _)))
      have HFT := hid hft
      have HPL := hid hpl
      have HN1 := hid hn1
      have HN2 := hid hn2
      clear q0 q1 q2 up hce hmem hok hwl hft hct3 hwT hoT hkl hrow' hn1 hn2 hpl hbb hwB
      obtain ⟨wq, hwq⟩ : ∃ wq, wq = wr.alloc (.cells #[.slice a1 n1 c1', .int .i64 pl, .slice a2 n2 c2] 34) := ⟨_, rfl⟩
      have hbq : Below wr.heap.size wr wq := by rw [hwq]; exact below_alloc _ _
      have xq : wq.heap[wr.heap.size]? = some (.cells #[.slice a1 n1 c1', .int .i64 pl, .slice a2 n2 c2] 34 (0, 0)) := by rw [hwq]; exact (MapKept.heap_alloc _ _).1
      go_wp2_with fail
      rw [← hwq]
      refine (K.out wq hbq).mono ?_
      rintro e wy ⟨rfl, qy, hqy⟩
      have hby : Below wr.heap.size wr wy := by rw [hqy]; exact below_draws hbq qy
      have xy : wy.heap[wr.heap.size]? = some (.cells #[.slice a1 n1 c1', .int .i64 pl, .slice a2 n2 c2] 34 (0, 0)) := by rw [hqy]; exact xq
      have I2 := hid (HI.out.moved hby)
      have HTy := hid (HT.out.kept (Keep3.of_below hby (Nat.le_refl _)))
      have y0 : wy.cell? ⟨wr.heap.size, 0, none⟩ = some (.slice a1 n1 c1') := by simp only [World.cell?, xy]; rfl
      have y1 : wy.cell? ⟨wr.heap.size, 1, none⟩ = some (.int .i64 pl) := by simp only [World.cell?, xy]; rfl
      have y2 : wy.cell? ⟨wr.heap.size, 2, none⟩ = some (.slice a2 n2 c2) := by simp only [World.cell?, xy]; rfl
      clear hqy hwq hbq xq xy hby r0 r1 r2 K
      cases bb with
      | false =>
        go_wp2_with fail
        refine ⟨⟨k + 1, rs, by omega, by go_num, ?_⟩, by simp [intOf]; omega⟩
        show OwnsInv _ _ _ _ _
        rw [HFT.out]
        simpa using I2.out
      | true =>
        have hrow := I2.out.row
        obtain ⟨m, hm⟩ : ∃ m, m = (((rowOf s key).take k).filter fun c => leB c.when_ at_).length := ⟨_, rfl⟩
        have hmk : m ≤ k := by rw [hm]; exact Nat.le_trans (List.length_filter_le _ _) (by rw [List.length_take]; omega)
        rw [← hm] at hrow
        have HM := hid hm
        obtain ⟨va, vc, hve⟩ := row_shape hrow
        rw [hve] at hrow I2 ⊢
        have hbs := I2.out.below.size
        clear hm hve
        go_wp2_with (at_builtin; refine wpList_append_own _ rfl _ _ 22 rfl w3.heap.size 34 i28 _ 3 56 Tryz.underlying22 hi28 hy0 hy1 hy2 rfl (by decide) _ _ _ rfl (hrow.alloc _) ⟨wy.heap.size, 0, none⟩ 1 1 [.slice a1 n1 c1', .int .i64 pl, .slice a2 n2 c2] rfl rfl (cells3_new _ _ _) ?ho1 ?ho2 ?ho3 ?ho4 ?_; (case ho1 => exact one3v _ _ _ _ _ _ _ _ _ rfl rfl); (case ho2 => unfold maxLen; omega); (case ho3 => omega); (case ho4 => simp; omega); intro v9 w9 hown9 hgr9 _; have G9 := hid hgr9; have O9 := hid hown9; clear hown9 hgr9)
        have hct9 : ComT wy [.slice a1 n1 c1', .int .i64 pl, .slice a2 n2 c2] c := by
          have := HTy.out
          rw [← HN1.out, ← HN2.out, ← HPL.out] at this
          exact this
        have HCT9 := hid hct9
        clear hct9
        refine ⟨⟨k + 1, rs ++ [[.slice a1 n1 c1', .int .i64 pl, .slice a2 n2 c2]], by omega, by go_num, ?_⟩, by simp [intOf]; omega⟩
        · skip
          show OwnsInv _ _ _ _ _
          rw [HFT.out, if_pos trivial]
          exact (I2.out.moved (below_alloc _ _)).step (HCT9.out.kept (Keep3.of_below (below_alloc _ _) (Nat.le_refl _))) G9.out (by rw [← HM.out]; exact O9.out)
    · obtain rfl : k = L := by omega
      have hI := HI.out
      rw [List.take_of_length_le (by rw [HL.out]; exact Nat.le_refl _)] at hI
      have H := hid (show ComsAt wr u10 (seenL s key at_) from coms_of_owns hI.row rfl hI.coms)
      have HB := hid (B3.out.trans (hI.below.mono B3.out.size))
      clear hI HI
      go_wp2
      go_ret2
      exact ⟨_, rfl, H.out, HB.out⟩
end Go.Proofs.YtdnebclemngdcaaGreatDoor
