/- PlaceTwo: commits of one op each, of two places: plain mathematics; PlaceTwo: a place that commits one op at a time, and has heard nothing; PlaceTwo: a place hears what the other one has unacked; PlaceTwo: one message of the other place is heard. -/
import Derived.Test.YtefpnojanldkeaaGreatDoorJMC
import Derived.Test.YtefpnojanldkeaaGreatDoorJME
import Derived.Test.YtefpnojanldkeaaGreatDoorJLR
namespace Go.Proofs.YtefpnojanldkeaaGreatDoor
open Go.RowKit Go.Maps
set_option maxRecDepth 10000
set_option linter.unusedSectionVars false
variable [Inhabited ComV] [DecidableEq D3] [Inhabited D3] [Inhabited Dd] [Inhabited Dn] [Inhabited OpV]

/-- The vector of two places at which place id stands at t, the other one at 0. -/
def tv (id t : Nat) : List Int := if id = 0 then [(t : Int), 0] else [0, (t : Int)]
/-- The commit number t (from 0) of place id. -/
def comT (id : Nat) (os : List OpV) (t : Nat) : ComV := comN (tv id t) id ((t : Int) + 1) [os.getD t default]
theorem tv_len (id t : Nat) : (tv id t).length = 2 := by unfold tv; split <;> rfl
theorem comT_when {id : Nat} (hid_ : id < 2) (os : List OpV) (t : Nat) : (comT id os t).when_ = tv id (t + 1) := by
  rcases (by omega : id = 0 ∨ id = 1) with rfl | rfl <;> rfl
theorem comT_ops (id : Nat) (os : List OpV) (t : Nat) : (comT id os t).ops = [{ os.getD t default with at_ := 0 }] := rfl
theorem comT_time {id : Nat} (hid_ : id < 2) (os : List OpV) (t : Nat) : timeC (comT id os t) = (t : Int) + 1 := timeC_comN (by rw [tv_len]; exact hid_)
theorem opErr_at {o : OpV} {n : Int} (h : opErr o n = 0) : opErr { o with at_ := 0 } n = 0 := by
  unfold opErr at h ⊢
  split at h
  · exact absurd h (by decide)
  · rename_i hb
    rw [if_neg (by simp only; omega)]
    exact h
/-- What is known of an op in which nothing is wrong. -/
theorem op_light {o : OpV} {n : Int} (h : opErr o n = 0) : o.key.size ≤ 16 ∧ o.text.size ≤ 60 ∧ o.dots.length ≤ 60 := by
  unfold opErr at h
  split at h
  · exact absurd h (by decide)
  · split at h
    · exact absurd h (by decide)
    · rename_i hn
      split at h
      · exact absurd h (by decide)
      · split at h
        · exact absurd h (by decide)
        · split at h
          · exact absurd h (by decide)
          · rename_i hb
            have hn' : nameB o.key = true := by simpa using hn
            unfold nameB at hn'
            simp at hn'
            exact ⟨hn'.2.1, by omega, by omega⟩
/-- Ops of which each is right, at most eight. -/
structure OpsR (os : List OpV) : Prop where
  len : os.length ≤ 8
  ok : ∀ t, t < os.length → opErr (os.getD t default) 2 = 0
theorem tv_get {id t : Nat} (hid_ : id < 2) (j : Nat) : (tv id t).getD j 0 = if j = id then (t : Int) else 0 := by
  rcases (by omega : id = 0 ∨ id = 1) with rfl | rfl
  · match j with
    | 0 => rfl
    | 1 => rfl
    | j + 2 => rfl
  · match j with
    | 0 => rfl
    | 1 => rfl
    | j + 2 => rfl
theorem tv_chk {id t : Nat} (hid_ : id < 2) (ht : t ≤ 100) : chk (tv id t) = 0 := chk_zero.2 ⟨by rw [tv_len]; decide, by rw [tv_len]; decide, fun j _ => by
  rw [tv_get hid_]
  split <;> omega⟩
theorem comT_ok {id : Nat} (hid_ : id < 2) {os : List OpV} (hO : OpsR os) {t : Nat} (ht : t < os.length) : ComOk (comT id os t) ∧ leB (comT id os t).when_ (List.replicate 2 0) = false ∧ Light (comT id os t) ∧ SmallC (comT id os t) := by
  have hl := hO.len
  have hw := comT_when hid_ os t
  have ho := hO.ok t ht
  have hL := op_light ho
  refine ⟨⟨by rw [hw]; exact tv_chk hid_ (by omega), by show (0 : Int) ≤ (id : Nat); omega, by rw [hw, tv_len]; show ((id : Nat) : Int) < 2; omega, ?_, by rw [comT_ops]; simp, by rw [comT_ops]; simp, fun i hi => ?_⟩, ?_, ⟨by rw [hw, tv_len]; decide, by rw [comT_ops]; simp, fun o h => ?_⟩, ⟨by rw [hw, tv_len]; decide, by rw [comT_ops]; simp, fun o h => ?_⟩⟩
  · rw [hw]
    show (tv id (t + 1)).getD ((id : Nat) : Int).toNat 0 ≠ 0
    rw [Int.toNat_natCast, tv_get hid_, if_pos rfl]
    omega
  · rw [hw, tv_len, comT_ops]
    have hi0 : i = 0 := by rw [comT_ops] at hi; simpa using hi
    subst hi0
    unfold opBad
    rw [show ([{ os.getD t default with at_ := 0 }] : List OpV)[0]! = { os.getD t default with at_ := 0 } from rfl]
    have e := opErr_at ho
    rw [show (((2 : Nat) : Int)) = 2 from rfl, e]
    rfl
  · rw [hw]
    unfold leB
    rw [List.all_eq_false]
    refine ⟨id, List.mem_range.2 (by rw [tv_len]; exact hid_), ?_⟩
    rw [tv_get hid_, if_pos rfl]
    have : (List.replicate 2 (0 : Int)).getD id 0 = 0 := by
      rw [List.getD_eq_getElem?_getD, List.getElem?_replicate]
      split <;> rfl
    rw [this]
    simp
  · rw [comT_ops] at h
    have h' : o = { os.getD t default with at_ := 0 } := by simpa using h
    rw [h']
    exact ⟨by show (os.getD t default).key.size ≤ 60; omega, by show (os.getD t default).text.size ≤ 200; omega, by show (os.getD t default).dots.length ≤ 70; omega⟩
  · rw [comT_ops] at h
    have h' : o = { os.getD t default with at_ := 0 } := by simpa using h
    rw [h']
    exact ⟨by show (os.getD t default).text.size ≤ 1000000; omega, by show (os.getD t default).dots.length ≤ 1000000; omega⟩
/-- Both places' commits, by place and number. -/
def CT (O : Nat → List OpV) (p : Nat × Nat) : ComV := comT p.1 (O p.1) p.2
theorem kept_two {O : Nat → List OpV} (hO : ∀ id, id < 2 → OpsR (O id)) (D : List (Nat × Nat)) (hD : D.Nodup) (hin : ∀ p ∈ D, p.1 < 2 ∧ p.2 < (O p.1).length) : KeptL 2 (D.map (CT O)) := by
  refine ⟨fun x hx => ?_, fun x hx => ?_, fun x hx => ?_, ?_⟩
  · obtain ⟨p, hp, rfl⟩ := List.mem_map.1 hx
    exact (comT_ok (hin p hp).1 (hO _ (hin p hp).1) (hin p hp).2).1
  · obtain ⟨p, hp, rfl⟩ := List.mem_map.1 hx
    show (comT _ _ _).when_.length = 2
    rw [comT_when (hin p hp).1, tv_len]
  · obtain ⟨p, hp, rfl⟩ := List.mem_map.1 hx
    exact (comT_ok (hin p hp).1 (hO _ (hin p hp).1) (hin p hp).2).2.1
  · have dots : ∀ p : Nat × Nat, p.1 < 2 → dotsC (CT O p) = [⟨(p.1 : Int), (p.2 : Int) + 1, 0⟩] := fun p hp => by
      show (comT p.1 (O p.1) p.2).ops.map (dotC (comT p.1 (O p.1) p.2)) = _
      rw [comT_ops]
      show [dotC _ _] = _
      have : dotC (comT p.1 (O p.1) p.2) { (O p.1).getD p.2 default with at_ := 0 } = ⟨(p.1 : Int), timeC (comT p.1 (O p.1) p.2), 0⟩ := rfl
      rw [this, comT_time hp]
    induction D with
    | nil => simp
    | cons p D ih =>
      have hD' := List.nodup_cons.1 hD
      rw [List.map_cons, List.flatMap_cons, dots p (hin p (by simp)).1, List.nodup_append]
      refine ⟨by simp, ih hD'.2 fun t ht => hin t (by simp [ht]), fun a ha b hb e => ?_⟩
      subst e
      obtain ⟨x, h3, h4⟩ := List.mem_flatMap.1 hb
      obtain ⟨t, ht, rfl⟩ := List.mem_map.1 h3
      rw [dots t (hin t (by simp [ht])).1] at h4
      rw [List.mem_singleton] at ha h4
      have e := ha.symm.trans h4
      injection e with e1 e2 _
      have : p = t := Prod.ext (by omega) (by omega)
      subst this
      exact hD'.1 ht
end Go.Proofs.YtefpnojanldkeaaGreatDoor
namespace Go.Proofs.YtefpnojanldkeaaGreatDoor
open Go.RowKit Go.Maps
set_option maxRecDepth 10000
set_option linter.unusedSectionVars false
variable [Inhabited ComV] [DecidableEq D3] [Inhabited D3] [Inhabited Dd] [Inhabited Dn] [Inhabited OpV]

/-- The messages of a line behind m commits. -/
def msT (id : Nat) (os : List OpV) (k s : Nat) : Nat → List MsgV
  | 0 => []
  | m + 1 => if shardN (os.getD m default).key k = s then msT id os k s m ++ [⟨id, (1 - id : Nat), s, ((msT id os k s m).length : Nat) + 1, (m : Int) + 1, false, comT id os m⟩] else msT id os k s m
theorem msT_len (id : Nat) (os : List OpV) (k s : Nat) : ∀ m, (msT id os k s m).length ≤ m
  | 0 => Nat.le_refl _
  | m + 1 => by
    have := msT_len id os k s m
    unfold msT
    split
    · rw [List.length_append]; show _ + 1 ≤ _; omega
    · omega
theorem msT_numd (id : Nat) (os : List OpV) (k s : Nat) : ∀ m, Numd (msT id os k s m)
  | 0 => fun i x hx => by simp [msT] at hx
  | m + 1 => fun i x hx => by
    have ih := msT_numd id os k s m
    unfold msT at hx
    split at hx
    · by_cases e : i < (msT id os k s m).length
      · rw [List.getElem?_append_left e] at hx
        exact ih i x hx
      · rw [List.getElem?_append_right (by omega)] at hx
        have e0 : i - (msT id os k s m).length = 0 := by
          have := (List.getElem?_eq_some_iff.1 hx).1
          simp at this
          omega
        rw [e0] at hx
        have hx' := (Option.some.inj hx).symm
        rw [hx']
        show (((msT id os k s m).length : Nat) : Int) + 1 = _
        omega
    · exact ih i x hx
/-- A line of a place that has committed m times, and has heard nothing. -/
structure LnC (id k : Nat) (os : List OpV) (m s : Nat) (y : LnV) : Prop where
  rt : y.rt = 0
  rq : y.rq = 0
  mm : ∀ q, y.mm q = none
  ms : y.ms = msT id os k s m
  sq : y.sq = ((msT id os k s m).length : Nat)
  st0 : 0 ≤ y.st
  st1 : y.st ≤ (m : Nat)
structure CmS (id k : Nat) (os : List OpV) (m : Nat) (h : PlH) (v : PlV) : Prop where
  vid : v.id = id
  vn : v.n = 2
  vk : v.k = k
  ck : v.ck = (m : Nat)
  st : v.st = stOf 2 ((List.range m).map (comT id os))
  ln : ∀ j s, v.line j s → LnC id k os m s (v.Y j s)
  nn : h.nn ≤ 24 * m
  x : ∀ j s, v.line j s → (h.X j s).n ≤ m
  all : ∀ j s, (v.Y j s).ms.length ≤ m
theorem cmS0 {id k : Nat} (os : List OpV) (h : PlH) (hnn : h.nn = 0) (hx : ∀ j s, (pv0 id 2 k).line j s → (h.X j s).n = 0) : CmS id k os 0 h (pv0 id 2 k) :=
  ⟨rfl, rfl, rfl, rfl, by simp [stOf, pv0], fun _ _ _ => ⟨rfl, rfl, fun _ => rfl, rfl, rfl, by show (0 : Int) ≤ 0; decide, by show (0 : Int) ≤ 0; decide⟩, by omega, fun j s q => by rw [hx j s q]; exact Nat.le_refl _, fun _ _ => Nat.le_refl _⟩
theorem CmS.snap {id k m : Nat} {os : List OpV} {h : PlH} {v : PlV} (hI : CmS id k os m h v) (hid_ : id < 2) (k1 : 1 ≤ k) : snapV v = tv id m := by
  have hj : ∀ j, j < 2 → snapJ v j = if j = id then (m : Int) else 0 := fun j hj => by
    unfold snapJ
    rw [hI.vid]
    by_cases e : j = id
    · rw [if_pos e, if_pos e, hI.ck]
    · rw [if_neg e, if_neg e, hI.vk]
      have hl : ∀ s, s < k → v.line j s := fun s hs => ⟨by rw [hI.vn]; exact hj, by rw [hI.vid]; exact e, by rw [hI.vk]; exact hs⟩
      exact least_none (rt := fun s => (v.Y j s).rt) (k := k) (s := 0) (fun s hs => .inl (hI.ln j s (hl s hs)).rt) (by omega) (hI.ln j 0 (hl 0 (by omega))).rt
  unfold snapV
  rw [hI.vn]
  show [snapJ v 0, snapJ v 1] = _
  rw [hj 0 (by decide), hj 1 (by decide)]
  rcases (by omega : id = 0 ∨ id = 1) with rfl | rfl <;> rfl
theorem range_two {id m : Nat} (O : Nat → List OpV) : (List.range m).map (comT id (O id)) = ((List.range m).map fun t => (id, t)).map (CT O) := by
  rw [List.map_map]
  rfl
theorem range_nodup (id m : Nat) : ((List.range m).map fun t => (id, t)).Nodup := by
  rw [List.nodup_iff_pairwise_ne, List.pairwise_map]
  exact (List.nodup_range (n := m)).imp fun h e => h (by injection e)
theorem part_one {c : ComV} {o : OpV} (ho : c.ops = [o]) (k s : Nat) : partOps c.ops k s = if shardN o.key k = s then [o] else [] := by
  rw [ho]
  unfold partOps
  by_cases e : shardN o.key k = s
  · rw [if_pos e]; simp [e]
  · rw [if_neg e]; simp [e]
theorem comOk_rise {id : Nat} {os : List OpV} {t : Nat} : Rising (comT id os t).ops := by
  rw [comT_ops]
  exact List.pairwise_singleton _ _
/-- The next op may be committed. -/
theorem CmS.tx {id k m : Nat} {os : List OpV} {h : PlH} {v : PlV} {w : World} (a : PlAt w h v) (hI : CmS id k os m h v) (hid_ : id < 2) (hO : OpsR os) (hm : m < os.length) : TxOk w h v (tv id m) [os.getD m default] ∧ PvOk v := by
  have k1 : 1 ≤ k := by have := a.k1; have := hI.vk; omega
  have hl := hO.len
  have hsn := hI.snap hid_ k1
  have hok := comT_ok hid_ hO hm
  have hL := op_light (hO.ok m hm)
  have hkl : KeptL 2 ((List.range (m + 1)).map (comT id os)) := by
    rw [range_two (fun _ => os)]
    exact kept_two (fun _ _ => hO) _ (range_nodup id (m + 1)) fun p hp => by
      obtain ⟨t, ht, rfl⟩ := List.mem_map.1 hp
      exact ⟨hid_, by have := List.mem_range.1 ht; show t < os.length; omega⟩
  rw [List.range_succ, List.map_append] at hkl
  have hput : PutOk (stOf 2 ((List.range m).map (comT id os))) (comT id os m) := KeptL.put hkl
  have hfew := rowOf_few hkl.init (by rw [List.length_map, List.length_range]; omega)
  have ec : comN (tv id m) v.id (v.ck + 1) [os.getD m default] = comT id os m := by rw [hI.vid, hI.ck]; rfl
  refine ⟨⟨?_, ?_, ⟨by show (tv id m).length ≤ 20; rw [tv_len]; decide, by show 1 ≤ 20; decide, fun o ho => ?_⟩, ?_, ?_, fun kk => ?_, by have := hI.nn; omega, by rw [hI.ck]; omega, fun s hs hne => ?_⟩, ⟨by rw [hI.ck]; omega, by rw [hI.ck]; omega, fun j s q => ?_, fun j s q => ?_, fun j s q => ?_, fun j s q => (hI.ln j s q).st0, fun j s q => by rw [hI.ck]; exact (hI.ln j s q).st1, fun j s q => ?_, fun j s q => ?_⟩⟩
  · rw [hsn]
    unfold two
    rw [tv_chk hid_ (by omega)]
    simp
  · rw [hsn]
    unfold leB
    rw [List.all_eq_true]
    intro i _
    exact decide_eq_true (Int.le_refl _)
  · have e : o = os.getD m default := by simpa using ho
    rw [e]
    exact ⟨by omega, by omega, by omega⟩
  · rw [ec, hI.st]
    exact hput
  · rw [hI.st]
    exact chk_zeros (by decide) (by decide)
  · rw [hI.st]
    have := hfew kk
    omega
  · rw [ec]
    exact comE_of (comOk_part hok.1 comOk_rise hne)
  · rw [(hI.ln j s q).sq]; omega
  · rw [(hI.ln j s q).sq]; have := msT_len id os k s m; omega
  · rw [(hI.ln j s q).ms]; have := msT_len id os k s m; omega
  · rw [(hI.ln j s q).rt]; decide
  · rw [(hI.ln j s q).rt]; decide
/-- It is committed. -/
theorem CmS.next {id k m : Nat} {os : List OpV} {h h' : PlH} {v : PlV} (hI : CmS id k os m h v) (hid_ : id < 2) (hnn : h'.nn = h.nn + 24) (hx : ∀ j s, v.line j s → (h'.X j s).n ≤ (h.X j s).n + 1) : CmS id k os (m + 1) h' (pv2 v (comT id os m)) := by
  refine ⟨hI.vid, hI.vn, hI.vk, by show v.ck + 1 = _; rw [hI.ck]; omega, ?_, fun j s q => ?_, by have := hI.nn; omega, fun j s q => by have := hx j s q; have := hI.x j s q; omega, fun j s => ?_⟩
  · show putTo v.st (comT id os m) (comT id os m).ops.length = _
    rw [hI.st, stOf_put, List.range_succ, List.map_append]
    rfl
  · have q' : v.line j s := q
    have hl := hI.ln j s q'
    have hj : j = 1 - id := by
      have h1 := q'.1
      have h2 := q'.2.1
      rw [hI.vn] at h1
      rw [hI.vid] at h2
      omega
    have hp := part_one (comT_ops id os m) k s
    have hp' : partOps (comT id os m).ops (comV1 v (comT id os m)).k s = if shardN (os.getD m default).key k = s then [{ os.getD m default with at_ := 0 }] else [] := by
      show partOps (comT id os m).ops v.k s = _
      rw [hI.vk]
      exact hp
    show LnC id k os (m + 1) s (sendY (comV1 v (comT id os m)) (comT id os m) j s)
    unfold sendY
    rw [hp']
    by_cases e : shardN (os.getD m default).key k = s
    · rw [if_pos e, if_neg (by simp)]
      have hms : msT id os k s (m + 1) = msT id os k s m ++ [⟨id, (1 - id : Nat), s, ((msT id os k s m).length : Nat) + 1, (m : Int) + 1, false, comT id os m⟩] := if_pos e
      have hpv : partV (comT id os m) k s = comT id os m := by
        show (⟨(comT id os m).when_, (comT id os m).place, partOps (comT id os m).ops k s⟩ : ComV) = _
        rw [hp, if_pos e]
        rfl
      have hsm : sendM (comV1 v (comT id os m)) (comT id os m) j s = ⟨id, (1 - id : Nat), s, ((msT id os k s m).length : Nat) + 1, (m : Int) + 1, false, comT id os m⟩ := by
        show (⟨v.id, j, s, (v.Y j s).sq + 1, timeC (comT id os m), false, partV (comT id os m) v.k s⟩ : MsgV) = _
        rw [hI.vid, hI.vk, hl.sq, comT_time hid_, hpv, hj]
      refine ⟨hl.rt, hl.rq, hl.mm, ?_, ?_, ?_, ?_⟩
      · show (v.Y j s).ms ++ [_] = _
        rw [hl.ms, hms, hsm]
      · show (v.Y j s).sq + 1 = _
        rw [hl.sq, hms, List.length_append]
        show _ = ((_ + 1 : Nat) : Int)
        omega
      · show 0 ≤ timeC (comT id os m)
        rw [comT_time hid_]
        omega
      · show timeC (comT id os m) ≤ _
        rw [comT_time hid_]
        omega
    · rw [if_neg e, if_pos rfl]
      have hms : msT id os k s (m + 1) = msT id os k s m := if_neg e
      exact ⟨hl.rt, hl.rq, hl.mm, by rw [hms]; exact hl.ms, by rw [hms]; exact hl.sq, hl.st0, by have h1 : (v.Y j s).st ≤ (m : Nat) := hl.st1; show (v.Y j s).st ≤ ((m + 1 : Nat) : Int); omega⟩
  · have := hI.all j s
    show (sendY (comV1 v (comT id os m)) (comT id os m) j s).ms.length ≤ m + 1
    unfold sendY
    split
    · show (v.Y j s).ms.length ≤ m + 1
      omega
    · show ((v.Y j s).ms ++ [_]).length ≤ m + 1
      rw [List.length_append]
      show (v.Y j s).ms.length + 1 ≤ m + 1
      omega
end Go.Proofs.YtefpnojanldkeaaGreatDoor
namespace Go.Proofs.YtefpnojanldkeaaGreatDoor
open Go.RowKit Go.Maps
set_option maxRecDepth 10000
set_option linter.unusedSectionVars false
variable [Inhabited ComV] [DecidableEq D3] [Inhabited D3] [Inhabited Dd] [Inhabited Dn] [Inhabited OpV]

def shT (os : List OpV) (k t : Nat) : Nat := shardN (os.getD t default).key k
def mC (id : Nat) (os : List OpV) (s i t : Nat) : MsgV := ⟨id, (1 - id : Nat), s, (i : Int) + 1, (t : Int) + 1, false, comT id os t⟩
def mE (id m s i : Nat) : MsgV := ⟨id, (1 - id : Nat), s, (i : Int) + 1, (m : Int), true, ⟨[], 0, []⟩⟩
/-- The messages of a line behind m commits and a beat. -/
def mB (id : Nat) (os : List OpV) (k s m : Nat) : List MsgV := msT id os k s m ++ [mE id m s (msT id os k s m).length]
theorem msT_get (id : Nat) (os : List OpV) (k s : Nat) : ∀ m i x, (msT id os k s m)[i]? = some x → ∃ t, t < m ∧ shT os k t = s ∧ (msT id os k s t).length = i ∧ x = mC id os s i t
  | 0, i, x, hx => by simp [msT] at hx
  | m + 1, i, x, hx => by
    unfold msT at hx
    split at hx
    · rename_i e
      by_cases e' : i < (msT id os k s m).length
      · rw [List.getElem?_append_left e'] at hx
        obtain ⟨t, h1, h2⟩ := msT_get id os k s m i x hx
        exact ⟨t, by omega, h2⟩
      · rw [List.getElem?_append_right (by omega)] at hx
        have e0 : i - (msT id os k s m).length = 0 := by
          have := (List.getElem?_eq_some_iff.1 hx).1
          simp at this
          omega
        rw [e0] at hx
        have hi : i = (msT id os k s m).length := by omega
        refine ⟨m, by omega, e, hi.symm, ?_⟩
        rw [hi]
        exact (Option.some.inj hx).symm
    · obtain ⟨t, h1, h2⟩ := msT_get id os k s m i x hx
      exact ⟨t, by omega, h2⟩
theorem msT_mono (id : Nat) (os : List OpV) (k s : Nat) {t m : Nat} (h : t ≤ m) : (msT id os k s t).length ≤ (msT id os k s m).length := by
  induction m with
  | zero =>
    obtain rfl : t = 0 := by omega
    exact Nat.le_refl _
  | succ m ih =>
    by_cases e : t = m + 1
    · rw [e]; exact Nat.le_refl _
    · have := ih (by omega)
      have h2 : (msT id os k s m).length ≤ (msT id os k s (m + 1)).length := by
        show _ ≤ (if _ then _ else _ : List MsgV).length
        split
        · rw [List.length_append]; omega
        · exact Nat.le_refl _
      omega
/-- Two commits of one shard stand at different numbers. -/
theorem msT_lt (id : Nat) (os : List OpV) (k : Nat) {t m : Nat} (h : t < m) : (msT id os k (shT os k t) t).length < (msT id os k (shT os k t) m).length := by
  have h1 := msT_mono id os k (shT os k t) (show t + 1 ≤ m from h)
  have h2 : msT id os k (shT os k t) (t + 1) = msT id os k (shT os k t) t ++ [_] := if_pos rfl
  rw [h2, List.length_append] at h1
  exact Nat.lt_of_lt_of_le (Nat.lt_succ_self _) h1
theorem mB_numd (id : Nat) (os : List OpV) (k s m : Nat) : Numd (mB id os k s m) := fun i x hx => by
  unfold mB at hx
  by_cases e : i < (msT id os k s m).length
  · rw [List.getElem?_append_left e] at hx
    exact msT_numd id os k s m i x hx
  · rw [List.getElem?_append_right (by omega)] at hx
    have e0 : i - (msT id os k s m).length = 0 := by
      have := (List.getElem?_eq_some_iff.1 hx).1
      simp at this
      omega
    rw [e0] at hx
    have hx' := (Option.some.inj hx).symm
    rw [hx']
    show (((msT id os k s m).length : Nat) : Int) + 1 = _
    omega
theorem mB_len (id : Nat) (os : List OpV) (k s m : Nat) : (mB id os k s m).length = (msT id os k s m).length + 1 := by simp [mB]
theorem mB_get {id : Nat} {os : List OpV} {k s m i : Nat} {x : MsgV} (hx : (mB id os k s m)[i]? = some x) : (∃ t, t < m ∧ shT os k t = s ∧ (msT id os k s t).length = i ∧ x = mC id os s i t) ∨ (i = (msT id os k s m).length ∧ x = mE id m s i) := by
  unfold mB at hx
  by_cases e : i < (msT id os k s m).length
  · rw [List.getElem?_append_left e] at hx
    exact .inl (msT_get id os k s m i x hx)
  · rw [List.getElem?_append_right (by omega)] at hx
    have e0 : i - (msT id os k s m).length = 0 := by
      have := (List.getElem?_eq_some_iff.1 hx).1
      simp at this
      omega
    rw [e0] at hx
    have hi : i = (msT id os k s m).length := by omega
    refine .inr ⟨hi, ?_⟩
    rw [hi]
    exact (Option.some.inj hx).symm
/-- What has come of the other's commits is put: behind the own ones. -/
structure HdD (id k : Nat) (O : Nat → List OpV) (rq : Nat → Int) (D : List (Nat × Nat)) : Prop where
  nodup : D.Nodup
  own : ∀ t, (id, t) ∈ D ↔ t < (O id).length
  oth : ∀ t, (1 - id, t) ∈ D ↔ t < (O (1 - id)).length ∧ ((msT (1 - id) (O (1 - id)) k (shT (O (1 - id)) k t) t).length : Int) < rq (shT (O (1 - id)) k t)
  two : ∀ p ∈ D, p.1 < 2
theorem HdD.in_ {id k : Nat} {O : Nat → List OpV} {rq : Nat → Int} {D : List (Nat × Nat)} (h : HdD id k O rq D) (hid_ : id < 2) : ∀ p ∈ D, p.1 < 2 ∧ p.2 < (O p.1).length := fun p hp => by
  have h2 := h.two p hp
  refine ⟨h2, ?_⟩
  obtain ⟨a, b⟩ := p
  rcases (by simp only at h2; omega : a = id ∨ a = 1 - id) with rfl | rfl
  · exact (h.own b).1 hp
  · exact ((h.oth b).1 hp).1
def updQ (rq : Nat → Int) (s : Nat) (c : Int) : Nat → Int := fun s' => if s' = s then c else rq s'
/-- What comes next may be taken. -/
theorem HdD.can {id k s : Nat} {O : Nat → List OpV} (hO : ∀ j, j < 2 → OpsR (O j)) (hid_ : id < 2) {rq : Nat → Int} {D : List (Nat × Nat)} {c : Nat} (hc : rq s = c) (h : HdD id k O rq D) {x : MsgV} (hx : (mB (1 - id) (O (1 - id)) k s (O (1 - id)).length)[c]? = some x) : CanTake (stOf 2 (D.map (CT O))) x := by
  rcases mB_get hx with ⟨t, h1, h2, h3, rfl⟩ | ⟨_, rfl⟩
  · have hj : 1 - id < 2 := by omega
    have hok := comT_ok hj (hO _ hj) h1
    have hno : (1 - id, t) ∉ D := fun e => by
      have := ((h.oth t).1 e).2
      rw [h2, h3, hc] at this
      omega
    have hk : KeptL 2 ((D ++ [(1 - id, t)]).map (CT O)) := kept_two hO _ (by
      rw [List.nodup_append]
      exact ⟨h.nodup, by simp, fun a ha b hb e => by simp at hb; subst hb; subst e; exact hno ha⟩) fun p hp => by
        rcases List.mem_append.1 hp with hp | hp
        · exact h.in_ hid_ p hp
        · obtain rfl := List.mem_singleton.1 hp
          exact ⟨hj, h1⟩
    rw [List.map_append] at hk
    exact .inr ⟨rfl, rfl, KeptL.put hk, hok.2.2.1⟩
  · exact .inl rfl
/-- It is taken. -/
theorem HdD.step {id k s : Nat} {O : Nat → List OpV} (hid_ : id < 2) {rq : Nat → Int} {D : List (Nat × Nat)} {c : Nat} (hc : rq s = c) (h : HdD id k O rq D) {x : MsgV} (hx : (mB (1 - id) (O (1 - id)) k s (O (1 - id)).length)[c]? = some x) : ∃ D', HdD id k O (updQ rq s ((c + 1 : Nat) : Int)) D' ∧ takeV (stOf 2 (D.map (CT O))) x = stOf 2 (D'.map (CT O)) := by
  have hne : 1 - id ≠ id := by omega
  rcases mB_get hx with ⟨t, h1, h2, h3, rfl⟩ | ⟨hi, rfl⟩
  · have hno : (1 - id, t) ∉ D := fun e => by
      have := ((h.oth t).1 e).2
      rw [h2, h3, hc] at this
      omega
    refine ⟨D ++ [(1 - id, t)], ⟨?_, fun t' => ?_, fun t' => ?_, fun p hp => ?_⟩, ?_⟩
    · rw [List.nodup_append]
      exact ⟨h.nodup, by simp, fun a ha b hb e => by simp at hb; subst hb; subst e; exact hno ha⟩
    · rw [List.mem_append, List.mem_singleton, h.own t']
      exact ⟨fun e => e.resolve_right fun e => hne (by injection e with e1 _; exact e1.symm), .inl⟩
    · rw [List.mem_append, List.mem_singleton, h.oth t']
      unfold updQ
      by_cases es : shT (O (1 - id)) k t' = s
      · rw [if_pos es, es, hc]
        constructor
        · rintro (⟨e1, e2⟩ | e)
          · exact ⟨e1, by omega⟩
          · injection e with _ e
            subst e
            exact ⟨h1, by rw [h3]; omega⟩
        · rintro ⟨e1, e2⟩
          by_cases e3 : (msT (1 - id) (O (1 - id)) k s t').length = c
          · refine .inr ?_
            have : t' = t := by
              rcases Nat.lt_trichotomy t' t with l | l | l
              · have := msT_lt (1 - id) (O (1 - id)) k l
                rw [es] at this
                omega
              · exact l
              · have := msT_lt (1 - id) (O (1 - id)) k l
                rw [h2] at this
                omega
            rw [this]
          · exact .inl ⟨e1, by omega⟩
      · rw [if_neg es]
        constructor
        · rintro (e | e)
          · exact e
          · injection e with _ e
            subst e
            exact absurd h2 es
        · exact .inl
    · rcases List.mem_append.1 hp with hp | hp
      · exact h.two p hp
      · obtain rfl := List.mem_singleton.1 hp
        show 1 - id < 2
        omega
    · show putTo _ (comT (1 - id) (O (1 - id)) t) (comT (1 - id) (O (1 - id)) t).ops.length = _
      rw [stOf_put, List.map_append]
      rfl
  · refine ⟨D, ⟨h.nodup, h.own, fun t' => ?_, h.two⟩, rfl⟩
    rw [h.oth t']
    unfold updQ
    by_cases es : shT (O (1 - id)) k t' = s
    · rw [if_pos es, es, hc]
      constructor
      · rintro ⟨e1, e2⟩
        exact ⟨e1, by omega⟩
      · rintro ⟨e1, e2⟩
        have := msT_lt (1 - id) (O (1 - id)) k e1
        rw [es] at this
        exact ⟨e1, by omega⟩
    · rw [if_neg es]
theorem updQ_two (rq : Nat → Int) (s : Nat) (a b : Int) : updQ (updQ rq s a) s b = updQ rq s b := funext fun s' => by
  unfold updQ
  by_cases e : s' = s
  · rw [if_pos e, if_pos e]
  · rw [if_neg e, if_neg e, if_neg e]
theorem updQ_self {rq : Nat → Int} {s : Nat} {c : Int} (h : rq s = c) : updQ rq s c = rq := funext fun s' => by
  unfold updQ
  by_cases e : s' = s
  · rw [if_pos e, e, h]
  · rw [if_neg e]
theorem updQ_at (rq : Nat → Int) (s : Nat) (c : Int) : updQ rq s c s = c := if_pos rfl
/-- The store behind the first n of what comes next by a line. -/
theorem HdD.take {id k s : Nat} {O : Nat → List OpV} (hid_ : id < 2) {rq : Nat → Int} {D : List (Nat × Nat)} {c : Nat} (hc : rq s = c) (h : HdD id k O rq D) : ∀ n, c + n ≤ (mB (1 - id) (O (1 - id)) k s (O (1 - id)).length).length → ∃ D', HdD id k O (updQ rq s ((c + n : Nat) : Int)) D' ∧ (((mB (1 - id) (O (1 - id)) k s (O (1 - id)).length).drop c).take n).foldl takeV (stOf 2 (D.map (CT O))) = stOf 2 (D'.map (CT O))
  | 0, _ => ⟨D, by rw [Nat.add_zero, updQ_self hc]; exact h, rfl⟩
  | n + 1, hn => by
    obtain ⟨D', h', hf⟩ := HdD.take hid_ hc h n (by omega)
    obtain ⟨x, hx⟩ : ∃ x, (mB (1 - id) (O (1 - id)) k s (O (1 - id)).length)[c + n]? = some x := ⟨_, List.getElem?_eq_getElem (by omega)⟩
    obtain ⟨D2, h2, hf2⟩ := HdD.step hid_ (updQ_at _ _ _) h' hx
    rw [updQ_two] at h2
    refine ⟨D2, h2, ?_⟩
    rw [List.take_add_one, List.getElem?_drop, hx, List.foldl_append, hf]
    exact hf2
end Go.Proofs.YtefpnojanldkeaaGreatDoor
namespace Go.Proofs.YtefpnojanldkeaaGreatDoor
open Go.RowKit Go.Maps
set_option maxRecDepth 10000
set_option linter.unusedSectionVars false
variable [Inhabited ComV] [DecidableEq D3] [Inhabited D3] [Inhabited Dd] [Inhabited Dn] [Inhabited OpV]

theorem nodup_bound : ∀ (N : Nat) (l : List Nat), l.Nodup → (∀ x ∈ l, x < N) → l.length ≤ N
  | 0, l, _, h => by
    cases l with
    | nil => exact Nat.le_refl _
    | cons a l => have := h a (by simp); omega
  | N + 1, l, hn, h => by
    by_cases e : N ∈ l
    · have h1 := nodup_bound N (l.erase N) (hn.erase N) fun x hx => by
        have h2 := (List.Nodup.mem_erase_iff hn).1 hx
        have := h x h2.2
        omega
      rw [List.length_erase_of_mem e] at h1
      omega
    · have := nodup_bound N l hn fun x hx => by
        have h1 := h x hx
        have h2 : x ≠ N := fun e' => e (e' ▸ hx)
        omega
      omega
theorem HdD.few {id k : Nat} {O : Nat → List OpV} (hO : ∀ j, j < 2 → OpsR (O j)) (hid_ : id < 2) {rq : Nat → Int} {D : List (Nat × Nat)} (h : HdD id k O rq D) : D.length ≤ 16 := by
  have hb : ∀ p ∈ D, p.1 < 2 ∧ p.2 < 8 := fun p hp => by
    have h1 := h.in_ hid_ p hp
    have := (hO p.1 h1.1).len
    exact ⟨h1.1, by omega⟩
  have h1 : (D.map fun p => p.1 * 8 + p.2).Nodup := by
    rw [List.nodup_iff_pairwise_ne, List.pairwise_map]
    have hn := h.nodup
    rw [List.nodup_iff_pairwise_ne] at hn
    refine hn.imp_of_mem fun ha hb' hab e => hab ?_
    have := hb _ ha
    have := hb _ hb'
    exact Prod.ext (by omega) (by omega)
  have h2 := nodup_bound 16 _ h1 fun x hx => by
    obtain ⟨p, hp, rfl⟩ := List.mem_map.1 hx
    have := hb p hp
    omega
  rwa [List.length_map] at h2
/-- Where a place stands that has committed, and hears the other one. -/
structure HrS (id k : Nat) (O : Nat → List OpV) (i : Nat) (h : PlH) (v : PlV) : Prop where
  vid : v.id = id
  vn : v.n = 2
  vk : v.k = k
  ck : v.ck = ((O id).length : Nat)
  st : ∃ D, HdD id k O (fun s => (v.Y (1 - id) s).rq) D ∧ v.st = stOf 2 (D.map (CT O))
  nn : h.nn ≤ 300 + 300 * i
  x : ∀ j s, v.line j s → (h.X j s).n ≤ 20 + i
theorem HdD.stIn {id k : Nat} {O : Nat → List OpV} (hO : ∀ j, j < 2 → OpsR (O j)) (hid_ : id < 2) {rq : Nat → Int} {D : List (Nat × Nat)} (h : HdD id k O rq D) {nn : Nat} (hn : nn ≤ 1000000) : StIn (stOf 2 (D.map (CT O))) nn := by
  have hk := kept_two hO D h.nodup (h.in_ hid_)
  exact ⟨chk_zeros (by decide) (by decide), fun kk => by have := rowOf_few hk (by rw [List.length_map]; have := h.few hO hid_; omega) kk; omega, hn⟩
def HearTwo (id k : Nat) (O : Nat → List OpV) (i s : Nat) (m : MsgV) (cl : List MsgV) (w : World) (h : PlH) (v : PlV) (e : Ending) (w' : World) : Prop :=
  ∃ (h' : PlH) (st' : St) (a6 : Option Addr) (c6 : Nat), e = .returned (.tuple #[.slice a6 1 c6, .nilIface]) ∧ PlAt w' h' { v with Y := updL v.Y (1 - id) s (hearY (v.Y (1 - id) s) m cl), st := st' } ∧ PlMoves w w' h v h' { v with Y := updL v.Y (1 - id) s (hearY (v.Y (1 - id) s) m cl), st := st' } ∧ h'.pb = h.pb ∧ HrS id k O (i + 1) h' { v with Y := updL v.Y (1 - id) s (hearY (v.Y (1 - id) s) m cl), st := st' }
theorem hear_two (A : Nat → Addr) (w : World) (hE : E4 A w) (h12 : 12 ≤ w.heap.size) (h : PlH) (v : PlV) (a : PlAt w h v) (hlow : ∀ b, h.foot v b → 12 ≤ b) {id k i : Nat} {O : Nat → List OpV} (hI : HrS id k O i h v) (hi : i < 200) (hO : ∀ j, j < 2 → OpsR (O j)) (hid_ : id < 2) (s : Nat) (hs : s < k) (c n : Nat) (hc : (v.Y (1 - id) s).rq = c) (hn : c + n ≤ (mB (1 - id) (O (1 - id)) k s (O (1 - id)).length).length) (m : MsgV) (cl : List MsgV) (hcl : cl = ((mB (1 - id) (O (1 - id)) k s (O (1 - id)).length).drop c).take n) (hf : Fresh (v.Y (1 - id) s) m cl) (p : Nat) (hm : (mB (1 - id) (O (1 - id)) k s (O (1 - id)).length)[p]? = some m) (r : Raw) (hr : RawOwn 0 w r m) :
    Calls Tryz.prog 11 #[.pointer (some ⟨h.pb, 0, none⟩), .agg r.cells.toArray] w (HearTwo id k O i s m cl w h v) := by
  obtain ⟨D, hD, hst⟩ := hI.st
  have hj : 1 - id < 2 := by omega
  have hol := (hO (1 - id) hj).len
  have hML : (mB (1 - id) (O (1 - id)) k s (O (1 - id)).length).length ≤ 9 := by
    rw [mB_len]
    have := msT_len (1 - id) (O (1 - id)) k s (O (1 - id)).length
    omega
  have hp := (List.getElem?_eq_some_iff.1 hm).1
  have q : v.line (1 - id) s := ⟨by rw [hI.vn]; exact hj, by rw [hI.vid]; omega, by rw [hI.vk]; exact hs⟩
  have hx := hI.x _ _ q
  have hnn := hI.nn
  have hlen : cl.length = n := by rw [hcl, List.length_take, List.length_drop]; omega
  have hseq := mB_numd _ _ _ _ _ p m hm
  have hrest : m.frm = ((1 - id : Nat) : Int) ∧ m.to_ = ((id : Nat) : Int) ∧ m.shard = (s : Int) ∧ 0 ≤ m.time ∧ m.time ≤ 1000000 ∧ Light m.c := by
    have e : ((1 - (1 - id) : Nat) : Int) = ((id : Nat) : Int) := by omega
    rcases mB_get hm with ⟨t, h1, _, _, rfl⟩ | ⟨_, rfl⟩
    · exact ⟨rfl, e, rfl, by show (0 : Int) ≤ (t : Int) + 1; omega, by show (t : Int) + 1 ≤ 1000000; omega, (comT_ok hj (hO _ hj) h1).2.2.1⟩
    · exact ⟨rfl, e, rfl, by show (0 : Int) ≤ ((O (1 - id)).length : Nat); omega, by show (((O (1 - id)).length : Nat) : Int) ≤ 1000000; omega, light_nil 0⟩
  have hmi : MsgIn v (1 - id) s m := ⟨hrest.1, by rw [hrest.2.1, hI.vid], hrest.2.2.1, by rw [hseq]; omega, by rw [hseq]; omega, hrest.2.2.2.1, hrest.2.2.2.2.1, hrest.2.2.2.2.2⟩
  have tk : ∀ t, t ≤ n → ∃ D', HdD id k O (updQ (fun s => (v.Y (1 - id) s).rq) s ((c + t : Nat) : Int)) D' ∧ (cl.take t).foldl takeV v.st = stOf 2 (D'.map (CT O)) := fun t ht => by
    obtain ⟨D', h1, h2⟩ := hD.take hid_ hc t (by omega)
    refine ⟨D', h1, ?_⟩
    rw [hst, hcl, List.take_take, Nat.min_eq_left ht]
    exact h2
  refine (hear_new_any A w hE h12 h v a hlow (1 - id) s q r m hr hmi (by rw [hc]; omega) (by rw [hc]; omega) (by omega) hf.no hf.lt hf.near cl hf.in_ (fun t x hx' => ?_) (fun t ht => ?_)).mono ?_
  · have ht : t < n := by have := (List.getElem?_eq_some_iff.1 hx').1; omega
    obtain ⟨D', h1, h2⟩ := tk t (by omega)
    rw [h2]
    refine h1.can hO hid_ (updQ_at _ _ _) ?_
    rw [hcl, List.getElem?_take, if_pos ht, List.getElem?_drop] at hx'
    exact hx'
  · obtain ⟨D', h1, h2⟩ := tk t (by omega)
    rw [h2]
    exact h1.stIn hO hid_ (by omega)
  · rintro e w' ⟨⟨h', a6, c6, he, hP, hM, hpb, hn', hX⟩⟩
    obtain ⟨D', h1, h2⟩ := tk n (Nat.le_refl _)
    have ht : cl.take n = cl := by rw [← hlen]; exact List.take_length
    rw [ht] at h2
    refine ⟨h', _, a6, c6, he, hP, hM, hpb, hI.vid, hI.vn, hI.vk, hI.ck, ⟨D', ?_, h2⟩, by omega, fun j' s' q' => by have := hX j' s'; have := hI.x j' s' q'; omega⟩
    have e : (fun s' => (updL v.Y (1 - id) s (hearY (v.Y (1 - id) s) m cl) (1 - id) s').rq) = updQ (fun s => (v.Y (1 - id) s).rq) s ((c + n : Nat) : Int) := funext fun s' => by
      unfold updQ
      by_cases e : s' = s
      · subst e
        rw [if_pos rfl, updL_at]
        show (v.Y (1 - id) s').rq + (cl.length : Nat) = _
        rw [hc, hlen]
        omega
      · rw [if_neg e, updL_ne _ _ fun e' => e (by injection e')]
    show HdD id k O (fun s' => (updL v.Y (1 - id) s (hearY (v.Y (1 - id) s) m cl) (1 - id) s').rq) D'
    rw [e]
    exact h1
end Go.Proofs.YtefpnojanldkeaaGreatDoor
