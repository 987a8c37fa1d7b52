/- SessionSees: what is read of the commits of a session; its next commit; SessionSees: n places side by side: they hear, commit, beat, read; SessionSees: what stays as it is while places move. -/
import Derived.Test.YtepnghacjggkkaaGreatDoorGTB
import Derived.Test.YtepnghacjggkkaaGreatDoorGRB
import Derived.Deep.Fields
import Derived.Deep.RegionHeld
import Derived.Deep.RegionHeldLaw
import Derived.Deep.RegionWith
import Derived.Deep.Slices
import Derived.Handy
import Derived.LaidEql
import Derived.LaidHandle
import Derived.LaidLaws
import Derived.LaidSub
import Derived.Laws.AppendOwnNone
import Derived.Maps.AppendAt
import Derived.Maps.RangeWalk
import Derived.OpenShut
import Derived.ProofKit
import Derived.RowKitTokens
import Derived.Stop.Asserts
import Derived.Test.YtepnghacjggkkaaGreatDoorProg
import Derived.Test.YtepnghacjggkkaaGreatDoorRows
import Derived.WalkKit
import Derived.WalkLawsBesides
import Derived.WalkSpells
import Derived.Test.YtepnghacjggkkaaGreatDoorGWMath2
import Derived.Test.YtepnghacjggkkaaGreatDoorGLU
namespace Go.Proofs.YtepnghacjggkkaaGreatDoor
open Go.RowKit Go.Maps
set_option maxRecDepth 10000
set_option linter.unusedSectionVars false
variable [Inhabited ComV] [DecidableEq D3] [Inhabited D3] [Inhabited Dd] [Inhabited Dn] [Inhabited OpV]

theorem seen_all {n k : Nat} {C : List ComV} {at_ : List Int} (hC : ∀ c ∈ C, SesC n k c) (hle : ∀ c ∈ C, leB c.when_ at_ = true) : seenL (stOf n C) nKey at_ = C.flatMap partsC := by
  have hp : ∀ x ∈ C.flatMap partsC, ∃ c ∈ C, x = partC c (cOp nKey) := fun x hx => by
    obtain ⟨c, hc, hx⟩ := List.mem_flatMap.1 hx
    obtain ⟨o, ho, rfl⟩ := List.mem_map.1 hx
    rw [(hC c hc).ops] at ho
    have : o = cOp nKey := by simpa [nOps, cOps] using ho
    exact ⟨c, hc, by rw [this]⟩
  have h1 : rowOf (stOf n C) nKey = C.flatMap partsC := List.filter_eq_self.2 fun x hx => by
    obtain ⟨c, hc, rfl⟩ := hp x hx
    exact decide_eq_true rfl
  show (rowOf (stOf n C) nKey).filter (fun c => leB c.when_ at_) = _
  rw [h1]
  exact List.filter_eq_self.2 fun x hx => by
    obtain ⟨c, hc, rfl⟩ := hp x hx
    exact hle c hc
theorem flatA_parts : ∀ C : List ComV, flatA (C.flatMap partsC) = flatA C
  | [] => rfl
  | c :: C => by
    have h : ∀ os : List OpV, flatA (os.map (partC c)) = os.map (dnOf c) := fun os => by
      induction os with
      | nil => rfl
      | cons o os ih =>
        show ([o].map (dnOf (partC c o))) ++ flatA (os.map (partC c)) = _
        rw [ih]
        rfl
    show flatA (partsC c ++ C.flatMap partsC) = c.ops.map (dnOf c) ++ flatA C
    rw [← flatA_parts C, ← h c.ops]
    unfold flatA partsC
    rw [List.flatMap_append]
theorem flatA_dots : ∀ C : List ComV, (flatA C).map (·.dot) = C.flatMap dotsC
  | [] => rfl
  | c :: C => by
    show (c.ops.map (dnOf c) ++ flatA C).map (·.dot) = dotsC c ++ C.flatMap dotsC
    rw [List.map_append, flatA_dots C, List.map_map]
    rfl
theorem flat_len {n k : Nat} : ∀ {C : List ComV}, (∀ c ∈ C, SesC n k c) → (flatA C).length = C.length
  | [], _ => rfl
  | c :: C, h => by
    show (c.ops.map (dnOf c) ++ flatA C).length = C.length + 1
    rw [List.length_append, flat_len fun x hx => h x (by simp [hx]), List.length_map, (h c (by simp)).ops]
    show 1 + C.length = _
    omega
theorem sum_ones : ∀ (ds : List Dn) (z : Int), (∀ d ∈ ds, d.o.n = 1) → ds.foldl (fun s d => s + d.o.n) z = z + ds.length
  | [], z, _ => by simp
  | d :: ds, z, h => by
    rw [List.foldl_cons, sum_ones ds _ fun x hx => h x (by simp [hx]), h d (by simp), List.length_cons]
    omega
theorem net_val {n k : Nat} {C : List ComV} {at_ : List Int} {ds : List Dn} (hC : ∀ c ∈ C, SesC n k c) (hK : KeptL n C) (hle : ∀ c ∈ C, leB c.when_ at_ = true) (hd : IsOps nKey (seenL (stOf n C) nKey at_) ds) : (valA ds).n = C.length ∧ (valA ds).kind = (if C = [] then 0 else 2) ∧ (valA ds).set = [] := by
  rw [seen_all hC hle] at hd
  by_cases e : C = []
  · subst e
    rw [isOps_nil hd, if_pos rfl]
    exact ⟨rfl, rfl, rfl⟩
  · rw [if_neg e]
    have h1 : OneDot (C.flatMap partsC) := oneDot_parts hK
    have hne : flatA (C.flatMap partsC) ≠ [] := fun h0 => by
      rw [flatA_parts] at h0
      have := flat_len hC
      rw [h0] at this
      exact e (List.eq_nil_of_length_eq_zero this.symm)
    have hone : ∀ d ∈ flatA (C.flatMap partsC), d.o = cOp nKey := fun d hd' => by
      rw [flatA_parts] at hd'
      obtain ⟨c, hc, hd'⟩ := flat_mem.1 hd'
      obtain ⟨o, ho, rfl⟩ := List.mem_map.1 hd'
      rw [(hC c hc).ops] at ho
      simpa [nOps, cOps, dnOf] using ho
    obtain ⟨q1, q2, q3⟩ := isOps_two hd h1 hne fun d hd' => by rw [hone d hd']; exact ⟨rfl, rfl⟩
    have hlen : ds.length = C.length := by
      rw [q3.length_eq, ← flat_len hC, ← flatA_parts]
      refine List.Perm.length_eq ((List.perm_ext_iff_of_nodup (onceA_distinct _) ?_).2 fun d => mem_onceA h1 d)
      have hn := hK.dots
      rw [← flatA_dots, ← flatA_parts] at hn
      exact List.Pairwise.imp (fun h e' => h (congrArg _ e')) (List.pairwise_map.1 hn)
    have hn : ∀ d ∈ ds, d.o.n = 1 := fun d hd' => by rw [hone d ((mem_onceA h1 d).1 (q3.mem_iff.1 hd'))]; rfl
    refine ⟨?_, (valA_two q1 q2).1, ?_⟩
    · rw [(valA_two q1 q2).2]
      unfold sumN
      rw [sum_ones ds 0 hn, hlen]
      omega
    · have hl : 0 < ds.length := List.length_pos_iff.2 q1
      have e2 : ds[0]!.o.kind = 2 := by rw [getElem!_pos ds 0 hl]; exact q2 _ (List.getElem_mem _)
      unfold valA
      rw [if_neg q1, e2]
      rfl
variable {n k t : Nat} {C : List ComV} {H : Nat → PlH} {V : Nat → PlV}
theorem snap_get {v : PlV} {j : Nat} (h : j < v.n) : (snapV v).getD j 0 = snapJ v j := by
  unfold snapV
  rw [List.getD_eq_getElem?_getD]
  simp [h]
theorem NetI.snapB (hN : NetI n k C t [] H V) (k1 : 1 ≤ k) {p : Nat} (hp : p < n) (_ht : t ≤ 1000) (j : Nat) (hj : j < n) : 0 ≤ (snapV (V p)).getD j 0 ∧ (snapV (V p)).getD j 0 ≤ t := by
  have hf := hN.few
  rw [snap_get (by rw [hN.vn p hp]; exact hj)]
  unfold snapJ
  rw [hN.vid p hp, hN.vk p hp]
  by_cases e : j = p
  · rw [if_pos e]
    have := hN.ck0 p hp
    have := hN.ck1 p hp
    omega
  · rw [if_neg e]
    have hr : ∀ s, s < k → 0 ≤ ((V p).Y j s).rt ∧ ((V p).Y j s).rt ≤ t := fun s hs => by
      rw [(hN.here j p s hj hp e hs (fun m hm => by simp at hm)).2]
      have := hN.snd j p s hj hp e hs
      have := hN.ck1 j hj
      omega
    have h1 := least_ge (rt := fun s => ((V p).Y j s).rt) (x := 0) (by decide) (k := k) fun s hs => (hr s hs).1
    have h2 := least_le (rt := fun s => ((V p).Y j s).rt) (k := k) (s := 0) (by omega)
    have := (hr 0 (by omega)).2
    omega
theorem NetI.chkS (hN : NetI n k C t [] H V) (k1 : 1 ≤ k) (n6 : n ≤ 6) {p : Nat} (hp : p < n) (ht : t ≤ 1000) : chk (snapV (V p)) = 0 :=
  chk_zero.2 ⟨by rw [snapV_len, hN.vn p hp]; omega, by rw [snapV_len, hN.vn p hp]; omega, fun x hx => by
    rw [snapV_len, hN.vn p hp] at hx
    have := hN.snapB k1 hp ht x hx
    omega⟩
theorem NetI.pvOk (hN : NetI n k C t [] H V) {p : Nat} (hp : p < n) (ht : t ≤ 800) : PvOk (V p) := by
  have hf := hN.few
  have hc := hN.ck1 p hp
  have q : ∀ j s, (V p).line j s → j < n ∧ p ≠ j ∧ s < k := fun j s h => ⟨by have := h.1; rw [hN.vn p hp] at this; exact this, by have := h.2.1; rw [hN.vid p hp] at this; exact Ne.symm this, by have := h.2.2; rw [hN.vk p hp] at this; exact this⟩
  have a := fun j s h => hN.snd p j s hp (q j s h).1 (q j s h).2.1 (q j s h).2.2
  have b : ∀ j s, (V p).line j s → 0 ≤ ((V p).Y j s).rt ∧ ((V p).Y j s).rt ≤ 1000 := fun j s h => by
    obtain ⟨q1, q2, q3⟩ := q j s h
    rw [(hN.here j p s q1 hp (Ne.symm q2) q3 (fun m hm => by simp at hm)).2]
    have := hN.snd j p s q1 hp (Ne.symm q2) q3
    have := hN.ck1 j q1
    omega
  exact ⟨hN.ck0 p hp, by omega, fun j s h => (a j s h).1, fun j s h => by have := a j s h; omega, fun j s h => by have := a j s h; omega, fun j s h => (a j s h).2.2.2.1, fun j s h => (a j s h).2.2.2.2, fun j s h => (b j s h).1, fun j s h => (b j s h).2⟩
def nxt (V : Nat → PlV) (p : Nat) : ComV := comN (snapV (V p)) p ((V p).ck + 1) nOps
theorem NetI.nxt_ok (hN : NetI n k C t [] H V) (k1 : 1 ≤ k) (n6 : n ≤ 6) {p : Nat} (hp : p < n) (ht : t ≤ 800) : SesC n k (nxt V p) ∧ timeC (nxt V p) = (V p).ck + 1 ∧ KeptL n (C ++ [nxt V p]) := by
  have hf := hN.few
  have hl : (snapV (V p)).length = n := by rw [snapV_len, hN.vn p hp]
  have c0 := hN.ck0 p hp
  have c1 := hN.ck1 p hp
  have hS : SesC n k (nxt V p) := nCom_ok hl hp n6 (fun j hj => by have := hN.snapB k1 hp (by omega) j hj; omega) (by omega) (by omega)
  have htm : timeC (nxt V p) = (V p).ck + 1 := timeC_comN (by omega)
  refine ⟨hS, htm, fun x hx => ?_, fun x hx => ?_, fun x hx => ?_, ?_⟩
  · rcases List.mem_append.1 hx with hx | hx
    · exact (hN.com x hx).ok
    · rw [List.mem_singleton] at hx; rw [hx]; exact hS.ok
  · rcases List.mem_append.1 hx with hx | hx
    · exact (hN.com x hx).len
    · rw [List.mem_singleton] at hx; rw [hx]; exact hS.len
  · rcases List.mem_append.1 hx with hx | hx
    · exact (hN.com x hx).old
    · rw [List.mem_singleton] at hx; rw [hx]; exact hS.old
  · rw [List.flatMap_append, List.nodup_append]
    refine ⟨hN.kept.dots, by simp [dotsC, hS.ops, nOps, cOps], fun a ha b hb e => ?_⟩
    subst e
    obtain ⟨c, hc, ha⟩ := List.mem_flatMap.1 ha
    obtain ⟨o, _, e1⟩ := List.mem_map.1 ha
    rw [List.flatMap_cons, List.flatMap_nil, List.append_nil] at hb
    obtain ⟨o', _, e2⟩ := List.mem_map.1 hb
    have e3 := e1.trans e2.symm
    have ep : c.place = (nxt V p).place := by injection e3
    have et : timeC c = timeC (nxt V p) := by injection e3
    have := hN.tim c hc p hp ep
    omega
theorem NetI.tx (hN : NetI n k C t [] H V) (k1 : 1 ≤ k) (n6 : n ≤ 6) {p : Nat} (hp : p < n) (ht : t ≤ 60) (w : World) : TxOk w (H p) (V p) (snapV (V p)) nOps := by
  obtain ⟨hS, htm, hK⟩ := hN.nxt_ok k1 n6 hp (by omega)
  have hf := hN.few
  have hchk := hN.chkS k1 n6 hp (by omega)
  have ec : comN (snapV (V p)) (V p).id ((V p).ck + 1) nOps = nxt V p := by rw [hN.vid p hp]; rfl
  have hst := hN.st0 p hp (fun m hm => by simp at hm)
  obtain ⟨g, g1, _, g3⟩ := hN.cnt p hp
  refine ⟨?_, ?_, ⟨?_, by show nOps.length ≤ 20; decide, fun o ho => ?_⟩, ?_, ?_, fun kk => ?_, by simp at g3; omega, by have := hN.ck1 p hp; omega, fun s hs hne => ?_⟩
  · unfold two
    rw [hchk]
    simp
  · unfold leB
    rw [List.all_eq_true]
    intro i _
    exact decide_eq_true (Int.le_refl _)
  · show (snapV (V p)).length ≤ 20
    rw [snapV_len, hN.vn p hp]
    omega
  · obtain rfl : o = cOp nKey := by simpa [nOps, cOps] using ho
    exact ⟨by decide, by decide, by decide⟩
  · rw [ec, hst]
    exact KeptL.put (post := []) hK
  · rw [hst]
    exact chk_zeros (by omega) n6
  · rw [hst]
    have := rowOf_few hN.kept (by omega) kk
    omega
  · rw [ec]
    exact comE_of (comOk_part hS.ok hS.rise hne)
theorem sendT_one (v : PlV) (c : ComV) : TellsOne (sendT v c) := fun _ _ => by
  unfold sendT
  split
  · exact .inl rfl
  · exact .inr ⟨_, rfl, rfl, rfl⟩
theorem beatT_one (v : PlV) : TellsOne (beatT v) := fun _ _ => .inr ⟨_, rfl, rfl, rfl⟩
theorem NetI.sends_commit (hN : NetI n k C t [] H V) (k1 : 1 ≤ k) (n6 : n ≤ 6) {p : Nat} (hp : p < n) (ht : t ≤ 800) : Sends n k p C (C ++ [nxt V p]) V (pv2 (V p) (nxt V p)) (fun s => decide (s = shardN nKey k)) ((V p).ck + 1) (sendT (comV1 (V p) (nxt V p)) (nxt V p)) := by
  obtain ⟨hS, htm, hK⟩ := hN.nxt_ok k1 n6 hp ht
  have hst := hN.st0 p hp (fun m hm => by simp at hm)
  have hk : (comV1 (V p) (nxt V p)).k = k := hN.vk p hp
  have e0 : ∀ s, partOps (nxt V p).ops (comV1 (V p) (nxt V p)).k s = if shardN nKey k = s then nOps else [] := fun s => by rw [hS.ops, hk, nPart]
  refine ⟨rfl, rfl, rfl, rfl, sendT_one _ _, fun j s hj hne hs hd => ?_, fun j s hj hne hs hd => ?_, fun j s => ?_, .inr ⟨_, rfl, ?_, rfl, decide_eq_true rfl, hS, rfl, htm, hK⟩⟩
  · have e := of_decide_eq_true hd
    have hp' : partOps (nxt V p).ops (comV1 (V p) (nxt V p)).k s ≠ [] := by rw [e0, if_pos e.symm]; exact fun h => by cases h
    have hy : (pv2 (V p) (nxt V p)).Y j s = _ := if_neg hp'
    refine ⟨sendM (comV1 (V p) (nxt V p)) (nxt V p) j s, if_neg hp', ?_, rfl, rfl, rfl, htm, .inr ⟨rfl, e, rfl, ?_⟩, ?_, ?_, ?_⟩
    · show ((V p).id : Int) = p
      rw [hN.vid p hp]
    · have : partV (nxt V p) (comV1 (V p) (nxt V p)).k s = nxt V p := by rw [hk, e]; exact nPartV hS
      show C ++ [nxt V p] = C ++ [partV (nxt V p) (comV1 (V p) (nxt V p)).k s]
      rw [this]
    · rw [hy]; rfl
    · rw [hy]; exact htm
    · rw [hy]
      show (((V p).Y j s).ms ++ [_]).length = _
      rw [List.length_append]
      rfl
  · have e : ¬ s = shardN nKey k := of_decide_eq_false hd
    have hp' : partOps (nxt V p).ops (comV1 (V p) (nxt V p)).k s = [] := by rw [e0, if_neg (Ne.symm e)]
    have hy : (pv2 (V p) (nxt V p)).Y j s = (V p).Y j s := if_pos hp'
    rw [hy]
    exact ⟨if_pos hp', rfl, rfl, rfl⟩
  · show ((sendY (comV1 (V p) (nxt V p)) (nxt V p) j s)).rq = _ ∧ ((sendY (comV1 (V p) (nxt V p)) (nxt V p) j s)).rt = _ ∧ ((sendY (comV1 (V p) (nxt V p)) (nxt V p) j s)).mm = _
    unfold sendY
    split <;> exact ⟨rfl, rfl, rfl⟩
  · show putTo (V p).st (nxt V p) (nxt V p).ops.length = _
    rw [hst, stOf_put]
theorem NetI.sends_beat (hN : NetI n k C t [] H V) {p : Nat} (hp : p < n) : Sends n k p C C V { V p with Y := beatY (V p) } (fun _ => true) (V p).ck (beatT (V p)) := by
  refine ⟨rfl, rfl, rfl, rfl, beatT_one _, fun j s hj hne hs _ => ?_, (fun j s hj hne hs hd => by cases hd), fun j s => ⟨rfl, rfl, rfl⟩, .inl ⟨rfl, rfl, rfl⟩⟩
  refine ⟨_, rfl, ?_, rfl, rfl, rfl, rfl, .inl ⟨rfl, light_nil 0, rfl⟩, rfl, rfl, ?_⟩
  · show ((V p).id : Int) = p
    rw [hN.vid p hp]
  · show (((V p).Y j s).ms ++ [_]).length = _
    rw [List.length_append]
    rfl
end Go.Proofs.YtepnghacjggkkaaGreatDoor
namespace Go.Proofs.YtepnghacjggkkaaGreatDoor
open Go.RowKit Go.Maps
set_option maxRecDepth 10000
set_option linter.unusedSectionVars false
variable [Inhabited ComV] [DecidableEq D3] [Inhabited D3] [Inhabited Dd] [Inhabited Dn] [Inhabited OpV]

structure NetAt (w : World) (n : Nat) (H : Nat → PlH) (V : Nat → PlV) (W : World) : Prop where
  bel : Below w.heap.size w W
  at_ : ∀ i, i < n → PlAt W (H i) (V i)
  low : ∀ i, i < n → ∀ b, (H i).foot (V i) b → w.heap.size ≤ b
  apart : ∀ i j, i < n → j < n → i ≠ j → ∀ b, (H i).foot (V i) b → ¬ (H j).foot (V j) b
def Off (n : Nat) (H : Nat → PlH) (V : Nat → PlV) (b : Nat) : Prop := ∀ i, i < n → ¬ (H i).foot (V i) b
variable {w W W' : World} {n k t p : Nat} {C : List ComV} {H : Nat → PlH} {V : Nat → PlV}
theorem NetAt.below (a : NetAt w n H V W) (hb : Below W.heap.size W W') : NetAt w n H V W' :=
  ⟨a.bel.trans (hb.mono a.bel.size), fun i hi => (a.at_ i hi).below hb, a.low, a.apart⟩
theorem NetAt.move (a : NetAt w n H V W) {j : Nat} (hj : j < n) {h' : PlH} {v' : PlV} (hP : PlAt W' h' v') (hM : PlMoves W W' (H j) (V j) h' v') : NetAt w n (updP H j h') (updP V j v') W' := by
  have oth := fun i (hi : i < n) (e : i ≠ j) => (a.at_ i hi).other hM (a.apart j i hj hi (Ne.symm e))
  refine ⟨below_moves a.bel (a.low j hj) hM, fun i hi => ?_, fun i hi b hb => ?_, fun i i' hi hi' hne b hb hb' => ?_⟩
  · by_cases e : i = j
    · subst e; rw [updP_at, updP_at]; exact hP
    · rw [updP_ne _ _ e, updP_ne _ _ e]; exact (oth i hi e).1
  · by_cases e : i = j
    · subst e; rw [updP_at, updP_at] at hb; exact low_moves (a.low i hi) hM a.bel.size b hb
    · rw [updP_ne _ _ e, updP_ne _ _ e] at hb; exact a.low i hi b hb
  · by_cases e : i = j
    · subst e
      have e' : i' ≠ i := Ne.symm hne
      rw [updP_at, updP_at] at hb
      rw [updP_ne _ _ e', updP_ne _ _ e'] at hb'
      exact (oth i' hi' e').2 b hb hb'
    · rw [updP_ne _ _ e, updP_ne _ _ e] at hb
      by_cases e' : i' = j
      · subst e'
        rw [updP_at, updP_at] at hb'
        exact (oth i hi e).2 b hb' hb
      · rw [updP_ne _ _ e', updP_ne _ _ e'] at hb'
        exact a.apart i i' hi hi' hne b hb hb'
theorem Off.move {j b : Nat} (h : Off n H V b) (hlt : b < W.heap.size) (hj : j < n) {h' : PlH} {v' : PlV} (hM : PlMoves W W' (H j) (V j) h' v') : Off n (updP H j h') (updP V j v') b ∧ W'.heap[b]? = W.heap[b]? := by
  refine ⟨fun i hi hb => ?_, hM.block b hlt (h j hj)⟩
  by_cases e : i = j
  · subst e
    rw [updP_at, updP_at] at hb
    rcases hM.foot b hb with q | q
    · exact h i hi q
    · omega
  · rw [updP_ne _ _ e, updP_ne _ _ e] at hb
    exact h i hi hb
theorem NetAt.off_ge (a : NetAt w n H V W) {b : Nat} (h : W.heap.size ≤ b) : Off n H V b := fun i hi hb => by
  have := (a.at_ i hi).lt hb
  omega
theorem NetI.stj {U : List MsgV} (hN : NetI n k C t U H V) {j : Nat} (hj : j < n) : ∃ C0, KeptL n C0 ∧ C0.length ≤ C.length ∧ (V j).st = stOf n C0 := by
  by_cases h : ∀ m ∈ U, m.to_ = j → m.beat = true
  · exact ⟨C, hN.kept, Nat.le_refl _, hN.st0 j hj h⟩
  · have : ∃ m ∈ U, m.to_ = j ∧ m.beat = false := by
      refine Classical.byContradiction fun h' => h fun m hm hto => ?_
      cases hb : m.beat with
      | true => rfl
      | false => exact absurd ⟨m, hm, hto, hb⟩ h'
    obtain ⟨m, hm, hto, hb⟩ := this
    obtain ⟨C', e1, e2⟩ := hN.st1 j m hj hm hto hb
    have hk := hN.kept
    rw [e1] at hk
    exact ⟨C', kept_pre hk, by rw [e1]; simp, e2⟩
theorem net_hear (A : Nat → Addr) {U : List MsgV} {m : MsgV} (hS : Sen A w.heap.size W) (a : NetAt w n H V W) (hN : NetI n k C t (m :: U) H V) (n1 : 1 ≤ n) (n6 : n ≤ 6) (ht : t ≤ 60) {j : Nat} (hto : m.to_ = j) (r : Raw) (hr : RawOwn 0 W r m) :
    Calls Tryz.prog 24 #[.pointer (some ⟨(H j).pb, 0, none⟩), .agg r.cells.toArray] W fun e W' => ∃ (h' : PlH) (v' : PlV) (a6 : Option Addr) (c6 : Nat), e = .returned (.tuple #[.slice a6 1 c6, .nilIface]) ∧ h'.pb = (H j).pb ∧ PlMoves W W' (H j) (V j) h' v' ∧ NetAt w n (updP H j h') (updP V j v') W' ∧ NetI n k C t U (updP H j h') (updP V j v') := by
  obtain ⟨i, j', s, hi, hj, hij, hs, hl, hw⟩ := hN.msg m (by simp)
  obtain rfl : j' = j := by have := hl.2.1; omega
  obtain ⟨f1, f2, f3, f4, f5, f6⟩ := hN.fly i j' s m hi hj hij hs (by simp) hl
  have f7 := hN.snd i j' s hi hj hij hs
  have hck := hN.ck1 i hi
  have hfew := hN.few
  obtain ⟨g, g1, g2, g3⟩ := hN.cnt j' hj
  have hline : (V j').line i s := ⟨by rw [hN.vn j' hj]; exact hi, by rw [hN.vid j' hj]; exact hij, by rw [hN.vk j' hj]; exact hs⟩
  obtain ⟨C0, hK0, hl0, hst0⟩ := hN.stj hj
  have hlight : Light m.c := by
    rcases hw with ⟨_, h⟩ | ⟨_, _, _, C', e⟩
    · exact h
    · exact (hN.com m.c (by rw [e]; simp)).light
  have hcan : CanTake (V j').st m ∧ ∃ C1, KeptL n C1 ∧ C1.length ≤ C.length ∧ takeV (V j').st m = stOf n C1 := by
    rcases hw with ⟨hb, _⟩ | ⟨hb, _, hpl, _⟩
    · refine ⟨.inl hb, C0, hK0, hl0, ?_⟩
      unfold takeV
      rw [if_pos hb, hst0]
    · obtain ⟨C', e1, e2⟩ := hN.st1 j' m hj (by simp) hto hb
      have hk := hN.kept
      rw [e1] at hk
      refine ⟨.inr ⟨hb, by rw [hpl, hl.1], by rw [e2]; exact KeptL.put (post := []) hk, hlight⟩, C' ++ [m.c], hk, by rw [← e1]; exact Nat.le_refl _, ?_⟩
      unfold takeV
      rw [if_neg (by rw [hb]; decide), e2, stOf_put]
  obtain ⟨hct, C1, hK1, hl1, hst1⟩ := hcan
  have few : ∀ {D : List ComV}, KeptL n D → D.length ≤ C.length → ∀ nn, nn ≤ 1000000 → StIn (stOf n D) nn := fun {D} hD hlD nn hnn => ⟨chk_zeros n1 n6, fun kk => by have := rowOf_few hD (by omega) kk; omega, hnn⟩
  have hx := g2 i s hi hij hs
  have hgl := hS.gl
  have hsz := hS.size
  refine (hear_new_any A W hS.e4 (by omega) (H j') (V j') (a.at_ j' hj) (fun b hb => by have := a.low j' hj b hb; omega) i s hline r m hr ⟨hl.1, by rw [hN.vid j' hj]; exact hl.2.1, hl.2.2, by omega, by omega, by omega, by omega, hlight⟩ f4 (by omega) (by omega) (hN.non i j' s _ hi hj hij hs) (by omega) (by omega) [m] ⟨?_, fun q x hq => ?_, ?_⟩ (fun q x hq => ?_) fun q hq => ?_).mono ?_
  · show ((V j').Y i s).rq + ((1 : Nat) : Int) ≤ 1000
    omega
  · have h0 : q = 0 := by have := (List.getElem?_eq_some_iff.1 hq).1; simp at this; omega
    subst h0
    obtain rfl : m = x := by simpa using hq
    unfold updM
    exact ⟨if_pos (by omega), by omega⟩
  · show updM ((V j').Y i s).mm m.seq (some m) (((V j').Y i s).rq + ((1 + 1 : Nat) : Int)) = none
    unfold updM
    rw [if_neg (by omega)]
    exact hN.non i j' s _ hi hj hij hs
  · have h0 : q = 0 := by have := (List.getElem?_eq_some_iff.1 hq).1; simp at this; omega
    subst h0
    obtain rfl : m = x := by simpa using hq
    exact hct
  · have hq' : q = 0 ∨ q = 1 := by simp at hq; omega
    rcases hq' with rfl | rfl
    · show StIn (V j').st _
      rw [hst0]
      exact few hK0 hl0 _ (by omega)
    · show StIn (takeV (V j').st m) _
      rw [hst1]
      exact few hK1 hl1 _ (by omega)
  · rintro e W' ⟨⟨h', a6, c6, he, hP, hM, hpb, hnn, hX⟩⟩
    exact ⟨h', _, a6, c6, he, hpb, hM, a.move hj hP hM, hN.heard hi hj hij hs hl (by have : (H j').nn + 24 * [m].length = (H j').nn + 24 := rfl; omega) hX⟩
structure SentRow (n : Nat) (H : Nat → PlH) (V : Nat → PlV) (B : Nat) (rv : Value) (rs : List Raw) (U : List MsgV) (W : World) : Prop where
  row : W.ownsRow B 74 9 rv rs.length (raws rs)
  off : ∀ q, rv.ownBlock = some q → Off n H V q
  own : F2 (RawOwn 0 W) rs U
theorem off_new (a : NetAt w n H V W) {h' : PlH} {v' : PlV} {q : Nat} (hq : W.heap.size ≤ q) (hne : ¬ h'.foot v' q) : Off n (updP H p h') (updP V p v') q := fun i hi hb => by
  by_cases e : i = p
  · subst e
    rw [updP_at, updP_at] at hb
    exact hne hb
  · rw [updP_ne _ _ e, updP_ne _ _ e] at hb
    have := (a.at_ i hi).lt hb
    omega
theorem net_commit (A : Nat → Addr) (hS : Sen A w.heap.size W) (a : NetAt w n H V W) (hN : NetI n k C t [] H V) (k1 : 1 ≤ k) (k6 : k ≤ 6) (n6 : n ≤ 6) (ht : t ≤ 60) (hp : p < n) (a1 a2 : Option Addr) (n1 c1 n2 c2 : Nat) (hv : IntsAt W (.slice a1 n1 c1) (snapV (V p))) (ho : OpsAt W (.slice a2 n2 c2) nOps) :
    Calls Tryz.prog 59 #[.pointer (some ⟨(H p).pb, 0, none⟩), .slice a1 n1 c1, .slice a2 n2 c2] W fun e W' => ∃ (h' : PlH) (v' : PlV) (a3 a4 : Option Addr) (c3 c4 : Nat) (rv : Value) (rs : List Raw) (U : List MsgV), e = .returned (.tuple #[.agg #[.slice a3 n1 c3, .int .i64 p, .slice a4 n2 c4], rv, .nilIface]) ∧ h'.pb = (H p).pb ∧ PlMoves W W' (H p) (V p) h' v' ∧ NetAt w n (updP H p h') (updP V p v') W' ∧ NetI n k (C ++ [nxt V p]) (t + 1) U (updP H p h') (updP V p v') ∧ SentRow n (updP H p h') (updP V p v') W.heap.size rv rs U W' ∧ IntsT W' (.slice a3 n1 c3) (nxt V p).when_ := by
  refine (commit_any A w.heap.size W hS hS.e4 (H p) (V p) (a.at_ p hp) (a.low p hp) (hN.pvOk hp (by omega)) a1 a2 n1 c1 n2 c2 (snapV (V p)) nOps hv ho (hN.tx k1 n6 hp ht W)).mono ?_
  have ec : comN (snapV (V p)) (V p).id ((V p).ck + 1) nOps = nxt V p := by rw [hN.vid p hp]; rfl
  rw [ec]
  rintro e W' ⟨⟨h', a3, a4, c3, c4, rv, rs, he, hP, hM, hpb, hnn, hfr, hrow, hF, hco, hxn⟩⟩
  rw [hN.vid p hp] at he
  rw [hN.vid p hp, hN.vk p hp, hN.vn p hp] at hF
  have hint : IntsT W' (.slice a3 n1 c3) (nxt V p).when_ := by
    obtain ⟨h1, _⟩ := hco
    exact intsT_of_owns h1
  refine ⟨h', _, a3, a4, c3, c4, rv, rs, _, he, hpb, hM, a.move hp hP hM, hN.sent hp k1 k6 (hN.sends_commit k1 n6 hp (by omega)) (by omega) fun j s h1 h2 h3 => hxn j s ⟨by rw [hN.vn p hp]; exact h1, by rw [hN.vid p hp]; exact h2, by rw [hN.vk p hp]; exact h3⟩, ⟨hrow, fun q hq => off_new a (hrow.lt q hq).1 (hfr q hq), hF⟩, hint⟩
theorem net_beat (a : NetAt w n H V W) (hN : NetI n k C t [] H V) (k1 : 1 ≤ k) (k6 : k ≤ 6) (ht : t ≤ 60) (hp : p < n) :
    Calls Tryz.prog 9 #[.pointer (some ⟨(H p).pb, 0, none⟩)] W fun e W' => ∃ (h' : PlH) (v' : PlV) (rv : Value) (rs : List Raw) (U : List MsgV), e = .returned rv ∧ h'.pb = (H p).pb ∧ PlMoves W W' (H p) (V p) h' v' ∧ NetAt w n (updP H p h') (updP V p v') W' ∧ NetI n k C (t + 1) U (updP H p h') (updP V p v') ∧ SentRow n (updP H p h') (updP V p v') W.heap.size rv rs U W' := by
  refine (beat_nn W (H p) (V p) (a.at_ p hp) (hN.pvOk hp (by omega))).mono ?_
  rintro e W' ⟨h', rv, rs, he, hG, hrow, hF, hnn⟩
  rw [hN.vid p hp, hN.vk p hp, hN.vn p hp] at hF
  exact ⟨h', _, rv, rs, _, he, hG.pb, hG.mov, a.move hp hG.here hG.mov, hN.sent hp k1 k6 (hN.sends_beat hp) (by omega) fun j s h1 h2 h3 => hG.xn j s ⟨by rw [hN.vn p hp]; exact h1, by rw [hN.vid p hp]; exact h2, by rw [hN.vk p hp]; exact h3⟩, ⟨hrow, fun q hq => off_new a (hG.free q hq).2 (hG.free q hq).1, hF⟩⟩
theorem net_read (A : Nat → Addr) (hS : Sen A w.heap.size W) (a : NetAt w n H V W) (hN : NetI n k C t [] H V) (n6 : n ≤ 6) (k1 : 1 ≤ k) (ht : t ≤ 60) (hp : p < n) (va : Option Addr) (vn vc : Nat) (hv : IntsAt W (.slice va vn vc) (snapV (V p))) (hall : ∀ c ∈ C, leB c.when_ (snapV (V p)) = true) :
    Calls Tryz.prog 52 #[.pointer (some ⟨(H p).pb, 0, none⟩), .string nKey, .slice va vn vc] W fun e W' => ∃ (x : ByteArray) (sa : Option Addr) (sc : Nat), e = .returned (.tuple #[.agg #[.int .i64 (if C = [] then 0 else 2), .string x, .int .i64 C.length, .slice sa 0 sc], .nilIface]) ∧ Below W.heap.size W W' := by
  have hgl := hS.gl
  have hsz := hS.size
  have hfew := hN.few
  have hst := hN.st0 p hp (fun m hm => by simp at hm)
  have hchk := hN.chkS k1 n6 hp (by omega)
  have hle : leB (snapV (V p)) (snapV (V p)) = true := by
    unfold leB
    rw [List.all_eq_true]
    intro i _
    exact decide_eq_true (Int.le_refl _)
  have h2 : two (snapV (V p)) (snapV (V p)) = 0 := by
    unfold two
    rw [hchk]
    simp
  have hok : StOk (V p).st (V p).n := by
    rw [hst, hN.vn p hp]
    exact stOf_ok hN.kept (by omega) n6 fun c hc => (hN.com c hc).small
  have hbase : leB (V p).st.base (snapV (V p)) = true := by
    rw [hst]
    unfold leB
    rw [List.all_eq_true]
    intro i hi
    have hi' : i < n := by simpa [stOf] using hi
    have : (stOf n C).base.getD i 0 = 0 := by
      show (List.replicate n (0 : Int)).getD i 0 = 0
      rw [List.getD_eq_getElem?_getD, List.getElem?_replicate]
      split <;> rfl
    rw [this]
    exact decide_eq_true (hN.snapB k1 hp (by omega) i hi').1
  refine (read_any A W hS.e4 (by omega) (H p) (V p) (a.at_ p hp) nKey (by decide) va vn vc (snapV (V p)) hv h2 hle hok hbase (by rw [hst]; exact rowOf_few hN.kept (by omega) _)).mono ?_
  rintro e W' ⟨v, ds, he, hI, ⟨sv, hv', hsv⟩, hb⟩
  rw [hst] at hI
  obtain ⟨q1, q2, q3⟩ := net_val hN.com hN.kept hall hI
  rw [q3] at hsv
  obtain ⟨sa, sc, hsa, _⟩ := hsv
  rw [hv', q1, q2, hsa] at he
  exact ⟨_, sa, sc, he, hb⟩
end Go.Proofs.YtepnghacjggkkaaGreatDoor
namespace Go.Proofs.YtepnghacjggkkaaGreatDoor
open Go.RowKit Go.Maps
set_option maxRecDepth 10000
set_option linter.unusedSectionVars false
variable [Inhabited ComV] [DecidableEq D3] [Inhabited D3] [Inhabited Dd] [Inhabited Dn] [Inhabited OpV]

structure NetMv (n : Nat) (W W' : World) (H : Nat → PlH) (V : Nat → PlV) (H' : Nat → PlH) (V' : Nat → PlV) : Prop where
  size : W.heap.size ≤ W'.heap.size
  off : ∀ b, b < W.heap.size → Off n H V b → Off n H' V' b ∧ W'.heap[b]? = W.heap[b]?
  keeps : Keeps W W'
  pb : ∀ i, i < n → (H' i).pb = (H i).pb
variable {w W W' W2 : World} {n k t p : Nat} {C : List ComV} {H H' H2 : Nat → PlH} {V V' V2 : Nat → PlV}
theorem NetMv.trans (a : NetMv n W W' H V H' V') (b : NetMv n W' W2 H' V' H2 V2) : NetMv n W W2 H V H2 V2 :=
  ⟨Nat.le_trans a.size b.size, fun q hq ho => by
    obtain ⟨h1, h2⟩ := a.off q hq ho
    obtain ⟨h3, h4⟩ := b.off q (Nat.lt_of_lt_of_le hq a.size) h1
    exact ⟨h3, h4.trans h2⟩, fun t ht q cs hc => by
    have h1 := a.keeps t ht q cs hc
    exact (b.keeps t ht q cs (h1.trans hc)).trans h1, fun i hi => (b.pb i hi).trans (a.pb i hi)⟩
theorem NetMv.refl : NetMv n W W H V H V := ⟨Nat.le_refl _, fun _ _ h => ⟨h, rfl⟩, fun _ _ _ _ _ => rfl, fun _ _ => rfl⟩
theorem NetMv.below (hb : Below W.heap.size W W') : NetMv n W W' H V H V := ⟨hb.size, fun b hlt h => ⟨h, hb.block b hlt⟩, fun _ _ b _ hc => hb.block b (lt_of_heap hc), fun _ _ => rfl⟩
theorem NetMv.of {j : Nat} (hj : j < n) {h' : PlH} {v' : PlV} (hM : PlMoves W W' (H j) (V j) h' v') (hpb : h'.pb = (H j).pb) : NetMv n W W' H V (updP H j h') (updP V j v') :=
  ⟨hM.size, fun b hlt h => h.move hlt hj hM, hM.keeps, fun i hi => by
    by_cases e : i = j
    · subst e; rw [updP_at]; exact hpb
    · rw [updP_ne _ _ e]⟩
theorem NetMv.own {z e m B : Nat} {v : Value} {xs : List Value} (a : NetMv n W W' H V H' V') (h : W.ownsRow B e z v m xs) (ho : ∀ q, v.ownBlock = some q → Off n H V q) : W'.ownsRow B e z v m xs ∧ ∀ q, v.ownBlock = some q → Off n H' V' q :=
  ⟨own_keep h fun q hq => (a.off q (h.lt q hq).2 (ho q hq)).2, fun q hq => (a.off q (h.lt q hq).2 (ho q hq)).1⟩
theorem NetAt.turn (a : NetAt w n H V W) {g : Nat} (ho : Off n H V g) (hg : w.heap.size ≤ g) (hk : Keeps W W') (hos : W'.os = W.os) (htape : W'.tape = W.tape) (hout : W'.output = W.output) (hsz : W.heap.size ≤ W'.heap.size) (hb : ∀ b, b < W.heap.size → b ≠ g → W'.heap[b]? = W.heap[b]?) : NetAt w n H V W' :=
  ⟨⟨hos.trans a.bel.os, htape.trans a.bel.tape, hout.trans a.bel.output, Nat.le_trans a.bel.size hsz, fun b hb' => (hb b (Nat.lt_of_lt_of_le hb' a.bel.size) (by omega)).trans (a.bel.block b hb')⟩, fun i hi => (a.at_ i hi).keep (fun b hb' => hb b ((a.at_ i hi).lt hb') fun e => ho i hi (e ▸ hb')) hk, a.low, a.apart⟩
theorem leB_len {a b : List Int} (h : leB a b = true) : ∀ i, i < a.length → a.getD i 0 ≤ b.getD i 0 := fun i hi => of_decide_eq_true ((List.all_eq_true.1 h) i (List.mem_range.2 hi))
theorem leB_mk {a b : List Int} (h : ∀ i, i < a.length → a.getD i 0 ≤ b.getD i 0) : leB a b = true := List.all_eq_true.2 fun i hi => decide_eq_true (h i (List.mem_range.1 hi))
theorem leB_trans' {a b c : List Int} (hl : a.length = b.length) (h1 : leB a b = true) (h2 : leB b c = true) : leB a c = true :=
  leB_mk fun i hi => Int.le_trans (leB_len h1 i hi) (leB_len h2 i (by omega))
theorem nxt_le (hN : NetI n k C t [] H V) (hp : p < n) : leB (snapV (V p)) (nxt V p).when_ = true := leB_mk fun i hi => by
  have hl : (snapV (V p)).length = n := by rw [snapV_len, hN.vn p hp]
  show _ ≤ ((snapV (V p)).set p ((V p).ck + 1)).getD i 0
  rw [getD_set (by omega)]
  split
  · rename_i e
    rw [e, snap_get (by rw [hN.vn p hp]; exact hp)]
    unfold snapJ
    rw [if_pos (hN.vid p hp).symm]
    omega
  · exact Int.le_refl _
theorem NetI.start {k : Nat} (hnn : ∀ j, j < n → (H j).nn = 0) (hX : ∀ j i s, j < n → i < n → i ≠ j → s < k → ((H j).X i s).n = 0) : NetI n k [] 0 [] H (fun i => pv0 i n k) := by
  refine ⟨fun _ _ => rfl, fun _ _ => rfl, fun _ _ => rfl, fun _ _ => Int.le_refl _, fun _ _ => Int.le_refl _, fun _ _ _ _ _ _ _ => ?_, fun _ _ _ _ _ _ _ _ => rfl, fun _ _ _ _ _ _ _ _ => ⟨rfl, rfl⟩, fun _ _ _ m _ _ _ _ hm => by simp at hm, List.Pairwise.nil, fun m hm => by simp at hm, fun _ _ _ => rfl, fun _ m _ hm => by simp at hm, fun c hc => by simp at hc, KeptL.nil n, fun c hc => by simp at hc, Nat.le_refl _, fun j hj => ⟨0, by rw [hnn j hj]; exact Nat.le_refl _, fun i s hi hij hs => by rw [hX j i s hj hi hij hs]; exact Nat.le_refl _, by simp⟩⟩
  exact ⟨Int.le_refl _, Int.le_refl _, Nat.le_refl _, Int.le_refl _, Int.le_refl _⟩
end Go.Proofs.YtepnghacjggkkaaGreatDoor
