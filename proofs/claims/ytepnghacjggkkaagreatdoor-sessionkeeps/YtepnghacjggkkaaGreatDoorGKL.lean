/- The commits of one place; what is read of ops of one's own is read when they are committed: plain mathematics; Contracts of Go's library at this program's numbers, by the kit's own layings. -/
import Derived.Test.YtepnghacjggkkaaGreatDoorGVStand
import Derived.Test.YtepnghacjggkkaaGreatDoorGLJ
import Derived.Test.YtepnghacjggkkaaGreatDoorGWPart
import Derived.Test.YtepnghacjggkkaaGreatDoorProg
import Derived.Shelf.SlicesQ.IndexFunc
namespace Go.Proofs.YtepnghacjggkkaaGreatDoor
open Go.RowKit
set_option linter.unusedSectionVars false
variable [Inhabited ComV] [DecidableEq D3] [Inhabited D3] [Inhabited Dd] [Inhabited Dn] [Inhabited OpV]

theorem op_kind {o : OpV} {n : Int} (h : opErr o n = 0) : o.kind = 1 ∨ o.kind = 2 ∨ o.kind = 3 := by
  unfold opErr at h
  split at h
  · exact absurd h (by decide)
  · split at h
    · exact absurd h (by decide)
    · split at h
      · exact absurd h (by decide)
      · rename_i hk
        have : kindB o.kind = true := by simpa using hk
        simpa [kindB] using this
theorem snoc_ind {α : Type} {P : List α → Prop} (h0 : P []) (h1 : ∀ l a, P l → P (l ++ [a])) (l : List α) : P l := by
  have h : ∀ n, ∀ l : List α, l.length = n → P l := fun n => by
    induction n with
    | zero => intro l hl; rw [List.eq_nil_of_length_eq_zero hl]; exact h0
    | succ n ih =>
      intro l hl
      have hn : l ≠ [] := fun e => by rw [e] at hl; simp at hl
      rw [← List.dropLast_concat_getLast hn]
      exact h1 _ _ (ih _ (by rw [List.length_dropLast]; omega))
  exact h l.length l rfl
structure KpC (C : List ComV) : Prop where
  ok : ∀ c ∈ C, ComOk c
  when_ : ∀ (i : Nat) c, C[i]? = some c → c.when_ = [(i : Int) + 1]
  place : ∀ c ∈ C, c.place = 0
  at_ : ∀ c ∈ C, ∀ (j : Nat) o, c.ops[j]? = some o → o.at_ = (j : Int)
  old : ∀ (i : Nat) c, C[i]? = some c → ∀ o ∈ c.ops, ∀ d ∈ o.dots, d.t ≤ (i : Int)
theorem KpC.nil : KpC [] := ⟨fun _ h => by simp at h, fun _ _ h => by simp at h, fun _ h => by simp at h, fun _ h => by simp at h, fun _ _ h => by simp at h⟩
theorem KpC.left {C : List ComV} {c : ComV} (h : KpC (C ++ [c])) : KpC C :=
  ⟨fun x hx => h.ok x (by simp [hx]), fun i x hx => h.when_ i x (by rw [List.getElem?_append_left (List.getElem?_eq_some_iff.1 hx).1]; exact hx), fun x hx => h.place x (by simp [hx]), fun x hx => h.at_ x (by simp [hx]), fun i x hx => h.old i x (by rw [List.getElem?_append_left (List.getElem?_eq_some_iff.1 hx).1]; exact hx)⟩
theorem KpC.last {C : List ComV} {c : ComV} (h : KpC (C ++ [c])) : c.when_ = [(C.length : Int) + 1] := h.when_ C.length c (by simp)
theorem flatK_app (C : List ComV) (c : ComV) : flatA (C ++ [c]) = flatA C ++ c.ops.map (dnOf c) := by
  unfold flatA
  rw [List.flatMap_append]
  simp
theorem dn_last {C : List ComV} {c : ComV} (h : KpC (C ++ [c])) {o : OpV} : dnOf c o = ⟨o, ⟨0, (C.length : Int) + 1, o.at_⟩, (C.length : Int) + 1⟩ := by
  unfold dnOf
  rw [h.last, h.place c (by simp)]
  simp [sum, sumTo]
theorem KpC.dot {C : List ComV} : KpC C → ∀ d ∈ flatA C, d.dot.p = 0 ∧ d.wt = d.dot.t ∧ 1 ≤ d.dot.t ∧ d.dot.t ≤ C.length := by
  refine snoc_ind (P := fun C => KpC C → ∀ d ∈ flatA C, d.dot.p = 0 ∧ d.wt = d.dot.t ∧ 1 ≤ d.dot.t ∧ d.dot.t ≤ C.length) ?_ ?_ C
  · intro _ d hd; simp [flatA] at hd
  · intro C c ih h d hd
    rw [flatK_app, List.mem_append] at hd
    rcases hd with hd | hd
    · obtain ⟨h1, h2, h3, h4⟩ := ih h.left d hd
      refine ⟨h1, h2, h3, ?_⟩
      rw [List.length_append]
      simp
      omega
    · obtain ⟨o, ho, rfl⟩ := List.mem_map.1 hd
      rw [dn_last h]
      refine ⟨rfl, rfl, ?_, ?_⟩ <;> simp <;> omega
theorem KpC.rise {C : List ComV} : KpC C → (flatA C).Pairwise (fun x y => x.dot.t < y.dot.t ∨ x.dot.t = y.dot.t ∧ x.dot.a < y.dot.a) := by
  refine snoc_ind (P := fun C => KpC C → (flatA C).Pairwise (fun x y => x.dot.t < y.dot.t ∨ x.dot.t = y.dot.t ∧ x.dot.a < y.dot.a)) ?_ ?_ C
  · intro _; exact List.Pairwise.nil
  · intro C c ih h
    rw [flatK_app, List.pairwise_append]
    refine ⟨ih h.left, ?_, fun x hx y hy => ?_⟩
    · rw [List.pairwise_map, List.pairwise_iff_getElem]
      intro i j hi hj hij
      rw [dn_last h, dn_last h]
      right
      refine ⟨rfl, ?_⟩
      rw [h.at_ c (by simp) i _ (List.getElem?_eq_getElem hi), h.at_ c (by simp) j _ (List.getElem?_eq_getElem hj)]
      show (i : Int) < (j : Int)
      omega
    · left
      have := (h.left.dot x hx).2.2.2
      obtain ⟨o, ho, rfl⟩ := List.mem_map.1 hy
      rw [dn_last h]
      show x.dot.t < (C.length : Int) + 1
      omega
theorem KpC.ne {C : List ComV} (h : KpC C) : (flatA C).Pairwise (fun x y => x.dot ≠ y.dot) := h.rise.imp fun q e => by rw [e] at q; omega
theorem flatK_dots : ∀ C : List ComV, (flatA C).map (·.dot) = C.flatMap dotsC
  | [] => rfl
  | c :: C => by
    show (c.ops.map (dnOf c) ++ flatA C).map (·.dot) = dotsC c ++ C.flatMap dotsC
    rw [List.map_append, flatK_dots C, List.map_map]
    rfl
theorem KpC.kept {C : List ComV} (h : KpC C) : KeptL 1 C := by
  have wh : ∀ c ∈ C, ∃ i : Nat, c.when_ = [(i : Int) + 1] := fun c hc => by
    obtain ⟨i, hi⟩ := List.getElem?_of_mem hc
    exact ⟨i, h.when_ i c hi⟩
  refine ⟨h.ok, fun c hc => ?_, fun c hc => ?_, ?_⟩
  · obtain ⟨i, e⟩ := wh c hc
    rw [e]; rfl
  · obtain ⟨i, e⟩ := wh c hc
    rw [e]
    simp [leB]
  · rw [← flatK_dots, List.Nodup, List.pairwise_map]
    exact h.ne
theorem seenK_flat (C : List ComV) (key : ByteArray) (at_ : List Int) (hle : ∀ c ∈ C, leB c.when_ at_ = true) : flatA (seenL (stOf 1 C) key at_) = (flatA C).filter fun x => decide (x.o.key = key) := by
  have h1 : seenL (stOf 1 C) key at_ = (C.flatMap partsC).filter fun c => decide (keyOfC c = key) := by
    show List.filter _ (List.filter _ (C.flatMap partsC)) = _
    rw [List.filter_eq_self]
    intro x hx
    obtain ⟨c, hc, hx⟩ := List.mem_flatMap.1 (List.mem_filter.1 hx).1
    obtain ⟨o, ho, rfl⟩ := List.mem_map.1 hx
    exact hle c hc
  rw [h1]
  clear h1 hle
  induction C with
  | nil => rfl
  | cons c C ih =>
    have e : flatA (c :: C) = c.ops.map (dnOf c) ++ flatA C := rfl
    rw [List.flatMap_cons, List.filter_append, e, List.filter_append, ← ih]
    show List.flatMap _ (_ ++ _) = _
    rw [List.flatMap_append]
    congr 1
    unfold partsC
    induction c.ops with
    | nil => rfl
    | cons o os ih2 =>
      rw [List.map_cons, List.map_cons, List.filter_cons, List.filter_cons]
      by_cases q : o.key = key
      · rw [if_pos (by exact decide_eq_true q), if_pos (by exact decide_eq_true q), List.flatMap_cons, ih2]
        rfl
      · rw [if_neg (by simpa [keyOfC, partC] using q), if_neg (by simpa [dnOf] using q), ih2]
theorem once_self : ∀ (ds acc : List Dn), (acc ++ ds).Pairwise (fun x y => x.dot ≠ y.dot) → ds.foldl addDn acc = acc ++ ds
  | [], acc, _ => by simp
  | d :: ds, acc, h => by
    have hn : hasDot acc d.dot = false := by
      unfold hasDot
      rw [List.any_eq_false]
      intro x hx
      have := (List.pairwise_append.1 h).2.2 x hx d (by simp)
      simpa using this
    have e : addDn acc d = acc ++ [d] := by
      unfold addDn
      rw [hn]
      simp
    rw [List.foldl_cons, e, once_self ds (acc ++ [d]) (by rw [List.append_assoc]; exact h), List.append_assoc]
    rfl
theorem KpC.order {C : List ComV} (h : KpC C) (key : ByteArray) {at_ : List Int} (hle : ∀ c ∈ C, leB c.when_ at_ = true) : InOrder key (seenL (stOf 1 C) key at_) ((flatA C).filter fun x => decide (x.o.key = key)) := by
  have hf := seenK_flat C key at_ hle
  have hn : ((flatA C).filter fun x => decide (x.o.key = key)).Pairwise (fun x y => x.dot ≠ y.dot) := h.ne.filter _
  have ho : onceA (seenL (stOf 1 C) key at_) = (flatA C).filter fun x => decide (x.o.key = key) := by
    rw [onceA_flat, hf, once_self _ [] (by simpa using hn)]
    rfl
  refine ⟨?_, ?_⟩
  · rw [ho, List.filter_filter]
    simp
  · refine List.Pairwise.imp_of_mem ?_ (h.rise.filter _)
    intro x y hx hy q
    have h1 := h.dot x (List.mem_filter.1 hx).1
    have h2 := h.dot y (List.mem_filter.1 hy).1
    unfold ltN ltD
    rw [decide_eq_false_iff_not, decide_eq_true_eq]
    omega
def opsK (C : List ComV) (key : ByteArray) : List Dn := ofKind ((flatA C).filter fun x => decide (x.o.key = key))
theorem KpC.isOps {C : List ComV} (h : KpC C) {key : ByteArray} {at_ : List Int} (hle : ∀ c ∈ C, leB c.when_ at_ = true) {ds : List Dn} (hd : IsOps key (seenL (stOf 1 C) key at_) ds) : ds = opsK C key := isOps_eq hd (h.order key hle)
structure OwnOk (C : List ComV) (os : List OpV) : Prop where
  err : ∀ o ∈ os, opErr o 1 = 0
  zero : ∀ o ∈ os, o.at_ = 0
  old : ∀ o ∈ os, ∀ d ∈ o.dots, ∃ x ∈ standA (opsK C o.key), x.o.text = o.text ∧ x.dot = d
theorem OwnOk.nil (C : List ComV) : OwnOk C [] := ⟨fun _ h => by simp at h, fun _ h => by simp at h, fun _ h => by simp at h⟩
theorem opErr_at {o : OpV} {n : Int} (h : opErr o n = 0) (i : Nat) (hi : i < 12) : opErr { o with at_ := (i : Int) } n = 0 := by
  have h1 : ¬ (n < 1 ∨ 6 < n ∨ o.at_ < 0 ∨ 12 ≤ o.at_) := fun q => by
    unfold opErr at h
    rw [if_pos q] at h
    exact absurd h (by decide)
  have e : opErr { o with at_ := (i : Int) } n = opErr o n := by
    unfold opErr
    rw [if_neg h1, if_neg (by simp only; omega)]
    rfl
  rw [e, h]
theorem standK_mem {C : List ComV} {key : ByteArray} {x : Dn} (h : x ∈ standA (opsK C key)) : x ∈ flatA C :=
  (List.mem_filter.1 (ofKind_mem (List.mem_filter.1 h).1).1).1
def comK (C : List ComV) (os : List OpV) : ComV := comN [(C.length : Int)] 0 ((C.length : Int) + 1) os
theorem comK_when (C : List ComV) (os : List OpV) : (comK C os).when_ = [(C.length : Int) + 1] := rfl
theorem KpC.next {C : List ComV} (h : KpC C) (hl : C.length ≤ 100) {os : List OpV} (ho : OwnOk C os) (h0 : os ≠ []) (h12 : os.length ≤ 12) : KpC (C ++ [comK C os]) := by
  have hops : ∀ (j : Nat) o, (comK C os).ops[j]? = some o → ∃ o', os[j]? = some o' ∧ o = { o' with at_ := (j : Int) } := fun j o hj => by
    have hj' : (opsIdx os)[j]? = some o := hj
    rw [opsIdx_get] at hj'
    obtain ⟨o', h1, h2⟩ := Option.map_eq_some_iff.1 hj'
    exact ⟨o', h1, h2.symm⟩
  have hlen : (comK C os).ops.length = os.length := opsIdx_len os
  have hget : ∀ i, i < os.length → ∃ o', os[i]? = some o' ∧ (comK C os).ops[i]! = { o' with at_ := (i : Int) } := fun i hi => by
    have hi' : i < (comK C os).ops.length := by omega
    obtain ⟨o', h1, h2⟩ := hops i _ (List.getElem?_eq_getElem hi')
    exact ⟨o', h1, by rw [getElem!_pos _ i hi']; exact h2⟩
  have hok : ComOk (comK C os) := by
    refine ⟨?_, Int.le_refl _, ?_, ?_, by omega, fun e => h0 ?_, fun i hi => ?_⟩
    · rw [comK_when]
      simp [chk, inR]
      omega
    · rw [comK_when]
      exact (by decide : (0 : Int) < 1)
    · rw [comK_when]
      show (C.length : Int) + 1 ≠ 0
      omega
    · rw [e] at hlen
      exact List.eq_nil_of_length_eq_zero hlen.symm
    · rw [hlen] at hi
      rw [comK_when]
      obtain ⟨o, h1, h2⟩ := hget i hi
      have he : opErr { o with at_ := (i : Int) } 1 = 0 := opErr_at (ho.err o (List.mem_of_getElem? h1)) i (by omega)
      unfold opBad
      show (if opErr (comK C os).ops[i]! 1 ≠ 0 then _ else _) = 0
      rw [h2, if_neg (by rw [he]; decide), if_neg]
      rintro ⟨q1, q2⟩
      obtain ⟨o2, _, h4⟩ := hget (i - 1) (by omega)
      rw [h4] at q2
      simp only at q2
      omega
  have hgc : ∀ (i : Nat) c, (C ++ [comK C os])[i]? = some c → C[i]? = some c ∨ i = C.length ∧ c = comK C os := fun i c hi => by
    rcases Nat.lt_or_ge i C.length with q | q
    · rw [List.getElem?_append_left q] at hi; exact .inl hi
    · rw [List.getElem?_append_right q] at hi
      obtain ⟨h1, h2⟩ := List.getElem?_eq_some_iff.1 hi
      simp at h1
      have : i = C.length := by omega
      subst this
      simp at h2
      exact .inr ⟨rfl, h2.symm⟩
  refine ⟨fun c hc => ?_, fun i c hi => ?_, fun c hc => ?_, fun c hc j o hj => ?_, fun i c hi o hoc d hd => ?_⟩
  · rcases List.mem_append.1 hc with hc | hc
    · exact h.ok c hc
    · rw [List.mem_singleton.1 hc]; exact hok
  · rcases hgc i c hi with q | ⟨rfl, rfl⟩
    · exact h.when_ i c q
    · rfl
  · rcases List.mem_append.1 hc with hc | hc
    · exact h.place c hc
    · rw [List.mem_singleton.1 hc]; rfl
  · rcases List.mem_append.1 hc with hc | hc
    · exact h.at_ c hc j o hj
    · rw [List.mem_singleton.1 hc] at hj
      obtain ⟨o', _, e⟩ := hops j o hj
      rw [e]
  · rcases hgc i c hi with q | ⟨rfl, rfl⟩
    · exact h.old i c q o hoc d hd
    · obtain ⟨j, hj⟩ := List.getElem?_of_mem hoc
      obtain ⟨o', h1, e⟩ := hops j o hj
      rw [e] at hd
      obtain ⟨x, hx, _, e2⟩ := ho.old o' (List.mem_of_getElem? h1) d hd
      have := (h.dot x (standK_mem hx)).2.2.2
      rw [← e2]
      exact this
theorem bare_idx {C : List ComV} {os : List OpV} (hz : ∀ o ∈ os, o.at_ = 0) (key : ByteArray) : ((((comK C os).ops.map (dnOf (comK C os))).filter fun x => decide (x.o.key = key))).map bare = os.filter fun o => decide (o.key = key) := by
  have h1 : ((comK C os).ops.map (dnOf (comK C os))).map bare = os := by
    rw [List.map_map]
    refine List.ext_getElem? fun i => ?_
    rw [List.getElem?_map]
    show Option.map _ (opsIdx os)[i]? = _
    rw [opsIdx_get]
    cases q : os[i]? with
    | none => rfl
    | some o =>
      have := hz o (List.mem_of_getElem? q)
      show some _ = some o
      congr 1
      obtain ⟨a, b, c, d, e, f, g⟩ := o
      simp only at this
      subst this
      rfl
  have h2 : ∀ l : List Dn, (l.filter fun x => decide (x.o.key = key)).map bare = (l.map bare).filter fun o => decide (o.key = key) := fun l => by
    rw [List.filter_map]
    rfl
  rw [h2, h1]
theorem KpC.keeps {C : List ComV} (h : KpC C) (hl : C.length ≤ 100) {os : List OpV} (ho : OwnOk C os) (h0 : os ≠ []) (h12 : os.length ≤ 12) (key : ByteArray) : valA (opsK (C ++ [comK C os]) key) = ownVal (opsK C key) (valA (opsK C key)) (os.filter fun o => decide (o.key = key)) := by
  have hn := h.next hl ho h0 h12
  unfold opsK
  rw [flatK_app, List.filter_append]
  refine own_value ?_ (bare_idx ho.zero key)
  have hall := hn.ne
  rw [flatK_app] at hall
  have hop : ∀ d ∈ flatA (C ++ [comK C os]), opErr d.o 1 = 0 := fun d hd => by
    obtain ⟨c, hc, hd⟩ := flat_mem.1 hd
    obtain ⟨o, hoc, rfl⟩ := List.mem_map.1 hd
    obtain ⟨i, hi⟩ := List.getElem?_of_mem hc
    have hw := hn.when_ i c hi
    obtain ⟨j, hj, rfl⟩ := List.getElem_of_mem hoc
    have := opErr_of_bad ((hn.ok c hc).ops j hj)
    rw [hw, getElem!_pos c.ops j hj] at this
    exact this
  have hmem : ∀ d, d ∈ ((flatA C).filter fun x => decide (x.o.key = key)) ++ (((comK C os).ops.map (dnOf (comK C os))).filter fun x => decide (x.o.key = key)) → d ∈ flatA (C ++ [comK C os]) := fun d hd => by
    rw [flatK_app]
    rcases List.mem_append.1 hd with q | q
    · exact List.mem_append_left _ (List.mem_filter.1 q).1
    · exact List.mem_append_right _ (List.mem_filter.1 q).1
  refine ⟨?_, fun d hd => ?_, fun d hd hr => ?_, fun y hy d hd => ?_, fun y hy d hd z hz => ?_⟩
  · rw [← List.filter_append]
    exact hall.filter _
  · have := hop d (hmem d hd)
    exact op_kind this
  · exact op_rem (hop d (hmem d hd)) hr
  · obtain ⟨hy1, hy2⟩ := List.mem_filter.1 hy
    have hy2 : y.o.key = key := of_decide_eq_true hy2
    obtain ⟨o, hoc, rfl⟩ := List.mem_map.1 hy1
    obtain ⟨j, hj⟩ := List.getElem?_of_mem hoc
    have hj' : (opsIdx os)[j]? = some o := hj
    rw [opsIdx_get] at hj'
    obtain ⟨o', q1, rfl⟩ := Option.map_eq_some_iff.1 hj'
    obtain ⟨x, hx, e1, e2⟩ := ho.old o' (List.mem_of_getElem? q1) d hd
    have hk : o'.key = key := hy2
    rw [hk] at hx
    exact ⟨x, hx, e1, e2⟩
  · obtain ⟨c, hc, hyc⟩ := flat_mem.1 (List.mem_filter.1 hy).1
    obtain ⟨o, hoc, rfl⟩ := List.mem_map.1 hyc
    obtain ⟨i, hi⟩ := List.getElem?_of_mem hc
    have h1 := h.old i c hi o hoc d hd
    have h2 : i < C.length := (List.getElem?_eq_some_iff.1 hi).1
    obtain ⟨o2, _, rfl⟩ := List.mem_map.1 (List.mem_filter.1 hz).1
    rw [dn_last hn]
    intro e
    rw [← e] at h1
    simp only at h1
    omega
end Go.Proofs.YtepnghacjggkkaaGreatDoor
namespace Go.Proofs
open Go.Shelf
def Tryz.idxOp_ren : Go.Shelf.Ren := ⟨fun | 6 => 80 | n => n, fun | 22 => 45 | 23 => 97 | 25 => 126 | 3 => 3 | 0 => 0 | 4 => 4 | n => n, fun | n => n⟩
theorem Tryz.idxOp : Go.Proofs.SlLaysH0.n6 Tryz.prog Tryz.idxOp_ren := {
  mixed := by kernel_rfl
  f6 := ⟨Tryz.f80.name, by decide, Tryz.func80.trans (congrArg some (by kernel_rfl))⟩
  t0 := Tryz.underlying0
  a0 := Tryz.isAgg0
  z0 := Tryz.sizeOf0
  v0 := Tryz.zeroValue0
  t3 := Tryz.underlying3
  a3 := Tryz.isAgg3
  z3 := Tryz.sizeOf3
  v3 := Tryz.zeroValue3
  t4 := Tryz.underlying4
  a4 := Tryz.isAgg4
  z4 := Tryz.sizeOf4
  v4 := Tryz.zeroValue4
  t22 := Tryz.underlying45
  a22 := Tryz.isAgg45
  z22 := Tryz.sizeOf45
  v22 := Tryz.zeroValue45
  t25 := Tryz.underlying126
  a25 := Tryz.isAgg126
  z25 := Tryz.sizeOf126
  v25 := Tryz.zeroValue126 }
def Tryz.hasOp_ren : Go.Shelf.Ren := ⟨fun | 8 => 102 | 6 => 80 | n => n, fun | 22 => 45 | 23 => 97 | 25 => 126 | 4 => 4 | 3 => 3 | 0 => 0 | n => n, fun | n => n⟩
theorem Tryz.hasOp : Go.Proofs.SlLaysH0.n8 Tryz.prog Tryz.hasOp_ren := {
  mixed := by kernel_rfl
  f6 := ⟨Tryz.f80.name, by decide, Tryz.func80.trans (congrArg some (by kernel_rfl))⟩
  f8 := ⟨Tryz.f102.name, by decide, Tryz.func102.trans (congrArg some (by kernel_rfl))⟩
  t0 := Tryz.underlying0
  a0 := Tryz.isAgg0
  z0 := Tryz.sizeOf0
  v0 := Tryz.zeroValue0
  t3 := Tryz.underlying3
  a3 := Tryz.isAgg3
  z3 := Tryz.sizeOf3
  v3 := Tryz.zeroValue3
  t4 := Tryz.underlying4
  a4 := Tryz.isAgg4
  z4 := Tryz.sizeOf4
  v4 := Tryz.zeroValue4
  t22 := Tryz.underlying45
  a22 := Tryz.isAgg45
  z22 := Tryz.sizeOf45
  v22 := Tryz.zeroValue45
  t25 := Tryz.underlying126
  a25 := Tryz.isAgg126
  z25 := Tryz.sizeOf126
  v25 := Tryz.zeroValue126 }
end Go.Proofs
