/- What ops tell, settled or not: plain mathematics, part 2; What ops tell, settled or not: plain mathematics, part 3; What ops tell, settled or not: plain mathematics, part 4; What the walks make of rows of parts is what the mathematics speaks of; settle by its contract: which are settled, which are open; A store whose parts lie apart, when one of its rows is settled; What stands while Prune goes over its keys. -/
import Derived.Test.YtdnebclemngdcaaGreatDoorJQM1
import Derived.Test.YtdnebclemngdcaaGreatDoorJQN1
import Derived.Test.YtdnebclemngdcaaGreatDoorJWKeys
namespace Go.Proofs.YtdnebclemngdcaaGreatDoor
open Go.RowKit Go.Sort Go.Maps
set_option linter.unusedSectionVars false
variable [Inhabited ComV] [DecidableEq D3] [Inhabited D3] [Inhabited Dd] [Inhabited Dn] [Inhabited OpV]

structure Ord (ys : List Dn) : Prop where
  rise : ys.Pairwise fun a b => ltN b a = false
  ne : ys.Pairwise fun a b => a.dot ≠ b.dot
theorem Ord.lt {ys : List Dn} (h : Ord ys) : ys.Pairwise fun a b => ltN a b = true := by
  refine (h.rise.and h.ne).imp ?_; intro a b ⟨h1, h2⟩
  cases h3 : ltN a b with
  | true => rfl
  | false => exact absurd (ltN_total h3 h1) h2
theorem Ord.cons_least {x : Dn} {ys : List Dn} (h : Ord (x :: ys)) : ∀ y ∈ x :: ys, ltN y x = false := fun y hy => by
  rcases List.mem_cons.1 hy with rfl | hy
  · exact ltN_irrefl _
  · exact (List.pairwise_cons.1 h.rise).1 y hy
theorem Ord.kind {x : Dn} {ys : List Dn} (h : Ord (x :: ys)) {k : Int} : KindIs (x :: ys) k ↔ x.o.kind = k := by
  constructor
  · rintro ⟨z, hz, hk, hl⟩; rcases List.mem_cons.1 hz with rfl | hz
    · exact hk
    · have h1 := (List.pairwise_cons.1 h.lt).1 z hz; rw [hl x (by simp)] at h1; cases h1
  · exact fun e => ⟨x, by simp, e, h.cons_least⟩
theorem kindIs_nil (k : Int) : ¬ KindIs [] k := fun ⟨_, h, _⟩ => by simp at h
theorem Ord.filter {ys : List Dn} (h : Ord ys) (p : Dn → Bool) : Ord (ys.filter p) := ⟨h.rise.filter _, h.ne.filter _⟩
theorem ofKind_cons (x : Dn) (ys : List Dn) : ofKind (x :: ys) = x :: ys.filter (fun y => decide (y.o.kind = x.o.kind)) := by
  unfold ofKind; show (x :: ys).filter (fun y => decide (y.o.kind = x.o.kind)) = _; rw [List.filter_cons, if_pos (by simp)]
theorem mem_ofKind {x : Dn} {ys : List Dn} {z : Dn} : z ∈ ofKind (x :: ys) ↔ z ∈ x :: ys ∧ z.o.kind = x.o.kind := by
  unfold ofKind; show z ∈ (x :: ys).filter (fun y => decide (y.o.kind = x.o.kind)) ↔ _; rw [List.mem_filter, decide_eq_true_eq]
theorem last_most {ys : List Dn} (h : Ord ys) (h0 : ys ≠ []) : ys[ys.length - 1]! ∈ ys ∧ ∀ y ∈ ys, ltN ys[ys.length - 1]! y = false := by
  have hl : 0 < ys.length := List.length_pos_iff.2 h0; rw [getElem!_pos ys _ (by omega)]; refine ⟨List.getElem_mem _, fun y hy => ?_⟩; obtain ⟨i, hi, rfl⟩ := List.getElem_of_mem hy; rcases Nat.lt_or_ge i (ys.length - 1) with h1 | h1
  · exact List.pairwise_iff_getElem.1 h.rise i (ys.length - 1) hi (by omega) h1
  · have e : ys[i] = ys[ys.length - 1] := by congr 1; omega
    rw [e]; exact ltN_irrefl _
theorem Ord.reg {x : Dn} {ys : List Dn} (h : Ord (x :: ys)) (hk : x.o.kind = 1) (t : ByteArray) : RegIs (x :: ys) t ↔ (ofKind (x :: ys))[(ofKind (x :: ys)).length - 1]!.o.text = t := by
  have ho : Ord (ofKind (x :: ys)) := h.filter _; have h0 : ofKind (x :: ys) ≠ [] := by rw [ofKind_cons]; simp
  obtain ⟨h1, h2⟩ := last_most ho h0; obtain ⟨h3, h4⟩ := mem_ofKind.1 h1
  constructor
  · rintro ⟨z, hz, hz1, hzt, hl⟩; have hz' : z ∈ ofKind (x :: ys) := mem_ofKind.2 ⟨hz, hz1.trans hk.symm⟩; have e1 := hl _ h3 (h4.trans hk); have e2 := h2 z hz'; have e := ltN_total e1 e2
    have : z = (ofKind (x :: ys))[(ofKind (x :: ys)).length - 1]! := by
      obtain ⟨i, hi, ei⟩ := List.getElem_of_mem hz'; obtain ⟨j, hj, ej⟩ := List.getElem_of_mem h1; rcases Nat.lt_trichotomy i j with q | q | q
      · have := List.pairwise_iff_getElem.1 ho.ne i j hi hj q; rw [ei, ej] at this; exact absurd e this
      · subst q; rw [← ei, ← ej]
      · have := List.pairwise_iff_getElem.1 ho.ne j i hj hi q; rw [ei, ej] at this; exact absurd e.symm this
    rw [← this]; exact hzt
  · intro e; refine ⟨_, h3, h4.trans hk, e, fun y hy hy1 => h2 y (mem_ofKind.2 ⟨hy, hy1.trans hk.symm⟩)⟩
structure Plain (ys : List Dn) : Prop where
  kind : ∀ x ∈ ys, x.o.kind = 1 ∨ x.o.kind = 2 ∨ x.o.kind = 3
  rem : ∀ x ∈ ys, x.o.rem = false → x.o.dots = []
theorem mem_stand {x : Dn} {ys : List Dn} (h : Ord (x :: ys)) (hp : Plain (x :: ys)) (hk : x.o.kind = 3) {z : Dn} : z ∈ standA (ofKind (x :: ys)) ↔ (z ∈ x :: ys ∧ z.o.kind = 3 ∧ z.o.rem = false) ∧ ¬ ∃ y ∈ x :: ys, rmv y z.o.text z.dot := by
  have ho : Ord (ofKind (x :: ys)) := h.filter _; have hr : ∀ y ∈ ofKind (x :: ys), y.o.rem = false → y.o.dots = [] := fun y hy => hp.rem y (mem_ofKind.1 hy).1
  unfold standA; rw [List.mem_filter]
  constructor
  · rintro ⟨h1, h2⟩; rw [live_final ho.ne hr z h1] at h2; obtain ⟨h3, h4⟩ := mem_ofKind.1 h1; unfold liveB at h2; rw [Bool.and_eq_true, Bool.not_eq_true', Bool.not_eq_true', List.any_eq_false] at h2; refine ⟨⟨h3, h4.trans hk, h2.1⟩, ?_⟩; rintro ⟨y, hy, hy3, hyr, hyt, hyd⟩; refine h2.2 y (mem_ofKind.2 ⟨hy, hy3.trans hk.symm⟩) ?_; simp [hyr, hyt, hyd]
  · rintro ⟨⟨h1, h2, h3⟩, h4⟩; have hm : z ∈ ofKind (x :: ys) := mem_ofKind.2 ⟨h1, h2.trans hk.symm⟩; refine ⟨hm, ?_⟩; rw [live_final ho.ne hr z hm]; unfold liveB; rw [Bool.and_eq_true, Bool.not_eq_true', Bool.not_eq_true', List.any_eq_false]; refine ⟨h3, fun y hy e => h4 ⟨y, (mem_ofKind.1 hy).1, (mem_ofKind.1 hy).2.trans hk, ?_⟩⟩; simp only [Bool.and_eq_true, decide_eq_true_eq] at e; exact ⟨e.1, e.2.1, e.2.2⟩
theorem mem_stand_live {x : Dn} {ys : List Dn} (h : Ord (x :: ys)) (hp : Plain (x :: ys)) (hk : x.o.kind = 3) (t : ByteArray) (d : D3) : (∃ z ∈ standA (ofKind (x :: ys)), z.o.text = t ∧ z.dot = d) ↔ LiveIs (x :: ys) t d := by
  constructor
  · rintro ⟨z, hz, rfl, rfl⟩; obtain ⟨⟨h1, h2, h3⟩, h4⟩ := (mem_stand h hp hk).1 hz; exact ⟨⟨z, h1, h2, h3, rfl, rfl⟩, h4⟩
  · rintro ⟨⟨z, hz, h3, hr, rfl, rfl⟩, h4⟩; exact ⟨z, (mem_stand h hp hk).2 ⟨⟨hz, h3, hr⟩, h4⟩, rfl, rfl⟩
theorem same_val {ys ys' : List Dn} (h : Ord ys) (h' : Ord ys') (hp : Plain ys) (hp' : Plain ys') (hs : Same ys ys') : valA (ofKind ys) = valA (ofKind ys') := by
  cases ys with
  | nil =>
    cases ys' with
    | nil => rfl
    | cons x' ys' => exact absurd ((hs.kind x'.o.kind).2 (h'.kind.2 rfl)) (kindIs_nil _)
  | cons x ys =>
    cases ys' with
    | nil => exact absurd ((hs.kind x.o.kind).1 (h.kind.2 rfl)) (kindIs_nil _)
    | cons x' ys' =>
      have hk : x'.o.kind = x.o.kind := h'.kind.1 ((hs.kind x.o.kind).1 (h.kind.2 rfl))
      have g : ∀ (x : Dn) (ys : List Dn), valA (ofKind (x :: ys)) = if x.o.kind = 1 then ⟨1, (ofKind (x :: ys))[(ofKind (x :: ys)).length - 1]!.o.text, 0, []⟩ else if x.o.kind = 2 then ⟨2, ByteArray.empty, sumN (ofKind (x :: ys)), []⟩ else ⟨3, ByteArray.empty, 0, setA ((standA (ofKind (x :: ys))).map (·.o.text))⟩ := fun x ys => by
        unfold valA; rw [if_neg (by rw [ofKind_cons]; simp)]; have : (ofKind (x :: ys))[0]!.o.kind = x.o.kind := by rw [ofKind_cons]; rfl
        rw [this]
      rw [g, g, hk]
      by_cases h1 : x.o.kind = 1
      · rw [if_pos h1, if_pos h1]; have := (h'.reg (hk.trans h1) _).1 ((hs.reg _).1 ((h.reg h1 _).2 rfl)); rw [this]
      · rw [if_neg h1, if_neg h1]
        by_cases h2 : x.o.kind = 2
        · rw [if_pos h2, if_pos h2]
          have e : ∀ (x : Dn) (ys : List Dn), x.o.kind = 2 → ofKind (x :: ys) = (x :: ys).filter fun y => decide (y.o.kind = 2) := fun x ys hx => by
            unfold ofKind; show (x :: ys).filter (fun y => decide (y.o.kind = x.o.kind)) = _; rw [hx]
          rw [e x ys h2, e x' ys' (hk.trans h2)]; have := hs.sum; unfold sumK at this; rw [this]
        · rw [if_neg h2, if_neg h2]; have h3 : x.o.kind = 3 := by have := hp.kind x (by simp); omega
          congr 1
          refine setA_ext fun t => ?_
          rw [List.mem_map, List.mem_map]
          constructor
          · rintro ⟨z, hz, e⟩; obtain ⟨z', hz', e', _⟩ := (mem_stand_live h' hp' (hk.trans h3) t z.dot).2 ((hs.live t z.dot).1 ((mem_stand_live h hp h3 t z.dot).1 ⟨z, hz, e, rfl⟩)); exact ⟨z', hz', e'⟩
          · rintro ⟨z, hz, e⟩; obtain ⟨z', hz', e', _⟩ := (mem_stand_live h hp h3 t z.dot).2 ((hs.live t z.dot).2 ((mem_stand_live h' hp' (hk.trans h3) t z.dot).1 ⟨z, hz, e, rfl⟩)); exact ⟨z', hz', e'⟩
theorem stand_ne {ys : List Dn} (h : Ord ys) (p : Dn → Bool) : ((ys.filter p).map (·.dot)).Pairwise (· ≠ ·) := by
  rw [List.pairwise_map]; exact h.ne.filter _
theorem dotsUp_same {x x' : Dn} {ys ys' : List Dn} (h : Ord (x :: ys)) (h' : Ord (x' :: ys')) (hp : Plain (x :: ys)) (hp' : Plain (x' :: ys')) (hs : Same (x :: ys) (x' :: ys')) (hk : x.o.kind = 3) (hk' : x'.o.kind = 3) (text : ByteArray) : (dotsUp text (ofKind (x :: ys))).Perm (dotsUp text (ofKind (x' :: ys'))) := by
  unfold dotsUp; have ne : ∀ (x : Dn) (ys : List Dn), Ord (x :: ys) → (((standA (ofKind (x :: ys))).filter fun z => decide (z.o.text = text)).map (·.dot)).Pairwise (· ≠ ·) := fun x ys h => stand_ne (ys := standA (ofKind (x :: ys))) ((h.filter _).filter _) _
  refine perm_of_mem (ne x ys h) (ne x' ys' h') fun d => ?_
  simp only [List.mem_map, List.mem_filter, decide_eq_true_eq]
  constructor
  · rintro ⟨z, ⟨hz, e⟩, rfl⟩; obtain ⟨z', hz', e', e2⟩ := (mem_stand_live h' hp' hk' text z.dot).2 ((hs.live text z.dot).1 ((mem_stand_live h hp hk text z.dot).1 ⟨z, hz, e, rfl⟩)); exact ⟨z', ⟨hz', e'⟩, e2⟩
  · rintro ⟨z, ⟨hz, e⟩, rfl⟩; obtain ⟨z', hz', e', e2⟩ := (mem_stand_live h hp hk text z.dot).2 ((hs.live text z.dot).2 ((mem_stand_live h' hp' hk' text z.dot).1 ⟨z, hz, e, rfl⟩)); exact ⟨z', ⟨hz', e'⟩, e2⟩
theorem same_dots {ys ys' : List Dn} (h : Ord ys) (h' : Ord ys') (hp : Plain ys) (hp' : Plain ys') (hs : Same ys ys') {text : ByteArray} {out : List D3} (hd : IsDots text (ofKind ys) out) : IsDots text (ofKind ys') out := by
  cases ys with
  | nil =>
    cases ys' with
    | nil => exact hd
    | cons x' ys' => exact absurd ((hs.kind x'.o.kind).2 (h'.kind.2 rfl)) (kindIs_nil _)
  | cons x ys =>
    cases ys' with
    | nil => exact absurd ((hs.kind x.o.kind).1 (h.kind.2 rfl)) (kindIs_nil _)
    | cons x' ys' =>
      have hk : x'.o.kind = x.o.kind := h'.kind.1 ((hs.kind x.o.kind).1 (h.kind.2 rfl)); have e : (ofKind (x :: ys))[0]!.o.kind = x.o.kind := by rw [ofKind_cons]; rfl
      have e' : (ofKind (x' :: ys'))[0]!.o.kind = x.o.kind := by rw [ofKind_cons, ← hk]; rfl
      have n : ofKind (x :: ys) ≠ [] := by rw [ofKind_cons]; simp
      have n' : ofKind (x' :: ys') ≠ [] := by rw [ofKind_cons]; simp
      unfold IsDots at hd ⊢; rw [e] at hd; rw [e']; rcases hd with ⟨h1, h2⟩ | ⟨⟨_, h1⟩, h2, h3⟩
      · exact .inl ⟨.inr (h1.resolve_left n), h2⟩
      · exact .inr ⟨⟨n', h1⟩, h2.trans (dotsUp_same h h' hp hp' hs h1 (hk.trans h1) text), h3⟩
end Go.Proofs.YtdnebclemngdcaaGreatDoor
namespace Go.Proofs.YtdnebclemngdcaaGreatDoor
open Go.RowKit Go.Sort Go.Maps
set_option linter.unusedSectionVars false
variable [Inhabited ComV] [DecidableEq D3] [Inhabited D3] [Inhabited Dd] [Inhabited Dn] [Inhabited OpV]

def k1 (c : ComV) : OpV := c.ops[0]!
def dn1 (c : ComV) : Dn := dnOf c (k1 c)
def withOp (c : ComV) (o : OpV) : ComV := ⟨c.when_, c.place, [o]⟩
def keepI (p : Nat → ComV → Bool) (l : List ComV) : Nat → List ComV
  | 0 => []
  | k + 1 => keepI p l k ++ (if p k l[k]! then [l[k]!] else [])
theorem keepI_mem {p : Nat → ComV → Bool} {l : List ComV} {c : ComV} : ∀ {k : Nat}, c ∈ keepI p l k ↔ ∃ i, i < k ∧ p i l[i]! = true ∧ l[i]! = c
  | 0 => by simp [keepI]
  | k + 1 => by
    unfold keepI; rw [List.mem_append, keepI_mem]
    constructor
    · rintro (⟨i, h1, h2, h3⟩ | h)
      · exact ⟨i, by omega, h2, h3⟩
      · split at h
        · rename_i hp
          exact ⟨k, by omega, hp, (List.mem_singleton.1 h).symm⟩
        · simp at h
    · rintro ⟨i, h1, h2, h3⟩; rcases Nat.lt_or_ge i k with h | h
      · exact .inl ⟨i, h, h2, h3⟩
      · obtain rfl : i = k := by omega
        rw [if_pos h2]; exact .inr (List.mem_singleton.2 h3.symm)
theorem take_snoc {α : Type} [Inhabited α] {l : List α} {k : Nat} (h : k < l.length) : l.take (k + 1) = l.take k ++ [l[k]!] := by
  rw [List.take_succ_eq_append_getElem h, getElem!_pos l k h]
theorem keepI_sub (p : Nat → ComV → Bool) (l : List ComV) : ∀ k, k ≤ l.length → (keepI p l k).Sublist (l.take k)
  | 0, _ => by simp [keepI]
  | k + 1, h => by
    unfold keepI; rw [take_snoc (by omega)]; refine (keepI_sub p l k (by omega)).append ?_
    split
    · exact List.Sublist.refl _
    · exact List.nil_sublist _
theorem keepI_head {p : Nat → ComV → Bool} (l : List ComV) (h0 : ∀ c, p 0 c = true) : ∀ k, 0 < k → k ≤ l.length → (keepI p l k).head? = l.head?
  | 0, h, _ => by omega
  | 1, _, h => by
    have e : keepI p l 1 = [l[0]!] := by
      show [] ++ _ = _; rw [List.nil_append, if_pos (h0 _)]
    cases l with
    | nil => simp at h
    | cons a r => rw [e]; rfl
  | k + 2, _, h => by
    have ih := keepI_head l h0 (k + 1) (by omega) (by omega); show (keepI p l (k + 1) ++ _).head? = _; rw [List.head?_append, ih]
    cases l with
    | nil => simp at h
    | cons a r => rfl
theorem keepI_all {p : Nat → ComV → Bool} {l : List ComV} : (keepI p l l.length).Sublist l := by
  have := keepI_sub p l l.length (Nat.le_refl _); rwa [List.take_length] at this
theorem keepI_head_all {p : Nat → ComV → Bool} {l : List ComV} (h0 : ∀ c, p 0 c = true) : (keepI p l l.length).head? = l.head? := by
  cases l with
  | nil => rfl
  | cons a r => exact keepI_head _ h0 _ (by simp) (Nat.le_refl _)
theorem keepI_sum {p : Nat → ComV → Bool} {l : List ComV} (h : ∀ i, i < l.length → p i l[i]! = false → (k1 l[i]!).kind ≠ 2) : ∀ k, k ≤ l.length → sumK ((keepI p l k).map dn1) = sumK ((l.take k).map dn1)
  | 0, _ => rfl
  | k + 1, hk => by
    rw [take_snoc (by omega)]; show sumK ((keepI p l k ++ _).map dn1) = _; rw [List.map_append, List.map_append, sumK_append, sumK_append, keepI_sum h k (by omega)]
    congr 1
    split
    · rfl
    · rename_i hp
      have := h k (by omega) (by simpa using hp); rw [List.map_nil, List.map_cons, List.map_nil, sumK_one, if_neg (by exact this)]; rfl
theorem keepI_sum_all {p : Nat → ComV → Bool} {l : List ComV} (h : ∀ i, i < l.length → p i l[i]! = false → (k1 l[i]!).kind ≠ 2) : sumK ((keepI p l l.length).map dn1) = sumK (l.map dn1) := by
  rw [keepI_sum h _ (Nat.le_refl _), List.take_length]
theorem get_mem {α : Type} [Inhabited α] {l : List α} {c : α} (h : c ∈ l) : ∃ i, i < l.length ∧ l[i]! = c := by
  obtain ⟨i, hi, rfl⟩ := List.getElem_of_mem h; exact ⟨i, hi, getElem!_pos l i hi⟩
theorem keepI_step {p : Nat → ComV → Bool} {l : List ComV} (O : List Dn) (h0 : ∀ c, p 0 c = true)
    (hreg : ∀ i, i < l.length → p i l[i]! = false → (k1 l[i]!).kind = 1 → ∃ j, j < l.length ∧ (k1 l[j]!).kind = 1 ∧ ltN (dn1 l[i]!) (dn1 l[j]!) = true)
    (hcnt : ∀ i, i < l.length → p i l[i]! = false → (k1 l[i]!).kind ≠ 2)
    (hadd : ∀ i, i < l.length → p i l[i]! = false → (k1 l[i]!).kind = 3 → (k1 l[i]!).rem = false → ∃ y ∈ l.map dn1, rmv y (k1 l[i]!).text (dn1 l[i]!).dot)
    (hrem : ∀ i, i < l.length → p i l[i]! = false → (k1 l[i]!).kind = 3 → (k1 l[i]!).rem = true → (k1 l[i]!).dots = []) : Step (l.map dn1) ((keepI p l l.length).map dn1) O where
  sub := (keepI_all.map _).map _
  head := by rw [List.head?_map, List.head?_map, List.head?_map, List.head?_map, keepI_head_all h0]
  reg := by
    intro x hx hk hl; obtain ⟨c, hc, rfl⟩ := List.mem_map.1 hx; obtain ⟨i, hi, rfl⟩ := get_mem hc; refine List.mem_map.2 ⟨_, keepI_mem.2 ⟨i, hi, ?_, rfl⟩, rfl⟩
    cases hp : p i l[i]! with
    | true => rfl
    | false =>
      obtain ⟨j, hj, hj1, hlt⟩ := hreg i hi hp hk; have := hl (dn1 l[j]!) (List.mem_map.2 ⟨_, by rw [getElem!_pos l j hj]; exact List.getElem_mem _, rfl⟩) hj1; rw [this] at hlt; cases hlt
  sum := keepI_sum_all hcnt
  gone := by
    intro x hx hk hr; obtain ⟨c, hc, rfl⟩ := List.mem_map.1 hx; obtain ⟨i, hi, rfl⟩ := get_mem hc
    cases hp : p i l[i]! with
    | true => exact .inl (List.mem_map.2 ⟨_, List.mem_map.2 ⟨_, keepI_mem.2 ⟨i, hi, hp, rfl⟩, rfl⟩, rfl⟩)
    | false => exact .inr (hadd i hi hp hk hr)
  rmv := by
    intro x _ _ _
    constructor
    · rintro ⟨y, hy, h3, hr, ht, hd⟩; obtain ⟨c, hc, rfl⟩ := List.mem_map.1 hy; obtain ⟨i, hi, rfl⟩ := get_mem hc; refine ⟨_, List.mem_map.2 ⟨_, keepI_mem.2 ⟨i, hi, ?_, rfl⟩, rfl⟩, h3, hr, ht, hd⟩
      cases hp : p i l[i]! with
      | true => rfl
      | false =>
        have e := hrem i hi hp h3 hr; have : (dn1 l[i]!).o.dots = [] := e; rw [this] at hd; simp at hd
    · rintro ⟨y, hy, h⟩; obtain ⟨c, hc, rfl⟩ := List.mem_map.1 hy; exact ⟨_, List.mem_map.2 ⟨c, keepI_all.subset hc, rfl⟩, h⟩

def lastIx (l : List ComV) : Nat → Int
  | 0 => -1
  | k + 1 => if (k1 l[k]!).kind = 1 then (k : Int) else lastIx l k
theorem lastIx_reg {l : List ComV} : ∀ {k i : Nat}, i < k → (k1 l[i]!).kind = 1 → ∃ j : Nat, lastIx l k = j ∧ i ≤ j ∧ j < k ∧ (k1 l[j]!).kind = 1
  | 0, _, h, _ => by omega
  | k + 1, i, h, h1 => by
    unfold lastIx
    by_cases hk : (k1 l[k]!).kind = 1
    · rw [if_pos hk]; exact ⟨k, rfl, by omega, by omega, hk⟩
    · rw [if_neg hk]
      have : i < k := by
        rcases Nat.lt_or_ge i k with h' | h'
        · exact h'
        · obtain rfl : i = k := by omega
          exact absurd h1 hk
      obtain ⟨j, e, h2, h3, h4⟩ := lastIx_reg this h1; exact ⟨j, e, h2, by omega, h4⟩
def regP (l : List ComV) (i : Nat) (c : ComV) : Bool := decide (i = 0) || (decide ((i : Int) = lastIx l l.length) || !decide ((k1 c).kind = 1))
def lastReg (l : List ComV) : List ComV := keepI (regP l) l l.length
theorem regP_false {l : List ComV} {i : Nat} {c : ComV} (h : regP l i c = false) : i ≠ 0 ∧ (i : Int) ≠ lastIx l l.length ∧ (k1 c).kind = 1 := by
  unfold regP at h; rw [Bool.or_eq_false_iff, Bool.or_eq_false_iff, decide_eq_false_iff_not, decide_eq_false_iff_not, Bool.not_eq_false', decide_eq_true_eq] at h; exact ⟨h.1, h.2.1, h.2.2⟩
theorem lastReg_step {l : List ComV} (hs : (l.map dn1).Pairwise fun a b => ltN a b = true) (O : List Dn) : Step (l.map dn1) ((lastReg l).map dn1) O := by
  refine keepI_step O (fun c => by simp [regP]) (fun i hi hp h1 => ?_) (fun i hi hp => ?_) (fun i hi hp h3 => ?_) (fun i hi hp h3 => ?_)
  · obtain ⟨_, h2, _⟩ := regP_false hp; obtain ⟨j, e, hij, hj, hj1⟩ := lastIx_reg hi h1; have hlt : i < j := by omega
    refine ⟨j, hj, hj1, ?_⟩; rw [List.pairwise_map, List.pairwise_iff_getElem] at hs; rw [getElem!_pos l i hi, getElem!_pos l j hj]; exact hs i j hi hj hlt
  · rw [(regP_false hp).2.2]; decide
  · rw [(regP_false hp).2.2] at h3; exact absurd h3 (by decide)
  · rw [(regP_false hp).2.2] at h3; exact absurd h3 (by decide)

def isAddB (c : ComV) : Bool := decide ((k1 c).kind = 3) && !(k1 c).rem
def removedB (l : List ComV) (d : D3) (t : ByteArray) : Bool := l.any fun c => decide ((k1 c).text = t) && decide (d ∈ (k1 c).dots)
def wrP (l : List ComV) (i : Nat) (c : ComV) : Bool := decide (i = 0) || (!isAddB c || !removedB l (dn1 c).dot (k1 c).text)
def withoutRem (l : List ComV) : List ComV := keepI (wrP l) l l.length
structure PartOk (c : ComV) : Prop where
  one : c.ops.length = 1
  kind : (k1 c).kind = 1 ∨ (k1 c).kind = 2 ∨ (k1 c).kind = 3
  rem : (k1 c).dots ≠ [] → (k1 c).kind = 3 ∧ (k1 c).rem = true
theorem wrP_false {l : List ComV} {i : Nat} {c : ComV} (h : wrP l i c = false) : i ≠ 0 ∧ (k1 c).kind = 3 ∧ (k1 c).rem = false ∧ removedB l (dn1 c).dot (k1 c).text = true := by
  unfold wrP isAddB at h; rw [Bool.or_eq_false_iff, Bool.or_eq_false_iff, decide_eq_false_iff_not, Bool.not_eq_false', Bool.not_eq_false', Bool.and_eq_true, decide_eq_true_eq, Bool.not_eq_true'] at h; exact ⟨h.1, h.2.1.1, h.2.1.2, h.2.2⟩
theorem withoutRem_step {l : List ComV} (hl : ∀ c ∈ l, PartOk c) (O : List Dn) : Step (l.map dn1) ((withoutRem l).map dn1) O := by
  refine keepI_step O (fun c => by simp [wrP]) (fun i hi hp h1 => ?_) (fun i hi hp => ?_) (fun i hi hp h3 hr => ?_) (fun i hi hp h3 hr => ?_)
  · rw [(wrP_false hp).2.1] at h1; exact absurd h1 (by decide)
  · rw [(wrP_false hp).2.1]; decide
  · obtain ⟨_, _, _, hx⟩ := wrP_false hp; unfold removedB at hx; obtain ⟨c, hc, h⟩ := List.any_eq_true.1 hx; simp only [Bool.and_eq_true, decide_eq_true_eq] at h; have hne : (k1 c).dots ≠ [] := fun e => by rw [e] at h; simp at h
    obtain ⟨h4, h5⟩ := (hl c hc).rem hne; exact ⟨_, List.mem_map.2 ⟨c, hc, rfl⟩, h4, h5, h.1, h.2⟩
  · rw [(wrP_false hp).2.2.1] at hr; cases hr

def addsB (l : List ComV) (d : D3) (t : ByteArray) : Bool := l.any fun c => isAddB c && (decide ((dn1 c).dot = d) && decide ((k1 c).text = t))
def spentB (V : D3 → Bool) (A : List ComV) (t : ByteArray) (d : D3) : Bool := V d && !addsB A d t
def trim (V : D3 → Bool) (A : List ComV) (c : ComV) : ComV := withOp c { k1 c with dots := (k1 c).dots.filter fun d => !spentB V A (k1 c).text d }
def spP (i : Nat) (c : ComV) : Bool := decide (i = 0) || (!(k1 c).rem || decide ((k1 c).dots ≠ []))
def spentL (V : D3 → Bool) (S O : List ComV) : List ComV := keepI spP (S.map (trim V (S ++ O))) S.length
theorem trim_step {S : List ComV} (V : D3 → Bool) (A : List ComV) (hA : ∀ c ∈ S, c ∈ A) (hS : ∀ c ∈ S, PartOk c) (O : List Dn) (hO : ∀ x ∈ O, V x.dot = true → x.o.kind = 3 → x.o.rem = false → addsB A x.dot x.o.text = true) : Step (S.map dn1) ((S.map (trim V A)).map dn1) O := by
  have e : ((S.map (trim V A)).map dn1).map skel = (S.map dn1).map skel := by
    rw [List.map_map, List.map_map, List.map_map]; rfl
  refine ⟨by rw [e]; exact List.Sublist.refl _, by rw [e], fun x hx hk _ => ?_, ?_, fun x hx _ _ => .inl (by rw [e]; exact List.mem_map.2 ⟨x, hx, rfl⟩), fun x hx h3 hr => ?_⟩
  · obtain ⟨c, hc, rfl⟩ := List.mem_map.1 hx; refine List.mem_map.2 ⟨trim V A c, List.mem_map.2 ⟨c, hc, rfl⟩, ?_⟩
    have h0 : (k1 c).dots = [] := by
      rcases Decidable.em ((k1 c).dots = []) with h | h
      · exact h
      · have := ((hS c hc).rem h).1; have hk' : (k1 c).kind = 1 := hk; omega
    unfold trim; rw [h0, List.filter_nil, ← h0]; rfl
  · clear hS e
    induction S with
    | nil => rfl
    | cons a r ih =>
      have := ih (fun c hc => hA c (by simp [hc])); rw [List.map_cons, List.map_cons, List.map_cons, ← List.singleton_append, ← List.singleton_append (l := r.map dn1), sumK_append, sumK_append, this, sumK_one, sumK_one]; rfl
  · have hadd : V x.dot = true → addsB A x.dot x.o.text = true := fun hv => by
      rcases List.mem_append.1 hx with hx | hx
      · obtain ⟨c', hc', rfl⟩ := List.mem_map.1 hx; obtain ⟨c, hc, rfl⟩ := List.mem_map.1 hc'; refine List.any_eq_true.2 ⟨c, hA c hc, ?_⟩; have h3' : (k1 c).kind = 3 := h3; have hr' : (k1 c).rem = false := hr; unfold isAddB; rw [h3', hr']; simp only [decide_true, Bool.not_false, Bool.true_and, Bool.and_eq_true, decide_eq_true_eq]; exact ⟨rfl, rfl⟩
      · exact hO x hx hv h3 hr
    constructor
    · rintro ⟨y, hy, h3', hr', ht', hd'⟩; obtain ⟨c, hc, rfl⟩ := List.mem_map.1 hy; refine ⟨dn1 (trim V A c), List.mem_map.2 ⟨_, List.mem_map.2 ⟨c, hc, rfl⟩, rfl⟩, h3', hr', ht', ?_⟩; refine List.mem_filter.2 ⟨hd', ?_⟩; unfold spentB
      cases hv : V x.dot with
      | false => rfl
      | true =>
        have e1 : (k1 c).text = x.o.text := ht'; rw [e1, hadd hv]; rfl
    · rintro ⟨y, hy, h3', hr', ht', hd'⟩; obtain ⟨c', hc', rfl⟩ := List.mem_map.1 hy; obtain ⟨c, hc, rfl⟩ := List.mem_map.1 hc'; exact ⟨dn1 c, List.mem_map.2 ⟨c, hc, rfl⟩, h3', hr', ht', (List.mem_filter.1 hd').1⟩
theorem spP_false {i : Nat} {c : ComV} (h : spP i c = false) : i ≠ 0 ∧ (k1 c).rem = true ∧ (k1 c).dots = [] := by
  unfold spP at h; rw [Bool.or_eq_false_iff, Bool.or_eq_false_iff, decide_eq_false_iff_not, decide_eq_false_iff_not, Bool.not_eq_false'] at h; exact ⟨h.1, h.2.1, by simpa using h.2.2⟩
theorem keepSp_step {l : List ComV} (hl : ∀ c ∈ l, (k1 c).rem = true → (k1 c).kind = 3) (O : List Dn) : Step (l.map dn1) ((keepI spP l l.length).map dn1) O := by
  have g : ∀ i, i < l.length → l[i]! ∈ l := fun i hi => by rw [getElem!_pos l i hi]; exact List.getElem_mem _
  refine keepI_step O (fun c => by simp [spP]) (fun i hi hp h1 => ?_) (fun i hi hp => ?_) (fun i hi hp h3 hr => ?_) (fun i hi hp h3 hr => (spP_false hp).2.2)
  · have := hl _ (g i hi) (spP_false hp).2.1; omega
  · have := hl _ (g i hi) (spP_false hp).2.1; omega
  · rw [(spP_false hp).2.1] at hr; cases hr
end Go.Proofs.YtdnebclemngdcaaGreatDoor
namespace Go.Proofs.YtdnebclemngdcaaGreatDoor
open Go.RowKit Go.Sort Go.Maps
set_option linter.unusedSectionVars false
variable [Inhabited ComV] [DecidableEq D3] [Inhabited D3] [Inhabited Dd] [Inhabited Dn] [Inhabited OpV]

def addN (c : ComV) (n : Int) : ComV := withOp c { k1 c with n := (k1 c).n + n }
def sumOkB (n : Int) : Bool := decide (-1099511627776 ≤ n ∧ n ≤ 1099511627776)
def sumSt (l : List ComV) : Nat → List ComV × Option Nat
  | 0 => ([], none)
  | k + 1 =>
    if (k1 l[k]!).kind = 2 then
      match (sumSt l k).2 with
      | none => ((sumSt l k).1 ++ [l[k]!], some (sumSt l k).1.length)
      | some j => if sumOkB ((k1 (sumSt l k).1[j]!).n + (k1 l[k]!).n) = true then ((sumSt l k).1.set j (addN (sumSt l k).1[j]! (k1 l[k]!).n), some j) else ((sumSt l k).1 ++ [l[k]!], some (sumSt l k).1.length)
    else ((sumSt l k).1 ++ [l[k]!], (sumSt l k).2)
def sumC (l : List ComV) : List ComV := (sumSt l l.length).1
theorem addN_skel (c : ComV) (n : Int) : skel (dn1 (addN c n)) = skel (dn1 c) := rfl
theorem sumK_set {l : List ComV} {j : Nat} (hj : j < l.length) (c : ComV) (n : Int) (h2 : (k1 l[j]!).kind = 2) (hc : (k1 c).kind = 2) (hn : (k1 c).n = (k1 l[j]!).n + n) : sumK ((l.set j c).map dn1) = sumK (l.map dn1) + n := by
  rw [getElem!_pos l j hj] at h2 hn
  have e1 : l = l.take j ++ l[j] :: l.drop (j + 1) := by
    rw [← List.drop_eq_getElem_cons hj, List.take_append_drop]
  have e2 : l.set j c = l.take j ++ c :: l.drop (j + 1) := by
    rw [List.set_eq_take_append_cons_drop, if_pos hj]
  have s : ∀ (a : ComV) (u v : List ComV), sumK ((u ++ a :: v).map dn1) = sumK (u.map dn1) + (sumK [dn1 a] + sumK (v.map dn1)) := fun a u v => by
    rw [List.map_append, List.map_cons, sumK_append, ← List.singleton_append, sumK_append]
  have t : ∀ a : ComV, (k1 a).kind = 2 → sumK [dn1 a] = (k1 a).n := fun a ha => by
    rw [sumK_one, if_pos (show (dn1 a).o.kind = 2 from ha)]; rfl
  have g1 := s l[j] (l.take j) (l.drop (j + 1)); rw [← e1] at g1; rw [e2, s, g1, t c hc, t _ h2]; omega
structure SumInv (l : List ComV) (k : Nat) (st : List ComV × Option Nat) : Prop where
  sub : ((st.1.map dn1).map skel).Sublist (((l.take k).map dn1).map skel)
  head : ((st.1.map dn1).map skel).head? = (((l.take k).map dn1).map skel).head?
  sum : sumK (st.1.map dn1) = sumK ((l.take k).map dn1)
  other : ∀ c, (k1 c).kind ≠ 2 → (c ∈ st.1 ↔ c ∈ l.take k)
  pos : ∀ j, st.2 = some j → j < st.1.length ∧ (k1 st.1[j]!).kind = 2
  ok : (∀ c ∈ l, PartOk c) → ∀ c ∈ st.1, PartOk c
theorem head_snoc {α : Type} {a b : List α} (h : a.head? = b.head?) (x : α) : (a ++ [x]).head? = (b ++ [x]).head? := by
  rw [List.head?_append, List.head?_append, h]
theorem SumInv.snoc {l : List ComV} {k : Nat} {st : List ComV × Option Nat} (h : SumInv l k st) (hk : k < l.length) (pos : Option Nat) (hpos : ∀ j, pos = some j → j < (st.1 ++ [l[k]!]).length ∧ (k1 (st.1 ++ [l[k]!])[j]!).kind = 2) : SumInv l (k + 1) (st.1 ++ [l[k]!], pos) := by
  have ht := take_snoc (l := l) hk; refine ⟨?_, ?_, ?_, fun c hc => ?_, hpos, fun ho c hc => ?_⟩
  · rw [ht]; simp only [List.map_append]; exact h.sub.append (List.Sublist.refl _)
  · rw [ht]; simp only [List.map_append]; exact head_snoc h.head _
  · rw [ht]; simp only [List.map_append]; rw [sumK_append, sumK_append, h.sum]
  · rw [ht, List.mem_append, List.mem_append, h.other c hc]
  · rcases List.mem_append.1 hc with hc | hc
    · exact h.ok ho c hc
    · rw [List.mem_singleton.1 hc, getElem!_pos l k hk]; exact ho _ (List.getElem_mem _)
theorem get_snoc_old {l : List ComV} {x : ComV} {j : Nat} (h : j < l.length) : (l ++ [x])[j]! = l[j]! := by
  rw [getElem!_pos (l ++ [x]) j (by simp; omega), getElem!_pos l j h, List.getElem_append_left h]
theorem get_snoc_new {l : List ComV} {x : ComV} : (l ++ [x])[l.length]! = x := by
  rw [getElem!_pos (l ++ [x]) l.length (by simp)]; simp
theorem partOk_addN {c : ComV} (h : PartOk c) (n : Int) : PartOk (addN c n) := ⟨rfl, h.kind, h.rem⟩
theorem set_map_skel {l : List ComV} {j : Nat} {c : ComV} (hj : j < l.length) (h : skel (dn1 c) = skel (dn1 l[j]!)) : ((l.set j c).map dn1).map skel = (l.map dn1).map skel := by
  rw [getElem!_pos l j hj] at h; rw [List.map_set, List.map_set, h]; refine List.ext_getElem (by simp) fun i h1 h2 => ?_
  rw [List.getElem_set]
  split
  · rename_i e; subst e; simp
  · rfl
theorem sumInv (l : List ComV) : ∀ k, k ≤ l.length → SumInv l k (sumSt l k)
  | 0, _ => by
    refine ⟨?_, rfl, rfl, fun c _ => ?_, fun j hj => ?_, fun _ c hc => ?_⟩
    · exact List.nil_sublist _
    · simp [sumSt]
    · cases hj
    · simp [sumSt] at hc
  | k + 1, hk => by
    have ih := sumInv l k (by omega); have hk' : k < l.length := by omega
    unfold sumSt
    by_cases h2 : (k1 l[k]!).kind = 2
    · rw [if_pos h2]
      have new : ∀ j, some (sumSt l k).1.length = some j → j < ((sumSt l k).1 ++ [l[k]!]).length ∧ (k1 ((sumSt l k).1 ++ [l[k]!])[j]!).kind = 2 := fun j hj => by
        cases hj; exact ⟨by simp, by rw [get_snoc_new]; exact h2⟩
      cases hp : (sumSt l k).2 with
      | none => exact ih.snoc hk' _ new
      | some j =>
        obtain ⟨hj, hj2⟩ := ih.pos j hp
        dsimp only
        by_cases ho : sumOkB ((k1 (sumSt l k).1[j]!).n + (k1 l[k]!).n) = true
        · rw [if_pos ho]; have es := set_map_skel (l := (sumSt l k).1) hj (addN_skel (sumSt l k).1[j]! (k1 l[k]!).n); have ht := take_snoc (l := l) hk'; refine ⟨?_, ?_, ?_, fun c hc => ?_, fun i hi => ?_, fun hok c hc => ?_⟩
          · rw [es, ht]; simp only [List.map_append]; exact ih.sub.trans (List.sublist_append_left _ _)
          · rw [es, ht]; simp only [List.map_append]; rw [List.head?_append, ← ih.head]
            cases hz : (sumSt l k).1 with
            | nil => rw [hz] at hj; simp at hj
            | cons a r => rfl
          · have e3 := sumK_set hj (addN (sumSt l k).1[j]! (k1 l[k]!).n) (k1 l[k]!).n hj2 hj2 rfl
            dsimp only
            rw [e3, ht]; simp only [List.map_append]; rw [sumK_append, ih.sum]; show _ = _ + sumK [dn1 l[k]!]; rw [sumK_one, if_pos (show (dn1 l[k]!).o.kind = 2 from h2)]; rfl
          · rw [ht, List.mem_append]
            constructor
            · intro hm; obtain ⟨i, hi, e⟩ := List.getElem_of_mem hm; rw [List.getElem_set] at e
              split at e
              · rw [← e] at hc; exact absurd hj2 hc
              · exact .inl ((ih.other c hc).1 (by rw [← e]; exact List.getElem_mem _))
            · rintro (hm | hm)
              · obtain ⟨i, hi, e⟩ := List.getElem_of_mem ((ih.other c hc).2 hm)
                have hij : j ≠ i := fun q => by
                  subst q; rw [getElem!_pos _ j hj, e] at hj2; exact hc hj2
                rw [List.mem_iff_getElem]; exact ⟨i, by simpa using hi, by rw [List.getElem_set, if_neg hij, e]⟩
              · rw [List.mem_singleton.1 hm] at hc; exact absurd h2 hc
          · cases hi; refine ⟨by simpa using hj, ?_⟩; rw [getElem!_pos _ j (by simpa using hj), List.getElem_set_self]; exact hj2
          · obtain ⟨i, hi, e⟩ := List.getElem_of_mem hc; rw [List.getElem_set] at e
            split at e
            · rw [← e]; refine partOk_addN (ih.ok hok _ ?_) _; rw [getElem!_pos _ j hj]; exact List.getElem_mem _
            · rw [← e]; exact ih.ok hok _ (List.getElem_mem _)
        · rw [if_neg ho]; exact ih.snoc hk' _ new
    · rw [if_neg h2]; refine ih.snoc hk' _ fun j hj => ?_
      obtain ⟨h3, h4⟩ := ih.pos j hj; exact ⟨by simp; omega, by rw [get_snoc_old h3]; exact h4⟩
theorem sumC_step (l : List ComV) (O : List Dn) : Step (l.map dn1) ((sumC l).map dn1) O := by
  have h := sumInv l l.length (Nat.le_refl _); have ht : l.take l.length = l := List.take_length
  have oth : ∀ x : Dn, x.o.kind ≠ 2 → (x ∈ l.map dn1 ↔ x ∈ (sumC l).map dn1) := fun x hx => by
    rw [List.mem_map, List.mem_map]
    constructor
    · rintro ⟨c, hc, rfl⟩; exact ⟨c, (h.other c hx).2 (by rw [ht]; exact hc), rfl⟩
    · rintro ⟨c, hc, rfl⟩; exact ⟨c, by have := (h.other c hx).1 hc; rwa [ht] at this, rfl⟩
  have hs := h.sub; have hh := h.head; have hu := h.sum; rw [ht] at hs hh hu; refine ⟨hs, hh, fun x hx hk _ => (oth x (by omega)).1 hx, hu, fun x hx hk _ => .inl (List.mem_map.2 ⟨x, (oth x (by omega)).1 hx, rfl⟩), fun x _ _ _ => ?_⟩
  constructor
  · rintro ⟨y, hy, h3⟩; exact ⟨y, (oth y (by rw [h3.1]; decide)).1 hy, h3⟩
  · rintro ⟨y, hy, h3⟩; exact ⟨y, (oth y (by rw [h3.1]; decide)).2 hy, h3⟩
theorem sumC_ok {l : List ComV} (h : ∀ c ∈ l, PartOk c) : ∀ c ∈ sumC l, PartOk c := (sumInv l l.length (Nat.le_refl _)).ok h
theorem keepI_ok {p : Nat → ComV → Bool} {l : List ComV} (h : ∀ c ∈ l, PartOk c) : ∀ c ∈ keepI p l l.length, PartOk c := fun c hc => h c (keepI_all.subset hc)
theorem trim_ok {V : D3 → Bool} {A : List ComV} {c : ComV} (h : PartOk c) : PartOk (trim V A c) := ⟨rfl, h.kind, fun hne => h.rem fun e => hne (by
  show ((k1 c).dots.filter _) = []; rw [e]; rfl)⟩
def settled (V : D3 → Bool) (S O : List ComV) : List ComV := spentL V (withoutRem (sumC (lastReg S))) O
def RemOk (c : ComV) : Prop := (k1 c).rem = true → (k1 c).kind = 3
theorem settled_same {S O : List ComV} (V : D3 → Bool) (hs : (S.map dn1).Pairwise fun a b => ltN a b = true) (hS : ∀ c ∈ S, PartOk c) (hR : ∀ c ∈ S, RemOk c) (X : List Dn)
    (hX : ∀ x ∈ X, V x.dot = true → x ∈ O.map dn1) : Same (S.map dn1 ++ X) ((settled V S O).map dn1 ++ X) := by
  have s1 := lastReg_step hs X; have r1 := s1.rise hs; have o1 : ∀ c ∈ lastReg S, PartOk c := keepI_ok hS; have s2 := sumC_step (lastReg S) X; have r2 := s2.rise r1; have o2 := sumC_ok o1; have s3 := withoutRem_step o2 X; have r3 := s3.rise r2; have o3 : ∀ c ∈ withoutRem (sumC (lastReg S)), PartOk c := keepI_ok o2
  have s4 := trim_step V (withoutRem (sumC (lastReg S)) ++ O) (fun c hc => List.mem_append_left _ hc) o3 X (fun x hx hv h3 hr => by
    obtain ⟨c, hc, rfl⟩ := List.mem_map.1 (hX x hx hv); refine List.any_eq_true.2 ⟨c, List.mem_append_right _ hc, ?_⟩; have h3' : (k1 c).kind = 3 := h3; have hr' : (k1 c).rem = false := hr; unfold isAddB; rw [h3', hr', decide_eq_true (show (dn1 c).dot = (dn1 c).dot from rfl), decide_eq_true (show (k1 c).text = (dn1 c).o.text from rfl)]; rfl)
  have r4 := s4.rise r3
  have q2 : ∀ c ∈ withoutRem (sumC (lastReg S)), RemOk c := by
    have h1 : ∀ c ∈ lastReg S, RemOk c := fun c hc => hR c (keepI_all.subset hc)
    have h2 : ∀ c ∈ sumC (lastReg S), RemOk c := fun c hc hr => by
      obtain ⟨y, hy, e⟩ := s2.back (List.mem_map.2 ⟨c, hc, rfl⟩); obtain ⟨c0, hc0, rfl⟩ := List.mem_map.1 hy; have := h1 c0 hc0 ((skel_rem e).trans hr); exact (skel_kind e).symm.trans this
    exact fun c hc => h2 c (keepI_all.subset hc)
  have s5 := keepSp_step (l := (withoutRem (sumC (lastReg S))).map (trim V (withoutRem (sumC (lastReg S)) ++ O))) (fun c hc => by
    obtain ⟨c0, hc0, rfl⟩ := List.mem_map.1 hc; exact q2 c0 hc0) X
  have := (((s1.same hs).trans (s2.same r1)).trans (s3.same r2)).trans ((s4.same r3).trans (s5.same r4)); rw [List.length_map] at this; exact this
end Go.Proofs.YtdnebclemngdcaaGreatDoor
namespace Go.Proofs.YtdnebclemngdcaaGreatDoor
open Go.RowKit Go.Sort Go.Maps
set_option linter.unusedSectionVars false
variable [Inhabited ComV] [DecidableEq D3] [Inhabited D3] [Inhabited Dd] [Inhabited Dn] [Inhabited OpV]

theorem keepI_take (p : Nat → ComV → Bool) (l : List ComV) : ∀ k, k ≤ l.length → keepI p l k = keepL p 0 (l.take k)
  | 0, _ => by simp [keepI, keepL]
  | k + 1, hk => by
    have hg : l[k]? = some l[k]! := by rw [getElem!_pos l k (by omega)]; exact List.getElem?_eq_getElem _
    rw [keepL_snoc p hg, ← keepI_take p l k (by omega)]; rfl
theorem keepI_keepL (p : Nat → ComV → Bool) (l : List ComV) : keepI p l l.length = keepL p 0 l := by
  rw [keepI_take p l _ (Nat.le_refl _), List.take_length]
theorem keepL_congr {α : Type} {p q : Nat → α → Bool} : ∀ (l : List α) (i : Nat), (∀ j a, a ∈ l → p j a = q j a) → keepL p i l = keepL q i l
  | [], _, _ => rfl
  | a :: r, i, h => by
    rw [keepL_cons, keepL_cons, h i a (by simp), keepL_congr r (i + 1) fun j b hb => h j b (by simp [hb])]
theorem map_get {E : Nat → OpV} {rs : List Rp} {k : Nat} {r : Rp} (h : rs[k]? = some r) : (rs.map (absR E))[k]! = absR E r := by
  obtain ⟨hk, e⟩ := List.getElem?_eq_some_iff.1 h; rw [getElem!_pos _ k (by simpa using hk), List.getElem_map, e]
theorem lastIx_at (E : Nat → OpV) (rs : List Rp) : ∀ k, k ≤ rs.length → lastIx (rs.map (absR E)) k = lastAt E rs k
  | 0, _ => rfl
  | k + 1, hk => by
    obtain ⟨r, hr⟩ := some_of_lt (l := rs) (k := k) (by omega); rw [lastAt_succ E rs k r hr, ← lastIx_at E rs k (by omega)]; show (if (k1 (rs.map (absR E))[k]!).kind = 1 then _ else _) = _; rw [map_get hr]; rfl
theorem lastReg_map (E : Nat → OpV) (rs : List Rp) : (keepL (regB E rs) 0 rs).map (absR E) = lastReg (rs.map (absR E)) := by
  unfold lastReg; rw [keepI_keepL, keepL_map]
  congr 1
  refine keepL_congr rs 0 fun j a _ => ?_
  unfold regB regP; rw [List.length_map, lastIx_at E rs _ (Nat.le_refl _)]; rfl
theorem remT_any (E : Nat → OpV) (rs : List Rp) (d : D3) (t : ByteArray) : tgtB (remT E rs) d t = removedB (rs.map (absR E)) d t := by
  unfold tgtB remT removedB; rw [List.any_flatMap, List.any_map]
  congr 1
  funext r
  show ((E r.g).dots.map fun e => (e, (E r.g).text)).any _ = (decide ((E r.g).text = t) && decide (d ∈ (E r.g).dots)); rw [List.any_map, Bool.eq_iff_iff, List.any_eq_true]; simp only [Function.comp, Bool.and_eq_true, decide_eq_true_eq]
  constructor
  · rintro ⟨e, he, rfl, h⟩; exact ⟨h, he⟩
  · rintro ⟨h, he⟩; exact ⟨d, he, rfl, h⟩
theorem withoutRem_map (E : Nat → OpV) (rs : List Rp) : (keepL (wrQ E (remT E rs)) 0 rs).map (absR E) = withoutRem (rs.map (absR E)) := by
  unfold withoutRem; rw [keepI_keepL, keepL_map]
  congr 1
  refine keepL_congr rs 0 fun j a _ => ?_
  unfold wrQ wrP; rw [remT_any]; rfl
theorem addsT_any (E : Nat → OpV) (rs : List Rp) (d : D3) (t : ByteArray) : tgtB (addsT E rs) d t = addsB (rs.map (absR E)) d t := by
  unfold tgtB addsT addsB; rw [List.any_map, List.any_filter, List.any_map]; rfl
theorem tgtB_append (T T' : List (D3 × ByteArray)) (d : D3) (t : ByteArray) : tgtB (T ++ T') d t = (tgtB T d t || tgtB T' d t) := List.any_append
theorem addsB_append (l l' : List ComV) (d : D3) (t : ByteArray) : addsB (l ++ l') d t = (addsB l d t || addsB l' d t) := List.any_append
theorem spentL_map (V : D3 → Bool) (E E' : Nat → OpV) (rs os : List Rp) (hE : ∀ r ∈ rs, E' r.g = withDots (keepD V (addsT E rs ++ addsT E os)) (E r.g)) : (keepL (spQ V (addsT E rs ++ addsT E os) E) 0 rs).map (absR E') = spentL V (rs.map (absR E)) (os.map (absR E)) := by
  have tr : ∀ r ∈ rs, trim V (rs.map (absR E) ++ os.map (absR E)) (absR E r) = absR E' r := fun r hr => by
    have hf : ((E r.g).dots.filter fun d => !spentB V (rs.map (absR E) ++ os.map (absR E)) (E r.g).text d) = (E r.g).dots.filter fun d => !spB V (addsT E rs ++ addsT E os) (E r.g).text d := List.filter_congr fun d _ => by
      unfold spentB spB; rw [tgtB_append, addsT_any, addsT_any, addsB_append]
    show (⟨r.wn, r.pl, [{ E r.g with dots := (E r.g).dots.filter fun d => !spentB V (rs.map (absR E) ++ os.map (absR E)) (E r.g).text d }]⟩ : ComV) = ⟨r.wn, r.pl, [E' r.g]⟩; rw [hE r hr, hf]; rfl
  have e : (rs.map (absR E)).map (trim V (rs.map (absR E) ++ os.map (absR E))) = rs.map (absR E') := by
    rw [List.map_map]; exact List.map_congr_left tr
  unfold spentL; rw [e, List.length_map]; have := keepI_keepL spP (rs.map (absR E')); rw [List.length_map] at this; rw [this, keepL_map]
  congr 1
  refine keepL_congr rs 0 fun j a ha => ?_
  unfold spQ spP; have h1 : k1 (absR E' a) = E' a.g := rfl; rw [h1, hE a ha]; rfl
structure SumSame (l : List ComV) (k : Nat) (st : SumQ) : Prop where
  kept : st.kept.map (absR st.E) = (sumSt l k).1
  pos : ∀ s, st.sum = some s → ∃ j r, st.kept[j]? = some r ∧ r.g = s ∧ (sumSt l k).2 = some j
  none_ : st.sum = none → (sumSt l k).2 = none
theorem sumB_sumOk (n : Int) : sumB n = sumOkB n := by
  unfold sumB sumOkB; rw [Bool.eq_iff_iff, Bool.and_eq_true, decide_eq_true_eq, decide_eq_true_eq, decide_eq_true_eq]
theorem sumSame (E : Nat → OpV) (rs : List Rp) (hn : (rs.map (·.g)).Nodup) : ∀ k, k ≤ rs.length → SumSame (rs.map (absR E)) k (sumQ E (rs.take k))
  | 0, _ => by
    refine ⟨by simp [sumQ, sumSt], fun s hs => by simp [sumQ] at hs, fun _ => rfl⟩
  | k + 1, hk => by
    obtain ⟨r, hr⟩ := some_of_lt (l := rs) (k := k) (by omega); have ih := sumSame E rs hn k (by omega); have hget := map_get (E := E) hr
    -- what is not taken yet is as it was
    have hnew : r.g ∉ (rs.take k).map (·.g) := fun hm => by
      obtain ⟨q, hq, e⟩ := List.mem_map.1 hm; obtain ⟨i, hi, rfl⟩ := List.getElem_of_mem hq; obtain ⟨hk', rfl⟩ := List.getElem?_eq_some_iff.1 hr; rw [List.length_take] at hi; rw [List.getElem_take] at e; rw [List.nodup_iff_pairwise_ne, List.pairwise_map, List.pairwise_iff_getElem] at hn; exact hn i k (by omega) hk' (by omega) e
    have hsub := sumQ_sub E (rs.take k); rw [sumQ_snoc E hr]
    have hEr : (sumQ E (rs.take k)).E r.g = E r.g := by
      rcases sumE_rest E (rs.take k) r.g with e | ⟨_, hm, _⟩
      · exact e
      · exact absurd hm hnew
    obtain ⟨st, hst⟩ : ∃ st, st = sumQ E (rs.take k) := ⟨_, rfl⟩; rw [← hst] at ih hsub hEr ⊢; obtain ⟨h1, h2, h3⟩ := ih; have knd : ((k1 (rs.map (absR E))[k]!).kind = 2) ↔ (st.E r.g).kind = 2 := by rw [hget, hEr]; exact Iff.rfl
    have step : sumSt (rs.map (absR E)) (k + 1) = if (k1 (rs.map (absR E))[k]!).kind = 2 then
        match (sumSt (rs.map (absR E)) k).2 with
        | none => ((sumSt (rs.map (absR E)) k).1 ++ [(rs.map (absR E))[k]!], some (sumSt (rs.map (absR E)) k).1.length)
        | some j => if sumOkB ((k1 (sumSt (rs.map (absR E)) k).1[j]!).n + (k1 (rs.map (absR E))[k]!).n) = true then ((sumSt (rs.map (absR E)) k).1.set j (addN (sumSt (rs.map (absR E)) k).1[j]! (k1 (rs.map (absR E))[k]!).n), some j) else ((sumSt (rs.map (absR E)) k).1 ++ [(rs.map (absR E))[k]!], some (sumSt (rs.map (absR E)) k).1.length)
      else ((sumSt (rs.map (absR E)) k).1 ++ [(rs.map (absR E))[k]!], (sumSt (rs.map (absR E)) k).2) := rfl
    have last : (st.kept ++ [r]).map (absR st.E) = (sumSt (rs.map (absR E)) k).1 ++ [(rs.map (absR E))[k]!] := by
      rw [List.map_append, h1, hget, List.map_cons, List.map_nil]; unfold absR; rw [hEr]
    have len : st.kept.length = (sumSt (rs.map (absR E)) k).1.length := by rw [← h1, List.length_map]
    have newpos : ∀ s, some r.g = some s → ∃ j q, (st.kept ++ [r])[j]? = some q ∧ q.g = s ∧ some (sumSt (rs.map (absR E)) k).1.length = some j := fun s hs => by
      cases hs; exact ⟨st.kept.length, r, by simp, rfl, by rw [len]⟩
    by_cases hk2 : (st.E r.g).kind = 2
    · rw [if_pos (knd.2 hk2)] at step
      cases hs : st.sum with
      | none =>
        rw [h3 hs] at step; rw [stepQ_first hk2 hs]; exact ⟨by rw [step]; exact last, fun s hs => by rw [step]; exact newpos s hs, fun h => by cases h⟩
      | some s =>
        obtain ⟨j, q, hj, hq, hp⟩ := h2 s hs; rw [hp] at step; have hjl : j < st.kept.length := (List.getElem?_eq_some_iff.1 hj).1; have hgj : (sumSt (rs.map (absR E)) k).1[j]! = absR st.E q := by rw [← h1]; exact map_get hj
        have hsum : (k1 (sumSt (rs.map (absR E)) k).1[j]!).n + (k1 (rs.map (absR E))[k]!).n = (st.E s).n + (st.E r.g).n := by
          rw [hgj, hget, hEr, ← hq]; rfl
        simp only at step; rw [hsum, ← sumB_sumOk] at step
        by_cases hb : sumB ((st.E s).n + (st.E r.g).n) = true
        · rw [if_pos hb] at step; rw [stepQ_sum hk2 hs hb]; refine ⟨?_, fun t ht => ?_, fun h => by cases h⟩
          · rw [step]
            dsimp only
            rw [← h1]; have hgj' : (st.kept.map (absR st.E))[j]! = absR st.E q := map_get hj; rw [hgj']; refine List.ext_getElem (by simp) fun i hi1 hi2 => ?_
            have hi3 : i < st.kept.length := by simpa using hi1
            rw [List.getElem_map, List.getElem_set]
            by_cases e : j = i
            · subst e; rw [if_pos rfl]; have hqi : st.kept[j] = q := (List.getElem?_eq_some_iff.1 hj).2; rw [hqi]; rw [show k1 (rs.map (absR E))[k]! = st.E r.g from by rw [hget, hEr]; rfl]; show (⟨q.wn, q.pl, [updE st.E s _ q.g]⟩ : ComV) = ⟨q.wn, q.pl, [{ st.E q.g with n := (st.E q.g).n + (st.E r.g).n }]⟩; rw [hq, updE_same]
            · rw [if_neg e, List.getElem_map]; unfold absR
              have hne : st.kept[i].g ≠ s := fun x => by
                have hnd : (st.kept.map (·.g)).Nodup := ((hsub.trans (List.take_sublist _ _)).map _).nodup hn; rw [List.nodup_iff_pairwise_ne, List.pairwise_map, List.pairwise_iff_getElem] at hnd; have hqi : st.kept[j] = q := (List.getElem?_eq_some_iff.1 hj).2; rcases Nat.lt_or_ge i j with h | h
                · exact hnd i j hi3 hjl h (by rw [hqi, hq, x])
                · exact hnd j i hjl hi3 (by omega) (by rw [hqi, hq, x])
              rw [updE_other _ _ hne]
          · cases ht; rw [step]; exact ⟨j, q, hj, hq, rfl⟩
        · rw [if_neg hb] at step; rw [stepQ_full hk2 hs hb]; exact ⟨by rw [step]; exact last, fun s hs => by rw [step]; exact newpos s hs, fun h => by cases h⟩
    · rw [if_neg (fun h => hk2 (knd.1 h))] at step; rw [stepQ_other hk2]; refine ⟨by rw [step]; exact last, fun s hs => ?_, fun h => by rw [step]; exact h3 h⟩; obtain ⟨j, q, hj, hq, hp⟩ := h2 s hs; rw [step]; exact ⟨j, q, by rw [List.getElem?_append_left (List.getElem?_eq_some_iff.1 hj).1]; exact hj, hq, hp⟩
theorem sumC_map (E : Nat → OpV) (rs : List Rp) (hn : (rs.map (·.g)).Nodup) : (sumQ E rs).kept.map (absR (sumQ E rs).E) = sumC (rs.map (absR E)) := by
  have := (sumSame E rs hn rs.length (Nat.le_refl _)).kept; rw [List.take_length] at this; rw [this]; unfold sumC; rw [List.length_map]
end Go.Proofs.YtdnebclemngdcaaGreatDoor
namespace Go.Proofs.YtdnebclemngdcaaGreatDoor
open Go.RowKit Go.Maps Go.Sort
set_option maxRecDepth 100000
set_option linter.unusedSectionVars false
variable [Inhabited ComV] [DecidableEq D3] [Inhabited D3] [Inhabited Dd] [Inhabited Dn] [Inhabited OpV]

def inB (base : List Int) (r : Rp) : Bool := leB r.wn base
theorem filter_both {α : Type} (p : α → Bool) : ∀ l : List α, (l.filter p).length + (l.filter fun a => !p a).length = l.length
  | [] => rfl
  | a :: r => by
    have := filter_both p r
    cases h : p a with
    | true => rw [List.filter_cons, List.filter_cons, if_pos h, if_neg (by rw [h]; decide), List.length_cons, List.length_cons]; omega
    | false => rw [List.filter_cons, List.filter_cons, if_neg (by rw [h]; decide), if_pos (by rw [h]; decide), List.length_cons, List.length_cons]; omega
theorem g_inj {rs : List Rp} (hn : (rs.map (·.g)).Nodup) {r q : Rp} (hr : r ∈ rs) (hq : q ∈ rs) (e : r.g = q.g) : r = q := by
  obtain ⟨i, hi, rfl⟩ := List.getElem_of_mem hr; obtain ⟨j, hj, rfl⟩ := List.getElem_of_mem hq; rw [List.nodup_iff_pairwise_ne, List.pairwise_map, List.pairwise_iff_getElem] at hn; rcases Nat.lt_trichotomy i j with h | h | h
  · exact absurd e (hn i j hi hj h)
  · subst h; rfl
  · exact absurd e.symm (hn j i hj hi h)
structure SettleOut (V : D3 → Bool) (base : List Int) (nb : Nat) (rs : List Rp) (E : Nat → OpV) (D : Nat → Value) (w : World) (v : Value) (w' : World) (ss : List Rp) (res : List Rp) (E' : Nat → OpV) (D' : Nat → Value) : Prop where
  perm : ss.Perm (rs.filter (inB base))
  order : (ss.map (dnR E)).Pairwise (fun a b => ltN b a = false)
  row : RowR w' w.heap.size v res
  po : PO w' E' D' nb res
  sub : ∀ r ∈ res, r ∈ rs
  nd : (res.map (·.g)).Nodup
  own : ∀ r ∈ res, (D' r.g).ownBlock = (D r.g).ownBlock
  off : Off (blocksG rs D) w w'
  abs_ : res.map (absR E') = settled V (ss.map (absR E)) ((rs.filter fun r => !inB base r).map (absR E)) ++ (rs.filter fun r => !inB base r).map (absR E)
  few : res.length ≤ rs.length
def SettleRet (V : D3 → Bool) (base : List Int) (nb : Nat) (rs : List Rp) (E : Nat → OpV) (D : Nat → Value) (w : World) (e : Ending) (w' : World) : Prop := ∃ v ss res E' D', e = .returned v ∧ SettleOut V base nb rs E D w v w' ss res E' D'
set_option maxHeartbeats 8000000 in
theorem settle_ok (A : Nat → Addr) (w : World) (hE : E4 A w) (h12 : 12 ≤ w.heap.size) (vp mbv db nd nb : Nat) (V : D3 → Bool) (bv : Value) (base : List Int) (lv : Value) (rs : List Rp) (E : Nat → OpV) (D : Nat → Value) (hvp : w.heap[vp]? = some (.cells #[bv, .map (some mbv), .map (some db)] 83 (0, 0))) (hbv : IntsT w bv base) (hbc : chk base = 0) (hbl : base.length = nb) (hV : DotSet w db nd V) (hlv : RowR w 0 lv rs) (hP : PO w E D nb rs) (hnd : (rs.map (·.g)).Nodup)
    (hap : ∀ q ∈ rs, ∀ q' ∈ rs, q.g ≠ q'.g → ∀ b, (D q.g).ownBlock = some b → (D q'.g).ownBlock ≠ some b) (hfew : rs.length ≤ 1000) :
    Calls Tryz.prog 45 #[.pointer (some ⟨vp, 0, none⟩), lv] w fun e w' => SettleRet V base nb rs E D w e w' := by
  obtain ⟨i28, hi28, hy0, hy1, hy2⟩ := info_parts Tryz.info34q; obtain ⟨L, hL⟩ : ∃ L, L = rs.length := ⟨_, rfl⟩; obtain ⟨la, lc, hle⟩ := hlv.shape; obtain ⟨ba, bc, hbe⟩ := hbv.at.slice; rw [← hL] at hle; have HVP := hid hvp; have HBV := hid hbv; have HV := hid hV; have HLV := hid hlv; have HP := hid hP; have HND := hid hnd; have HAP := hid hap; have HE := hid hE; have HLE := hid hle; have HL := hid hL; have HBE := hid hbe; have HBC := hid hbc; have HBL := hid hbl; rw [hle]; rw [← hL] at hfew; clear hvp hbv hV hlv hP hnd hap hE hle hL hbe hbc hbl; go_enter Tryz.func45, Tryz.ntmps45; go_wp2_with fail
  go_loopw [5, 6, 11] (fun sv ov i wr => ∃ (k : Nat), k ≤ L ∧ i = .int .i64 k ∧ Hid (TwoR w sv ((rs.take k).filter (inB base)) ov ((rs.take k).filter fun r => !inB base r) wr)) (fun _ _ i _ => L - (intOf i).toNat)
  case atStart => exact ⟨0, Nat.zero_le _, rfl, (by show TwoR _ _ _ _ _ _; simpa using TwoR.start w)⟩
  case round =>
    obtain ⟨k, hk, rfl, HI⟩ := hrel
    by_cases hlt : k < L
    · obtain ⟨r, hr⟩ := some_of_lt (l := rs) (k := k) (by rw [← HL.out]; exact hlt); obtain ⟨b, cap, e1, q0, q1, q2⟩ := HLV.out.at hr; rw [HLE.out] at e1; injection e1 with e1 e2 e3; subst e1 e3; clear e2; have hmem := List.mem_of_getElem? hr; have r0 := upQ HI.out.below q0; have r1 := upQ HI.out.below q1; have r2 := upQ HI.out.below q2; have hs1 := filter_snocQ (inB base) hr; have hs2 := filter_snocQ (fun r => !inB base r) hr; have hpf := HP.out.pf r hmem; have hin := HP.out.ints r hmem; have hi1 : (k : Int) < (L : Int) := by omega
      obtain ⟨bb, hbb⟩ : ∃ bb, bb = inB base r := ⟨_, rfl⟩; rw [← hbb] at hs1 hs2; obtain ⟨w2, hw2⟩ : ∃ w2, w2 = wr.alloc (.cells #[.slice r.wa r.wn.length r.wc, .int .i64 r.pl, .slice (some ⟨r.g, 0, none⟩) 1 1] 34) := ⟨_, rfl⟩; have hB2 : Below wr.heap.size wr w2 := by rw [hw2]; exact below_alloc _ _
      have hBw : Below w.heap.size w w2 := HI.out.below.trans (hB2.mono HI.out.below.size); have x2 : w2.heap[wr.heap.size]? = some (.cells #[.slice r.wa r.wn.length r.wc, .int .i64 r.pl, .slice (some ⟨r.g, 0, none⟩) 1 1] 34 (0, 0)) := by rw [hw2]; exact (MapKept.heap_alloc _ _).1
      obtain ⟨y0, y1, y2⟩ := box3Q x2
      have v0 : w2.cell? ⟨vp, 0, none⟩ = some bv := by
        have := (hBw.block _ (lt_of_heapQ HVP.out)).trans HVP.out; simp only [World.cell?, this]; rfl
      have K38 : ∀ q, Calls Tryz.prog 38 #[.slice r.wa r.wn.length r.wc, bv] (w2.drewN q) fun e w' => e = .returned (.bool bb) ∧ ∃ q', w' = (w2.drewN q).drewN q' := fun q => by
        rw [hbb]; have hBq : Below w.heap.size w (w2.drewN q) := below_draws hBw q; exact within_ok A (w2.drewN q) (HE.out.below hBq h12) _ _ r.wn base (hin.at.mono hBq (Nat.le_refl _)) (HBV.out.at.mono hBq (Nat.le_refl _)) (two_zero.2 ⟨hpf.ok.chk, HBC.out, hpf.len.trans HBL.out.symm⟩)
      rw [HBE.out] at v0 K38; obtain ⟨bn, hbn⟩ : ∃ bn, bn = base.length := ⟨_, rfl⟩; rw [← hbn] at v0 K38; have HK38 := hid K38; obtain ⟨m1, hm1⟩ : ∃ m1, m1 = ((rs.take k).filter (inB base)).length := ⟨_, rfl⟩; obtain ⟨m2, hm2⟩ : ∃ m2, m2 = ((rs.take k).filter fun r => !inB base r).length := ⟨_, rfl⟩; have hmk1 : m1 ≤ k := by rw [hm1]; exact Nat.le_trans (List.length_filter_le _ _) (by rw [List.length_take]; omega)
      have hmk2 : m2 ≤ k := by rw [hm2]; exact Nat.le_trans (List.length_filter_le _ _) (by rw [List.length_take]; omega)
      obtain ⟨s1a, s1c, hse⟩ := HI.out.row1.shape; obtain ⟨s2a, s2c, hoe⟩ := HI.out.row2.shape; rw [← hm1] at hse; rw [← hm2] at hoe; subst hse hoe; have HS1 := hid hs1; have HS2 := hid hs2; have HM1 := hid hm1; have HM2 := hid hm2; have hws : w.heap.size ≤ wr.heap.size := HI.out.below.size; obtain ⟨bx, hbx⟩ : ∃ bx, bx = wr.heap.size := ⟨_, rfl⟩; rw [← hbx] at y0 y1 y2; have HB2 := hid hB2; obtain ⟨wa, wc, wn, pl, g⟩ := r; simp only at r0 r1 r2 y0 y1 y2 hw2 HK38; obtain ⟨n1, hn1⟩ : ∃ n1, n1 = wn.length := ⟨_, rfl⟩; rw [← hn1] at r0 y0 hw2 HK38
      have HONE : Hid (∀ v ∈ [Value.slice wa n1 wc, .int .i64 pl, .slice (some ⟨g, 0, none⟩) 1 1], v.oneCell' = true) := by
        rw [hn1]; exact Rp.one ⟨wa, wc, wn, pl, g⟩
      have HN1 := hid hn1; clear q0 q1 q2 hmem hs1 hs2 hpf hin hB2 hBw x2 K38 hm1 hm2 hn1 hr hbb hbn; go_wp2_with fail; rw [← hw2, ← hbx]; clear hw2 hbx r0 r1 r2
      go_region_held (fun w' => w'.cell? ⟨bx, 0, none⟩ = some (.slice wa n1 wc) ∧ w'.cell? ⟨vp, 0, none⟩ = some (.slice ba bn bc)) (go_keep) (first | (go_at_call 38; refine (HK38.out 1).mono ?_; rintro e w3 ⟨rfl, q3, hq3⟩; have z0 : w3.cell? ⟨bx, 0, none⟩ = some (.slice wa n1 wc) := (by rw [hq3]; exact y0); have z1 : w3.cell? ⟨bx, 1, none⟩ = some (.int .i64 pl) := (by rw [hq3]; exact y1); have z2 : w3.cell? ⟨bx, 2, none⟩ = some (.slice (some ⟨g, 0, none⟩) 1 1) := (by rw [hq3]; exact y2); have z3 : w3.cell? ⟨vp, 0, none⟩ = some (.slice ba bn bc) := (by rw [hq3]; exact v0); have HB3 : Hid (Below wr.heap.size wr w3) := (by rw [hq3]; exact below_draws (below_draws HB2.out 1) q3); clear hq3))
      have I3 := hid (HI.out.moved HB3.out); have R1 : Hid (w3.ownsRow w.heap.size 34 3 (.slice s1a m1 s1c) m1 (((rs.take k).filter (inB base)).flatMap Rp.cells)) := by have h := I3.out.row1; unfold RowR at h; rw [← HM1.out] at h; exact h
      have R2 : Hid (w3.ownsRow w.heap.size 34 3 (.slice s2a m2 s2c) m2 (((rs.take k).filter fun r => !inB base r).flatMap Rp.cells)) := by have h := I3.out.row2; unfold RowR at h; rw [← HM2.out] at h; exact h
      have hs3 : w.heap.size ≤ w3.heap.size := Nat.le_trans hws HB3.out.size; have hcl : Hid (Rp.cells ⟨wa, wc, wn, pl, g⟩ = [.slice wa n1 wc, .int .i64 pl, .slice (some ⟨g, 0, none⟩) 1 1]) := by rw [HN1.out]; rfl
      clear y0 y1 y2 v0 z3 HI
      cases bb with
      | true =>
        go_wp2_with (at_builtin; refine wpList_append_own_at _ rfl _ _ 22 rfl w.heap.size 34 i28 _ 3 56 Tryz.underlying22 hi28 hy0 hy1 hy2 rfl (by decide) _ _ _ rfl (R1.out.alloc _) ⟨w3.heap.size, 0, none⟩ 1 1 [.slice wa n1 wc, .int .i64 pl, .slice (some ⟨g, 0, none⟩) 1 1] rfl rfl (cells_newQ _ _ _ _ (by simp)) ?ho1 ?ho2 ?ho3 ?ho4 ?_; (case ho1 => exact HONE.out); (case ho2 => unfold maxLen; omega); (case ho3 => omega); (case ho4 => simp; omega); intro v9 w9 hown9 hgr9 _ hloc9; have G9 := hid hgr9; have O9 := hid hown9; have L9 := hid hloc9; clear hown9 hgr9 hloc9)
        refine ⟨⟨k + 1, by omega, by go_num, ?_⟩, by simp [intOf]; omega⟩; show TwoR _ _ _ _ _ _; rw [HS1.out, HS2.out, if_pos rfl, if_neg (by decide), List.append_nil]; have J := (I3.out.moved (below_alloc w3 _)).step1 (v' := v9) (r := ⟨wa, wc, wn, pl, g⟩) G9.out (by rw [← HM1.out, hcl.out]; exact O9.out) L9.out; exact J
      | false =>
        go_wp2_with (at_builtin; refine wpList_append_own_at _ rfl _ _ 22 rfl w.heap.size 34 i28 _ 3 56 Tryz.underlying22 hi28 hy0 hy1 hy2 rfl (by decide) _ _ _ rfl (R2.out.alloc _) ⟨w3.heap.size, 0, none⟩ 1 1 [.slice wa n1 wc, .int .i64 pl, .slice (some ⟨g, 0, none⟩) 1 1] rfl rfl (cells_newQ _ _ _ _ (by simp)) ?ho1 ?ho2 ?ho3 ?ho4 ?_; (case ho1 => exact HONE.out); (case ho2 => unfold maxLen; omega); (case ho3 => omega); (case ho4 => simp; omega); intro v9 w9 hown9 hgr9 _ hloc9; have G9 := hid hgr9; have O9 := hid hown9; have L9 := hid hloc9; clear hown9 hgr9 hloc9)
        refine ⟨⟨k + 1, by omega, by go_num, ?_⟩, by simp [intOf]; omega⟩; show TwoR _ _ _ _ _ _; rw [HS1.out, HS2.out, if_neg (by decide), if_pos (by decide), List.append_nil]; have J := ((I3.out.moved (below_alloc w3 _)).swap.step1 (v' := v9) (r := ⟨wa, wc, wn, pl, g⟩) G9.out (by rw [← HM2.out, hcl.out]; exact O9.out) L9.out).swap; exact J
    · obtain rfl : k = L := by omega
      have hi3 : ¬ (k : Int) < (k : Int) := by omega
      have hT := HI.out; rw [List.take_of_length_le (by rw [← HL.out]; exact Nat.le_refl _)] at hT; obtain ⟨S0, hS0⟩ : ∃ S0, S0 = rs.filter (inB base) := ⟨_, rfl⟩; obtain ⟨O0, hO0⟩ : ∃ O0, O0 = rs.filter fun r => !inB base r := ⟨_, rfl⟩
      rw [← hS0, ← hO0] at hT; have HS0 := hid hS0; have HO0 := hid hO0; obtain ⟨w1, hw1⟩ : ∃ w1, w1 = wr := ⟨_, rfl⟩; subst hw1; have subS : ∀ r ∈ S0, r ∈ rs := fun r hr => by rw [hS0] at hr; exact (List.mem_filter.1 hr).1
      have subO : ∀ r ∈ O0, r ∈ rs := fun r hr => by rw [hO0] at hr; exact (List.mem_filter.1 hr).1
      have lenS : S0.length ≤ 1000 := by rw [hS0]; exact Nat.le_trans (List.length_filter_le _ _) (by rw [← HL.out]; exact hfew)
      have lenO : O0.length ≤ 1000 := by rw [hO0]; exact Nat.le_trans (List.length_filter_le _ _) (by rw [← HL.out]; exact hfew)
      have P1 := HP.out.below hT.below; have glt : ∀ r ∈ rs, r.g < w.heap.size := fun r hr => lt_of_heapQ (HP.out.ops r hr)
      have vlt : ∀ r ∈ rs, ∀ a, r.wa = some a → a.block < w.heap.size := fun r hr a ha => by
        obtain ⟨ad, c, e, _, h2⟩ := (HP.out.ints r hr).at; injection e with e1 _ _; rcases h2 with h2 | ⟨b, o, e2, h2⟩
        · have := (HP.out.pf r hr).ok.hi; have h0 := (HP.out.pf r hr).ok.lo; have : r.pl < r.wn.length := this; have : 0 ≤ r.pl := h0; rw [h2] at *; simp at *; omega
        · have hh := (HP.out.pf r hr).ok.hi; have h0 := (HP.out.pf r hr).ok.lo; have hh' : r.pl < r.wn.length := hh; have h0' : 0 ≤ r.pl := h0; have := lt_of_cell (h2 0 (by omega)); rw [← e1, ha] at e2; cases e2; exact this
      have KS := hid (sortParts A w1 (HE.out.below hT.below h12) (Nat.le_trans h12 hT.below.size) E nb w.heap.size _ S0 hT.row1 h12 lenS (P1.sub subS).cmp (fun r hr b hb => by
        have hge := (hT.row1.lt b hb).1; refine ⟨fun e => ?_, fun a ha e => ?_⟩
        · have := glt r (subS r hr); omega
        · have := vlt r (subS r hr) a ha; omega))
      have hvp1 := (hT.below.block _ (lt_of_heapQ HVP.out)).trans HVP.out; obtain ⟨s1a, s1c, hse⟩ := hT.row1.shape; obtain ⟨s2a, s2c, hoe⟩ := hT.row2.shape; obtain ⟨m1, hm1⟩ : ∃ m1, m1 = S0.length := ⟨_, rfl⟩; obtain ⟨m2, hm2⟩ : ∃ m2, m2 = O0.length := ⟨_, rfl⟩; rw [← hm1] at hse; rw [← hm2] at hoe; subst hse hoe; have HT := hid hT; have HM2 := hid hm2; clear hT HI hlt hS0 hO0 hm1 hm2; go_wp2_with fail; refine KS.out.mono ?_; rintro e w2 ⟨rfl, ss, hperm, hord, hrow2, hoff2⟩; have h34 : ∀ b ∈ ownL (.slice s1a m1 s1c), ∃ cs, w1.heap[b]? = some (.cells cs 34 (0, 0)) := fun b hb => HT.out.row1.typed (mem_ownL.1 hb)
      have P2 := P1.rows hoff2 h34; have rowO2 := HT.out.row2.off hoff2 fun b hb hm => HT.out.apart b (mem_ownL.1 hm) hb
      have subSs : ∀ r ∈ ss, r ∈ rs := fun r hr => subS r (hperm.mem_iff.1 hr)
      have lenSs : ss.length ≤ 1000 := by rw [hperm.length_eq]; exact lenS
      have O2 : Off (blocksG rs D) w w2 := (Off.of_below HT.out.below).fresh hoff2 fun i hi => .inr (HT.out.row1.lt i (mem_ownL.1 hi)).1
      have K73 := hid (lastRegister_ok w2 w.heap.size _ ss E D hrow2 (P2.ops.sub subSs) lenSs); have HPERM := hid hperm; have HORD := hid hord; have HRO2 := hid rowO2; have HO2 := hid O2; have HP2 := hid P2; clear hperm hord hrow2 hoff2 rowO2 O2 h34 P2 KS; go_wp2_with fail; refine K73.out.mono ?_; rintro e w3 ⟨v3, rfl, hrow3, hB3⟩; obtain ⟨S1, hS1⟩ : ∃ S1, S1 = keepL (regB E ss) 0 ss := ⟨_, rfl⟩; rw [← hS1] at hrow3; have P3 := HP2.out.below hB3; have sub1 : S1.Sublist ss := by rw [hS1]; exact keepL_sub _ _ _
      have len1 : S1.length ≤ 1000 := Nat.le_trans sub1.length_le lenSs
      have nb1 : ∀ g ∈ S1.map (·.g), -1099511627776 ≤ (E g).n ∧ (E g).n ≤ 1099511627776 := fun g hg => by
        obtain ⟨q, hq, rfl⟩ := List.mem_map.1 hg; obtain ⟨_, a1, a2, _, _⟩ := opOk (HP.out.pf q (subSs q (sub1.subset hq))).err; exact ⟨a1, a2⟩
      have K72 := hid (sumCounters_ok w3 w2.heap.size v3 S1 E D hrow3 (P3.ops.sub fun r hr => subSs r (sub1.subset hr)) nb1 len1); obtain ⟨a3, c3, hv3⟩ := hrow3.shape; subst hv3; have HRO3 := hid (HRO2.out.below hB3); have HO3 := hid (HO2.out.trans (Off.of_below hB3)); have HP3 := hid P3; have HS1 := hid hS1; have hws3 : w.heap.size ≤ w3.heap.size := HO3.out.size; clear hrow3 hB3 P3 nb1 hS1 K73; go_wp2_with fail; refine K72.out.mono ?_; rintro e w4 ⟨v4, rfl, hsw⟩; obtain ⟨S2, hS2⟩ : ∃ S2, S2 = (sumQ E S1).kept := ⟨_, rfl⟩; obtain ⟨E2, hE2⟩ : ∃ E2, E2 = (sumQ E S1).E := ⟨_, rfl⟩; have P4 := HP3.out.summed (fun r hr => subSs r (sub1.subset hr)) hsw; have hrow4 := hsw.row; rw [← hE2] at P4; rw [← hS2] at hrow4; have sub2 : S2.Sublist S1 := by rw [hS2]; exact sumQ_sub E S1
      have len2 : S2.length ≤ 1000 := Nat.le_trans sub2.length_le len1; have s2all : ∀ r ∈ S2, r ∈ rs := fun r hr => subSs r (sub1.subset (sub2.subset hr))
      have P4S := (P4.sub s2all).both; have K71 := hid (withoutRemoved_ok w4 w3.heap.size v4 S2 E2 D hrow4 P4S.ops P4S.dots P4S.fit P4S.vec len2)
      have rowO4 : RowR w4 w.heap.size (.slice s2a m2 s2c) O0 := HRO3.out.off hsw.off fun b hb hm => by
        obtain ⟨q, hq, e⟩ := List.mem_map.1 hm; obtain ⟨cs, hcs⟩ := HRO3.out.typed hb; have := HP3.out.ops q (subSs q (sub1.subset hq)); rw [e, hcs] at this; injection this with this; injection this with _ this; exact absurd this (by decide)
      have O4 : Off (blocksG rs D) w w4 := HO3.out.trans (hsw.off.mono fun i hi => by
        obtain ⟨q, hq, e⟩ := List.mem_map.1 hi; exact List.mem_append_left _ (List.mem_map.2 ⟨q, subSs q (sub1.subset hq), e⟩))
      obtain ⟨a4, c4, hv4⟩ := hrow4.shape; subst hv4; have HRO4 := hid rowO4; have HO4 := hid O4; have HP4 := hid P4; have HS2 := hid hS2; have HE2 := hid hE2; clear hrow4 P4 P4S rowO4 O4 hS2 hE2 hsw K72; go_wp2_with fail; refine K71.out.mono ?_; rintro e w5 ⟨v5, rfl, hrow5, hB5⟩; obtain ⟨S3, hS3⟩ : ∃ S3, S3 = keepL (wrQ E2 (remT E2 S2)) 0 S2 := ⟨_, rfl⟩; rw [← hS3] at hrow5; have P5 := HP4.out.below hB5; have sub3 : S3.Sublist S2 := by rw [hS3]; exact keepL_sub _ _ _
      have len3 : S3.length ≤ 1000 := Nat.le_trans sub3.length_le len2; have s3all : ∀ r ∈ S3, r ∈ rs := fun r hr => s2all r (sub3.subset hr)
      have O5 : Off (blocksG rs D) w w5 := HO4.out.trans (Off.of_below hB5); have vpG := not_blocksG HP.out.ops HP.out.dots HVP.out (by decide) (by decide); have hvp5 : w5.heap[vp]? = some (.cells #[bv, .map (some mbv), .map (some db)] 83 (0, 0)) := (O5.block _ (lt_of_heapQ HVP.out) vpG).trans HVP.out; obtain ⟨des, dcl, hdo⟩ := HV.out.obj; have hV5 := HV.out.off O5 (map_notG HP.out.ops HP.out.dots hdo)
      have nd3 : (S3.map (·.g)).Nodup := by
        have hss : (ss.map (·.g)).Nodup := (HPERM.out.map (·.g)).nodup_iff.2 ((by rw [HS0.out]; exact List.filter_sublist : S0.Sublist rs).map _ |>.nodup HND.out); exact (((sub3.trans sub2).trans sub1).map _).nodup hss
      have K74 := hid (withoutSpent_ok w5 vp db 0 nd V v5 (.slice s2a m2 s2c) S3 O0 E2 D (hrow5.mono (Nat.zero_le _)) ((HRO4.out.below hB5).mono (Nat.zero_le _)) (P5.sub s3all).both (P5.sub subO).both len3 lenO bv _ hvp5 hV5 nd3 (fun q hq q' hq' => HAP.out q (s3all q hq) q' (s3all q' hq'))); obtain ⟨a5, c5, hv5⟩ := hrow5.shape; subst hv5; have HRO5 := hid (HRO4.out.below hB5); have HO5 := hid O5; have HP5 := hid P5; have HS3 := hid hS3; have HND3 := hid nd3; clear hrow5 hB5 P5 O5 hvp5 hV5 nd3 hS3 K71; go_wp2_with fail; refine K74.out.mono ?_; rintro e w6 ⟨v6, D6, rfl, hrow6, hsp6⟩; obtain ⟨T6, hT6⟩ : ∃ T6, T6 = addsT E2 S3 ++ addsT E2 O0 := ⟨_, rfl⟩; rw [← hT6] at hrow6 hsp6; obtain ⟨S4, hS4⟩ : ∃ S4, S4 = keepL (spQ V T6 E2) 0 S3 := ⟨_, rfl⟩; rw [← hS4] at hrow6
      have rowO6 : RowR w6 w.heap.size (.slice s2a m2 s2c) O0 := HRO5.out.off hsp6.off fun b hb hm => by
        obtain ⟨cs, hcs⟩ := HRO5.out.typed hb; exact not_blocksG (HP5.out.ops.sub s3all) (fun r hr => HP5.out.dots r (s3all r hr)) hcs (by decide) (by decide) hm
      have sub4 : S4.Sublist S3 := by rw [hS4]; exact keepL_sub _ _ _
      have len4 : S4.length ≤ 1000 := Nat.le_trans sub4.length_le len3; have inS0 : ∀ r ∈ S3, r ∈ S0 := fun r hr => HPERM.out.mem_iff.1 (sub1.subset (sub2.subset (sub3.subset hr)))
      have dis : ∀ r ∈ S3, ∀ q ∈ O0, r.g ≠ q.g := fun r hr q hq e => by
        have e1 := g_inj HND.out (s3all r hr) (subO q hq) e; have h1 := inS0 r hr; rw [HS0.out] at h1; rw [HO0.out] at hq; have a1 := (List.mem_filter.1 h1).2; have a2 := (List.mem_filter.1 hq).2; rw [e1] at a1; rw [a1] at a2; cases a2
      have SP := HP5.out.spent s3all subO dis HAP.out hsp6; have O6 : Off (blocksG rs D) w w6 := HO5.out.trans (hsp6.off.mono (blocksG_sub s3all)); have ROW6 := hid hrow6; obtain ⟨a6, c6, hv6⟩ := hrow6.shape; obtain ⟨m4, hm4⟩ : ∃ m4, m4 = S4.length := ⟨_, rfl⟩; rw [← hm4] at hv6 len4; subst hv6; have ROW6' : Hid (w6.ownsRow w5.heap.size 34 3 (.slice a6 m4 c6) m4 (S4.flatMap Rp.cells)) := by have h := ROW6.out; unfold RowR at h; rw [← hm4] at h; exact h
      have SRC : Hid (SrcAt w6 (.slice s2a m2 s2c) m2 3 (O0.flatMap Rp.cells)) := by have h := srcR rowO6; rw [← HM2.out] at h; exact h
      have h56 : w5.heap.size ≤ w6.heap.size := hsp6.off.size; have hm2l : m2 ≤ 1000 := by rw [HM2.out]; exact lenO
      have HSP := hid SP; have HO6 := hid O6; have HS4 := hid hS4; have HT6 := hid hT6; have HM4 := hid hm4; have hw5 : w.heap.size ≤ w5.heap.size := HO5.out.size; clear hrow6 hsp6 rowO6 SP O6 hS4 hT6 hm4 K74
      go_wp2_with (at_builtin; refine wpList_append_own_src rfl _ _ 22 rfl w5.heap.size 34 i28 _ 3 56 Tryz.underlying22 hi28 hy0 hy1 hy2 rfl (by decide) _ _ _ rfl ROW6'.out _ m2 (O0.flatMap Rp.cells) rfl SRC.out (flatR_one _) ?hm2 ?hm3 ?hm4 ?_; (case hm2 => unfold maxLen; omega); (case hm3 => omega); (case hm4 => exact h56); intro v7 w7 hown7 hgr7)
      go_ret
      have rowA : RowR w7 w5.heap.size v7 (S4 ++ O0) := by
        unfold RowR; rw [List.length_append, List.flatMap_append, ← HM4.out, ← HM2.out]; exact hown7
      have h34 : ∀ b ∈ ownL (.slice a6 m4 c6), ∃ cs, w6.heap[b]? = some (.cells cs 34 (0, 0)) := fun b hb => ROW6.out.typed (by rw [← HM4.out] at *; exact mem_ownL.1 hb)
      have PO7 := (HSP.out.1.sub (rs' := S4 ++ O0) fun r hr => by
        rcases List.mem_append.1 hr with hr | hr
        · exact List.mem_append_left _ (sub4.subset hr)
        · exact List.mem_append_right _ hr).rows (Off.of_grown hgr7) h34
      have eO : ∀ q ∈ O0, E2 q.g = E q.g := fun q hq => by
        rw [HE2.out]; rcases sumE_rest E S1 q.g with e | ⟨_, hm, _⟩
        · exact e
        · obtain ⟨r, hr, e⟩ := List.mem_map.1 hm; have e1 := g_inj HND.out (subSs r (sub1.subset hr)) (subO q hq) e; have h1 := HPERM.out.mem_iff.1 (sub1.subset hr); rw [HS0.out] at h1; rw [HO0.out] at hq; have a1 := (List.mem_filter.1 h1).2; have a2 := (List.mem_filter.1 hq).2; rw [e1] at a1; rw [a1] at a2; cases a2
      have mO : O0.map (absR E2) = O0.map (absR E) := List.map_congr_left fun q hq => by unfold absR; rw [eO q hq]
      have mO' : O0.map (absR (trimK (keepD V T6) E2 S3 S3.length)) = O0.map (absR E) := List.map_congr_left fun q hq => by
        unfold absR trimK
        rw [List.take_length, if_neg (fun hm => by
          obtain ⟨r, hr, e⟩ := List.mem_map.1 hm; exact dis r hr q hq e), eO q hq]
      have nd1 : (S1.map (·.g)).Nodup := by
        have hss : (ss.map (·.g)).Nodup := (HPERM.out.map (·.g)).nodup_iff.2 ((by rw [HS0.out]; exact List.filter_sublist : S0.Sublist rs).map _ |>.nodup HND.out); exact (sub1.map _).nodup hss
      have m4 : S4.map (absR (trimK (keepD V T6) E2 S3 S3.length)) = spentL V (S3.map (absR E2)) (O0.map (absR E2)) := by
        rw [HS4.out, HT6.out]
        exact spentL_map V E2 _ S3 O0 fun r hr => by
          unfold trimK; rw [List.take_length, if_pos (List.mem_map.2 ⟨r, hr, rfl⟩)]
      have m3 : S3.map (absR E2) = withoutRem (S2.map (absR E2)) := by rw [HS3.out]; exact withoutRem_map E2 S2
      have m2' : S2.map (absR E2) = sumC (S1.map (absR E)) := by rw [HS2.out, HE2.out]; exact sumC_map E S1 nd1
      have m1' : S1.map (absR E) = lastReg (ss.map (absR E)) := by rw [HS1.out]; exact lastReg_map E ss
      refine ⟨v7, ss, S4 ++ O0, trimK (keepD V T6) E2 S3 S3.length, joinD S3 D6 D, rfl, ⟨by rw [← HS0.out]; exact HPERM.out, HORD.out, rowA.mono hw5, PO7, ?_, ?_, ?_, ?_, ?_, ?_⟩⟩
      · intro r hr; rcases List.mem_append.1 hr with hr | hr
        · exact s3all r (sub4.subset hr)
        · exact subO r hr
      · rw [List.map_append, List.nodup_append]; refine ⟨(sub4.map _).nodup HND3.out, ((by rw [HO0.out]; exact List.filter_sublist : O0.Sublist rs).map _).nodup HND.out, fun a ha b hb e => ?_⟩; obtain ⟨r, hr, rfl⟩ := List.mem_map.1 ha; obtain ⟨q, hq, rfl⟩ := List.mem_map.1 hb; exact dis r (sub4.subset hr) q hq e
      · intro r hr; refine HSP.out.2 r ?_; rcases List.mem_append.1 hr with hr | hr
        · exact List.mem_append_left _ (sub4.subset hr)
        · exact List.mem_append_right _ hr
      · exact HO6.out.fresh (Off.of_grown hgr7) fun i hi => .inr (by have := (ROW6'.out.lt i (mem_ownL.1 hi)).1; omega)
      · rw [List.map_append, mO', m4, mO, m3, m2', m1', ← HO0.out]; rfl
      · rw [List.length_append]; have h1 := ((sub4.trans sub3).trans sub2).trans sub1 |>.length_le; have h2 := HPERM.out.length_eq; have h3 := filter_both (inB base) rs; rw [← HS0.out, ← HO0.out] at h3; omega
end Go.Proofs.YtdnebclemngdcaaGreatDoor
namespace Go.Proofs.YtdnebclemngdcaaGreatDoor
open Go.RowKit Go.Sort Go.Maps
set_option maxRecDepth 100000
set_option linter.unusedSectionVars false
variable [Inhabited ComV] [DecidableEq D3] [Inhabited D3] [Inhabited Dd] [Inhabited Dn] [Inhabited OpV]

theorem RowsO.keep {B : Nat} {w w' : World} {nb : Nat} {f : ByteArray → Value} {R : ByteArray → List Rp} {E : Nat → OpV} {D : Nat → Value} (h : RowsO B w nb f R E D) (keep : ∀ {b : Nat} {cs : Array Value} {t : TypeId}, t ≠ 83 → w.heap[b]? = some (.cells cs t (0, 0)) → w'.heap[b]? = w.heap[b]?) : RowsO B w' nb f R E D := by
  refine ⟨fun k => ?_, fun k => ⟨fun r hr => ?_, fun r hr => ?_, fun r hr => ?_, (h.po k).pf⟩, h.nd, h.ap, h.sep, h.apart, h.ge⟩
  · refine ⟨(h.rows k).1, ?_⟩; rcases (h.rows k).2 with h0 | ⟨g, cap, cur, hv, h1, hh, h2⟩
    · exact .inl h0
    · exact .inr ⟨g, cap, cur, hv, h1, by rw [keep (by decide) hh]; exact hh, h2⟩
  · rw [keep (by decide) ((h.po k).ops r hr)]; exact (h.po k).ops r hr
  · refine ((h.po k).dots r hr).kept fun b hb => ?_
    obtain ⟨cs, hcs⟩ := ((h.po k).dots r hr).block hb; exact keep (by decide) hcs
  · exact RowT.kept ((h.po k).ints r hr) fun b cs hb => keep (by decide) hb
theorem cells_type {w : World} {b : Nat} {cs cs' : Array Value} {t t' : TypeId} (h : w.heap[b]? = some (.cells cs t (0, 0))) (h' : w.heap[b]? = some (.cells cs' t' (0, 0))) : t = t' := by
  rw [h] at h'; injection h' with h'; injection h' with _ h'
theorem blocksG_type {w : World} {E : Nat → OpV} {D : Nat → Value} {nb : Nat} {rs : List Rp} (h : PO w E D nb rs) {b : Nat} (hb : b ∈ blocksG rs D) : (∃ cs, w.heap[b]? = some (.cells cs 76 (0, 0)) ∧ b ∈ rs.map (·.g)) ∨ (∃ cs, w.heap[b]? = some (.cells cs 87 (0, 0)) ∧ ∃ r ∈ rs, (D r.g).ownBlock = some b) := by
  rcases List.mem_append.1 hb with hb | hb
  · obtain ⟨q, hq, e⟩ := List.mem_map.1 hb; exact .inl ⟨_, by rw [← e]; exact h.ops q hq, List.mem_map.2 ⟨q, hq, e⟩⟩
  · obtain ⟨q, hq, e⟩ := List.mem_flatMap.1 hb; obtain ⟨cs, hcs⟩ := (h.dots q hq).block (mem_ownL.1 e); exact .inr ⟨cs, hcs, q, hq, mem_ownL.1 e⟩
def setE (rs : List Rp) (E' E : Nat → OpV) : Nat → OpV := fun g => if g ∈ rs.map (·.g) then E' g else E g
def setD (rs : List Rp) (D' D : Nat → Value) : Nat → Value := fun g => if g ∈ rs.map (·.g) then D' g else D g
theorem RowsO.settle {B : Nat} {w w' : World} {nb : Nat} {f : ByteArray → Value} {R : ByteArray → List Rp} {E E' : Nat → OpV} {D D' : Nat → Value} {k : ByteArray} {v : Value} {V : D3 → Bool} {base : List Int} {ss res : List Rp} (h : RowsO B w nb f R E D) (hs : SettleOut V base nb (R k) E D w v w' ss res E' D') (hB : B ≤ w.heap.size) :
    RowsO B w' nb (updF f k v) (updR R k res) (setE (R k) E' E) (setD (R k) D' D) := by
  have hin : ∀ r ∈ res, r.g ∈ (R k).map (·.g) := fun r hr => List.mem_map.2 ⟨r, hs.sub r hr, rfl⟩
  have hout : ∀ k', k' ≠ k → ∀ r ∈ R k', r.g ∉ (R k).map (·.g) := fun k' hk r hr hm => by
    obtain ⟨q, hq, e⟩ := List.mem_map.1 hm; exact (h.sep k' k hk r hr q hq).1 e.symm
  have hE1 : ∀ k', k' ≠ k → ∀ r ∈ R k', setE (R k) E' E r.g = E r.g := fun k' hk r hr => if_neg (hout k' hk r hr)
  have hD1 : ∀ k', k' ≠ k → ∀ r ∈ R k', setD (R k) D' D r.g = D r.g := fun k' hk r hr => if_neg (hout k' hk r hr)
  have hE2 : ∀ r ∈ res, setE (R k) E' E r.g = E' r.g := fun r hr => if_pos (hin r hr)
  have hD2 : ∀ r ∈ res, setD (R k) D' D r.g = D' r.g := fun r hr => if_pos (hin r hr)
  have keep : ∀ {b : Nat} {cs : Array Value} {t : TypeId}, t ≠ 76 → t ≠ 87 → w.heap[b]? = some (.cells cs t (0, 0)) → w'.heap[b]? = w.heap[b]? := fun {b cs t} h1 h2 hb => hs.off.block b (lt_of_heapQ hb) fun hm => by
    rcases blocksG_type (h.po k) hm with ⟨_, e, _⟩ | ⟨_, e, _⟩
    · exact h1 (cells_type hb e)
    · exact h2 (cells_type hb e)
  refine ⟨fun k' => ?_, fun k' => ?_, fun k' => ?_, fun k' => ?_, fun k1 k2 hk r hr q hq => ?_, fun k1 k2 hk b hb1 hb2 => ?_, fun k' r hr => ?_⟩
  · by_cases e : k' = k
    · subst e; rw [updF_same, updR_same]; exact hs.row.mono hB
    · rw [updF_other _ _ e, updR_other _ _ e]; refine ⟨(h.rows k').1, ?_⟩; rcases (h.rows k').2 with h0 | ⟨g, cap, cur, hv, h1, hh, h2⟩
      · exact .inl h0
      · exact .inr ⟨g, cap, cur, hv, h1, by rw [keep (by decide) (by decide) hh]; exact hh, h2⟩
  · by_cases e : k' = k
    · subst e; rw [updR_same]; exact hs.po.fresh hE2 hD2
    · rw [updR_other _ _ e]; refine PO.fresh (E := E) (D := D) ⟨fun r hr => ?_, fun r hr => ?_, fun r hr => ?_, (h.po k').pf⟩ (hE1 k' e) (hD1 k' e)
      · rw [hs.off.block _ (lt_of_heapQ ((h.po k').ops r hr)) fun hm => ?_]
        · exact (h.po k').ops r hr
        · rcases blocksG_type (h.po k) hm with ⟨_, _, x⟩ | ⟨_, x, _⟩
          · exact hout k' e r hr x
          · exact absurd (cells_type ((h.po k').ops r hr) x) (by decide)
      · refine ((h.po k').dots r hr).kept fun b hb => ?_
        obtain ⟨cs, hcs⟩ := ((h.po k').dots r hr).block hb; refine hs.off.block b (lt_of_heapQ hcs) fun hm => ?_
        rcases blocksG_type (h.po k) hm with ⟨_, x, _⟩ | ⟨_, _, q, hq, x⟩
        · exact absurd (cells_type hcs x) (by decide)
        · exact (h.sep k' k e r hr q hq).2 b hb x
      · exact RowT.kept ((h.po k').ints r hr) fun b cs hb => keep (by decide) (by decide) hb
  · by_cases e : k' = k
    · subst e; rw [updR_same]; exact hs.nd
    · rw [updR_other _ _ e]; exact h.nd k'
  · by_cases e : k' = k
    · subst e; rw [updR_same]; intro q hq q' hq' hne b hb1 hb2; rw [hD2 q hq, hs.own q hq] at hb1; rw [hD2 q' hq', hs.own q' hq'] at hb2; exact h.ap _ q (hs.sub q hq) q' (hs.sub q' hq') hne b hb1 hb2
    · rw [updR_other _ _ e]; intro q hq q' hq' hne b hb1 hb2; rw [hD1 k' e q hq] at hb1; rw [hD1 k' e q' hq'] at hb2; exact h.ap k' q hq q' hq' hne b hb1 hb2
  · by_cases e1 : k1 = k
    · subst e1; have e2 : k2 ≠ k1 := fun x => hk x.symm
      rw [updR_same] at hr; rw [updR_other _ _ e2] at hq; rw [hD2 r hr, hD1 k2 e2 q hq, hs.own r hr]; exact h.sep k1 k2 hk r (hs.sub r hr) q hq
    · rw [updR_other _ _ e1] at hr
      by_cases e2 : k2 = k
      · subst e2; rw [updR_same] at hq; rw [hD1 k1 e1 r hr, hD2 q hq, hs.own q hq]; exact h.sep k1 k2 hk r hr q (hs.sub q hq)
      · rw [updR_other _ _ e2] at hq; rw [hD1 k1 e1 r hr, hD1 k2 e2 q hq]; exact h.sep k1 k2 hk r hr q hq
  · by_cases e1 : k1 = k
    · subst e1; have e2 : k2 ≠ k1 := fun x => hk x.symm
      rw [updF_same] at hb1; rw [updF_other _ _ e2] at hb2; have := (hs.row.lt b hb1).1; have := ((h.rows k2).lt b hb2).2; omega
    · rw [updF_other _ _ e1] at hb1
      by_cases e2 : k2 = k
      · subst e2; rw [updF_same] at hb2; have := (hs.row.lt b hb2).1; have := ((h.rows k1).lt b hb1).2; omega
      · rw [updF_other _ _ e2] at hb2; exact h.apart k1 k2 hk b hb1 hb2
  · by_cases e : k' = k
    · subst e; rw [updR_same] at hr; rw [hD2 r hr, hs.own r hr]; exact h.ge _ r (hs.sub r hr)
    · rw [updR_other _ _ e] at hr; rw [hD1 k' e r hr]; exact h.ge k' r hr
def SettledAs (V : D3 → Bool) (base : List Int) (row new : List ComV) : Prop := ∃ ss : List ComV, ss.Perm (row.filter fun c => leB c.when_ base) ∧ (ss.map dn1).Pairwise (fun a b => ltN b a = false) ∧ new = settled V ss (row.filter fun c => !leB c.when_ base) ++ row.filter fun c => !leB c.when_ base
theorem filter_abs (E : Nat → OpV) (p : ComV → Bool) (q : Rp → Bool) : ∀ (rs : List Rp), (∀ r, q r = p (absR E r)) → (rs.filter q).map (absR E) = (rs.map (absR E)).filter p
  | [], _ => rfl
  | r :: rs, h => by
    rw [List.map_cons, List.filter_cons, List.filter_cons, ← h r]
    cases q r with
    | true => rw [if_pos rfl, if_pos rfl, List.map_cons, filter_abs E p q rs h]
    | false => rw [if_neg (by decide), if_neg (by decide), filter_abs E p q rs h]
theorem SettleOut.as {V : D3 → Bool} {base : List Int} {nb : Nat} {rs : List Rp} {E : Nat → OpV} {D : Nat → Value} {w : World} {v : Value} {w' : World} {ss res : List Rp} {E' : Nat → OpV} {D' : Nat → Value} (h : SettleOut V base nb rs E D w v w' ss res E' D') : SettledAs V base (rs.map (absR E)) (res.map (absR E')) := by
  have e1 := filter_abs E (fun c => leB c.when_ base) (inB base) rs fun r => rfl
  have e2 := filter_abs E (fun c => !leB c.when_ base) (fun r => !inB base r) rs fun r => rfl
  refine ⟨ss.map (absR E), by rw [← e1]; exact h.perm.map _, ?_, by rw [h.abs_, e2]⟩
  have : (ss.map (absR E)).map dn1 = ss.map (dnR E) := by
    rw [List.map_map]; rfl
  rw [this]; exact h.order
theorem VerO.ver {B : Nat} {w : World} {p mb db n nb : Nat} {f : ByteArray → Value} {s : St} {R : ByteArray → List Rp} {E : Nat → OpV} {D : Nat → Value} (h : VerO B w p mb db n nb f s R E D) : VerAt w p mb db f s n := by
  refine ⟨h.box, h.dots, h.map, fun k => ⟨(R k).map Rp.cells, ?_, ?_⟩, h.rows.apart, h.ne⟩
  · rw [flatten_map, ← h.abs_ k, List.length_map]; exact (h.rows.rows k).mono (Nat.zero_le _)
  · rw [← h.abs_ k]; exact (h.rows.po k).comT
end Go.Proofs.YtdnebclemngdcaaGreatDoor
namespace Go.Proofs.YtdnebclemngdcaaGreatDoor
open Go.RowKit Go.Sort Go.Maps
set_option maxRecDepth 100000
set_option linter.unusedSectionVars false
variable [Inhabited ComV] [DecidableEq D3] [Inhabited D3] [Inhabited Dd] [Inhabited Dn] [Inhabited OpV]

set_option maxHeartbeats 2000000 in
theorem keysR_ok (w : World) (p mb db n : Nat) (f : ByteArray → Value) (s : St) (hV : VerAt w p mb db f s n) (hn : n ≤ 1000000) :
    Calls Tryz.prog 19 #[.pointer (some ⟨p, 0, none⟩)] w fun e w' => ∃ v ss, e = .returned v ∧ KeysOfSt s ss ∧ w'.ownsRow 0 9 1 v ss.length (ss.map encStr) ∧ ss.length ≤ 1000000 ∧ Below w.heap.size w w' := by
  obtain ⟨ba, bc, p0, p1, p2, hbt, hpx⟩ := hV.boxAt; obtain ⟨D, hD, hs⟩ := hV.map; have hsz := hD.size_le; have K52 := (callsIn_wide (n := 5)).1 (Tryz.maps_Keys_52 (some mb) w); have K51 := hid ((callsIn_wide (n := 5)).1 (Tryz.slices_Sorted_keys_51_52 mb n D sliceElem w hD (by unfold maxLen; omega) (by omega))); have HD := hid hD; have HS := hid hs; have HSZ := hid hsz; clear hV hbt hpx p0 p2 hs hD hsz; go_enter Tryz.func19, Tryz.ntmps19
  go_wp2_with (go_at_call 52; refine K52.mono ?_; rintro e w' ⟨rfl, rfl⟩)
  refine K51.out.mono ?_; rintro e w1 ⟨v, ss, rfl, hperm, hrow, _, hb⟩; have H1 := hid hperm; have H2 := hid hrow; have hb0 := below_alloc w (.cells #[.map (some mb)] 80); have B1 := hid (hb0.trans (hb.mono hb0.size)); clear hperm hrow hb hb0 K52 K51; go_wp2_with fail; go_ret; have hlen : (ss.mergeSort fun x y => decide (x ≤ y)).length = ss.length := List.length_mergeSort _; obtain ⟨hnd, hmem⟩ := strKeys_has HD.out
  have hkl : (strKeys D).length = Maps.size D := by
    obtain ⟨es, hD', _⟩ := HD.out.keysOf; rw [hD']; simp [strKeys, Maps.size]
  refine ⟨_, ss.mergeSort fun x y => decide (x ≤ y), rfl, ⟨strKeys D, hnd, fun x => ?_, mergeSort_of_perm H1.out⟩, ownsMono (Nat.zero_le _) (by rw [hlen]; exact H2.out), ?_, B1.out⟩
  · have := (HS.out ⟨x.toArray⟩).1; rw [hmem, show (Lit.string x) = klS ⟨x.toArray⟩ by simp [klS], this, decide_eq_true_eq]
  · rw [hlen, H1.out.length_eq, hkl]; have := HSZ.out; omega

theorem comb_length (F : Int → Int → Int) (zs ys : List Int) : (comb F zs ys).length = zs.length := mid_length F zs ys _ _
theorem comb_getD (F : Int → Int → Int) (zs ys : List Int) {t : Nat} (ht : t < zs.length) : (comb F zs ys).getD t 0 = F (zs.getD t 0) (ys.getD t 0) := by
  unfold comb mid; rw [List.getD_eq_getElem?_getD, List.getElem?_map, List.getElem?_range ht]; simp [ht]
theorem chk_most {zs ys : List Int} (h : two zs ys = 0) : chk (comb mxI zs ys) = 0 := by
  obtain ⟨h1, h2, h3⟩ := two_zero.1 h; obtain ⟨a1, a2, a3⟩ := chk_zero.1 h1; obtain ⟨b1, b2, b3⟩ := chk_zero.1 h2; refine chk_zero.2 ⟨by rw [comb_length]; exact a1, by rw [comb_length]; exact a2, fun t ht => ?_⟩; rw [comb_length] at ht; rw [comb_getD _ _ _ ht]; unfold mxI
  split
  · exact b3 t (by omega)
  · exact a3 t ht
def keyB (x : List UInt8) : ByteArray := ⟨x.toArray⟩
structure PrInv (w : World) (B p mb db n nb : Nat) (bv : Value) (base : List Int) (s : St) (V : D3 → Bool) (ks : List (List UInt8)) (kv : Value) (i : Nat) (f : ByteArray → Value) (R : ByteArray → List Rp) (E : Nat → OpV) (D : Nat → Value) (wr : World) : Prop where
  box : wr.heap[p]? = some (.cells #[bv, .map (some mb), .map (some db)] 83 (0, 0))
  ints : IntsT wr bv base
  dots : DotSet wr db n V
  map : ∃ Dm : DataW Unit, wr.ownsMap Tryz.prog 9 sliceElem mb (n + i) Dm ∧ ∀ k, Dm.atKey (klS k) .nil = rowDat (f k)
  rows : RowsO B wr nb f R E D
  todo : ∀ k, k ∉ (ks.take i).map keyB → (R k).map (absR E) = rowOf s k
  done : ∀ k, k ∈ (ks.take i).map keyB → SettledAs V base (rowOf s k) ((R k).map (absR E))
  few : ∀ k, (R k).length ≤ 1000
  keys : wr.ownsRow 0 9 1 kv ks.length (ks.map encStr)
  below : Below B w wr
theorem PrInv.next {w w1 w2 w3 : World} {B p mb db n nb : Nat} {bv : Value} {base : List Int} {s : St} {V : D3 → Bool} {ks : List (List UInt8)} {kv : Value} {i : Nat} {f : ByteArray → Value} {R : ByteArray → List Rp} {E : Nat → OpV} {D : Nat → Value} {x : List UInt8} {v2 : Value} {ss res : List Rp} {E' : Nat → OpV} {D' : Nat → Value} {Dm : DataW Unit}
    (h : PrInv w B p mb db n nb bv base s V ks kv i f R E D w1) (hk : ks.Nodup) (hx : ks[i]? = some x) (hB : B ≤ mb) (hne : mb ≠ db)
    (hs : SettleOut V base nb (R (keyB x)) E D w1 v2 w2 ss res E' D') (hDk : ∀ k, Dm.atKey (klS k) .nil = rowDat (f k)) (hDm : w2.ownsMap Tryz.prog 9 sliceElem mb (n + i) Dm) (hg : w2.grownBy w3 (some mb)) (hm : w3.ownsMap Tryz.prog 9 sliceElem mb (n + i + 1) (Dm.put (klS (keyB x)) (rowDat v2))) :
    PrInv w B p mb db n nb bv base s V ks kv (i + 1) (updF f (keyB x) v2) (updR R (keyB x) res) (setE (R (keyB x)) E' E) (setD (R (keyB x)) D' D) w3 := by
  have hin : ∀ r ∈ res, r.g ∈ (R (keyB x)).map (·.g) := fun r hr => List.mem_map.2 ⟨r, hs.sub r hr, rfl⟩
  have hout : ∀ k', k' ≠ keyB x → ∀ r ∈ R k', r.g ∉ (R (keyB x)).map (·.g) := fun k' hk r hr hm => by
    obtain ⟨q, hq, e⟩ := List.mem_map.1 hm; exact (h.rows.sep k' _ hk r hr q hq).1 e.symm
  have same : res.map (absR (setE (R (keyB x)) E' E)) = res.map (absR E') := List.map_congr_left fun r hr => by
    unfold absR setE; rw [if_pos (hin r hr)]
  have other : ∀ k, k ≠ keyB x → (R k).map (absR (setE (R (keyB x)) E' E)) = (R k).map (absR E) := fun k hk => List.map_congr_left fun r hr => by
    unfold absR setE; rw [if_neg (hout k hk r hr)]
  have keep2 : ∀ {b : Nat} {cs : Array Value} {t : TypeId}, t ≠ 76 → t ≠ 87 → w1.heap[b]? = some (.cells cs t (0, 0)) → w2.heap[b]? = w1.heap[b]? := fun {b cs t} h1 h2 hb => hs.off.block b (lt_of_heapQ hb) fun hm => by
    rcases blocksG_type (h.rows.po _) hm with ⟨_, e, _⟩ | ⟨_, e, _⟩
    · exact h1 (cells_type hb e)
    · exact h2 (cells_type hb e)
  have keep3 : ∀ {b : Nat} {cs : Array Value} {t : TypeId}, w2.heap[b]? = some (.cells cs t (0, 0)) → w3.heap[b]? = w2.heap[b]? := fun {b cs t} hb => cells_keep hg (map_no_cells hDm) hb
  have keep : ∀ {b : Nat} {cs : Array Value} {t : TypeId}, t ≠ 76 → t ≠ 87 → w1.heap[b]? = some (.cells cs t (0, 0)) → w3.heap[b]? = w1.heap[b]? := fun {b cs t} h1 h2 hb => by
    have e2 := keep2 h1 h2 hb; rw [keep3 (e2.trans hb), e2]
  have hxin : ∀ k, k ∈ (ks.take (i + 1)).map keyB ↔ k ∈ (ks.take i).map keyB ∨ k = keyB x := fun k => by
    rw [take_snocQ hx, List.map_append, List.mem_append]; simp
  have hxnot : keyB x ∉ (ks.take i).map keyB := fun hm => by
    obtain ⟨y, hy, e⟩ := List.mem_map.1 hm
    have e' : y = x := by
      unfold keyB at e; injection e with e; exact List.toArray_inj e
    subst e'; obtain ⟨j, hj, hjy⟩ := List.mem_iff_getElem.1 hy; rw [List.getElem_take] at hjy; have hjl : j < i := by rw [List.length_take] at hj; omega
    obtain ⟨hil, hiy⟩ := List.getElem?_eq_some_iff.1 hx; exact (List.nodup_iff_pairwise_ne.1 hk |> fun hp => (List.pairwise_iff_getElem.1 hp) j i (by omega) hil hjl) (hjy.trans hiy.symm)
  have hbl : ∀ b ∈ blocksG (R (keyB x)) D, B ≤ b := fun b hb => by
    rcases List.mem_append.1 hb with hb | hb
    · obtain ⟨q, hq, e⟩ := List.mem_map.1 hb; exact e ▸ (h.rows.ge _ q hq).1
    · obtain ⟨q, hq, e⟩ := List.mem_flatMap.1 hb; exact (h.rows.ge _ q hq).2 b (mem_ownL.1 e)
  have hB2 : Below B w w2 := h.below.trans ⟨hs.off.os, hs.off.tape, hs.off.output, hs.off.size, fun j hj => hs.off.block j (Nat.lt_of_lt_of_le hj (Nat.le_trans hB (Nat.le_of_lt (by obtain ⟨_, hm1, _⟩ := h.map; exact hm1.lt)))) fun hm => by have := hbl j hm; omega⟩; refine ⟨?_, ?_, ?_, ⟨_, hm, fun k => ?_⟩, ?_, fun k hk => ?_, fun k hk => ?_, fun k => ?_, ?_, ?_⟩
  · rw [keep (by decide) (by decide) h.box]; exact h.box
  · exact RowT.kept h.ints fun b cs hb => keep (by decide) (by decide) hb
  · obtain ⟨D1, hD1, hd⟩ := h.dots
    have h2 : w2.ownsMap Tryz.prog 87 unitElem db n D1 := by
      have hlt := hD1.lt; obtain ⟨es, clock, hb, F, hs', hD'⟩ := hD1; refine ⟨es, clock, (hs.off.block db hlt fun hm => ?_).trans hb, F, hs', hD'⟩; rcases blocksG_type (h.rows.po _) hm with ⟨_, e, _⟩ | ⟨_, e, _⟩
      · rw [hb] at e; cases e
      · rw [hb] at e; cases e
    exact ⟨D1, h2.kept hg (fun e => hne (Option.some.inj e).symm), hd⟩
  · by_cases e : k = keyB x
    · subst e; rw [atKey_put_same hDm.isMap (klS_key _), updF_same]
    · rw [atKey_put_other (fun h => e (klS_inj h)), updF_other _ _ e]; exact hDk k
  · exact (h.rows.settle hs (Nat.le_trans hB (Nat.le_of_lt (by obtain ⟨_, hm1, _⟩ := h.map; exact hm1.lt)))).turned hg (map_no_cells hDm)
  · have hk' := fun z => hk ((hxin k).2 z)
    have e : k ≠ keyB x := fun e => hk' (.inr e)
    rw [updR_other _ _ e, other k e]; exact h.todo k fun z => hk' (.inl z)
  · by_cases e : k = keyB x
    · subst e; rw [updR_same, same, ← h.todo _ hxnot]; exact hs.as
    · rw [updR_other _ _ e, other k e]; exact h.done k (((hxin k).1 hk).resolve_right e)
  · by_cases e : k = keyB x
    · subst e; rw [updR_same]; exact Nat.le_trans hs.few (h.few _)
    · rw [updR_other _ _ e]; exact h.few k
  · exact owns_below (owns_below h.keys fun b cs hb => keep2 (by decide) (by decide) hb) fun b cs hb => keep3 hb
  · exact hB2.grown hg (Nat.le_trans hB (Nat.le_of_lt hDm.lt)) (fun j hj => by cases hj; exact hB)
end Go.Proofs.YtdnebclemngdcaaGreatDoor
