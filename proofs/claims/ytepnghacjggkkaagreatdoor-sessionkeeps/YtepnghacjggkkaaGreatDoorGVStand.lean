/- A value and ops of one's own on its key: plain mathematics; standing by its contract. -/
import Derived.Test.YtepnghacjggkkaaGreatDoorGKM
import Derived.Test.YtepnghacjggkkaaGreatDoorGVOnce
import Derived.Test.YtepnghacjggkkaaGreatDoorGVLayT
import Derived.Ground.SlsfProg
import Derived.Shelf.SlGeneric
import Derived.Shelf.SlicesE.DeleteFunc
import Derived.Test.YtepnghacjggkkaaGreatDoorProg
namespace Go.Proofs.YtepnghacjggkkaaGreatDoor
open Go.RowKit
set_option linter.unusedSectionVars false
variable [Inhabited ComV] [DecidableEq D3] [Inhabited D3] [Inhabited Dd] [Inhabited Dn] [Inhabited OpV]

def ownKind (x : ValV) (os : List OpV) : Int := if x.kind = 0 then (os.head?.map (·.kind)).getD 0 else x.kind
def ownOf (x : ValV) (os : List OpV) : List OpV := os.filter fun o => decide (o.kind = ownKind x os)
def goneB (own : List OpV) (d : D3) : Bool := own.any fun o => decide (d ∈ o.dots)
def standB (ds : List Dn) (own : List OpV) (t : ByteArray) : Bool := !(own.any fun o => o.rem && decide (o.text = t)) || (dotsUp t ds).any fun d => !goneB own d
def bytesOf (s : List UInt8) : ByteArray := ⟨s.toArray⟩
def ownTexts (ds : List Dn) (set : List (List UInt8)) (own : List OpV) : List ByteArray := (set.map bytesOf).filter (standB ds own) ++ (own.filter fun o => !o.rem).map (·.text)
def sumO (os : List OpV) : Int := os.foldl (fun s o => s + o.n) 0
def ownVal (ds : List Dn) (x : ValV) (os : List OpV) : ValV :=
  if ownOf x os = [] then ⟨ownKind x os, x.text, x.n, x.set⟩
  else if ownKind x os = 1 then ⟨1, ((ownOf x os).getLast?.map (·.text)).getD ByteArray.empty, x.n, x.set⟩
  else if ownKind x os = 2 then ⟨2, x.text, x.n + sumO (ownOf x os), x.set⟩
  else ⟨3, x.text, x.n, setA (ownTexts ds x.set (ownOf x os))⟩
def bare (d : Dn) : OpV := { d.o with at_ := 0 }
theorem dn_head (l m : List Dn) (h : l ≠ []) : (l ++ m)[0]! = l[0]! := by
  cases l with
  | nil => exact absurd rfl h
  | cons x r => simp
theorem ofKind_app (D1 D2 : List Dn) : ofKind (D1 ++ D2) = ofKind D1 ++ D2.filter fun d => decide (d.o.kind = (D1 ++ D2)[0]!.o.kind) := by
  unfold ofKind
  rw [List.filter_append]
  by_cases h : D1 = []
  · subst h; simp
  · rw [dn_head _ _ h]
theorem ofKind_ne {D : List Dn} (h : D ≠ []) : ofKind D ≠ [] ∧ (ofKind D)[0]!.o.kind = D[0]!.o.kind := by
  cases D with
  | nil => exact absurd rfl h
  | cons x r => simp [ofKind]
theorem ofKind_mem {D : List Dn} {d : Dn} (h : d ∈ ofKind D) : d ∈ D ∧ d.o.kind = D[0]!.o.kind := ⟨(List.mem_filter.1 h).1, of_decide_eq_true (List.mem_filter.1 h).2⟩
theorem valA_kind {ds : List Dn} (h : ds ≠ []) (hk : ds[0]!.o.kind = 1 ∨ ds[0]!.o.kind = 2 ∨ ds[0]!.o.kind = 3) : (valA ds).kind = ds[0]!.o.kind := by
  unfold valA
  rw [if_neg h]
  rcases hk with e | e | e <;> rw [e] <;> rfl
theorem valA_parts {ds : List Dn} {k : Int} (hk : ds ≠ [] → ds[0]!.o.kind = k) : (k = 1 → (valA ds).n = 0 ∧ (valA ds).set = []) ∧ (k = 2 → (valA ds).text = ByteArray.empty ∧ (valA ds).n = sumN ds ∧ (valA ds).set = []) ∧ (k = 3 → (valA ds).text = ByteArray.empty ∧ (valA ds).n = 0 ∧ (valA ds).set = setA ((standA ds).map (·.o.text))) := by
  by_cases h : ds = []
  · subst h
    have e : setA ((standA []).map (·.o.text)) = [] := by
      have : (standA ([] : List Dn)).map (·.o.text) = [] := rfl
      rw [this]
      unfold setA
      simp [Lib.compact, Lib.compactUpTo]
    refine ⟨fun _ => ⟨rfl, rfl⟩, fun _ => ⟨rfl, rfl, rfl⟩, fun _ => ⟨rfl, rfl, ?_⟩⟩
    rw [e]
    rfl
  · have hk := hk h
    unfold valA
    rw [if_neg h, hk]
    refine ⟨fun e => ?_, fun e => ?_, fun e => ?_⟩
    · subst e; exact ⟨rfl, rfl⟩
    · subst e; exact ⟨rfl, rfl, rfl⟩
    · subst e; exact ⟨rfl, rfl, rfl⟩
theorem head_bare {D2 : List Dn} {os : List OpV} (h : D2.map bare = os) (hn : D2 ≠ []) : (os.head?.map (·.kind)).getD 0 = D2[0]!.o.kind := by
  subst h
  cases D2 with
  | nil => exact absurd rfl hn
  | cons x r => rfl
theorem filter_bare (D2 : List Dn) (k : Int) : (D2.map bare).filter (fun o => decide (o.kind = k)) = (D2.filter fun d => decide (d.o.kind = k)).map bare := by
  rw [List.filter_map]
  rfl
theorem sumO_bare (E : List Dn) : ∀ z : Int, (E.map bare).foldl (fun s o => s + o.n) z = E.foldl (fun s d => s + d.o.n) z := by
  induction E with
  | nil => intro z; rfl
  | cons x r ih => intro z; exact ih _
theorem sum_shift (E : List Dn) : ∀ z : Int, E.foldl (fun s d => s + d.o.n) z = z + sumN E := by
  induction E with
  | nil => intro z; simp [sumN]
  | cons x r ih =>
    intro z
    have h1 := ih (z + x.o.n)
    have h2 := ih (0 + x.o.n)
    unfold sumN
    rw [List.foldl_cons, List.foldl_cons, h1, h2]
    omega
theorem rise_text {l : List ByteArray} {m : List ByteArray} (h : ∀ t, t ∈ l ↔ t ∈ m) : setA l = setA m := by
  refine rise_unique (setA_rise l) (setA_rise m) fun x => ?_
  have e : x = (bytesOf x).data.toList := by simp [bytesOf]
  rw [e, mem_setA, mem_setA]
  exact h _
theorem bytesOf_data (t : ByteArray) : bytesOf t.data.toList = t := by simp [bytesOf]
structure OwnD (D1 D2 : List Dn) : Prop where
  ne : (D1 ++ D2).Pairwise (fun x y => x.dot ≠ y.dot)
  kind : ∀ d ∈ D1 ++ D2, d.o.kind = 1 ∨ d.o.kind = 2 ∨ d.o.kind = 3
  rem : ∀ d ∈ D1 ++ D2, d.o.rem = false → d.o.dots = []
  old : ∀ y ∈ D2, ∀ d ∈ y.o.dots, ∃ x ∈ standA (ofKind D1), x.o.text = y.o.text ∧ x.dot = d
  new : ∀ y ∈ D1, ∀ d ∈ y.o.dots, ∀ z ∈ D2, z.dot ≠ d
theorem dot_inj {l : List Dn} (h : l.Pairwise (fun x y => x.dot ≠ y.dot)) {x y : Dn} (hx : x ∈ l) (hy : y ∈ l) (e : x.dot = y.dot) : x = y := by
  by_cases q : x = y
  · exact q
  · exact absurd e (pairwise_ne h hx hy q)
theorem live_mem {ds : List Dn} (hd : ds.Pairwise (fun x y => x.dot ≠ y.dot)) (hr : ∀ y ∈ ds, y.o.rem = false → y.o.dots = []) {z : Dn} : z ∈ standA ds ↔ z ∈ ds ∧ z.o.rem = false ∧ ∀ y ∈ ds, z.dot ∈ y.o.dots → y.o.text ≠ z.o.text := by
  unfold standA
  rw [List.mem_filter]
  constructor
  · rintro ⟨h1, h2⟩
    rw [live_final hd hr z h1] at h2
    unfold liveB at h2
    simp only [Bool.and_eq_true, Bool.not_eq_true', List.any_eq_false, decide_eq_true_eq, not_and] at h2
    refine ⟨h1, h2.1, fun y hy hm e => ?_⟩
    have hyr : y.o.rem = true := by
      cases h : y.o.rem with
      | true => rfl
      | false => rw [hr y hy h] at hm; simp at hm
    exact h2.2 y hy hyr e hm
  · rintro ⟨h1, h2, h3⟩
    refine ⟨h1, ?_⟩
    rw [live_final hd hr z h1]
    unfold liveB
    simp only [h2, Bool.not_false, Bool.true_and, Bool.not_eq_true', List.any_eq_false, Bool.and_eq_true, decide_eq_true_eq, not_and]
    exact fun y hy _ e hm => h3 y hy hm e
theorem own_set {D1 D2 : List Dn} (h : OwnD D1 D2) {E2 : List Dn} (hE : ∀ d ∈ E2, d ∈ D2) (hs : E2.Sublist D2) :
    setA ((standA (ofKind D1 ++ E2)).map (·.o.text)) = setA (ownTexts (ofKind D1) (setA ((standA (ofKind D1)).map (·.o.text))) (E2.map bare)) := by
  have hsub : (ofKind D1 ++ E2).Sublist (D1 ++ D2) := List.Sublist.append List.filter_sublist hs
  have hne := h.ne.sublist hsub
  have hrm : ∀ d ∈ ofKind D1 ++ E2, d.o.rem = false → d.o.dots = [] := fun d hd => h.rem d (hsub.subset hd)
  have hne1 : (ofKind D1).Pairwise (fun x y => x.dot ≠ y.dot) := hne.sublist (List.sublist_append_left _ _)
  have hrm1 : ∀ d ∈ ofKind D1, d.o.rem = false → d.o.dots = [] := fun d hd => hrm d (List.mem_append_left _ hd)
  have st1 : ∀ z, z ∈ standA (ofKind D1) ↔ z ∈ ofKind D1 ∧ z.o.rem = false ∧ ∀ y ∈ ofKind D1, z.dot ∈ y.o.dots → y.o.text ≠ z.o.text := fun z => live_mem hne1 hrm1
  have gone : ∀ d, goneB (E2.map bare) d = false ↔ ∀ y ∈ E2, d ∉ y.o.dots := fun d => by
    unfold goneB
    rw [List.any_eq_false]
    constructor
    · intro q y hy hm
      exact q (bare y) (List.mem_map.2 ⟨y, hy, rfl⟩) (decide_eq_true hm)
    · intro q o ho
      obtain ⟨y, hy, rfl⟩ := List.mem_map.1 ho
      have := q y hy
      simp [bare, this]
  have rms : ∀ t, ((E2.map bare).any fun o => o.rem && decide (o.text = t)) = false ↔ ∀ y ∈ E2, y.o.rem = true → y.o.text ≠ t := fun t => by
    rw [List.any_eq_false]
    constructor
    · intro q y hy h1 h2
      exact q (bare y) (List.mem_map.2 ⟨y, hy, rfl⟩) (by simp [bare, h1, h2])
    · intro q o ho
      obtain ⟨y, hy, rfl⟩ := List.mem_map.1 ho
      have := q y hy
      simp only [bare, Bool.and_eq_true, not_and]
      exact fun h1 h2 => this h1 (of_decide_eq_true h2)
  refine rise_text fun t => ?_
  unfold ownTexts
  rw [List.mem_append, List.mem_map]
  constructor
  · rintro ⟨z, hz, rfl⟩
    obtain ⟨hm, hr, hl⟩ := (live_mem hne hrm).1 hz
    rcases List.mem_append.1 hm with hm | hm
    · left
      have hz1 : z ∈ standA (ofKind D1) := (st1 z).2 ⟨hm, hr, fun y hy => hl y (List.mem_append_left _ hy)⟩
      rw [List.mem_filter]
      refine ⟨List.mem_map.2 ⟨z.o.text.data.toList, (mem_setA _ _).2 (List.mem_map.2 ⟨z, hz1, rfl⟩), bytesOf_data _⟩, ?_⟩
      unfold standB
      rw [Bool.or_eq_true]
      right
      rw [List.any_eq_true]
      refine ⟨z.dot, List.mem_map.2 ⟨z, List.mem_filter.2 ⟨hz1, decide_eq_true rfl⟩, rfl⟩, ?_⟩
      rw [Bool.not_eq_true', gone]
      intro y hy hd
      obtain ⟨x, hx, e1, e2⟩ := h.old y (hE y hy) _ hd
      have hx1 := ((st1 x).1 hx).1
      have e3 : x = z := dot_inj hne1 hx1 hm e2
      subst e3
      exact hl y (List.mem_append_right _ hy) hd e1.symm
    · right
      exact List.mem_map.2 ⟨bare z, List.mem_filter.2 ⟨List.mem_map.2 ⟨z, hm, rfl⟩, by simp [bare, hr]⟩, rfl⟩
  · rintro (hz | hz)
    · obtain ⟨hz, hs⟩ := List.mem_filter.1 hz
      obtain ⟨s, hs', rfl⟩ := List.mem_map.1 hz
      obtain ⟨t, ht⟩ : ∃ t : ByteArray, t = bytesOf s := ⟨_, rfl⟩
      have e : s = t.data.toList := by rw [ht]; simp [bytesOf]
      rw [e, mem_setA] at hs'
      rw [← ht] at hs ⊢
      have key : ∀ z ∈ standA (ofKind D1), z.o.text = t → (∀ y ∈ E2, z.dot ∈ y.o.dots → y.o.text ≠ t) → ∃ a ∈ standA (ofKind D1 ++ E2), a.o.text = t := fun z hz e1 hno => by
        obtain ⟨q1, q2, q3⟩ := (st1 z).1 hz
        refine ⟨z, (live_mem hne hrm).2 ⟨List.mem_append_left _ q1, q2, fun y hy hm => ?_⟩, e1⟩
        rcases List.mem_append.1 hy with hy | hy
        · exact q3 y hy hm
        · rw [e1]; exact hno y hy hm
      unfold standB at hs
      rw [Bool.or_eq_true] at hs
      rcases hs with hs | hs
      · rw [Bool.not_eq_true', rms] at hs
        obtain ⟨z, hz, e1⟩ := List.mem_map.1 hs'
        refine key z hz e1 fun y hy hm => hs y hy ?_
        cases q : y.o.rem with
        | true => rfl
        | false => rw [h.rem y (List.mem_append_right _ (hE y hy)) q] at hm; simp at hm
      · obtain ⟨d, hd, hg⟩ := List.any_eq_true.1 hs
        rw [Bool.not_eq_true', gone] at hg
        obtain ⟨z, hz, rfl⟩ := List.mem_map.1 hd
        obtain ⟨hz, e1⟩ := List.mem_filter.1 hz
        exact key z hz (of_decide_eq_true e1) fun y hy hm => absurd hm (hg y hy)
    · obtain ⟨o, ho, rfl⟩ := List.mem_map.1 hz
      obtain ⟨ho, hr⟩ := List.mem_filter.1 ho
      obtain ⟨z, hz2, rfl⟩ := List.mem_map.1 ho
      have hr' : z.o.rem = false := by simpa [bare] using hr
      refine ⟨z, (live_mem hne hrm).2 ⟨List.mem_append_right _ hz2, hr', fun y hy hm e => ?_⟩, rfl⟩
      rcases List.mem_append.1 hy with hy | hy
      · exact h.new y (ofKind_mem hy).1 _ hm z (hE z hz2) rfl
      · obtain ⟨x, hx, _, e2⟩ := h.old y (hE y hy) _ hm
        have hx1 := ((st1 x).1 hx).1
        rw [List.pairwise_append] at hne
        exact hne.2.2 x hx1 z hz2 e2
theorem own_value {D1 D2 : List Dn} (h : OwnD D1 D2) {os : List OpV} (ho : D2.map bare = os) : valA (ofKind (D1 ++ D2)) = ownVal (ofKind D1) (valA (ofKind D1)) os := by
  obtain ⟨K, hK⟩ : ∃ K, K = (D1 ++ D2)[0]!.o.kind := ⟨_, rfl⟩
  obtain ⟨E2, hE2⟩ : ∃ E2, E2 = D2.filter fun d => decide (d.o.kind = K) := ⟨_, rfl⟩
  have hof : ofKind (D1 ++ D2) = ofKind D1 ++ E2 := by rw [ofKind_app, hE2, hK]
  by_cases h0 : D1 ++ D2 = []
  · obtain ⟨e1, e2⟩ := List.append_eq_nil_iff.1 h0
    subst e1 e2
    subst ho
    rfl
  have hKk : K = 1 ∨ K = 2 ∨ K = 3 := by
    rw [hK]
    have : 0 < (D1 ++ D2).length := List.length_pos_iff.2 h0
    rw [getElem!_pos _ 0 this]
    exact h.kind _ (List.getElem_mem _)
  have hk1 : ofKind D1 ≠ [] → (ofKind D1)[0]!.o.kind = K := fun q => by
    have hD : D1 ≠ [] := fun e => q (by rw [e]; rfl)
    rw [(ofKind_ne hD).2, hK, dn_head _ _ hD]
  have hown : ownKind (valA (ofKind D1)) os = K := by
    unfold ownKind
    by_cases hD : D1 = []
    · subst hD
      rw [show (valA (ofKind [])).kind = 0 from rfl, if_pos rfl, head_bare ho (by simpa using h0), hK]
      rfl
    · have h1 := ofKind_ne hD
      have h2 : (ofKind D1)[0]!.o.kind = K := hk1 h1.1
      rw [valA_kind h1.1 (by rw [h2]; exact hKk), h2, if_neg (by omega)]
  have hof2 : ownOf (valA (ofKind D1)) os = E2.map bare := by
    unfold ownOf
    rw [hown, ← ho, filter_bare, hE2]
  have hE : ∀ d ∈ E2, d ∈ D2 := fun d hd => by rw [hE2] at hd; exact (List.mem_filter.1 hd).1
  have hEk : ∀ d ∈ E2, d.o.kind = K := fun d hd => by rw [hE2] at hd; exact of_decide_eq_true (List.mem_filter.1 hd).2
  have hsub : E2.Sublist D2 := by rw [hE2]; exact List.filter_sublist
  unfold ownVal
  rw [hof, hof2, hown]
  by_cases he : E2 = []
  · rw [if_pos (by rw [he]; rfl), he, List.append_nil]
    have hD : D1 ≠ [] := fun e => by
      subst e
      rw [List.nil_append] at h0 hK
      have h3 : (ofKind D2) = [] := by rw [← he, hE2, hK]; rfl
      exact (ofKind_ne h0).1 h3
    have h1 := ofKind_ne hD
    have h2 := hk1 h1.1
    have h3 := valA_kind h1.1 (by rw [h2]; exact hKk)
    rw [h2] at h3
    rw [← h3]
  · rw [if_neg (by simpa using he)]
    have hne : ofKind D1 ++ E2 ≠ [] := by simp [he]
    have hk0 : (ofKind D1 ++ E2)[0]!.o.kind = K := by
      by_cases q : ofKind D1 = []
      · rw [q, List.nil_append]
        have : 0 < E2.length := List.length_pos_iff.2 he
        rw [getElem!_pos E2 0 this]
        exact hEk _ (List.getElem_mem _)
      · rw [dn_head _ _ q]
        exact hk1 q
    obtain ⟨v1, v2, v3⟩ := valA_parts (k := K) hk1
    unfold valA
    rw [if_neg hne, hk0]
    change (if K = 1 then _ else if K = 2 then _ else _) = (if K = 1 then (⟨1, _, (valA (ofKind D1)).n, (valA (ofKind D1)).set⟩ : ValV) else if K = 2 then (⟨2, (valA (ofKind D1)).text, (valA (ofKind D1)).n + _, (valA (ofKind D1)).set⟩ : ValV) else (⟨3, (valA (ofKind D1)).text, (valA (ofKind D1)).n, setA (ownTexts (ofKind D1) (valA (ofKind D1)).set _)⟩ : ValV))
    rcases hKk with e | e | e
    · rw [if_pos e, if_pos e, (v1 e).1, (v1 e).2]
      congr 1
      have hl : 0 < E2.length := List.length_pos_iff.2 he
      rw [List.getLast?_eq_getElem?, List.getElem?_map, List.length_map, List.getElem?_eq_getElem (by omega), getElem!_pos _ _ (by simp; omega), List.getElem_append_right (by simp; omega)]
      have hq : (ofKind D1 ++ E2).length - 1 - (ofKind D1).length = E2.length - 1 := by rw [List.length_append]; omega
      simp only [hq]
      rfl
    · rw [if_neg (by omega), if_pos e, if_neg (by omega), if_pos e, (v2 e).1, (v2 e).2.1, (v2 e).2.2]
      congr 1
      unfold sumN sumO
      rw [List.foldl_append, sumO_bare, sum_shift, sum_shift E2 0]
      show sumN _ + _ = sumN _ + _
      omega
    · rw [if_neg (by omega), if_neg (by omega), if_neg (by omega), if_neg (by omega), (v3 e).1, (v3 e).2.1, (v3 e).2.2]
      congr 1
      exact own_set h hE hsub
end Go.Proofs.YtepnghacjggkkaaGreatDoor
namespace Go.Proofs.YtepnghacjggkkaaGreatDoor
open Go.RowKit Go.Sort Go.Maps
set_option maxRecDepth 100000
set_option linter.unusedSectionVars false
variable [Inhabited ComV] [DecidableEq D3] [Inhabited D3] [Inhabited Dd] [Inhabited Dn] [Inhabited OpV]

def DotsWf (x : Dd) : Prop := wf3 x.dot ∧ (∀ d ∈ x.ds, wf3 d) ∧ x.ds.length = x.dl ∧ x.ds.length ≤ 1000
def StandRet (xs : List Dd) (w : World) (e : Ending) (w' : World) : Prop :=
  ∃ v, e = .returned v ∧ w'.ownsRow (w.heap.size + 1) 214 11 v (xs.filter fun x => (finalMap (xs.map Dd.abs) x.dot).isSome).length ((xs.filter fun x => (finalMap (xs.map Dd.abs) x.dot).isSome).flatMap Dd.enc) ∧ Below w.heap.size w w'
theorem dots_at {w : World} {dp : Option Addr} {dl dc : Nat} {ds : List D3} (h : DotsAt w (.slice dp dl dc) ds) {j : Nat} (hj : j < ds.length) : ∃ b off, dp = some ⟨b, off, none⟩ ∧ w.cell? ⟨b, off + j * 3, none⟩ = some (.int .i64 ds[j]!.p) ∧ w.cell? ⟨b, off + j * 3 + 1, none⟩ = some (.int .i64 ds[j]!.t) ∧ w.cell? ⟨b, off + j * 3 + 2, none⟩ = some (.int .i64 ds[j]!.a) := by
  obtain ⟨ad, cap, he, _, _, h⟩ := h
  cases he
  rcases h with h | ⟨b, off, rfl, h⟩
  · have : ds = [] := by simpa using h
    rw [this] at hj
    simp at hj
  · have hc := (h j (D3.cells ds[j]!) (by rw [List.getElem?_map, List.getElem?_eq_getElem hj, getElem!_pos ds j hj]; rfl)).2
    exact ⟨b, off, rfl, hc 0 _ rfl, hc 1 _ rfl, hc 2 _ rfl⟩
theorem cells11 (w : World) (x1 : Int) (x2 : ByteArray) (x3 : Int) (x4 : ByteArray) (x5 : Int) (x6 : Bool) (x7 : Value) (x8 x9 x10 x11 : Int) (t : TypeId) (cs : Array Value) (h : cs = #[.int .i64 x1, .string x2, .int .i64 x3, .string x4, .int .i64 x5, .bool x6, x7, .int .i64 x8, .int .i64 x9, .int .i64 x10, .int .i64 x11]) :
    (w.alloc (.cells cs t)).cell? ⟨w.heap.size, 3, none⟩ = some (.string x4) ∧ (w.alloc (.cells cs t)).cell? ⟨w.heap.size, 6, none⟩ = some x7 := by
  subst h
  refine ⟨?_, ?_⟩ <;> (rw [World.cell?_alloc_at _ _ _ _ rfl]; rfl)
set_option maxHeartbeats 8000000 in
theorem standing_n (w : World) (g m cap : Nat) (xs : List Dd) (hm : xs.length = m) (hl : m ≤ 100000) (hg : g < w.heap.size) (hH : HoldsK Dd.enc 11 w g 0 xs.toArray) (hgd : ∀ x ∈ xs, GoodD w x) (hwf : ∀ x ∈ xs, DotsWf x) :
    Calls Tryz.prog 122 #[.slice (some ⟨g, 0, none⟩) m cap] w fun e w' => StandRet xs w e w' := by
  have hmm := run_makeMap_room Tryz.underlying242 m
  obtain ⟨i0, hi, hz0, hz1, hz2⟩ := info_parts Tryz.info214
  have HH := hid hH
  have HM := hid hm
  have HG := hid hgd
  have HWF := hid hwf
  have hat : Hid (∀ k, k < m → xs[k]! ∈ xs) := fun k hk => by rw [getElem!_pos xs k (by have := HM.out; omega)]; exact List.getElem_mem _
  clear hH hm hgd hwf
  go_enter Tryz.func122, Tryz.ntmps122
  go_wp2
  go_loopw [22] (fun i wr => ∃ k : Nat, k ≤ m ∧ i = .int .i64 k ∧ Hid (StInv xs w wr (((xs.map Dd.abs).take k).foldl addStep fun _ => none) k)) (fun i _ => m - (intOf i).toNat)
  case atStart => exact ⟨0, Nat.zero_le _, rfl, StInv.start w⟩
  case round =>
    obtain ⟨k, hk, rfl, HI⟩ := hrel
    have hsz := HI.out.size
    by_cases hlt : k < m
    · obtain ⟨u, hu⟩ : ∃ u, u = xs[k]! := ⟨_, rfl⟩
      obtain ⟨c0, c1, c2, c3, c4, c5, c6, c7, c8, c9, c10⟩ := holdsK_cells (holdsK_below HH.out HI.out.below hg) (j := k) (u := u) (by have := HM.out; simp; omega) (by rw [hu]; have := HM.out; rw [getElem!_pos xs.toArray k (by simp; omega), getElem!_pos xs k (by omega)]; simp)
      have hwu := HWF.out u (by rw [hu]; exact hat.out k hlt)
      have hstep : ((xs.map Dd.abs).take (k + 1)).foldl addStep (fun _ => none) = addStep (((xs.map Dd.abs).take k).foldl addStep fun _ => none) u.abs := by
        rw [foldl_take_succ _ _ _ (by have := HM.out; simp; omega), map_get_abs xs (by have := HM.out; omega), hu]
      have HST := hid hstep
      have HU := hid hu
      clear hu hstep
      obtain ⟨x1, x2, x3, x4, x5, x6, dp, dl, dc, ⟨x8, x9, x10⟩, x11, ds⟩ := u
      simp only at c0 c1 c2 c3 c4 c5 c6 c7 c8 c9 c10
      have hkey := key_dot ⟨x8, x9, x10⟩ hwu.1
      obtain ⟨D, I, hown, hD, hT⟩ := HI.out.map
      have his := hown.isMap
      have HD := hid hD
      have HTX := hid hT
      clear hD hT
      cases x6 with
      | true =>
        go_wp2
        go_roundw
        case rel =>
          refine ⟨k + 1, by omega, by go_num, ?_⟩
          rw [HST.out]
          exact (HI.out.alloc _).mono (Nat.le_succ _)
        case measure => simp [intOf]; omega
      | false =>
        go_wp2_with (at_mapUpdate; refine wpList_mapUpdate_own _ rfl _ _ _ 242 rfl 175 3 keyed65 Tryz.underlying242 (plainElem Tryz.prog 3) w.heap.size k _ rfl (hown.alloc _) ?hmx _ _ _ rfl rfl hkey _ [] (idxE_mk k (by omega)) ?_; (case hmx => unfold maxLen; omega); intro w1 hown1 hgrow1)
        go_roundw
        case rel =>
          refine ⟨k + 1, by omega, by go_num, ?_⟩
          rw [HST.out]
          exact (HI.out.alloc _).turned hgrow1 hown1 (HD.out.put his hwu.1 k) (HTX.out.put ⟨x8, x9, x10⟩ (by have := HM.out; omega) (congrArg Dd.text HU.out.symm))
        case measure => simp [intOf]; omega
    · have hkm : m = k := by omega
      subst hkm
      have ht : (xs.map Dd.abs).take m = xs.map Dd.abs := List.take_of_length_le (by have := HM.out; simp; omega)
      rw [ht] at HI
      obtain ⟨M0, hM0⟩ : ∃ M0, M0 = (xs.map Dd.abs).foldl addStep fun _ => none := ⟨_, rfl⟩
      rw [← hM0] at HI
      have HM0 := hid hM0
      obtain ⟨wo, hwo⟩ : ∃ wo : World, wo = wr := ⟨wr, rfl⟩
      subst hwo
      clear hM0 ht hlt hk hsz
      go_wp2
      go_loopw [38] (fun i wr => ∃ k : Nat, k ≤ m ∧ i = .int .i64 k ∧ Hid (StInv xs w wr (((xs.map Dd.abs).take k).foldl remStep M0) m)) (fun i _ => m - (intOf i).toNat)
      case atStart => exact ⟨0, Nat.zero_le _, rfl, HI.out⟩
      case round =>
        obtain ⟨k, hk, rfl, HJ⟩ := hrel
        have hsz := HJ.out.size
        by_cases hlt : k < m
        · obtain ⟨u, hu⟩ : ∃ u, u = xs[k]! := ⟨_, rfl⟩
          obtain ⟨c0, c1, c2, c3, c4, c5, c6, c7, c8, c9, c10⟩ := holdsK_cells (holdsK_below HH.out HJ.out.below hg) (j := k) (u := u) (by have := HM.out; simp; omega) (by rw [hu]; have := HM.out; rw [getElem!_pos xs.toArray k (by simp; omega), getElem!_pos xs k (by omega)]; simp)
          have hwu := HWF.out u (by rw [hu]; exact hat.out k hlt)
          have hgu := HG.out u (by rw [hu]; exact hat.out k hlt)
          have hstep : ((xs.map Dd.abs).take (k + 1)).foldl remStep M0 = remStep (((xs.map Dd.abs).take k).foldl remStep M0) u.abs := by
            rw [foldl_take_succ _ _ _ (by have := HM.out; simp; omega), map_get_abs xs (by have := HM.out; omega), hu]
          have HST := hid hstep
          have HU := hid hu
          clear hu hstep
          obtain ⟨x1, x2, x3, x4, x5, x6, dp, dl, dc, ⟨x8, x9, x10⟩, x11, ds⟩ := u
          simp only at c0 c1 c2 c3 c4 c5 c6 c7 c8 c9 c10
          have hdl : ds.length = dl := hwu.2.2.1
          have hdm : dl ≤ 1000 := by rw [← hdl]; exact hwu.2.2.2
          have HDW : Hid (∀ d ∈ ds, wf3 d) := hwu.2.1
          have HGU : Hid (DotsAt w (.slice dp dl dc) ds) := hgu
          have HDL := hid hdl
          obtain ⟨Mk, hMk⟩ : ∃ Mk, Mk = ((xs.map Dd.abs).take k).foldl remStep M0 := ⟨_, rfl⟩
          rw [← hMk] at HJ HST
          obtain ⟨wb, hwb⟩ : ∃ wb : World, wb = wr := ⟨wr, rfl⟩
          subst hwb
          clear hwu hgu hdl hMk
          go_wp2
          obtain ⟨w1, hw1⟩ : ∃ w1, w1 = wb.alloc (.cells #[.int .i64 x1, .string x2, .int .i64 x3, .string x4, .int .i64 x5, .bool x6, .slice dp dl dc, .int .i64 x8, .int .i64 x9, .int .i64 x10, .int .i64 x11] 214) := ⟨_, rfl⟩
          have T1 : Hid (w1.cell? ⟨wb.heap.size, 3, none⟩ = some (.string x4)) := by rw [hw1]; exact (cells11 wb x1 x2 x3 x4 x5 x6 (.slice dp dl dc) x8 x9 x10 x11 214 _ rfl).1
          have S1 : Hid (wb.heap.size + 1 ≤ w1.heap.size) := hid (by rw [hw1]; simp)
          have I1 : Hid (StInv xs w w1 Mk m) := by rw [hw1]; exact HJ.out.alloc _
          rw [← hw1]
          clear hw1 c0 c1 c2 c3 c4 c5 c6 c7 c8 c9 c10
          go_loopw [46] (fun i wj => ∃ j : Nat, j ≤ dl ∧ i = .int .i64 j ∧ Hid (StInv xs w wj ((ds.take j).foldl (delStep x4) Mk) m) ∧ Hid (wj.cell? ⟨wb.heap.size, 3, none⟩ = some (.string x4)) ∧ Hid (wb.heap.size + 1 ≤ wj.heap.size)) (fun i _ => dl - (intOf i).toNat)
          case atStart => exact ⟨0, Nat.zero_le _, rfl, I1.out, T1.out, S1.out⟩
          case round =>
            obtain ⟨j, hj, rfl, JI, JT, JS⟩ := hrel
            by_cases hjl : j < dl
            · have hjd : j < ds.length := by have := HDL.out; omega
              obtain ⟨bd, od, rfl, q0, q1, q2⟩ := dots_at HGU.out hjd
              have up : ∀ {a : Addr} {v : Value}, w.cell? a = some v → wr.cell? a = some v := fun {a v} h => by rw [JI.out.below.cell (lt_of_cell h)]; exact h
              have r0 := up q0
              have r1 := up q1
              have r2 := up q2
              have hwd := HDW.out ds[j]! (by rw [getElem!_pos ds j hjd]; exact List.getElem_mem _)
              have hfold : (ds.take (j + 1)).foldl (delStep x4) Mk = delStep x4 ((ds.take j).foldl (delStep x4) Mk) ds[j]! := foldl_take_succ _ _ _ hjd
              obtain ⟨Mj, hMj⟩ : ∃ Mj, Mj = (ds.take j).foldl (delStep x4) Mk := ⟨_, rfl⟩
              rw [← hMj] at hfold JI
              obtain ⟨d, hd⟩ : ∃ d, d = ds[j]! := ⟨_, rfl⟩
              rw [← hd] at r0 r1 r2 hwd hfold
              obtain ⟨d1, d2, d3⟩ := d
              simp only at r0 r1 r2
              have hkey := key_dot ⟨d1, d2, d3⟩ hwd
              simp only at hkey
              have HF := hid hfold
              clear q0 q1 q2 up hMj hd hfold
              obtain ⟨wq, hwq⟩ : ∃ wq, wq = wr.alloc (.cells #[.int .i64 d1, .int .i64 d2, .int .i64 d3] 175) := ⟨_, rfl⟩
              have IQ : StInv xs w wq Mj m := by rw [hwq]; exact JI.out.alloc _
              obtain ⟨D, I, hown, hD, hT⟩ := IQ.map
              have hdD := hD _ hwd
              have hdT := hT ⟨d1, d2, d3⟩
              have t0 : wq.cell? ⟨wr.heap.size, 0, none⟩ = some (.int .i64 d1) := by rw [hwq]; simp
              have t1 : wq.cell? ⟨wr.heap.size, 1, none⟩ = some (.int .i64 d2) := by rw [hwq]; simp
              have t2 : wq.cell? ⟨wr.heap.size, 2, none⟩ = some (.int .i64 d3) := by rw [hwq]; simp
              have t3 : wq.cell? ⟨wb.heap.size, 3, none⟩ = some (.string x4) := by rw [hwq]; exact cell_alloc JT.out _
              have hsq : wb.heap.size + 1 ≤ wq.heap.size := by rw [hwq]; have := JS.out; simp; omega
              have hwbn : wb.heap.size ≠ w.heap.size := by omega
              have HIQ := hid IQ
              have HDD := hid hD
              have HTT := hid hT
              have HSQ := hid hsq
              have hbq := IQ.below
              clear IQ hD hT hsq
              go_upto_region 14 with (fail)
              rw [← hwq]
              clear hwq r0 r1 r2
              cases hI : I ⟨d1, d2, d3⟩ with
              | none =>
                rw [hI] at hdD hdT
                have hdh : Maps.has D (klD ⟨d1, d2, d3⟩) = false := hdD.1
                have HN : Hid (Mj ⟨d1, d2, d3⟩ = none) := hdT.1
                clear hdD hdT hI hbq
                go_wp2_with (at_lookup; refine wpList_lookup_own_ok_int _ rfl _ _ 242 rfl 175 3 .i64 keyed65 Tryz.underlying242 Tryz.underlying3 (Tryz.zero3 _) w.heap.size m D rfl hown _ _ rfl hkey ?_; intro c _ _)
                go_quiet (fail)
                go_wp2
                refine ⟨⟨j + 1, by omega, by go_num, ?_, t3, HSQ.out⟩, by simp [intOf]; omega⟩
                rw [HF.out, delStep_none HN.out]
                exact HIQ.out.draw _
              | some i =>
                rw [hI] at hdD hdT
                have hdh : Maps.has D (klD ⟨d1, d2, d3⟩) = true := hdD.1
                have hdv : D.atKey (klD ⟨d1, d2, d3⟩) (.lit (.int .i64 0)) = .lit (.int .i64 (i : Int)) := hdD.2
                have hix : i < m := by rw [← HM.out]; exact hdT.2 i rfl
                obtain ⟨y, hy⟩ : ∃ y, y = xs[i]! := ⟨_, rfl⟩
                obtain ⟨_, _, _, e3, _⟩ := holdsK_cells (holdsK_below HH.out hbq hg) (j := i) (u := y) (by have := HM.out; simp; omega) (by rw [hy]; have := HM.out; rw [getElem!_pos xs.toArray i (by simp; omega), getElem!_pos xs i (by omega)]; simp)
                have HN : Hid (Mj ⟨d1, d2, d3⟩ = some y.text) := by rw [hy]; exact hdT.1
                obtain ⟨y4, hy4⟩ : ∃ y4, y4 = y.text := ⟨_, rfl⟩
                rw [← hy4] at e3 HN
                clear hdD hdT hI hbq hy hy4
                by_cases he : y4 = x4
                · subst he
                  have heq : (y4.toList == y4.toList) = true := by simp
                  go_wp2_with (at_lookup; refine wpList_lookup_own_ok_int _ rfl _ _ 242 rfl 175 3 .i64 keyed65 Tryz.underlying242 Tryz.underlying3 (Tryz.zero3 _) w.heap.size m D rfl hown _ _ rfl hkey ?_; intro c hc _; rw [hdv] at hc; obtain rfl : (i : Int) = c := by injection hc with hc; injection hc)
                  go_quiet (fail)
                  go_wp2_with (at_delete; refine wpList_delete_own _ rfl _ _ 242 175 rfl 3 keyed65 Tryz.underlying242 (plainElem Tryz.prog 3) w.heap.size m D rfl hown _ _ rfl hkey ?_; intro w2 hown2 hturn2)
                  have hg2 := hturn2.grown
                  have hst : StInv xs w w2 (upd Mj ⟨d1, d2, d3⟩ none) m := (HIQ.out.draw _).turned hg2 hown2 (HDD.out.del hwd) (HTT.out.del _)
                  refine ⟨⟨j + 1, by omega, by go_num, ?_, hg2.cell (w := wq.drewN _) t3 (fun e => hwbn (Option.some.inj e)), Nat.le_trans HSQ.out hg2.size⟩, by simp [intOf]; omega⟩
                  rw [HF.out]
                  unfold delStep
                  rw [if_pos (by rw [HN.out]; rfl)]
                  exact hst
                · have hne : (y4.toList == x4.toList) = false := beq_eq_false_iff_ne.2 (ne_toList he)
                  go_wp2_with (at_lookup; refine wpList_lookup_own_ok_int _ rfl _ _ 242 rfl 175 3 .i64 keyed65 Tryz.underlying242 Tryz.underlying3 (Tryz.zero3 _) w.heap.size m D rfl hown _ _ rfl hkey ?_; intro c hc _; rw [hdv] at hc; obtain rfl : (i : Int) = c := by injection hc with hc; injection hc)
                  go_quiet (fail)
                  go_wp2
                  refine ⟨⟨j + 1, by omega, by go_num, ?_, t3, HSQ.out⟩, by simp [intOf]; omega⟩
                  rw [HF.out]
                  unfold delStep
                  rw [if_neg (by rw [HN.out]; exact he)]
                  exact HIQ.out.draw _
            · have hjm : dl = j := by omega
              subst hjm
              go_wp2
              refine ⟨⟨k + 1, by omega, by go_num, ?_⟩, by simp [intOf]; omega⟩
              rw [HST.out]
              have := JI.out
              rw [List.take_of_length_le (by have := HDL.out; omega)] at this
              exact this
        · have hkm : m = k := by omega
          subst hkm
          have ht : (xs.map Dd.abs).take m = xs.map Dd.abs := List.take_of_length_le (by have := HM.out; simp; omega)
          rw [ht, HM0.out] at HJ
          have HJ2 : Hid (StInv xs w wr (finalMap (xs.map Dd.abs)) m) := HJ
          obtain ⟨Mf, hMf⟩ : ∃ Mf, Mf = finalMap (xs.map Dd.abs) := ⟨_, rfl⟩
          rw [← hMf] at HJ2
          have HMF := hid hMf
          obtain ⟨wb, hwb⟩ : ∃ wb : World, wb = wr := ⟨wr, rfl⟩
          subst hwb
          clear hMf ht hlt hk hsz HJ
          go_wp2
          go_loopw [12, 75] (fun v i wr => ∃ k : Nat, k ≤ m ∧ i = .int .i64 k ∧ Hid (StInv xs w wr Mf m) ∧ Hid (wr.ownsRow (w.heap.size + 1) 214 11 v ((xs.take k).filter fun x => (Mf x.dot).isSome).length (((xs.take k).filter fun x => (Mf x.dot).isSome).flatMap Dd.enc))) (fun _ i _ => m - (intOf i).toNat)
          case atStart => exact ⟨0, Nat.zero_le _, rfl, HJ2.out, World.ownsRow_nil _ _ _ _⟩
          case round =>
            obtain ⟨k, hk, rfl, HK, HR⟩ := hrel
            have hsz := HK.out.size
            by_cases hlt : k < m
            · obtain ⟨u, hu⟩ : ∃ u, u = xs[k]! := ⟨_, rfl⟩
              obtain ⟨c0, c1, c2, c3, c4, c5, c6, c7, c8, c9, c10⟩ := holdsK_cells (holdsK_below HH.out HK.out.below hg) (j := k) (u := u) (by have := HM.out; simp; omega) (by rw [hu]; have := HM.out; rw [getElem!_pos xs.toArray k (by simp; omega), getElem!_pos xs k (by omega)]; simp)
              have hwu := HWF.out u (by rw [hu]; exact hat.out k hlt)
              have hfil : (xs.take (k + 1)).filter (fun x => (Mf x.dot).isSome) = (xs.take k).filter (fun x => (Mf x.dot).isSome) ++ (if (Mf u.dot).isSome = true then [u] else []) := by
                rw [List.take_succ_eq_append_getElem (by have := HM.out; omega), List.filter_append, hu, getElem!_pos xs k (by have := HM.out; omega)]
                congr 1
                simp [List.filter_cons]
              have hfl : ((xs.take k).filter (fun x => (Mf x.dot).isSome)).length ≤ m := Nat.le_trans (List.length_filter_le _ _) (by simp; omega)
              have HF := hid hfil
              clear hu hfil
              obtain ⟨x1, x2, x3, x4, x5, x6, dp, dl, dc, ⟨x8, x9, x10⟩, x11, ds⟩ := u
              simp only at c0 c1 c2 c3 c4 c5 c6 c7 c8 c9 c10
              have hkey := key_dot ⟨x8, x9, x10⟩ hwu.1
              simp only at hkey
              obtain ⟨D, I, hown, hD, hT⟩ := HK.out.map
              have hdD := (hD _ hwu.1).1
              have hdI : (I ⟨x8, x9, x10⟩).isSome = (Mf ⟨x8, x9, x10⟩).isSome := by rw [(hT ⟨x8, x9, x10⟩).1]; cases I ⟨x8, x9, x10⟩ <;> rfl
              rw [hdI] at hdD
              clear hdI hT
              have hrow := HR.out
              obtain ⟨fs, hfs⟩ : ∃ fs, fs = (xs.take k).filter fun x => (Mf x.dot).isSome := ⟨_, rfl⟩
              rw [← hfs] at hrow HF hfl
              clear hfs hD hwu HR
              cases hb : (Mf ⟨x8, x9, x10⟩).isSome with
              | false =>
                rw [hb] at hdD
                go_wp2_with (at_lookup; refine wpList_lookup_own_ok_int _ rfl _ _ 242 rfl 175 3 .i64 keyed65 Tryz.underlying242 Tryz.underlying3 (Tryz.zero3 _) w.heap.size m D rfl (hown.alloc _) _ _ rfl hkey ?_; intro c _ _)
                refine ⟨⟨k + 1, by omega, by go_num, HK.out.alloc _, ?_⟩, by simp [intOf]; omega⟩
                rw [HF.out]
                simp only [hb, Bool.false_eq_true, if_false, List.append_nil]
                exact hrow.alloc _
              | true =>
                rw [hb] at hdD
                go_wp2_with (first
                  | (at_lookup; refine wpList_lookup_own_ok_int _ rfl _ _ 242 rfl 175 3 .i64 keyed65 Tryz.underlying242 Tryz.underlying3 (Tryz.zero3 _) w.heap.size m D rfl (hown.alloc _) _ _ rfl hkey ?_; intro c _ _)
                  | (at_builtin; refine wpList_append_own _ rfl _ _ 210 rfl (w.heap.size + 1) 214 i0 _ 11 120 Tryz.underlying210 hi hz0 hz1 hz2 rfl (by decide) _ _ _ rfl ((hrow.alloc _).alloc _) ⟨wr.heap.size + 1, 0, none⟩ 1 1 [.int .i64 x1, .string x2, .int .i64 x3, .string x4, .int .i64 x5, .bool x6, .slice dp dl dc, .int .i64 x8, .int .i64 x9, .int .i64 x10, .int .i64 x11] rfl rfl (cells11_new _ _ _ _ (by simp)) ?ho1 ?ho2 ?ho3 ?ho4 ?_; (case ho1 => exact Dd.enc_one ⟨x1, x2, x3, x4, x5, x6, dp, dl, dc, ⟨x8, x9, x10⟩, x11, ds⟩); (case ho2 => unfold maxLen; omega); (case ho3 => omega); (case ho4 => simp; omega); intro v' w2 hown' hgrow2 hnil2)
                  | go_in)
                refine ⟨⟨k + 1, by omega, by go_num, ((HK.out.alloc _).alloc _).beside hgrow2 (fun j hj => (hrow.lt j hj).1), ?_⟩, by simp [intOf]; omega⟩
                rw [HF.out]
                simp only [hb, if_true, List.length_append, List.length_singleton, List.flatMap_append, List.flatMap_singleton]
                exact hown'
            · have hkm : m = k := by omega
              subst hkm
              go_wp2
              go_ret
              have := HR.out
              rw [List.take_of_length_le (by have := HM.out; omega), HMF.out] at this
              exact ⟨_, rfl, this, HK.out.below⟩
end Go.Proofs.YtepnghacjggkkaaGreatDoor
