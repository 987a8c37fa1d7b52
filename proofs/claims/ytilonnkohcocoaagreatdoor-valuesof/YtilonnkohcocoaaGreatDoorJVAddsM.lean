/- A counter's commits; a text is in a set if it has dots: plain mathematics. -/
import Derived.Test.YtilonnkohcocoaaGreatDoorJVTurnM
import Derived.Test.YtilonnkohcocoaaGreatDoorJVDotsW
namespace Go.Proofs.YtilonnkohcocoaaGreatDoor
open Go.RowKit
set_option linter.unusedSectionVars false
variable [Inhabited ComV] [DecidableEq D3] [Inhabited D3] [Inhabited Dd] [Inhabited Dn] [Inhabited OpV]

theorem mem_compactUpTo {α : Type} [Inhabited α] [DecidableEq α] (d : Array α) (x : α) : ∀ m, x ∈ Lib.compactUpTo d m ↔ ∃ j, j < m ∧ d[j]! = x := by
  intro m
  induction m with
  | zero => simp [Lib.compactUpTo]
  | succ m ih =>
    rw [Lib.compactUpTo_succ, List.mem_append, ih]
    constructor
    · rintro (⟨j, h1, h2⟩ | h)
      · exact ⟨j, by omega, h2⟩
      · split at h
        · exact ⟨m, by omega, (List.mem_singleton.1 h).symm⟩
        · simp at h
    · rintro ⟨j, h1, h2⟩
      rcases Nat.lt_or_ge j m with h | h
      · exact .inl ⟨j, h, h2⟩
      · obtain rfl : j = m := by omega
        by_cases hk : Lib.keeps d j = true
        · exact .inr (by rw [if_pos hk]; exact List.mem_singleton.2 h2.symm)
        · have hj : j ≠ 0 := fun e => hk (by subst e; exact Lib.keeps_lt_one d 0 (by decide))
          have he : d[j]! = d[j - 1]! := by
            rcases Decidable.em (d[j]! = d[j - 1]!) with h | h
            · exact h
            · exact absurd (Lib.keeps_pos h) hk
          exact .inl ⟨j - 1, by omega, by rw [← he]; exact h2⟩
theorem mem_compact {α : Type} [Inhabited α] [DecidableEq α] (l : List α) (x : α) : x ∈ Lib.compact l ↔ x ∈ l := by
  unfold Lib.compact
  rw [mem_compactUpTo]
  constructor
  · rintro ⟨j, h1, h2⟩
    rw [getElem!_pos l.toArray j (by simpa using h1)] at h2
    rw [← h2]
    simp
  · intro h
    obtain ⟨j, h1, h2⟩ := List.getElem_of_mem h
    exact ⟨j, h1, by rw [getElem!_pos l.toArray j (by simpa using h1)]; simpa using h2⟩
theorem mem_setA (ts : List ByteArray) (t : ByteArray) : t.data.toList ∈ setA ts ↔ t ∈ ts := by
  unfold setA
  rw [mem_compact, List.mem_mergeSort]
  constructor
  · intro h
    obtain ⟨s, hs, he⟩ := List.mem_map.1 h
    rwa [← WideShapes.bytes_inj he]
  · exact fun h => List.mem_map.2 ⟨t, h, rfl⟩
/-- A text is in a set if, and only if, it has dots. -/
theorem set_dots {ds : List Dn} {text : ByteArray} {out : List D3} (hk : ∀ d ∈ ds, DnOk d) (h : IsDots text ds out) : text.data.toList ∈ (valA ds).set ↔ 0 < out.length := by
  rcases h with ⟨h1, rfl⟩ | ⟨⟨h1, h2⟩, h3, _⟩
  · have : (valA ds).set = [] := by
      unfold valA
      split
      · rfl
      · rename_i hne
        have h3 := h1.resolve_left hne
        have hm : ds[0]! ∈ ds := by
          have : 0 < ds.length := List.length_pos_iff.2 hne
          rw [getElem!_pos ds 0 this]
          exact List.getElem_mem _
        rcases (hk _ hm).kind with e | e | e
        · rw [if_pos e]
        · rw [if_neg (by rw [e]; decide), if_pos e]
        · exact absurd e h3
    rw [this]
    simp
  · have e : (valA ds).set = setA ((standA ds).map (·.o.text)) := by
      unfold valA
      rw [if_neg h1, if_neg (by rw [h2]; decide), if_neg (by rw [h2]; decide)]
    rw [e, mem_setA, h3.length_eq]
    unfold dotsUp
    rw [List.length_map, List.length_pos_iff, ne_eq, List.filter_eq_nil_iff]
    constructor
    · intro h hn
      obtain ⟨x, hx, he⟩ := List.mem_map.1 h
      exact hn x hx (decide_eq_true he)
    · intro hn
      rcases Classical.em (text ∈ (standA ds).map (·.o.text)) with h | h
      · exact h
      · exact absurd (fun x hx he => h (List.mem_map.2 ⟨x, hx, of_decide_eq_true he⟩)) hn

/-- The i-th commit of a counter. -/
def cntOp (n : Int) : OpV := ⟨0, ⟨#[110]⟩, 2, ByteArray.empty, n, false, []⟩
def cntC (ns : List Int) (i : Nat) : ComV := ⟨[(i : Int) + 1, 0], 0, [cntOp (ns.getD i 0)]⟩
def cntL (ns : List Int) (m : Nat) : List ComV := (List.range m).map (cntC ns)
def sumI (ns : List Int) : Int := ns.foldl (· + ·) 0
def cntD (ns : List Int) (i : Nat) : Dn := ⟨cntOp (ns.getD i 0), ⟨0, (i : Int) + 1, 0⟩, sum [(i : Int) + 1, 0]⟩
theorem cnt_flat (ns : List Int) (m : Nat) : flatA (cntL ns m) = (List.range m).map (cntD ns) := by
  unfold flatA cntL
  rw [List.flatMap_map]
  have : (fun a => (cntC ns a).ops.map (dnOf (cntC ns a))) = fun a => [cntD ns a] := rfl
  rw [this]
  generalize List.range m = r
  induction r with
  | nil => rfl
  | cons a r ih => rw [List.flatMap_cons, ih]; rfl
theorem cnt_one (ns : List Int) (m : Nat) : OneDot (cntL ns m) := by
  intro a ha b hb he
  rw [cnt_flat] at ha hb
  obtain ⟨i, _, rfl⟩ := List.mem_map.1 ha
  obtain ⟨k, _, rfl⟩ := List.mem_map.1 hb
  simp only [cntD, D3.mk.injEq] at he
  obtain rfl : i = k := by omega
  rfl
theorem cnt_bad {n : Int} (h1 : -1000 ≤ n) (h2 : n ≤ 1000) : opErr (cntOp n) 2 = 0 := by
  unfold opErr
  rw [if_neg (by show ¬((2 : Int) < 1 ∨ (6 : Int) < 2 ∨ (0 : Int) < 0 ∨ (12 : Int) ≤ 0); decide), if_neg (by show ¬ nameB ⟨#[110]⟩ = false; decide), if_neg (by show ¬ kindB 2 = false; decide), if_neg (by show ¬ foreignB (cntOp n) = true; simp [foreignB, cntOp]), if_neg, if_neg (by show ¬ ([] : List D3).all _ = false; decide)]
  show ¬((60 : Nat) < (ByteArray.empty).size ∨ n < -1099511627776 ∨ 1099511627776 < n ∨ 60 < ([] : List D3).length)
  have : ByteArray.empty.size = 0 := rfl
  rw [this]
  simp only [List.length_nil]
  omega
theorem cnt_ok {ns : List Int} (hn : ∀ i, i < ns.length → -1000 ≤ ns.getD i 0 ∧ ns.getD i 0 ≤ 1000) (h30 : ns.length ≤ 30) : ∀ i, i < (cntL ns ns.length).length → listBad (cntL ns ns.length) i = 0 := by
  refine listOk_of (n := 2) (fun c hc => ?_) (fun c hc => ?_)
  · obtain ⟨i, hi, rfl⟩ := List.mem_map.1 hc
    have hi' := List.mem_range.1 hi
    refine ⟨?_, Int.le_refl _, by show (0 : Int) < 2; decide, by show ((i : Int) + 1) ≠ 0; omega, by show 1 ≤ 12; decide, by show [_] ≠ []; simp, fun j hj => ?_⟩
    · rw [chk_zero]
      refine ⟨by show 1 ≤ 2; decide, by show 2 ≤ 6; decide, fun t ht => ?_⟩
      have ht' : t < 2 := ht
      rcases (by omega : t = 0 ∨ t = 1) with rfl | rfl
      · show 0 ≤ (i : Int) + 1 ∧ (i : Int) + 1 ≤ _
        omega
      · show (0 : Int) ≤ 0 ∧ (0 : Int) ≤ _
        omega
    · have hj' : j < 1 := hj
      obtain rfl : j = 0 := by omega
      unfold opBad
      have e : opErr (cntC ns i).ops[0]! ((cntC ns i).when_.length : Int) = 0 := cnt_bad (hn i hi').1 (hn i hi').2
      rw [if_neg (by rw [e]; decide), if_neg (by omega)]
  · obtain ⟨i, hi, rfl⟩ := List.mem_map.1 hc
    rfl
theorem sum_perm {a b : List Dn} (h : a.Perm b) : ∀ s : Int, a.foldl (fun s d => s + d.o.n) s = b.foldl (fun s d => s + d.o.n) s := by
  induction h with
  | nil => intro s; rfl
  | cons x _ ih => intro s; exact ih _
  | swap x y l => intro s; simp only [List.foldl_cons]; congr 1; omega
  | trans _ _ ih1 ih2 => intro s; exact (ih1 s).trans (ih2 s)
theorem cnt_sum (ns : List Int) : ∀ m, m ≤ ns.length → ((List.range m).map (cntD ns)).foldl (fun s d => s + d.o.n) 0 = sumI (ns.take m) := by
  intro m
  induction m with
  | zero => intro _; rfl
  | succ m ih =>
    intro hm
    rw [List.range_succ, List.map_append, List.foldl_append, ih (by omega), List.take_succ_eq_append_getElem (by omega)]
    unfold sumI
    rw [List.foldl_append]
    simp [cntD, cntOp, List.getD_eq_getElem?_getD, List.getElem?_eq_getElem (by omega : m < ns.length)]
/-- What a counter's commits make. -/
theorem cnt_val {ns : List Int} {ds : List Dn} (h : IsOps ⟨#[110]⟩ (cntL ns ns.length) ds) : (valA ds).n = sumI ns ∧ (0 < ns.length → (valA ds).kind = 2) ∧ (valA ds).set = [] := by
  obtain ⟨ys, ⟨hp, _⟩, rfl⟩ := h
  have hm := mem_onceA (cnt_one ns ns.length)
  have hd : ((List.range ns.length).map (cntD ns)).Pairwise (· ≠ ·) := by
    rw [List.pairwise_map]
    refine List.Pairwise.imp (fun {a b} h e => ?_) (List.pairwise_lt_range)
    have := congrArg (fun d => d.dot.t) e
    simp only [cntD] at this
    omega
  have hperm : (onceA (cntL ns ns.length)).Perm ((List.range ns.length).map (cntD ns)) := perm_of_mem (onceA_distinct _) hd fun x => by rw [hm, cnt_flat]
  have hall : ∀ x ∈ onceA (cntL ns ns.length), x.o.key = ⟨#[110]⟩ ∧ x.o.kind = 2 := fun x hx => by
    obtain ⟨i, _, rfl⟩ := List.mem_map.1 (hperm.mem_iff.1 hx)
    exact ⟨rfl, rfl⟩
  have hf : (onceA (cntL ns ns.length)).filter (fun x => decide (x.o.key = ⟨#[110]⟩)) = onceA (cntL ns ns.length) := List.filter_eq_self.2 fun x hx => decide_eq_true (hall x hx).1
  rw [hf] at hp
  have hp2 := hp.trans hperm
  have hk : ∀ x ∈ ys, x.o.kind = 2 := fun x hx => (hall x (hp.mem_iff.1 hx)).2
  have hlen : ys.length = ns.length := by have := hp2.length_eq; simpa using this
  have hof : ofKind ys = ys := by
    unfold ofKind
    refine List.filter_eq_self.2 fun x hx => decide_eq_true ?_
    have h0 : 0 < ys.length := List.length_pos_of_mem hx
    rw [hk x hx, getElem!_pos ys 0 h0, hk _ (List.getElem_mem _)]
  rw [hof]
  by_cases h0 : ys = []
  · have hn : ns = [] := List.eq_nil_of_length_eq_zero (by rw [← hlen, h0]; rfl)
    rw [h0, hn]
    exact ⟨rfl, fun h => absurd h (by decide), rfl⟩
  · have h1 : ys[0]!.o.kind = 2 := by
      have h0 : 0 < ys.length := List.length_pos_iff.2 h0
      rw [getElem!_pos ys 0 h0]
      exact hk _ (List.getElem_mem _)
    have e : valA ys = ⟨2, ByteArray.empty, sumN ys, []⟩ := by
      unfold valA
      rw [if_neg h0, if_neg (by rw [h1]; decide), if_pos h1]
    rw [e]
    refine ⟨?_, fun _ => rfl, rfl⟩
    show sumN ys = _
    unfold sumN
    rw [sum_perm hp2 0, cnt_sum ns _ (Nat.le_refl _), List.take_length]
end Go.Proofs.YtilonnkohcocoaaGreatDoor
