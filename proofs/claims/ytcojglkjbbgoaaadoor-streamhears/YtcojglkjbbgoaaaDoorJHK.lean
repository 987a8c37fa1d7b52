/- A receiver, the reference's receiver, and what both keep: plain mathematics. -/
import Derived.Test.YtcojglkjbbgoaaaDoorJHU
import Derived.Test.YtcojglkjbbgoaaaDoorJHY
import Derived.Test.YtcojglkjbbgoaaaDoorJHQ
namespace Go.Proofs.YtcojglkjbbgoaaaDoor
open Go.RowKit Go.Maps
set_option maxRecDepth 100000

def updN (N : Int → Option MsgV) (k : Int) (x : Option MsgV) : Int → Option MsgV := fun j => if j = k then x else N j
def comeN (N : Int → Option MsgV) (seq : Int) (c : Nat) : Int → Option MsgV := fun j => if seq < j ∧ j ≤ seq + c then none else N j
/-- What the reference's list holds is what is kept. -/
structure Lists (w : World) (N : Int → Option MsgV) (L : List Raw) : Prop where
  here : ∀ r ∈ L, ∃ m, RawAt w r m ∧ N r.x4 = some m
  there : ∀ k m, N k = some m → ∃ r ∈ L, r.x4 = k
  nod : (L.map Raw.x4).Nodup
theorem Lists.perm {w : World} {N : Int → Option MsgV} {L L' : List Raw} (h : Lists w N L) (hp : L.Perm L') : Lists w N L' :=
  ⟨fun r hr => h.here r (hp.mem_iff.2 hr), fun k m hk => by obtain ⟨r, hr, e⟩ := h.there k m hk; exact ⟨r, hp.mem_iff.1 hr, e⟩, (hp.map _).nodup_iff.1 h.nod⟩
theorem Lists.one {w : World} {N : Int → Option MsgV} {L : List Raw} (h : Lists w N L) {r q : Raw} (hr : r ∈ L) (hq : q ∈ L) (e : r.x4 = q.x4) : r = q := by
  have key : ∀ (l : List Raw), (l.map Raw.x4).Nodup → r ∈ l → q ∈ l → r = q := by
    intro l
    induction l with
    | nil => intro _ h; cases h
    | cons x l ih =>
      intro hn h1 h2
      rw [List.map_cons, List.nodup_cons] at hn
      rcases List.mem_cons.1 h1 with h3 | h3
      · rcases List.mem_cons.1 h2 with h4 | h4
        · exact h3.trans h4.symm
        · exact absurd (List.mem_map.2 ⟨q, h4, by rw [← e, h3]⟩) hn.1
      · rcases List.mem_cons.1 h2 with h4 | h4
        · exact absurd (List.mem_map.2 ⟨r, h3, by rw [e, h4]⟩) hn.1
        · exact ih hn.2 h3 h4
  exact key L h.nod hr hq
theorem Lists.add {w : World} {N : Int → Option MsgV} {L : List Raw} (h : Lists w N L) {r : Raw} {m : MsgV} (hr : RawAt w r m) (hn : N r.x4 = none) : Lists w (updN N r.x4 (some m)) (L ++ [r]) := by
  have hne : ∀ q ∈ L, q.x4 ≠ r.x4 := fun q hq e => by
    obtain ⟨m', _, h2⟩ := h.here q hq
    rw [e, hn] at h2
    cases h2
  refine ⟨fun q hq => ?_, fun k m' hk => ?_, ?_⟩
  · rcases List.mem_append.1 hq with hq | hq
    · obtain ⟨m', h1, h2⟩ := h.here q hq
      exact ⟨m', h1, by unfold updN; rw [if_neg (hne q hq)]; exact h2⟩
    · obtain rfl : q = r := by simpa using hq
      exact ⟨m, hr, by unfold updN; rw [if_pos rfl]⟩
  · unfold updN at hk
    by_cases e : k = r.x4
    · exact ⟨r, by simp, e.symm⟩
    · rw [if_neg e] at hk
      obtain ⟨q, hq, e2⟩ := h.there k m' hk
      exact ⟨q, List.mem_append_left _ hq, e2⟩
  · rw [List.map_append, List.nodup_append]
    refine ⟨h.nod, by simp, fun a ha b hb e => ?_⟩
    obtain ⟨q, hq, rfl⟩ := List.mem_map.1 ha
    have : b = r.x4 := by simpa using hb
    exact hne q hq (e.trans this)
theorem Lists.putL_new {w : World} {N : Int → Option MsgV} {L : List Raw} (h : Lists w N L) {r : Raw} (hn : N r.x4 = none) : putL L r = L ++ [r] := by
  refine putL_no ?_
  rw [List.any_eq_false]
  intro q hq
  simp only [decide_eq_true_eq]
  intro e
  obtain ⟨m', _, h2⟩ := h.here q hq
  rw [e, hn] at h2
  cases h2
theorem Lists.putL_old {w : World} {N : Int → Option MsgV} {L : List Raw} (h : Lists w N L) {r : Raw} {m : MsgV} (hn : N r.x4 = some m) : putL L r = L := by
  refine putL_yes ?_
  rw [List.any_eq_true]
  obtain ⟨q, hq, e⟩ := h.there _ _ hn
  exact ⟨q, hq, by simpa using e⟩
/-- What is pulled is what is there in a row. -/
theorem Lists.pulled {w : World} {N : Int → Option MsgV} {L1 out L' : List Raw} {seq : Int} (h : Lists w N L1) (hp : Pulled seq L1 out L') :
    (∀ (i : Nat) (q : Raw), out[i]? = some q → ∃ m, N (seq + ((i + 1 : Nat) : Int)) = some m ∧ RawAt w q m) ∧ N (seq + ((out.length + 1 : Nat) : Int)) = none ∧ Lists w (comeN N seq out.length) L' := by
  have hL := h.perm hp.perm
  refine ⟨fun i q hq => ?_, ?_, fun r hr => ?_, fun k m hk => ?_, ?_⟩
  · obtain ⟨m, h1, h2⟩ := hL.here q (List.mem_append_left _ (List.mem_of_getElem? hq))
    exact ⟨m, by rw [← hp.seqs i q hq]; exact h2, h1⟩
  · cases e : N (seq + ((out.length + 1 : Nat) : Int)) with
    | none => rfl
    | some m =>
      obtain ⟨r, hr, hx⟩ := hL.there _ _ e
      rcases List.mem_append.1 hr with hr | hr
      · obtain ⟨j, hj⟩ := List.getElem?_of_mem hr
        have h1 := hp.seqs j r hj
        have h2 := (List.getElem?_eq_some_iff.1 hj).1
        rw [hx] at h1
        omega
      · exact absurd hx (hp.next r hr)
  · obtain ⟨m, h1, h2⟩ := hL.here r (List.mem_append_right _ hr)
    refine ⟨m, h1, ?_⟩
    unfold comeN
    rw [if_neg]
    · exact h2
    · rintro ⟨h3, h4⟩
      obtain ⟨i, hi⟩ : ∃ i : Nat, r.x4 = seq + ((i + 1 : Nat) : Int) := ⟨(r.x4 - seq - 1).toNat, by omega⟩
      have hil : i < out.length := by omega
      have hq := List.getElem?_eq_getElem hil
      have hs := hp.seqs i _ hq
      have hnod := hL.nod
      rw [List.map_append, List.nodup_append] at hnod
      exact hnod.2.2 _ (List.mem_map.2 ⟨_, List.mem_of_getElem? hq, rfl⟩) _ (List.mem_map.2 ⟨r, hr, rfl⟩) (hs.trans hi.symm)
  · unfold comeN at hk
    split at hk
    · cases hk
    · rename_i hne
      obtain ⟨r, hr, hx⟩ := hL.there k m hk
      rcases List.mem_append.1 hr with hr | hr
      · exfalso
        obtain ⟨j, hj⟩ := List.getElem?_of_mem hr
        have h1 := hp.seqs j r hj
        have h2 := (List.getElem?_eq_some_iff.1 hj).1
        rw [hx] at h1
        omega
      · exact ⟨r, hr, hx⟩
  · have hnod := hL.nod
    rw [List.map_append, List.nodup_append] at hnod
    exact hnod.2.1
/-- What the program's receiver keeps is what is kept. -/
structure Keep (w : World) (M : Int → Option Raw) (N : Int → Option MsgV) : Prop where
  own : ∀ k r, M k = some r → ∃ m, N k = some m ∧ RawOwn 0 w r m
  none_ : ∀ k, M k = none → N k = none
theorem Keep.kept {w w' : World} {M : Int → Option Raw} {N : Int → Option MsgV} (h : Keep w M N) (hk : Keeps w w') : Keep w' M N :=
  ⟨fun k r e => by obtain ⟨m, h1, h2⟩ := h.own k r e; exact ⟨m, h1, h2.kept hk⟩, h.none_⟩
theorem Keep.add {w : World} {M : Int → Option Raw} {N : Int → Option MsgV} (h : Keep w M N) {k : Int} {r : Raw} {m : MsgV} (hr : RawOwn 0 w r m) : Keep w (updV M k (some r)) (updN N k (some m)) := by
  refine ⟨fun j q e => ?_, fun j e => ?_⟩
  · unfold updV at e
    unfold updN
    split at e
    · rename_i hj
      rw [if_pos hj]
      obtain rfl := Option.some.inj e
      exact ⟨m, rfl, hr⟩
    · rename_i hj
      rw [if_neg hj]
      exact h.own j q e
  · unfold updV at e
    unfold updN
    split at e
    · cases e
    · rename_i hj
      rw [if_neg hj]
      exact h.none_ j e
theorem Keep.come {w : World} {M : Int → Option Raw} {N : Int → Option MsgV} (h : Keep w M N) (seq : Int) (c : Nat) : Keep w (comeV M seq c) (comeN N seq c) := by
  refine ⟨fun j q e => ?_, fun j e => ?_⟩
  · unfold comeV at e
    unfold comeN
    split at e
    · cases e
    · rename_i hj
      rw [if_neg hj]
      exact h.own j q e
  · unfold comeV at e
    unfold comeN
    split at e
    · rename_i hj
      rw [if_pos hj]
    · rename_i hj
      rw [if_neg hj]
      exact h.none_ j e
theorem Keep.isSome {w : World} {M : Int → Option Raw} {N : Int → Option MsgV} (h : Keep w M N) (k : Int) : (M k).isSome = (N k).isSome := by
  cases e : M k with
  | none => rw [h.none_ k e]; rfl
  | some r => obtain ⟨m, h1, _⟩ := h.own k r e; rw [h1]; rfl
/-- How many come in a row. -/
theorem run_raw (M : Int → Option Raw) (seq : Int) (hb : ∀ k, (M k).isSome = true → k ≤ 900) : ∀ (d : Nat) (c : Nat), seq + c + d = 900 → ∃ x : Nat, seq + (c + x : Nat) ≤ 900 ∧ (∀ i : Nat, i < x → (M (seq + ((c + i + 1 : Nat) : Int))).isSome = true) ∧ M (seq + ((c + x + 1 : Nat) : Int)) = none
  | 0, c, h => ⟨0, by omega, fun i hi => by omega, by
    cases e : M (seq + ((c + 0 + 1 : Nat) : Int)) with
    | none => rfl
    | some r => have := hb _ (by rw [e]; rfl); omega⟩
  | d + 1, c, h => by
    cases e : M (seq + ((c + 1 : Nat) : Int)) with
    | none => exact ⟨0, by omega, fun i hi => by omega, e⟩
    | some r =>
      obtain ⟨x, h1, h2, h3⟩ := run_raw M seq hb d (c + 1) (by omega)
      refine ⟨x + 1, by omega, fun i hi => ?_, ?_⟩
      · cases i with
        | zero => rw [Nat.add_zero, e]; rfl
        | succ i =>
          have := h2 i (by omega)
          rw [show c + (i + 1) + 1 = c + 1 + i + 1 by omega]
          exact this
      · rw [show c + (x + 1) + 1 = c + 1 + x + 1 by omega]
        exact h3
theorem f2_of {α β : Type} {R : α → β → Prop} : ∀ {l : List α} {m : List β}, l.length = m.length → (∀ (i : Nat) (a : α) (b : β), l[i]? = some a → m[i]? = some b → R a b) → F2 R l m
  | [], [], _, _ => trivial
  | [], _ :: _, h, _ => by simp at h
  | _ :: _, [], h, _ => by simp at h
  | a :: l, b :: m, h, hr => ⟨hr 0 a b rfl rfl, f2_of (by simpa using h) fun i x y h1 h2 => hr (i + 1) x y (by simpa using h1) (by simpa using h2)⟩
end Go.Proofs.YtcojglkjbbgoaaaDoor
