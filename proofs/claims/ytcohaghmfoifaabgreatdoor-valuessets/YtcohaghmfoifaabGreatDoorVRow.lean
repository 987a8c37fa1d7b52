/- From a row that the call owns to a row that is sorted and cut; the order of ops. -/
import Derived.Test.YtcohaghmfoifaabGreatDoorVOnce
namespace Go.Proofs.YtcohaghmfoifaabGreatDoor
open Go.RowKit Go.Sort Go.Maps

theorem once_none (w : World) (a : Option Addr) (c : Nat) : Calls Tryz.prog 54 #[.slice a 0 c] w fun e w' => e = .returned (.tuple #[.slice none 0 0, .nilIface]) ∧ w' = w.alloc (.map #[] 0) := by
  have hmm := @run_makeMap Tryz.prog
  go_enter Tryz.func54, Tryz.ntmps54
  go_wp2
  refine wp_loop_rounds 1 ?_
  rw [rounds_succ]
  go_wp2
  go_ret2
  exact ⟨rfl, rfl⟩
/-- once, where nothing is wrong. -/
theorem once_any (A : Nat → Addr) (w : World) (hE : E4 A w) (h4 : 4 ≤ w.heap.size) (v : Value) (l : List ComV) (hv : ComsAt w v l) (hl : l.length ≤ 1000) (hok : ∀ i, i < l.length → ComOk l[i]!) :
    Calls Tryz.prog 54 #[v] w fun e w' => ∃ v n, e = .returned (.tuple #[v, .nilIface]) ∧ OnceInv w w' v (onceA l) n := by
  obtain ⟨ad, cap, rfl, _, _, h⟩ := hv.shape
  by_cases h0 : l = []
  · subst h0
    refine (once_none w ad cap).mono ?_
    rintro e w' ⟨rfl, rfl⟩
    exact ⟨_, _, rfl, OnceInv.start w⟩
  · obtain ⟨b, off, rfl, h2⟩ := h.resolve_left h0
    exact once_n A w hE h4 b off l.length cap l rfl hl hok h2

theorem flat_get (xs : List Dd) : ∀ (j i : Nat), j < xs.length → i < 11 → (xs.flatMap Dd.enc)[j * 11 + i]? = some (xs[j]!.enc[i]!) := by
  induction xs with
  | nil => intro j i hj; simp at hj
  | cons x r ih =>
    intro j i hj hi
    rw [List.flatMap_cons]
    cases j with
    | zero =>
      rw [List.getElem?_append_left (by rw [Dd.enc_length]; omega), Nat.zero_mul, Nat.zero_add, List.getElem?_eq_getElem (by rw [Dd.enc_length]; exact hi)]
      show some _ = some (x.enc[i]!)
      rw [getElem!_pos x.enc i (by rw [Dd.enc_length]; exact hi)]
    | succ j =>
      rw [List.getElem?_append_right (by rw [Dd.enc_length]; omega), Dd.enc_length, show (j + 1) * 11 + i - 11 = j * 11 + i by omega, ih j i (by simpa using hj) hi]
      simp
theorem rowD_of_owns {w : World} {base : Nat} {v : Value} {xs : List Dd} (h : w.ownsRow base 85 11 v xs.length (xs.flatMap Dd.enc)) : RowD w base v xs := by
  obtain ⟨_, h2⟩ := h
  rcases h2 with ⟨rfl, h0⟩ | ⟨g, cap, cur, rfl, hb, hh, hn, hm, hs, ht⟩
  · exact .inl ⟨rfl, List.eq_nil_of_length_eq_zero h0⟩
  · refine .inr ⟨g, cap, rfl, hb, (Array.getElem?_eq_some_iff.1 hh).1, hn, ?_⟩
    rw [holdsK_iff]
    intro j hj i hi
    have hj' : j < xs.length := by simpa using hj
    have e := flat_get xs j i hj' hi
    rw [← ht, List.getElem?_take, if_pos (by omega), Array.getElem?_toList] at e
    refine ⟨?_, ?_⟩
    · simp only [World.cell?, hh]
      rw [e]
      simp
    · simp only [World.frozen?, hh]
      simp
theorem RowD.mono {w : World} {B B' : Nat} {v : Value} {xs : List Dd} (h : RowD w B v xs) (hB : B' ≤ B) : RowD w B' v xs := by
  rcases h with h | ⟨g, cap, h1, h2, h3⟩
  · exact .inl h
  · exact .inr ⟨g, cap, h1, Nat.le_trans hB h2, h3⟩

/-- Which of two ops counts first. -/
def ltN (x y : Dn) : Bool := decide (x.wt < y.wt ∨ x.wt = y.wt ∧ ltD x.dot y.dot = true)
theorem ltW_abs (x y : Dd) : ltW x y = ltN x.abs y.abs := rfl
/-- All ops on a key, in the order in which they count. -/
def InOrder (key : ByteArray) (l : List ComV) (ys : List Dn) : Prop := ys.Perm ((onceA l).filter fun x => decide (x.o.key = key)) ∧ ys.Pairwise (fun a b => ltN b a = false)
/-- Those of the first one's kind. -/
def ofKind (ys : List Dn) : List Dn := ys.filter fun x => decide (x.o.kind = ys[0]!.o.kind)
def IsOps (key : ByteArray) (l : List ComV) (ds : List Dn) : Prop := ∃ ys, InOrder key l ys ∧ ds = ofKind ys

theorem addDn_nodup {acc : List Dn} (h : (acc.map (·.dot)).Nodup) (d : Dn) : ((addDn acc d).map (·.dot)).Nodup := by
  unfold addDn
  split
  · exact h
  · rename_i hn
    rw [List.map_append, List.nodup_append]
    refine ⟨h, by simp, fun a ha b hb e => hn ?_⟩
    simp only [List.map_cons, List.map_nil, List.mem_singleton] at hb
    subst hb
    subst e
    obtain ⟨x, hx, hxe⟩ := List.mem_map.1 ha
    exact List.any_eq_true.2 ⟨x, hx, decide_eq_true hxe⟩
theorem foldl_addDn_nodup (ds : List Dn) : ∀ {acc : List Dn}, (acc.map (·.dot)).Nodup → ((ds.foldl addDn acc).map (·.dot)).Nodup := by
  induction ds with
  | nil => intro acc h; exact h
  | cons d r ih => intro acc h; exact ih (addDn_nodup h d)
theorem onceA_nodup (l : List ComV) : ((onceA l).map (·.dot)).Nodup := by
  unfold onceA
  suffices h : ∀ (l : List ComV) (acc : List Dn), (acc.map (·.dot)).Nodup → ((l.foldl addCom acc).map (·.dot)).Nodup from h l [] (by simp)
  intro l
  induction l with
  | nil => intro acc h; exact h
  | cons c r ih => intro acc h; exact ih _ (foldl_addDn_nodup _ h)
theorem ltN_total {x y : Dn} (h1 : ltN x y = false) (h2 : ltN y x = false) : x.dot = y.dot := by
  obtain ⟨_, ⟨p, t, a⟩, wx⟩ := x
  obtain ⟨_, ⟨p', t', a'⟩, wy⟩ := y
  simp only [ltN, ltD, decide_eq_false_iff_not, decide_eq_true_eq] at h1 h2
  simp only [D3.mk.injEq]
  omega
theorem pairwise_ne {l : List Dn} (h : l.Pairwise (fun x y => x.dot ≠ y.dot)) {x y : Dn} (hx : x ∈ l) (hy : y ∈ l) (hne : x ≠ y) : x.dot ≠ y.dot := by
  induction h with
  | nil => simp at hx
  | cons h1 _ ih =>
    rcases List.mem_cons.1 hx with rfl | hx'
    · rcases List.mem_cons.1 hy with rfl | hy'
      · exact absurd rfl hne
      · exact h1 _ hy'
    · rcases List.mem_cons.1 hy with rfl | hy'
      · exact (h1 _ hx').symm
      · exact ih hx' hy'
/-- Two that are in order are one. -/
theorem inOrder_unique {key : ByteArray} {l : List ComV} {a b : List Dn} (ha : InOrder key l a) (hb : InOrder key l b) : a = b := by
  have hnd : ((onceA l).filter fun x => decide (x.o.key = key)).Pairwise (fun x y => x.dot ≠ y.dot) := by
    have := onceA_nodup l
    rw [List.Nodup, List.pairwise_map] at this
    exact this.filter _
  have hp := ha.1.trans hb.1.symm
  have hda : a.Pairwise (fun x y => x.dot ≠ y.dot) := hnd.perm ha.1.symm (fun h e => h e.symm)
  refine hp.eq_of_pairwise ?_ ha.2 hb.2
  intro x y hx hy h1 h2
  have e := ltN_total h2 h1
  by_cases hne : x = y
  · exact hne
  · exact absurd e (pairwise_ne hda hx (hp.mem_iff.2 hy) hne)
end Go.Proofs.YtcohaghmfoifaabGreatDoor
