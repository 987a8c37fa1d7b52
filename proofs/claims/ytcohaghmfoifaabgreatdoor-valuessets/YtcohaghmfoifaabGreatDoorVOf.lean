/- Of by its contract, where nothing is wrong. -/
import Derived.Test.YtcohaghmfoifaabGreatDoorVTexts
namespace Go.Proofs.YtcohaghmfoifaabGreatDoor
open Go.RowKit Go.Sort Go.Maps
set_option maxRecDepth 100000

/-- A value. -/
structure ValV where
  kind : Int
  text : ByteArray
  n : Int
  set : List (List UInt8)
/-- All that is added. -/
def sumN (ds : List Dn) : Int := ds.foldl (fun s d => s + d.o.n) 0
/-- The value that ops make, which are in order and of one kind. -/
def valA (ds : List Dn) : ValV :=
  if ds = [] then ⟨0, ByteArray.empty, 0, []⟩
  else if ds[0]!.o.kind = 1 then ⟨1, ds[ds.length - 1]!.o.text, 0, []⟩
  else if ds[0]!.o.kind = 2 then ⟨2, ByteArray.empty, sumN ds, []⟩
  else ⟨3, ByteArray.empty, 0, setA ((standA ds).map (·.o.text))⟩
def ValAt (w : World) (v : Value) (x : ValV) : Prop := ∃ sv, v = .agg #[.int .i64 x.kind, .string x.text, .int .i64 x.n, sv] ∧ StrsAt w sv x.set
/-- What Of hands back, where nothing is wrong. -/
def OfRet (key : ByteArray) (l : List ComV) (w : World) (e : Ending) (w' : World) : Prop :=
  ∃ v ds, e = .returned (.tuple #[v, .nilIface]) ∧ IsOps key l ds ∧ ValAt w' v (valA ds) ∧ Below w.heap.size w w'
theorem strs_nil (w : World) : StrsAt w (.slice none 0 0) [] := ⟨none, 0, rfl, .inl rfl⟩

/-- What is known of the ops of commits in which nothing is wrong. -/
structure DnOk (d : Dn) : Prop where
  kind : d.o.kind = 1 ∨ d.o.kind = 2 ∨ d.o.kind = 3
  lo : -1099511627776 ≤ d.o.n
  hi : d.o.n ≤ 1099511627776
  dot : wf3 d.dot
  dots : ∀ e ∈ d.o.dots, wf3 e
  few : d.o.dots.length ≤ 60
theorem opOk {o : OpV} {n : Int} (h : opErr o n = 0) : (o.kind = 1 ∨ o.kind = 2 ∨ o.kind = 3) ∧ -1099511627776 ≤ o.n ∧ o.n ≤ 1099511627776 ∧ (∀ e ∈ o.dots, wf3 e) ∧ o.dots.length ≤ 60 := by
  unfold opErr at h
  split at h
  · exact absurd h (by decide)
  · split at h
    · exact absurd h (by decide)
    · split at h
      · exact absurd h (by decide)
      · rename_i hn _ hk
        split at h
        · exact absurd h (by decide)
        · split at h
          · exact absurd h (by decide)
          · rename_i hb
            split at h
            · exact absurd h (by decide)
            · rename_i hd
              have hd' : o.dots.all (dotB n) = true := by simpa using hd
              refine ⟨?_, by omega, by omega, fun e he => ?_, by omega⟩
              · have : kindB o.kind = true := by simpa using hk
                simpa [kindB] using this
              · have := List.all_eq_true.1 hd' e he
                simp only [dotB, Bool.and_eq_true, decide_eq_true_eq] at this
                exact ⟨wf_i64 this.1 (by omega), wf_i64 (by omega) this.2.2.2.1, wf_i64 this.2.2.2.2.1 (by omega)⟩
theorem dnOf_ok {c : ComV} (hc : ComOk c) {o : OpV} (ho : o ∈ c.ops) : DnOk (dnOf c o) := by
  obtain ⟨i, hi, rfl⟩ := List.getElem_of_mem ho
  have he := opErr_of_bad (hc.ops i hi)
  rw [getElem!_pos c.ops i hi] at he
  obtain ⟨h1, h2, h3, h4, h5⟩ := opOk he
  have hat := at_of_opErr he
  have hp := hc.lo
  have hp2 := hc.hi
  have h6 := (chk_zero.1 hc.chk).2.1
  have ht := (chk_zero.1 hc.chk).2.2 c.place.toNat (by omega)
  exact ⟨h1, h2, h3, ⟨wf_i64 hp (by show c.place ≤ _; omega), wf_i64 ht.1 ht.2, wf_i64 hat.1 (by show c.ops[i].at_ ≤ _; omega)⟩, h4, h5⟩
theorem onceA_mem (l : List ComV) : ∀ d ∈ onceA l, ∃ c ∈ l, ∃ o ∈ c.ops, d = dnOf c o := by
  have h1 : ∀ (ds acc : List Dn) (d : Dn), d ∈ ds.foldl addDn acc → d ∈ acc ∨ d ∈ ds := by
    intro ds
    induction ds with
    | nil => intro acc d h; exact .inl h
    | cons x r ih =>
      intro acc d h
      rcases ih _ d h with h | h
      · unfold addDn at h
        split at h
        · exact .inl h
        · rcases List.mem_append.1 h with h | h
          · exact .inl h
          · rw [List.mem_singleton.1 h]; exact .inr (List.mem_cons_self ..)
      · exact .inr (List.mem_cons_of_mem _ h)
  have h2 : ∀ (l : List ComV) (acc : List Dn) (d : Dn), d ∈ l.foldl addCom acc → d ∈ acc ∨ ∃ c ∈ l, ∃ o ∈ c.ops, d = dnOf c o := by
    intro l
    induction l with
    | nil => intro acc d h; exact .inl h
    | cons c r ih =>
      intro acc d h
      rcases ih _ d h with h | ⟨c', hc', h⟩
      · rcases h1 _ _ d h with h | h
        · exact .inl h
        · obtain ⟨o, ho, rfl⟩ := List.mem_map.1 h
          exact .inr ⟨c, List.mem_cons_self .., o, ho, rfl⟩
      · exact .inr ⟨c', List.mem_cons_of_mem _ hc', h⟩
  intro d hd
  rcases h2 l [] d hd with h | h
  · simp at h
  · exact h
theorem isOps_mem {key : ByteArray} {l : List ComV} {ds : List Dn} (h : IsOps key l ds) : ∀ d ∈ ds, d ∈ onceA l := by
  obtain ⟨ys, ⟨hp, _⟩, rfl⟩ := h
  intro d hd
  have := (List.mem_filter.1 hd).1
  exact (List.mem_filter.1 (hp.mem_iff.1 this)).1
theorem isOps_ok {key : ByteArray} {l : List ComV} {ds : List Dn} (h : IsOps key l ds) (hl : ∀ i, i < l.length → listBad l i = 0) : ∀ d ∈ ds, DnOk d := by
  intro d hd
  obtain ⟨c, hc, o, ho, rfl⟩ := onceA_mem l d (isOps_mem h d hd)
  obtain ⟨i, hi, rfl⟩ := List.getElem_of_mem hc
  refine dnOf_ok (comOk_of ?_) ho
  have := hl i hi
  unfold listBad at this
  rw [getElem!_pos l i hi] at this
  split at this
  · rename_i h; exact absurd this h
  · rename_i h; simpa using h
theorem isOps_len {key : ByteArray} {l : List ComV} {ds : List Dn} (h : IsOps key l ds) (hl : ∀ c ∈ l, c.ops.length ≤ 12) : ds.length ≤ 12 * l.length := by
  obtain ⟨ys, ⟨hp, _⟩, rfl⟩ := h
  have h1 := onceA_len l hl
  have h2 := hp.length_eq
  have h3 := List.length_filter_le (fun x => decide (x.o.key = key)) (onceA l)
  have h4 := List.length_filter_le (fun x => decide (x.o.kind = ys[0]!.o.kind)) ys
  unfold ofKind
  omega
end Go.Proofs.YtcohaghmfoifaabGreatDoor
