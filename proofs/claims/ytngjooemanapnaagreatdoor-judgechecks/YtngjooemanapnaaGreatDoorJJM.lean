/- worth: a closed fact; What judge asks of events: plain mathematics. -/
import Derived.Test.YtngjooemanapnaaGreatDoorJVOfRM
import Derived.Test.YtngjooemanapnaaGreatDoorJVStandM
import Derived.Test.YtngjooemanapnaaGreatDoorJVCmpD
import Derived.Test.YtngjooemanapnaaGreatDoorJVOnceM
import Derived.Test.YtngjooemanapnaaGreatDoorJVMap
import Derived.Test.YtngjooemanapnaaGreatDoorJVOf
import Derived.Test.YtngjooemanapnaaGreatDoorJVCheck
import Derived.Test.YtngjooemanapnaaGreatDoorJJD
import Derived.Test.YtngjooemanapnaaGreatDoorJVTurnM
namespace Go.Proofs.YtngjooemanapnaaGreatDoor
open Go.RowKit Go.Sort Go.Maps
set_option maxRecDepth 100000
set_option linter.unusedSectionVars false
variable [Inhabited ComV] [DecidableEq D3] [Inhabited D3] [Inhabited Dd] [Inhabited Dn] [Inhabited OpV]

/-- The order, if it is known, is the one. -/
theorem isOps_eq {key : ByteArray} {l : List ComV} {ds ys : List Dn} (h : IsOps key l ds) (hy : InOrder key l ys) : ds = ofKind ys := by
  obtain ⟨zs, hz, rfl⟩ := h
  rw [inOrder_unique hz hy]
def worthOp : OpV := ⟨0, ⟨#[107]⟩, 1, ⟨#[120]⟩, 0, false, []⟩
def worthL : List ComV := [⟨[1], 0, [worthOp]⟩]
theorem worth_bad : ∀ i, i < worthL.length → listBad worthL i = 0 := by
  intro i hi
  obtain rfl : i = 0 := by simpa [worthL] using hi
  kernel_rfl
theorem worth_once : (onceA worthL).filter (fun x => decide (x.o.key = ⟨#[107]⟩)) = [⟨worthOp, ⟨0, 1, 0⟩, 1⟩] := by rfl
theorem worth_val {ds : List Dn} (h : IsOps ⟨#[107]⟩ worthL ds) : valA ds = ⟨1, ⟨#[120]⟩, 0, []⟩ := by
  rw [isOps_eq h (ys := [⟨worthOp, ⟨0, 1, 0⟩, 1⟩]) ⟨by rw [worth_once], List.pairwise_singleton _ _⟩]
  rfl
theorem rowAt_lit {w : World} {k : Nat} {b : Nat} {cs : List Value} {t : TypeId} {m c : Nat} (hb : w.heap[b]? = some (.cells cs.toArray t (0, 0))) (rows : List (List Value)) (hcs : cs = rows.flatten) (hk : ∀ r ∈ rows, r.length = k) (hm : m = rows.length) (hc : m ≤ c) : RowAt k w (.slice (some ⟨b, 0, none⟩) m c) rows := by
  subst hm hcs
  refine ⟨_, c, rfl, (fun h => by cases h), hc, .inr ⟨b, 0, rfl, fun j r hr => ?_⟩⟩
  have hj : j < rows.length := (List.getElem?_eq_some_iff.1 hr).1
  have hrm : r ∈ rows := List.mem_of_getElem? hr
  refine ⟨hk r hrm, fun i u hu => ?_⟩
  have hi : i < k := by have := (List.getElem?_eq_some_iff.1 hu).1; rw [hk r hrm] at this; exact this
  have hfl : ∀ (rows : List (List Value)) (j : Nat) (r : List Value), (∀ r ∈ rows, r.length = k) → rows[j]? = some r → ∀ i u, i < k → r[i]? = some u → rows.flatten[j * k + i]? = some u := by
    intro rows
    induction rows with
    | nil => intro j r _ h; simp at h
    | cons x rest ih =>
      intro j r hk h i u hi hu
      have hx := hk x (List.mem_cons_self ..)
      rw [List.flatten_cons]
      cases j with
      | zero =>
        simp at h
        subst h
        rw [List.getElem?_append_left (by omega), Nat.zero_mul, Nat.zero_add]
        exact hu
      | succ j =>
        rw [List.getElem?_append_right (by rw [hx, Nat.add_mul]; omega), hx, show (j + 1) * k + i - k = j * k + i by rw [Nat.add_mul]; omega]
        exact ih j r (fun r hr => hk r (List.mem_cons_of_mem _ hr)) (by simpa using h) i u hi hu
  have := hfl rows j r hk hr i u hi hu
  simp only [World.cell?, hb, Nat.zero_add]
  rw [List.getElem?_toArray, this]
  simp
theorem ints_lit {w : World} {b : Nat} {zs : List Int} {t : TypeId} {m c : Nat} (hb : w.heap[b]? = some (.cells (zs.map (Value.int .i64)).toArray t (0, 0))) (hm : m = zs.length) : IntsAt w (.slice (some ⟨b, 0, none⟩) m c) zs := by
  subst hm
  refine ⟨_, c, rfl, (fun h => by cases h), .inr ⟨b, 0, rfl, fun j hj => ?_⟩⟩
  simp only [World.cell?, hb, Nat.zero_add]
  rw [List.getElem?_toArray, List.getElem?_map, List.getElem?_eq_getElem hj]
  simp [List.getD_eq_getElem?_getD, List.getElem?_eq_getElem hj]
end Go.Proofs.YtngjooemanapnaaGreatDoor
namespace Go.Proofs.YtngjooemanapnaaGreatDoor
set_option linter.unusedSectionVars false
variable [Inhabited ComV] [DecidableEq D3] [Inhabited D3] [Inhabited Dd] [Inhabited Dn] [Inhabited OpV]

def ev0 : EvV := ⟨0, 0, [], [], ⟨[], 0, []⟩⟩
/-- The number of the error of an event by itself. -/
def wholeB (n : Int) (e : EvV) : Nat :=
  if (oneB n e.at_ && (oneB n e.c.when_ && (decide (0 ≤ e.place) && decide (e.place < n)))) = false then 3 else if e.c.ops = [] then 0 else (comErr e.c).1
/-- What session s did last among these. -/
def doneL (s : Int) (l : List EvV) : Option (List Int) := l.foldl (fun m e => if e.ses = s then some e.c.when_ else m) none
theorem doneL_snoc (s : Int) (l : List EvV) (e : EvV) : doneL s (l ++ [e]) = if e.ses = s then some e.c.when_ else doneL s l := by
  unfold doneL
  rw [List.foldl_append]
  rfl
theorem doneL_take (s : Int) (l : List EvV) (i : Nat) (h : i < l.length) : doneL s (l.take (i + 1)) = if (l.getD i ev0).ses = s then some (l.getD i ev0).c.when_ else doneL s (l.take i) := by
  have e : l.getD i ev0 = l[i] := by rw [List.getD_eq_getElem?_getD, List.getElem?_eq_getElem h]; rfl
  rw [List.take_succ_eq_append_getElem h, doneL_snoc, e]
def turnB (l : List EvV) (i : Nat) : Bool :=
  match doneL (l.getD i ev0).ses (l.take i) with
  | none => true
  | some zs => inB zs (l.getD i ev0).at_
/-- All commits with ops, in the order of the events. -/
def comsL (l : List EvV) : List ComV := (l.map (·.c)).filter fun c => decide (c.ops ≠ [])
/-- Those that are within. -/
def seenC (l : List EvV) (at_ : List Int) : List ComV := (comsL l).filter fun c => inB c.when_ at_
def sameV (a b : ValV) : Bool := decide (a.kind = b.kind) && (decide (a.text = b.text) && (decide (a.n = b.n) && decide (a.set = b.set)))
/-- Was it read so? -/
def trueB (cs : List ComV) (r : SnV) : Bool := nameB r.key && sameV (valA (opsR r.key cs)) r.v
def readsB (cs : List ComV) (rs : List SnV) : Bool := rs.all (trueB cs)
/-- The number of the error of event i beside the others. -/
def besideB (l : List EvV) (i : Nat) : Nat :=
  if inB (l.getD i ev0).at_ (l.getD i ev0).c.when_ = false then 2 else if turnB l i = false then 9 else if readsB (seenC l (l.getD i ev0).at_) (l.getD i ev0).reads = false then 8 else 0
def wholeE (n : Int) (l : List EvV) : Nat × Option Nat := scan (fun i => wholeB n (l.getD i ev0)) l.length
/-- What Check tells. -/
def checkE (n : Int) (l : List EvV) : Nat × Option Nat :=
  if n < 1 ∨ 6 < n then (2, none) else if (wholeE n l).1 ≠ 0 then wholeE n l else scan (besideB l) l.length
/-- The number of the error of event i's vectors. -/
def cutB (l : List EvV) (i : Nat) : Nat :=
  if two (l.getD i ev0).c.when_ (l.getD i ev0).at_ ≠ 0 then (two (l.getD i ev0).c.when_ (l.getD i ev0).at_).toNat else if (l.getD i ev0).at_.length ≠ (l.getD 0 ev0).at_.length then 3 else 0
def cutE (l : List EvV) : Nat × Option Nat := scan (cutB l) l.length
/-- Has b seen what a did? -/
def relB (l : List EvV) (a b : Nat) : Bool := decide ((l.getD a ev0).c.ops ≠ []) && inB (l.getD a ev0).c.when_ (l.getD b ev0).at_
theorem scan2 (f : Nat → Nat) : (scan f 2).1 = if f 0 ≠ 0 then f 0 else f 1 := by
  by_cases h0 : f 0 = 0
  · by_cases h1 : f 1 = 0
    · rw [scan_none (fun i hi => by rcases (by omega : i = 0 ∨ i = 1) with rfl | rfl <;> assumption)]; simp [h0, h1]
    · rw [scan_some (i := 1) (by decide) (fun j hj => by obtain rfl : j = 0 := by omega
                                                         exact h0) h1]; simp [h0]
  · rw [scan_some (i := 0) (by decide) (fun j hj => by omega) h0]; simp [h0]
theorem scan3 (f : Nat → Nat) : (scan f 3).1 = if f 0 ≠ 0 then f 0 else if f 1 ≠ 0 then f 1 else f 2 := by
  by_cases h0 : f 0 = 0
  · by_cases h1 : f 1 = 0
    · by_cases h2 : f 2 = 0
      · rw [scan_none (fun i hi => by rcases (by omega : i = 0 ∨ i = 1 ∨ i = 2) with rfl | rfl | rfl <;> assumption)]; simp [h0, h1, h2]
      · rw [scan_some (i := 2) (by decide) (fun j hj => by rcases (by omega : j = 0 ∨ j = 1) with rfl | rfl <;> assumption) h2]; simp [h0, h1]
    · rw [scan_some (i := 1) (by decide) (fun j hj => by obtain rfl : j = 0 := by omega
                                                         exact h0) h1]; simp [h0, h1]
  · rw [scan_some (i := 0) (by decide) (fun j hj => by omega) h0]; simp [h0]
/-- What the verdicts tell. -/
def vdW (n : Int) (l : List EvV) (i : Nat) : Nat → Nat
  | 0 => if (oneB n (l.getD i ev0).at_ && (oneB n (l.getD i ev0).c.when_ && (decide (0 ≤ (l.getD i ev0).place) && decide ((l.getD i ev0).place < n)))) = false then 3 else 0
  | _ => if (l.getD i ev0).c.ops = [] then 0 else (comErr (l.getD i ev0).c).1
def vdB (l : List EvV) (i : Nat) : Nat → Nat
  | 0 => if inB (l.getD i ev0).at_ (l.getD i ev0).c.when_ = false then 2 else 0
  | 1 => if turnB l i = false then 9 else 0
  | _ => if readsB (seenC l (l.getD i ev0).at_) (l.getD i ev0).reads = false then 8 else 0
def vdC (l : List EvV) (i : Nat) : Nat → Nat
  | 0 => (two (l.getD i ev0).c.when_ (l.getD i ev0).at_).toNat
  | _ => if (l.getD i ev0).at_.length ≠ (l.getD 0 ev0).at_.length then 3 else 0
theorem vdW_scan (n : Int) (l : List EvV) (i : Nat) : (scan (vdW n l i) 2).1 = wholeB n (l.getD i ev0) := by
  rw [scan2]
  unfold wholeB vdW
  by_cases h : (oneB n (l.getD i ev0).at_ && (oneB n (l.getD i ev0).c.when_ && (decide (0 ≤ (l.getD i ev0).place) && decide ((l.getD i ev0).place < n)))) = false
  · simp only [if_pos h]; simp
  · simp only [if_neg h]; simp
theorem vdB_scan (l : List EvV) (i : Nat) : (scan (vdB l i) 3).1 = besideB l i := by
  rw [scan3]
  unfold besideB vdB
  cases inB (l.getD i ev0).at_ (l.getD i ev0).c.when_ <;> cases turnB l i <;> simp
theorem two_toNat (zs ys : List Int) : (two zs ys).toNat = 0 ↔ two zs ys = 0 := by
  have : 0 ≤ two zs ys := by
    unfold two
    rcases chk_cases zs with h | h | h <;> rcases chk_cases ys with h' | h' | h' <;> rw [h, h'] <;> (try decide) <;> (simp; try (split <;> decide))
  omega
theorem vdC_scan (l : List EvV) (i : Nat) : (scan (vdC l i) 2).1 = cutB l i := by
  rw [scan2]
  unfold cutB vdC
  simp only
  by_cases h : two (l.getD i ev0).c.when_ (l.getD i ev0).at_ = 0
  · simp only [h, ne_eq, not_true_eq_false, if_false, Int.toNat_zero]
  · rw [if_pos (fun e => h ((two_toNat _ _).1 e)), if_pos h]
/-! ### What is right -/
theorem getD_mem {l : List EvV} {i : Nat} (h : i < l.length) : l.getD i ev0 ∈ l := by
  rw [List.getD_eq_getElem?_getD, List.getElem?_eq_getElem h]
  exact List.getElem_mem h
theorem mem_getD {l : List EvV} {e : EvV} (h : e ∈ l) : ∃ i, i < l.length ∧ l.getD i ev0 = e := by
  obtain ⟨i, hi, rfl⟩ := List.getElem_of_mem h
  exact ⟨i, hi, by rw [List.getD_eq_getElem?_getD, List.getElem?_eq_getElem hi]; rfl⟩
/-- All events are whole. -/
def WholeL (n : Int) (l : List EvV) : Prop := ∀ e ∈ l, (e.at_.length : Int) = n ∧ chk e.at_ = 0 ∧ (e.c.when_.length : Int) = n ∧ chk e.c.when_ = 0 ∧ (e.c.ops ≠ [] → (comErr e.c).1 = 0)
theorem wholeL_of {n : Int} {l : List EvV} (h : (wholeE n l).1 = 0) : WholeL n l := fun e he => by
  obtain ⟨i, hi, rfl⟩ := mem_getD he
  have := scan_zero h i hi
  unfold wholeB at this
  split at this
  · cases this
  · rename_i hq
    simp only [Bool.not_eq_false, Bool.and_eq_true, oneB, decide_eq_true_eq] at hq
    refine ⟨hq.1.1, hq.1.2, hq.2.1.1, hq.2.1.2, fun ho => ?_⟩
    rwa [if_neg ho] at this
theorem WholeL.two {n : Int} {l : List EvV} (h : WholeL n l) {a b : EvV} (ha : a ∈ l) (hb : b ∈ l) : two a.c.when_ b.at_ = 0 := by
  have h1 := h a ha
  have h2 := h b hb
  rw [two_zero]
  exact ⟨h1.2.2.2.1, h2.2.1, by omega⟩
theorem WholeL.two' {n : Int} {l : List EvV} (h : WholeL n l) {a b : EvV} (ha : a ∈ l) (hb : b ∈ l) : Go.Proofs.YtngjooemanapnaaGreatDoor.two a.at_ b.c.when_ = 0 := by
  have h1 := h a ha
  have h2 := h b hb
  rw [two_zero]
  exact ⟨h1.2.1, h2.2.2.2.1, by omega⟩
theorem inB_of {zs ys : List Int} (h : two zs ys = 0) : inB zs ys = leB zs ys := by unfold inB; rw [h]; simp
/-- A list of commits of such events is right. -/
theorem WholeL.list {n : Int} {l : List EvV} (h : WholeL n l) {cs : List ComV} (hc : ∀ c ∈ cs, ∃ e ∈ l, e.c = c ∧ c.ops ≠ []) : ∀ i, i < cs.length → listBad cs i = 0 := fun i hi => by
  have g : ∀ j, j < cs.length → (comErr cs[j]!).1 = 0 ∧ (cs[j]!.when_.length : Int) = n := fun j hj => by
    rw [getElem!_pos cs j hj]
    obtain ⟨e, he, h1, h2⟩ := hc _ (List.getElem_mem hj)
    have := h e he
    rw [h1] at this
    exact ⟨this.2.2.2.2 h2, this.2.2.1⟩
  unfold listBad
  rw [if_neg (by rw [(g i hi).1]; simp), if_neg]
  have := (g i hi).2
  have := (g 0 (by omega)).2
  omega
theorem seenC_of {l : List EvV} {at_ : List Int} : ∀ c ∈ seenC l at_, ∃ e ∈ l, e.c = c ∧ c.ops ≠ [] := fun c hc => by
  unfold seenC comsL at hc
  rw [List.mem_filter, List.mem_filter, List.mem_map] at hc
  obtain ⟨⟨⟨e, he, rfl⟩, h2⟩, _⟩ := hc
  exact ⟨e, he, rfl, of_decide_eq_true h2⟩
theorem seenC_len {l : List EvV} {at_ : List Int} : (seenC l at_).length ≤ l.length := by
  unfold seenC comsL
  exact Nat.le_trans (List.length_filter_le _ _) (Nat.le_trans (List.length_filter_le _ _) (by simp))
theorem opsR_of {key : ByteArray} {l : List ComV} {ds : List Dn} (h : IsOps key l ds) : ds = opsR key l := isOps_eq h ⟨sortR_perm _, sortR_sorted _⟩
end Go.Proofs.YtngjooemanapnaaGreatDoor
