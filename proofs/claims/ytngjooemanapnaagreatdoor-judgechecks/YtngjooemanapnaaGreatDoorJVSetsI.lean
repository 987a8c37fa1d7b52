/- What ValuesSets' commits make: plain mathematics; A set of one text; SameTexts by its contract; Where ValuesSets' first loop stands. -/
import Derived.Test.YtngjooemanapnaaGreatDoorJJM
import Derived.Test.YtngjooemanapnaaGreatDoorJVCmpD
import Derived.Test.YtngjooemanapnaaGreatDoorJVCom
import Derived.Test.YtngjooemanapnaaGreatDoorJVMap
import Derived.Test.YtngjooemanapnaaGreatDoorJVOnceM
import Derived.Test.YtngjooemanapnaaGreatDoorJVSortN
import Derived.Test.YtngjooemanapnaaGreatDoorJVStandM
import Derived.Test.YtngjooemanapnaaGreatDoorJVOfRM
import Derived.Test.YtngjooemanapnaaGreatDoorJVOf
import Derived.Test.YtngjooemanapnaaGreatDoorJVCheck
namespace Go.Proofs.YtngjooemanapnaaGreatDoor
open Go.RowKit Go.Sort Go.Maps
set_option maxRecDepth 100000
set_option linter.unusedSectionVars false
variable [Inhabited ComV] [DecidableEq D3] [Inhabited D3] [Inhabited Dd] [Inhabited Dn] [Inhabited OpV]

def sKey : ByteArray := ⟨#[115]⟩
def addOp (text : ByteArray) : OpV := ⟨0, sKey, 3, text, 0, false, []⟩
def dotI (i : Nat) : D3 := ⟨i, 1, 0⟩
def dropOp (text : ByteArray) (seen : Nat) : OpV := ⟨0, sKey, 3, text, 0, true, (List.range seen).map dotI⟩
def whenI (i : Nat) : List Int := (List.replicate 6 0).set i 1
def whenD (seen : Nat) : List Int := ((List.replicate seen (1:Int)) ++ List.replicate (6 - seen) 0).set 0 2
def comI (text : ByteArray) (i : Nat) : ComV := ⟨whenI i, i, [addOp text]⟩
def setsL (text : ByteArray) (adds seen : Nat) : List ComV := (List.range adds).map (comI text) ++ [⟨whenD seen, 0, [dropOp text seen]⟩]
theorem com_one {c : ComV} {o : OpV} (ho : c.ops = [o]) (h1 : chk c.when_ = 0) (h2 : 0 ≤ c.place) (h3 : c.place < c.when_.length) (h4 : c.when_.getD c.place.toNat 0 ≠ 0) (h5 : opErr o c.when_.length = 0) : comErr c = (0, none) := by
  unfold comErr
  rw [if_neg (by simpa using h1), if_neg (by rw [ho]; intro h; rcases h with h | h | h | h; omega; omega; exact h4 h; simp at h), if_neg (by rw [ho]; simp), ho]
  refine scan_none fun i hi => ?_
  obtain rfl : i = 0 := by simpa using hi
  unfold opBad
  rw [if_neg (by simpa using h5), if_neg (by omega)]
theorem addOp_ok (text : ByteArray) (h : text.size ≤ 60) : opErr (addOp text) 6 = 0 := by
  unfold opErr
  rw [if_neg (by simp [addOp]), if_neg (by simp [addOp]; rfl), if_neg (by simp [addOp]; rfl), if_neg (by simp [addOp, foreignB]), if_neg (by simp [addOp]; omega), if_neg (by simp [addOp])]
theorem dropOp_ok (text : ByteArray) (seen : Nat) (h : text.size ≤ 60) (hs : seen ≤ 6) : opErr (dropOp text seen) 6 = 0 := by
  unfold opErr
  rw [if_neg (by simp [dropOp]), if_neg (by simp [dropOp]; rfl), if_neg (by simp [dropOp]; rfl), if_neg (by simp [dropOp, foreignB]), if_neg (by simp [dropOp]; omega), if_neg ?_]
  simp only [dropOp, Bool.not_eq_false]
  rw [List.all_eq_true]
  intro d hd
  obtain ⟨i, hi, rfl⟩ := List.mem_map.1 hd
  have := List.mem_range.1 hi
  have h6 : (i : Int) < 6 := by omega
  have h0 : (0 : Int) ≤ (i : Int) := by omega
  show dotB 6 (dotI i) = true
  simp [dotI, dotB, h6, h0]
theorem whenI_len (i : Nat) : (whenI i).length = 6 := by simp [whenI]
theorem whenD_len {seen : Nat} (h : seen ≤ 6) : (whenD seen).length = 6 := by simp [whenD]; omega
theorem sets_len (text : ByteArray) (adds seen : Nat) : (setsL text adds seen).length = adds + 1 := by simp [setsL]
theorem sets_get (text : ByteArray) {adds seen i : Nat} (h : i < adds) : (setsL text adds seen)[i]! = comI text i := by
  rw [getElem!_pos _ i (by rw [sets_len]; omega)]
  simp [setsL, h]
theorem sets_last (text : ByteArray) (adds seen : Nat) : (setsL text adds seen)[adds]! = ⟨whenD seen, 0, [dropOp text seen]⟩ := by
  rw [getElem!_pos _ adds (by rw [sets_len]; omega)]
  simp [setsL]
theorem comI_ok (text : ByteArray) (h : text.size ≤ 60) {i : Nat} (hi : i < 6) : comErr (comI text i) = (0, none) := by
  have e : ((comI text i).when_.length : Int) = 6 := by rw [show (comI text i).when_ = whenI i from rfl, whenI_len]; rfl
  refine com_one (o := addOp text) rfl ?_ (by show (0 : Int) ≤ i; omega) (by rw [e]; show (i : Int) < 6; omega) ?_ (by rw [e]; exact addOp_ok text h)
  · show chk (whenI i) = 0
    rcases (by omega : i = 0 ∨ i = 1 ∨ i = 2 ∨ i = 3 ∨ i = 4 ∨ i = 5) with rfl | rfl | rfl | rfl | rfl | rfl <;> rfl
  · show (whenI i).getD (i : Int).toNat 0 ≠ 0
    rcases (by omega : i = 0 ∨ i = 1 ∨ i = 2 ∨ i = 3 ∨ i = 4 ∨ i = 5) with rfl | rfl | rfl | rfl | rfl | rfl <;> decide
theorem comD_ok (text : ByteArray) (h : text.size ≤ 60) {seen : Nat} (hs : seen ≤ 6) : comErr ⟨whenD seen, 0, [dropOp text seen]⟩ = (0, none) := by
  have e : ((whenD seen).length : Int) = 6 := by rw [whenD_len hs]; rfl
  refine com_one (o := dropOp text seen) rfl ?_ (Int.le_refl _) (by show (0 : Int) < (whenD seen).length; omega) ?_ (by rw [e]; exact dropOp_ok text seen h hs)
  · show chk (whenD seen) = 0
    rcases (by omega : seen = 0 ∨ seen = 1 ∨ seen = 2 ∨ seen = 3 ∨ seen = 4 ∨ seen = 5 ∨ seen = 6) with rfl | rfl | rfl | rfl | rfl | rfl | rfl <;> rfl
  · show (whenD seen).getD 0 0 ≠ 0
    rcases (by omega : seen = 0 ∨ seen = 1 ∨ seen = 2 ∨ seen = 3 ∨ seen = 4 ∨ seen = 5 ∨ seen = 6) with rfl | rfl | rfl | rfl | rfl | rfl | rfl <;> decide
theorem sets_ok (text : ByteArray) (h : text.size ≤ 60) {adds seen : Nat} (ha : adds ≤ 6) (hs : seen ≤ 6) : ∀ i, i < (setsL text adds seen).length → listBad (setsL text adds seen) i = 0 := by
  intro i hi
  rw [sets_len] at hi
  have h0 : (setsL text adds seen)[0]!.when_.length = 6 := by
    by_cases e : adds = 0
    · subst e; rw [sets_last]; exact whenD_len hs
    · rw [sets_get text (by omega)]; exact whenI_len _
  unfold listBad
  rw [h0]
  by_cases e : i < adds
  · rw [sets_get text e, comI_ok text h (by omega), if_neg (by decide), if_neg (by rw [show (comI text i).when_ = whenI i from rfl, whenI_len]; decide)]
  · obtain rfl : i = adds := by omega
    rw [sets_last, comD_ok text h hs, if_neg (by decide), if_neg (by rw [show (whenD seen).length = 6 from whenD_len hs]; decide)]
theorem sets_small (text : ByteArray) (h : text.size ≤ 60) {adds seen : Nat} (hs : seen ≤ 6) : ∀ c ∈ setsL text adds seen, SmallC c := by
  intro c hc
  rcases List.mem_append.1 hc with hc | hc
  · obtain ⟨i, _, rfl⟩ := List.mem_map.1 hc
    exact ⟨by rw [show (comI text i).when_ = whenI i from rfl, whenI_len]; decide, by show 1 ≤ 1000000; decide, fun o ho => by rw [List.mem_singleton.1 ho]; exact ⟨by show text.size ≤ _; omega, by show 0 ≤ 1000000; decide⟩⟩
  · rw [List.mem_singleton.1 hc]
    exact ⟨by rw [whenD_len hs]; decide, by show 1 ≤ 1000000; decide, fun o ho => by rw [List.mem_singleton.1 ho]; exact ⟨by show text.size ≤ _; omega, by simp [dropOp]; omega⟩⟩
/-- The ops that they make, in the order in which they count. -/
def addDnI (text : ByteArray) (i : Nat) : Dn := ⟨addOp text, ⟨i, 1, 0⟩, 1⟩
def setsDs (text : ByteArray) (adds seen : Nat) : List Dn := (List.range adds).map (addDnI text) ++ [⟨dropOp text seen, ⟨0, 2, 0⟩, sum (whenD seen)⟩]
theorem decD3 (x d : D3) : decide (x = d) = (decide (x.p = d.p) && (decide (x.t = d.t) && decide (x.a = d.a))) := by
  obtain ⟨a, b, c⟩ := x
  obtain ⟨a', b', c'⟩ := d
  have h : (⟨a, b, c⟩ : D3) = ⟨a', b', c'⟩ ↔ a = a' ∧ b = b' ∧ c = c' := ⟨fun h => by injection h with h1 h2 h3; exact ⟨h1, h2, h3⟩, fun ⟨h1, h2, h3⟩ => by rw [h1, h2, h3]⟩
  rw [Bool.eq_iff_iff, Bool.and_eq_true, Bool.and_eq_true, decide_eq_true_eq, decide_eq_true_eq, decide_eq_true_eq, decide_eq_true_eq]
  exact h
def onceE (l : List ComV) : List Dn := l.foldl (fun acc c => (c.ops.map (dnOf c)).foldl (fun acc d => if (acc.any fun x => decide (x.dot.p = d.dot.p) && (decide (x.dot.t = d.dot.t) && decide (x.dot.a = d.dot.a))) = true then acc else acc ++ [d]) acc) []
theorem onceA_e (l : List ComV) : onceA l = onceE l := by
  have h1 : ∀ (acc : List Dn) (d : Dn), addDn acc d = if (acc.any fun x => decide (x.dot.p = d.dot.p) && (decide (x.dot.t = d.dot.t) && decide (x.dot.a = d.dot.a))) = true then acc else acc ++ [d] := fun acc d => by
    unfold addDn hasDot
    simp only [decD3]
  have h2 : addDn = fun acc d => if (acc.any fun x => decide (x.dot.p = d.dot.p) && (decide (x.dot.t = d.dot.t) && decide (x.dot.a = d.dot.a))) = true then acc else acc ++ [d] := funext fun acc => funext fun d => h1 acc d
  unfold onceA onceE addCom
  rw [h2]
theorem sets_once (text : ByteArray) {adds seen : Nat} (ha : adds ≤ 6) (hs : seen ≤ 6) : onceA (setsL text adds seen) = setsDs text adds seen := by
  rw [onceA_e]
  rcases (by omega : adds = 0 ∨ adds = 1 ∨ adds = 2 ∨ adds = 3 ∨ adds = 4 ∨ adds = 5 ∨ adds = 6) with rfl | rfl | rfl | rfl | rfl | rfl | rfl <;>
  rcases (by omega : seen = 0 ∨ seen = 1 ∨ seen = 2 ∨ seen = 3 ∨ seen = 4 ∨ seen = 5 ∨ seen = 6) with rfl | rfl | rfl | rfl | rfl | rfl | rfl <;> rfl
theorem sum_whenD {seen : Nat} (hs : seen ≤ 6) : 2 ≤ sum (whenD seen) := by
  rcases (by omega : seen = 0 ∨ seen = 1 ∨ seen = 2 ∨ seen = 3 ∨ seen = 4 ∨ seen = 5 ∨ seen = 6) with rfl | rfl | rfl | rfl | rfl | rfl | rfl <;> decide
theorem setsDs_key (text : ByteArray) (adds seen : Nat) : ∀ d ∈ setsDs text adds seen, d.o.key = sKey ∧ d.o.kind = 3 ∧ d.o.text = text := by
  intro d hd
  rcases List.mem_append.1 hd with hd | hd
  · obtain ⟨i, _, rfl⟩ := List.mem_map.1 hd
    exact ⟨rfl, rfl, rfl⟩
  · rw [List.mem_singleton.1 hd]
    exact ⟨rfl, rfl, rfl⟩
theorem sets_order (text : ByteArray) {adds seen : Nat} (ha : adds ≤ 6) (hs : seen ≤ 6) : InOrder sKey (setsL text adds seen) (setsDs text adds seen) := by
  refine ⟨?_, ?_⟩
  · rw [sets_once text ha hs, List.filter_eq_self.2 fun d hd => decide_eq_true (setsDs_key text adds seen d hd).1]
  · unfold setsDs
    rw [List.pairwise_append]
    refine ⟨?_, List.pairwise_singleton _ _, ?_⟩
    · rw [List.pairwise_map]
      refine List.Pairwise.imp ?_ List.pairwise_lt_range
      intro a b h
      simp only [ltN, ltD, addDnI, decide_eq_false_iff_not, decide_eq_true_eq]
      omega
    · intro a ha b hb
      obtain ⟨i, _, rfl⟩ := List.mem_map.1 ha
      rw [List.mem_singleton.1 hb]
      have := sum_whenD hs
      refine decide_eq_false ?_
      show ¬(sum (whenD seen) < 1 ∨ sum (whenD seen) = 1 ∧ _)
      omega
theorem sets_ops (text : ByteArray) {adds seen : Nat} (ha : adds ≤ 6) (hs : seen ≤ 6) {ds : List Dn} (h : IsOps sKey (setsL text adds seen) ds) : ds = setsDs text adds seen := by
  rw [isOps_eq h (sets_order text ha hs)]
  have h0 : (setsDs text adds seen)[0]!.o.kind = 3 := by
    have hl : 0 < (setsDs text adds seen).length := by simp [setsDs]
    rw [getElem!_pos _ 0 hl]
    exact (setsDs_key text adds seen _ (List.getElem_mem hl)).2.1
  unfold ofKind
  rw [h0]
  exact List.filter_eq_self.2 fun d hd => decide_eq_true (setsDs_key text adds seen d hd).2.1
theorem range6 {P : Nat → Prop} (h : P 0 ∧ P 1 ∧ P 2 ∧ P 3 ∧ P 4 ∧ P 5 ∧ P 6) {n : Nat} (hn : n ≤ 6) : P n := by
  obtain ⟨h0, h1, h2, h3, h4, h5, h6⟩ := h
  rcases (by omega : n = 0 ∨ n = 1 ∨ n = 2 ∨ n = 3 ∨ n = 4 ∨ n = 5 ∨ n = 6) with rfl | rfl | rfl | rfl | rfl | rfl | rfl <;> assumption
/-- The adds put their texts at their dots. -/
theorem adds_map (text : ByteArray) : ∀ n : Nat, ∀ e : D3, (((List.range n).map (addDnI text)).foldl addStep fun _ => none) e = if (0 ≤ e.p ∧ e.p < n) ∧ e.t = 1 ∧ e.a = 0 then some text else none := by
  intro n
  induction n with
  | zero => intro e; simp; omega
  | succ n ih =>
    intro e
    rw [List.range_succ, List.map_append, List.foldl_append]
    simp only [List.map_cons, List.map_nil, List.foldl_cons, List.foldl_nil]
    rw [show ∀ M, addStep M (addDnI text n) = upd M ⟨n, 1, 0⟩ (some text) from fun _ => rfl]
    unfold upd
    rw [ih e]
    obtain ⟨p, t, a⟩ := e
    simp only [D3.mk.injEq]
    by_cases h1 : p = n ∧ t = 1 ∧ a = 0
    · rw [if_pos h1, if_pos (by omega)]
    · rw [if_neg h1]
      by_cases h2 : (0 ≤ p ∧ p < n) ∧ t = 1 ∧ a = 0
      · rw [if_pos h2, if_pos (by omega)]
      · rw [if_neg h2, if_neg (by omega)]
/-- The drop takes those that were seen. -/
theorem drop_map (text : ByteArray) (M : D3 → Option ByteArray) : ∀ n : Nat, (∀ i : Nat, i < n → M (dotI i) = some text) → ∀ e : D3, (((List.range n).map dotI).foldl (delStep text) M) e = if (0 ≤ e.p ∧ e.p < n) ∧ e.t = 1 ∧ e.a = 0 then none else M e := by
  intro n
  induction n with
  | zero => intro _ e; simp; omega
  | succ n ih =>
    intro hM e
    rw [List.range_succ, List.map_append, List.foldl_append]
    simp only [List.map_cons, List.map_nil, List.foldl_cons, List.foldl_nil]
    have ih' := ih fun i hi => hM i (by omega)
    have hn : (((List.range n).map dotI).foldl (delStep text) M) (dotI n) = some text := by
      rw [ih' (dotI n), if_neg (by show ¬(((0:Int) ≤ n ∧ (n:Int) < n) ∧ _); omega)]
      exact hM n (by omega)
    rw [show ∀ M : D3 → Option ByteArray, M (dotI n) = some text → delStep text M (dotI n) = upd M (dotI n) none from fun M h => by unfold delStep; rw [if_pos (by rw [h]; rfl)]]
    rotate_left
    · exact hn
    rw [upd, ih' e]
    obtain ⟨p, t, a⟩ := e
    simp only [D3.mk.injEq, dotI]
    by_cases h1 : p = n ∧ t = 1 ∧ a = 0
    · rw [if_pos h1, if_pos (by omega)]
    · rw [if_neg h1]
      by_cases h2 : (0 ≤ p ∧ p < n) ∧ t = 1 ∧ a = 0
      · rw [if_pos h2, if_pos (by omega)]
      · rw [if_neg h2, if_neg (by omega)]
theorem addDnI_rem (text : ByteArray) (n : Nat) : ∀ M, ((List.range n).map (addDnI text)).foldl remStep M = M := by
  intro M
  induction List.range n generalizing M with
  | nil => rfl
  | cons x r ih => exact ih M
theorem sets_final (text : ByteArray) {adds seen : Nat} (hs : seen ≤ adds) (e : D3) : finalMap (setsDs text adds seen) e = if ((seen : Int) ≤ e.p ∧ e.p < adds) ∧ e.t = 1 ∧ e.a = 0 then some text else none := by
  unfold finalMap setsDs
  rw [List.foldl_append, List.foldl_append, addDnI_rem]
  show ((List.range seen).map dotI).foldl (delStep text) (((List.range adds).map (addDnI text)).foldl addStep fun _ => none) e = _
  rw [drop_map text _ seen (fun i hi => by rw [adds_map, if_pos (by show ((0:Int) ≤ i ∧ (i:Int) < adds) ∧ (1:Int) = 1 ∧ (0:Int) = 0; omega)]), adds_map]
  by_cases h1 : (0 ≤ e.p ∧ e.p < seen) ∧ e.t = 1 ∧ e.a = 0
  · rw [if_pos h1, if_neg (by omega)]
  · rw [if_neg h1]
    by_cases h2 : (0 ≤ e.p ∧ e.p < adds) ∧ e.t = 1 ∧ e.a = 0
    · rw [if_pos h2, if_pos (by omega)]
    · rw [if_neg h2, if_neg (by omega)]
theorem sets_stand (text : ByteArray) {adds seen : Nat} (ha : adds ≤ 6) (hs : seen ≤ adds) : (standA (setsDs text adds seen)).length = adds - seen ∧ ∀ d ∈ standA (setsDs text adds seen), d.o.text = text := by
  refine ⟨?_, fun d hd => (setsDs_key text adds seen d (List.mem_filter.1 hd).1).2.2⟩
  have e : standA (setsDs text adds seen) = (setsDs text adds seen).filter (fun x : Dn => decide (((seen : Int) ≤ x.dot.p ∧ x.dot.p < (adds : Int)) ∧ x.dot.t = 1 ∧ x.dot.a = 0)) := by
    unfold standA
    refine List.filter_congr fun x _ => ?_
    rw [sets_final text hs]
    by_cases h : ((seen : Int) ≤ x.dot.p ∧ x.dot.p < adds) ∧ x.dot.t = 1 ∧ x.dot.a = 0
    · rw [if_pos h, decide_eq_true h]; rfl
    · rw [if_neg h, decide_eq_false h]; rfl
  rw [e]
  rcases (by omega : adds = 0 ∨ adds = 1 ∨ adds = 2 ∨ adds = 3 ∨ adds = 4 ∨ adds = 5 ∨ adds = 6) with rfl | rfl | rfl | rfl | rfl | rfl | rfl <;>
  rcases (by omega : seen = 0 ∨ seen = 1 ∨ seen = 2 ∨ seen = 3 ∨ seen = 4 ∨ seen = 5 ∨ seen = 6) with rfl | rfl | rfl | rfl | rfl | rfl | rfl <;> first | rfl | omega
theorem all_replicate {text : ByteArray} : ∀ (l : List Dn), (∀ d ∈ l, d.o.text = text) → l.map (·.o.text) = List.replicate l.length text
  | [], _ => rfl
  | x :: r, h => by
    rw [List.map_cons, all_replicate r fun d hd => h d (List.mem_cons_of_mem _ hd), h x (List.mem_cons_self ..)]
    rfl
theorem sets_dots (text : ByteArray) {adds seen : Nat} (ha : adds ≤ 6) (hs : seen ≤ adds) {out : List D3} (h : IsDots text (setsDs text adds seen) out) : out.length = adds - seen := by
  obtain ⟨h1, h2⟩ := sets_stand text ha hs
  have h0 : (setsDs text adds seen)[0]!.o.kind = 3 := by
    have hl : 0 < (setsDs text adds seen).length := by simp [setsDs]
    rw [getElem!_pos _ 0 hl]
    exact (setsDs_key text adds seen _ (List.getElem_mem hl)).2.1
  have hne : setsDs text adds seen ≠ [] := by simp [setsDs]
  rcases h with ⟨h, _⟩ | ⟨_, h, _⟩
  · rcases h with h | h
    · exact absurd h hne
    · exact absurd h0 h
  · rw [h.length_eq, dotsUp, List.length_map, List.filter_eq_self.2 fun d hd => decide_eq_true (h2 d hd), h1]
theorem sets_val (text : ByteArray) {adds seen : Nat} (ha : adds ≤ 6) (hs : seen ≤ adds) : valA (setsDs text adds seen) = ⟨3, ByteArray.empty, 0, setA (List.replicate (adds - seen) text)⟩ := by
  obtain ⟨h1, h2⟩ := sets_stand text ha hs
  have h0 : (setsDs text adds seen)[0]!.o.kind = 3 := by
    have hl : 0 < (setsDs text adds seen).length := by simp [setsDs]
    rw [getElem!_pos _ 0 hl]
    exact (setsDs_key text adds seen _ (List.getElem_mem hl)).2.1
  have hne : setsDs text adds seen ≠ [] := by simp [setsDs]
  unfold valA
  rw [if_neg hne, h0, if_neg (by decide), if_neg (by decide), all_replicate _ h2, h1]
end Go.Proofs.YtngjooemanapnaaGreatDoor
namespace Go.Proofs.YtngjooemanapnaaGreatDoor
open Go.RowKit Go.Sort Go.Maps
set_option maxRecDepth 100000
set_option linter.unusedSectionVars false
variable [Inhabited ComV] [DecidableEq D3] [Inhabited D3] [Inhabited Dd] [Inhabited Dn] [Inhabited OpV]

theorem compact_upTo_rep (x : List UInt8) (n : Nat) : ∀ m, m ≤ n → Lib.compactUpTo (List.replicate n x).toArray m = if m = 0 then [] else [x] := by
  intro m
  induction m with
  | zero => intro _; rfl
  | succ m ih =>
    intro hm
    have g : ∀ j, j < n → (List.replicate n x).toArray[j]! = x := fun j hj => by
      rw [getElem!_pos _ j (by simpa using hj)]
      simp
    rw [Lib.compactUpTo_succ, ih (by omega), if_neg (by omega : ¬ m + 1 = 0)]
    by_cases h : m = 0
    · subst h
      rw [if_pos rfl, Lib.keeps_lt_one _ 0 (by decide), if_pos rfl, g 0 (by omega)]
      rfl
    · rw [if_neg h, Lib.keeps_neg (by omega) (by rw [g m (by omega), g (m - 1) (by omega)]), if_neg (by decide)]
      rfl
theorem setA_rep (t : ByteArray) (n : Nat) : setA (List.replicate n t) = if n = 0 then [] else [t.data.toList] := by
  unfold setA
  rw [List.map_replicate]
  have hp := List.mergeSort_perm (List.replicate n t.data.toList) fun x y => decide (x ≤ y)
  rw [List.perm_replicate.1 hp]
  unfold Lib.compact
  rw [List.length_replicate, compact_upTo_rep _ _ _ (Nat.le_refl _)]
set_option maxHeartbeats 1000000 in
theorem sameTexts_one (w : World) (b1 c1 b2 c2 : Nat) (t : ByteArray) (h1 : w.cell? ⟨b1, 0, none⟩ = some (.string t)) (h2 : w.cell? ⟨b2, 0, none⟩ = some (.string t)) :
    Calls Tryz.prog 76 #[.slice (some ⟨b1, 0, none⟩) 1 c1, .slice (some ⟨b2, 0, none⟩) 1 c2] w fun e w' => e = .returned (.bool true) ∧ ∃ q, w' = w.drewN q := by
  go_enter Tryz.func76, Tryz.ntmps76
  go_wp2
  refine wp_loop_rounds 2 ?_
  rw [rounds_succ]
  go_wp2
  go_quiet (fail)
  go_wp2
  rw [rounds_succ]
  go_wp2
  go_ret
  exact ⟨rfl, _, rfl⟩
end Go.Proofs.YtngjooemanapnaaGreatDoor
namespace Go.Proofs.YtngjooemanapnaaGreatDoor
open Go.RowKit Go.Sort Go.Maps
set_option maxRecDepth 100000
set_option linter.unusedSectionVars false
variable [Inhabited ComV] [DecidableEq D3] [Inhabited D3] [Inhabited Dd] [Inhabited Dn] [Inhabited OpV]

theorem heap_set {w : World} {b j : Nat} {cs : Array Value} {t : TypeId} (h : w.heap[b]? = some (.cells cs t (0, 0))) (v : Value) : (w.setCell ⟨b, j, none⟩ v).heap[b]? = some (.cells (cs.setIfInBounds j v) t (0, 0)) := by
  simp only [World.setCell, Array.getElem?_modify, h]
  simp
/-- A commit with one op that names no dots, in two blocks of its own. -/
def ComBlk (w : World) (r : List Value) (c : ComV) : Prop := ∃ wb ob o, c.ops = [o] ∧ o.dots = [] ∧ r = [.slice (some ⟨wb, 0, none⟩) 6 6, .int .i64 c.place, .slice (some ⟨ob, 0, none⟩) 1 1] ∧ c.when_.length = 6 ∧
  w.heap[wb]? = some (.cells (c.when_.map (Value.int .i64)).toArray 3 (0, 0)) ∧ w.heap[ob]? = some (.cells (opCells o (.slice none 0 0)).toArray 80 (0, 0))
theorem ComBlk.kept {w w' : World} {r : List Value} {c : ComV} (h : ComBlk w r c) (hk : ∀ (b : Nat) (cs : Array Value), w.heap[b]? = some (.cells cs 3 (0, 0)) ∨ w.heap[b]? = some (.cells cs 80 (0, 0)) ∧ cs.getD 5 undef ≠ .bool true → w'.heap[b]? = w.heap[b]?) (ho : ∀ o, c.ops = [o] → o.rem = false) : ComBlk w' r c := by
  obtain ⟨wb, ob, o, h1, h2, h3, h4, h5, h6⟩ := h
  have h7 : (opCells o (.slice none 0 0)).toArray.getD 5 undef ≠ .bool true := by
    have := ho o h1
    simp [opCells, this]
  exact ⟨wb, ob, o, h1, h2, h3, h4, by rw [hk wb _ (.inl h5)]; exact h5, by rw [hk ob _ (.inr ⟨h6, h7⟩)]; exact h6⟩
theorem ComBlk.row {w : World} {r : List Value} {c : ComV} (h : ComBlk w r c) : ComRow w r c := by
  obtain ⟨wb, ob, o, h1, h2, rfl, h4, h5, h6⟩ := h
  refine ⟨_, _, rfl, ints_lit h5 h4.symm, ?_⟩
  rw [h1]
  exact ⟨[opCells o (.slice none 0 0)], rowAt_lit h6 [_] (by simp) (fun r hr => by rw [List.mem_singleton.1 hr]; rfl) rfl (Nat.le_refl _), ⟨⟨_, rfl, by rw [h2]; exact dots_nil _⟩, trivial⟩⟩
theorem f2_append {α β : Type} {R : α → β → Prop} : ∀ {l : List α} {m : List β} {a : α} {b : β}, F2 R l m → R a b → F2 R (l ++ [a]) (m ++ [b])
  | [], [], _, _, _, h => ⟨h, trivial⟩
  | _ :: _, _ :: _, _, _, ⟨h1, h2⟩, h => ⟨h1, f2_append h2 h⟩
theorem f2_kept {α β : Type} {R S : α → β → Prop} : ∀ {l : List α} {m : List β}, F2 R l m → (∀ a b, b ∈ m → R a b → S a b) → F2 S l m
  | [], [], _, _ => trivial
  | _ :: _, _ :: _, ⟨h1, h2⟩, h => ⟨h _ _ (List.mem_cons_self ..) h1, f2_kept h2 fun a b hb => h a b (List.mem_cons_of_mem _ hb)⟩
theorem own_type {w : World} {base e size : Nat} {v : Value} {n : Nat} {xs : List Value} (h : w.ownsRow base e size v n xs) {b : Nat} (hb : v.ownBlock = some b) : ∃ cs, w.heap[b]? = some (.cells cs e (0, 0)) := by
  rcases h.2 with ⟨rfl, _⟩ | ⟨g, cap, cur, rfl, _, hh, _⟩
  · cases hb
  · obtain rfl := Option.some.inj hb
    exact ⟨_, hh⟩
theorem rowAt_of_owns {w : World} {base e k : Nat} {v : Value} {n : Nat} {rows : List (List Value)} (h : w.ownsRow base e k v n rows.flatten) (hn : n = rows.length) (hk : ∀ r ∈ rows, r.length = k) : RowAt k w v rows := by
  subst hn
  obtain ⟨_, h2⟩ := h
  rcases h2 with ⟨rfl, h0⟩ | ⟨g, cap, cur, rfl, _, hh, hc, _, hs, ht⟩
  · obtain rfl := List.eq_nil_of_length_eq_zero h0
    exact ⟨_, _, rfl, fun _ => rfl, Nat.le_refl _, .inl rfl⟩
  · refine ⟨_, cap, rfl, (fun h => by cases h), hc, .inr ⟨g, 0, rfl, fun j r hr => ?_⟩⟩
    have hj : j < rows.length := (List.getElem?_eq_some_iff.1 hr).1
    have hrm : r ∈ rows := List.mem_of_getElem? hr
    refine ⟨hk r hrm, fun i u hu => ?_⟩
    have hi : i < k := by have := (List.getElem?_eq_some_iff.1 hu).1; rw [hk r hrm] at this; exact this
    have hfl : ∀ (rows : List (List Value)) (j : Nat) (r : List Value), (∀ r ∈ rows, r.length = k) → rows[j]? = some r → ∀ i u, i < k → r[i]? = some u → rows.flatten[j * k + i]? = some u := by
      intro rows
      induction rows with
      | nil => intro j r _ h; simp at h
      | cons x rest ih =>
        intro j r hk h i u hi hu
        have hx := hk x (List.mem_cons_self ..)
        rw [List.flatten_cons]
        cases j with
        | zero =>
          simp at h
          subst h
          rw [List.getElem?_append_left (by omega), Nat.zero_mul, Nat.zero_add]
          exact hu
        | succ j =>
          rw [List.getElem?_append_right (by rw [hx, Nat.add_mul]; omega), hx, show (j + 1) * k + i - k = j * k + i by rw [Nat.add_mul]; omega]
          exact ih j r (fun r hr => hk r (List.mem_cons_of_mem _ hr)) (by simpa using h) i u hi hu
    have e := hfl rows j r hk hr i u hi hu
    have hb : j * k + i < rows.length * k := by
      have : (j + 1) * k ≤ rows.length * k := Nat.mul_le_mul_right k hj
      rw [Nat.add_mul] at this
      omega
    rw [← ht, List.getElem?_take, if_pos hb, Array.getElem?_toList] at e
    simp only [World.cell?, hh, Nat.zero_add]
    rw [e]
    simp
theorem dots_of_owns {w : World} {base n : Nat} {v : Value} {ts : List D3} (h : w.ownsRow base 132 3 v n (ts.flatMap D3.cells)) (hn : n = ts.length) : DotsAt w v ts := by
  subst hn
  rcases h.2 with ⟨rfl, h0⟩ | ⟨g, cap, cur, rfl, _⟩
  · obtain rfl := List.eq_nil_of_length_eq_zero h0
    exact dots_nil _
  · obtain ⟨h1, _, _, _, h5⟩ := holds3_of_owns h
    simpa using dots_of_holds h1 (by simpa using h5)
theorem lt_of_heap {w : World} {b : Nat} {o : Obj} (h : w.heap[b]? = some o) : b < w.heap.size := (Array.getElem?_eq_some_iff.1 h).1
theorem owns_below {w w' : World} {base e size : Nat} {v : Value} {n : Nat} {xs : List Value} (h : w.ownsRow base e size v n xs) (hb : ∀ (b : Nat) (cs : Array Value), w.heap[b]? = some (.cells cs e (0, 0)) → w'.heap[b]? = w.heap[b]?) : w'.ownsRow base e size v n xs := by
  obtain ⟨h1, h2⟩ := h
  refine ⟨h1, ?_⟩
  rcases h2 with h2 | ⟨g, cap, cur, hv, hg, hh, r⟩
  · exact .inl h2
  · exact .inr ⟨g, cap, cur, hv, hg, by rw [hb g _ hh]; exact hh, r⟩
end Go.Proofs.YtngjooemanapnaaGreatDoor
