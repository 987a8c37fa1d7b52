/- worth: a closed fact; What ValuesSets' commits make: plain mathematics. -/
import Derived.Test.YtilonnkohcocoaaGreatDoorJVDotsW
namespace Go.Proofs.YtilonnkohcocoaaGreatDoor
open Go.RowKit Go.Sort Go.Maps
set_option maxRecDepth 100000
set_option linter.unusedSectionVars false
variable [Inhabited ComV] [DecidableEq D3] [Inhabited D3] [Inhabited Dd] [Inhabited Dn] [Inhabited OpV]

/-- The order, if it is known, is the one. -/
theorem isOps_eq {key : ByteArray} {l : List ComV} {ds ys : List Dn} (h : IsOps key l ds) (hy : InOrder key l ys) : ds = ofKind ys := by
  obtain ⟨zs, hz, rfl⟩ := h
  rw [inOrder_unique hz hy]

def worthOp : OpV := ⟨0, ⟨#[107]⟩, 1, ⟨#[120]⟩, 0, false, []⟩
def worthL : List ComV := [⟨[1], 0, [worthOp]⟩]
theorem worth_bad : ∀ i, i < worthL.length → listBad worthL i = 0 := by
  intro i hi
  obtain rfl : i = 0 := by simpa [worthL] using hi
  kernel_rfl
theorem worth_once : (onceA worthL).filter (fun x => decide (x.o.key = ⟨#[107]⟩)) = [⟨worthOp, ⟨0, 1, 0⟩, 1⟩] := by rfl
theorem worth_val {ds : List Dn} (h : IsOps ⟨#[107]⟩ worthL ds) : valA ds = ⟨1, ⟨#[120]⟩, 0, []⟩ := by
  rw [isOps_eq h (ys := [⟨worthOp, ⟨0, 1, 0⟩, 1⟩]) ⟨by rw [worth_once], List.pairwise_singleton _ _⟩]
  rfl
theorem rowAt_lit {w : World} {k : Nat} {b : Nat} {cs : List Value} {t : TypeId} {m c : Nat} (hb : w.heap[b]? = some (.cells cs.toArray t (0, 0))) (rows : List (List Value)) (hcs : cs = rows.flatten) (hk : ∀ r ∈ rows, r.length = k) (hm : m = rows.length) (hc : m ≤ c) : RowAt k w (.slice (some ⟨b, 0, none⟩) m c) rows := by
  subst hm hcs
  refine ⟨_, c, rfl, (fun h => by cases h), hc, .inr ⟨b, 0, rfl, fun j r hr => ?_⟩⟩
  have hj : j < rows.length := (List.getElem?_eq_some_iff.1 hr).1
  have hrm : r ∈ rows := List.mem_of_getElem? hr
  refine ⟨hk r hrm, fun i u hu => ?_⟩
  have hi : i < k := by have := (List.getElem?_eq_some_iff.1 hu).1; rw [hk r hrm] at this; exact this
  have hfl : ∀ (rows : List (List Value)) (j : Nat) (r : List Value), (∀ r ∈ rows, r.length = k) → rows[j]? = some r → ∀ i u, i < k → r[i]? = some u → rows.flatten[j * k + i]? = some u := by
    intro rows
    induction rows with
    | nil => intro j r _ h; simp at h
    | cons x rest ih =>
      intro j r hk h i u hi hu
      have hx := hk x (List.mem_cons_self ..)
      rw [List.flatten_cons]
      cases j with
      | zero =>
        simp at h
        subst h
        rw [List.getElem?_append_left (by omega), Nat.zero_mul, Nat.zero_add]
        exact hu
      | succ j =>
        rw [List.getElem?_append_right (by rw [hx, Nat.add_mul]; omega), hx, show (j + 1) * k + i - k = j * k + i by rw [Nat.add_mul]; omega]
        exact ih j r (fun r hr => hk r (List.mem_cons_of_mem _ hr)) (by simpa using h) i u hi hu
  have := hfl rows j r hk hr i u hi hu
  simp only [World.cell?, hb, Nat.zero_add]
  rw [List.getElem?_toArray, this]
  simp
theorem ints_lit {w : World} {b : Nat} {zs : List Int} {t : TypeId} {m c : Nat} (hb : w.heap[b]? = some (.cells (zs.map (Value.int .i64)).toArray t (0, 0))) (hm : m = zs.length) : IntsAt w (.slice (some ⟨b, 0, none⟩) m c) zs := by
  subst hm
  refine ⟨_, c, rfl, (fun h => by cases h), .inr ⟨b, 0, rfl, fun j hj => ?_⟩⟩
  simp only [World.cell?, hb, Nat.zero_add]
  rw [List.getElem?_toArray, List.getElem?_map, List.getElem?_eq_getElem hj]
  simp [List.getD_eq_getElem?_getD, List.getElem?_eq_getElem hj]

set_option maxHeartbeats 2000000 in
theorem worth_true (A : Nat → Addr) (w : World) (hE : E4 A w) (h4 : 4 ≤ w.heap.size) : Calls Tryz.prog 9 #[] w fun e w' => e = .returned (.bool true) ∧ Below w.heap.size w w' := by
  obtain ⟨w3, hw3⟩ : ∃ w3, w3 = ((w.alloc (.cells #[.int .i64 1] 3)).alloc (.cells #[.int .i64 0, .string ⟨#[107]⟩, .int .i64 1, .string ⟨#[120]⟩, .int .i64 0, .bool false, .slice none 0 0] 24)).alloc (.cells #[.slice (some ⟨w.heap.size, 0, none⟩) 1 1, .int .i64 0, .slice (some ⟨w.heap.size + 1, 0, none⟩) 1 1] 28) := ⟨_, rfl⟩
  have b3 : Below w.heap.size w w3 := by rw [hw3]; exact below3 _ _ _ _
  have r0 : w3.heap[w.heap.size]? = some (.cells #[.int .i64 1] 3 (0, 0)) := by
    rw [hw3, (MapKept.heap_alloc _ _).2 _ (by simp; omega), (MapKept.heap_alloc _ _).2 _ (by simp)]; exact (MapKept.heap_alloc w _).1
  have r1 : w3.heap[w.heap.size + 1]? = some (.cells #[.int .i64 0, .string ⟨#[107]⟩, .int .i64 1, .string ⟨#[120]⟩, .int .i64 0, .bool false, .slice none 0 0] 24 (0, 0)) := by
    have e : w.heap.size + 1 = (w.alloc (.cells #[.int .i64 1] 3)).heap.size := by simp
    rw [hw3, (MapKept.heap_alloc _ _).2 _ (by simp)]
    conv => lhs; rw [e]
    exact (MapKept.heap_alloc _ _).1
  have r2 : w3.heap[w.heap.size + 1 + 1]? = some (.cells #[.slice (some ⟨w.heap.size, 0, none⟩) 1 1, .int .i64 0, .slice (some ⟨w.heap.size + 1, 0, none⟩) 1 1] 28 (0, 0)) := by
    have e : w.heap.size + 1 + 1 = ((w.alloc (.cells #[.int .i64 1] 3)).alloc (.cells #[.int .i64 0, .string ⟨#[107]⟩, .int .i64 1, .string ⟨#[120]⟩, .int .i64 0, .bool false, .slice none 0 0] 24)).heap.size := by simp
    rw [hw3]
    conv => lhs; rw [e]
    exact (MapKept.heap_alloc _ _).1
  have hI : IntsAt w3 (.slice (some ⟨w.heap.size, 0, none⟩) 1 1) [1] := ints_lit (zs := [1]) r0 rfl
  have hO : OpsAt w3 (.slice (some ⟨w.heap.size + 1, 0, none⟩) 1 1) [worthOp] :=
    ⟨[opCells worthOp (.slice none 0 0)], rowAt_lit r1 [opCells worthOp (.slice none 0 0)] rfl (fun r hr => by rw [List.mem_singleton.1 hr]; rfl) rfl (Nat.le_refl _), ⟨⟨_, rfl, dots_nil _⟩, trivial⟩⟩
  have hC : ComsAt w3 (.slice (some ⟨w.heap.size + 1 + 1, 0, none⟩) 1 1) worthL :=
    ⟨[[.slice (some ⟨w.heap.size, 0, none⟩) 1 1, .int .i64 0, .slice (some ⟨w.heap.size + 1, 0, none⟩) 1 1]], rowAt_lit r2 [_] rfl (fun r hr => by rw [List.mem_singleton.1 hr]; rfl) rfl (Nat.le_refl _), ⟨⟨_, _, rfl, hI, hO⟩, trivial⟩⟩
  have K18 := of_ok A w3 (hE.below b3 h4) (by have := b3.size; omega) ⟨#[107]⟩ (by rfl) _ worthL hC (by decide) (fun c hc => by
    rw [List.mem_singleton.1 hc]
    exact ⟨by decide, by decide, fun o ho => by rw [List.mem_singleton.1 ho]; exact ⟨by decide, by decide⟩⟩) worth_bad
  have B3 := hid b3
  clear r0 r1 r2 hI hO hC b3
  go_enter Tryz.func9, Tryz.ntmps9
  go_wp2_with fail
  rw [← hw3]
  clear hw3
  refine K18.mono ?_
  rintro e w4 ⟨v, ds, rfl, hds, hv, hb⟩
  rw [worth_val hds] at hv
  obtain ⟨sv, rfl, ad, cap, rfl, _⟩ := hv
  have HB := hid hb
  clear K18 hds hb
  go_wp2
  go_ret
  exact ⟨rfl, (B3.out.trans (HB.out.mono B3.out.size)).alloc (Nat.le_trans B3.out.size HB.out.size) _⟩
end Go.Proofs.YtilonnkohcocoaaGreatDoor
namespace Go.Proofs.YtilonnkohcocoaaGreatDoor
open Go.RowKit Go.Sort Go.Maps
set_option maxRecDepth 100000
set_option linter.unusedSectionVars false
variable [Inhabited ComV] [DecidableEq D3] [Inhabited D3] [Inhabited Dd] [Inhabited Dn] [Inhabited OpV]

def sKey : ByteArray := ⟨#[115]⟩
def addOp (text : ByteArray) : OpV := ⟨0, sKey, 3, text, 0, false, []⟩
def dotI (i : Nat) : D3 := ⟨i, 1, 0⟩
def dropOp (text : ByteArray) (seen : Nat) : OpV := ⟨0, sKey, 3, text, 0, true, (List.range seen).map dotI⟩
def whenI (i : Nat) : List Int := (List.replicate 6 0).set i 1
def whenD (seen : Nat) : List Int := ((List.replicate seen (1:Int)) ++ List.replicate (6 - seen) 0).set 0 2
def comI (text : ByteArray) (i : Nat) : ComV := ⟨whenI i, i, [addOp text]⟩
def setsL (text : ByteArray) (adds seen : Nat) : List ComV := (List.range adds).map (comI text) ++ [⟨whenD seen, 0, [dropOp text seen]⟩]

theorem com_one {c : ComV} {o : OpV} (ho : c.ops = [o]) (h1 : chk c.when_ = 0) (h2 : 0 ≤ c.place) (h3 : c.place < c.when_.length) (h4 : c.when_.getD c.place.toNat 0 ≠ 0) (h5 : opErr o c.when_.length = 0) : comErr c = (0, none) := by
  unfold comErr
  rw [if_neg (by simpa using h1), if_neg (by rw [ho]; intro h; rcases h with h | h | h | h; omega; omega; exact h4 h; simp at h), if_neg (by rw [ho]; simp), ho]
  refine scan_none fun i hi => ?_
  obtain rfl : i = 0 := by simpa using hi
  unfold opBad
  rw [if_neg (by simpa using h5), if_neg (by omega)]
theorem addOp_ok (text : ByteArray) (h : text.size ≤ 60) : opErr (addOp text) 6 = 0 := by
  unfold opErr
  rw [if_neg (by simp [addOp]), if_neg (by simp [addOp]; rfl), if_neg (by simp [addOp]; rfl), if_neg (by simp [addOp, foreignB]), if_neg (by simp [addOp]; omega), if_neg (by simp [addOp])]
theorem dropOp_ok (text : ByteArray) (seen : Nat) (h : text.size ≤ 60) (hs : seen ≤ 6) : opErr (dropOp text seen) 6 = 0 := by
  unfold opErr
  rw [if_neg (by simp [dropOp]), if_neg (by simp [dropOp]; rfl), if_neg (by simp [dropOp]; rfl), if_neg (by simp [dropOp, foreignB]), if_neg (by simp [dropOp]; omega), if_neg ?_]
  simp only [dropOp, Bool.not_eq_false]
  rw [List.all_eq_true]
  intro d hd
  obtain ⟨i, hi, rfl⟩ := List.mem_map.1 hd
  have := List.mem_range.1 hi
  have h6 : (i : Int) < 6 := by omega
  have h0 : (0 : Int) ≤ (i : Int) := by omega
  show dotB 6 (dotI i) = true
  simp [dotI, dotB, h6, h0]
theorem whenI_len (i : Nat) : (whenI i).length = 6 := by simp [whenI]
theorem whenD_len {seen : Nat} (h : seen ≤ 6) : (whenD seen).length = 6 := by simp [whenD]; omega
theorem sets_len (text : ByteArray) (adds seen : Nat) : (setsL text adds seen).length = adds + 1 := by simp [setsL]
theorem sets_get (text : ByteArray) {adds seen i : Nat} (h : i < adds) : (setsL text adds seen)[i]! = comI text i := by
  rw [getElem!_pos _ i (by rw [sets_len]; omega)]
  simp [setsL, h]
theorem sets_last (text : ByteArray) (adds seen : Nat) : (setsL text adds seen)[adds]! = ⟨whenD seen, 0, [dropOp text seen]⟩ := by
  rw [getElem!_pos _ adds (by rw [sets_len]; omega)]
  simp [setsL]
theorem comI_ok (text : ByteArray) (h : text.size ≤ 60) {i : Nat} (hi : i < 6) : comErr (comI text i) = (0, none) := by
  have e : ((comI text i).when_.length : Int) = 6 := by rw [show (comI text i).when_ = whenI i from rfl, whenI_len]; rfl
  refine com_one (o := addOp text) rfl ?_ (by show (0 : Int) ≤ i; omega) (by rw [e]; show (i : Int) < 6; omega) ?_ (by rw [e]; exact addOp_ok text h)
  · show chk (whenI i) = 0
    rcases (by omega : i = 0 ∨ i = 1 ∨ i = 2 ∨ i = 3 ∨ i = 4 ∨ i = 5) with rfl | rfl | rfl | rfl | rfl | rfl <;> rfl
  · show (whenI i).getD (i : Int).toNat 0 ≠ 0
    rcases (by omega : i = 0 ∨ i = 1 ∨ i = 2 ∨ i = 3 ∨ i = 4 ∨ i = 5) with rfl | rfl | rfl | rfl | rfl | rfl <;> decide
theorem comD_ok (text : ByteArray) (h : text.size ≤ 60) {seen : Nat} (hs : seen ≤ 6) : comErr ⟨whenD seen, 0, [dropOp text seen]⟩ = (0, none) := by
  have e : ((whenD seen).length : Int) = 6 := by rw [whenD_len hs]; rfl
  refine com_one (o := dropOp text seen) rfl ?_ (Int.le_refl _) (by show (0 : Int) < (whenD seen).length; omega) ?_ (by rw [e]; exact dropOp_ok text seen h hs)
  · show chk (whenD seen) = 0
    rcases (by omega : seen = 0 ∨ seen = 1 ∨ seen = 2 ∨ seen = 3 ∨ seen = 4 ∨ seen = 5 ∨ seen = 6) with rfl | rfl | rfl | rfl | rfl | rfl | rfl <;> rfl
  · show (whenD seen).getD 0 0 ≠ 0
    rcases (by omega : seen = 0 ∨ seen = 1 ∨ seen = 2 ∨ seen = 3 ∨ seen = 4 ∨ seen = 5 ∨ seen = 6) with rfl | rfl | rfl | rfl | rfl | rfl | rfl <;> decide
theorem sets_ok (text : ByteArray) (h : text.size ≤ 60) {adds seen : Nat} (ha : adds ≤ 6) (hs : seen ≤ 6) : ∀ i, i < (setsL text adds seen).length → listBad (setsL text adds seen) i = 0 := by
  intro i hi
  rw [sets_len] at hi
  have h0 : (setsL text adds seen)[0]!.when_.length = 6 := by
    by_cases e : adds = 0
    · subst e; rw [sets_last]; exact whenD_len hs
    · rw [sets_get text (by omega)]; exact whenI_len _
  unfold listBad
  rw [h0]
  by_cases e : i < adds
  · rw [sets_get text e, comI_ok text h (by omega), if_neg (by decide), if_neg (by rw [show (comI text i).when_ = whenI i from rfl, whenI_len]; decide)]
  · obtain rfl : i = adds := by omega
    rw [sets_last, comD_ok text h hs, if_neg (by decide), if_neg (by rw [show (whenD seen).length = 6 from whenD_len hs]; decide)]
theorem sets_small (text : ByteArray) (h : text.size ≤ 60) {adds seen : Nat} (hs : seen ≤ 6) : ∀ c ∈ setsL text adds seen, SmallC c := by
  intro c hc
  rcases List.mem_append.1 hc with hc | hc
  · obtain ⟨i, _, rfl⟩ := List.mem_map.1 hc
    exact ⟨by rw [show (comI text i).when_ = whenI i from rfl, whenI_len]; decide, by show 1 ≤ 1000000; decide, fun o ho => by rw [List.mem_singleton.1 ho]; exact ⟨by show text.size ≤ _; omega, by show 0 ≤ 1000000; decide⟩⟩
  · rw [List.mem_singleton.1 hc]
    exact ⟨by rw [whenD_len hs]; decide, by show 1 ≤ 1000000; decide, fun o ho => by rw [List.mem_singleton.1 ho]; exact ⟨by show text.size ≤ _; omega, by simp [dropOp]; omega⟩⟩

/-- The ops that they make, in the order in which they count. -/
def addDnI (text : ByteArray) (i : Nat) : Dn := ⟨addOp text, ⟨i, 1, 0⟩, 1⟩
def setsDs (text : ByteArray) (adds seen : Nat) : List Dn := (List.range adds).map (addDnI text) ++ [⟨dropOp text seen, ⟨0, 2, 0⟩, sum (whenD seen)⟩]
theorem decD3 (x d : D3) : decide (x = d) = (decide (x.p = d.p) && (decide (x.t = d.t) && decide (x.a = d.a))) := by
  obtain ⟨a, b, c⟩ := x
  obtain ⟨a', b', c'⟩ := d
  have h : (⟨a, b, c⟩ : D3) = ⟨a', b', c'⟩ ↔ a = a' ∧ b = b' ∧ c = c' := ⟨fun h => by injection h with h1 h2 h3; exact ⟨h1, h2, h3⟩, fun ⟨h1, h2, h3⟩ => by rw [h1, h2, h3]⟩
  rw [Bool.eq_iff_iff, Bool.and_eq_true, Bool.and_eq_true, decide_eq_true_eq, decide_eq_true_eq, decide_eq_true_eq, decide_eq_true_eq]
  exact h
def onceE (l : List ComV) : List Dn := l.foldl (fun acc c => (c.ops.map (dnOf c)).foldl (fun acc d => if (acc.any fun x => decide (x.dot.p = d.dot.p) && (decide (x.dot.t = d.dot.t) && decide (x.dot.a = d.dot.a))) = true then acc else acc ++ [d]) acc) []
theorem onceA_e (l : List ComV) : onceA l = onceE l := by
  have h1 : ∀ (acc : List Dn) (d : Dn), addDn acc d = if (acc.any fun x => decide (x.dot.p = d.dot.p) && (decide (x.dot.t = d.dot.t) && decide (x.dot.a = d.dot.a))) = true then acc else acc ++ [d] := fun acc d => by
    unfold addDn hasDot
    simp only [decD3]
  have h2 : addDn = fun acc d => if (acc.any fun x => decide (x.dot.p = d.dot.p) && (decide (x.dot.t = d.dot.t) && decide (x.dot.a = d.dot.a))) = true then acc else acc ++ [d] := funext fun acc => funext fun d => h1 acc d
  unfold onceA onceE addCom
  rw [h2]
theorem sets_once (text : ByteArray) {adds seen : Nat} (ha : adds ≤ 6) (hs : seen ≤ 6) : onceA (setsL text adds seen) = setsDs text adds seen := by
  rw [onceA_e]
  rcases (by omega : adds = 0 ∨ adds = 1 ∨ adds = 2 ∨ adds = 3 ∨ adds = 4 ∨ adds = 5 ∨ adds = 6) with rfl | rfl | rfl | rfl | rfl | rfl | rfl <;>
  rcases (by omega : seen = 0 ∨ seen = 1 ∨ seen = 2 ∨ seen = 3 ∨ seen = 4 ∨ seen = 5 ∨ seen = 6) with rfl | rfl | rfl | rfl | rfl | rfl | rfl <;> rfl
theorem sum_whenD {seen : Nat} (hs : seen ≤ 6) : 2 ≤ sum (whenD seen) := by
  rcases (by omega : seen = 0 ∨ seen = 1 ∨ seen = 2 ∨ seen = 3 ∨ seen = 4 ∨ seen = 5 ∨ seen = 6) with rfl | rfl | rfl | rfl | rfl | rfl | rfl <;> decide
theorem setsDs_key (text : ByteArray) (adds seen : Nat) : ∀ d ∈ setsDs text adds seen, d.o.key = sKey ∧ d.o.kind = 3 ∧ d.o.text = text := by
  intro d hd
  rcases List.mem_append.1 hd with hd | hd
  · obtain ⟨i, _, rfl⟩ := List.mem_map.1 hd
    exact ⟨rfl, rfl, rfl⟩
  · rw [List.mem_singleton.1 hd]
    exact ⟨rfl, rfl, rfl⟩
theorem sets_order (text : ByteArray) {adds seen : Nat} (ha : adds ≤ 6) (hs : seen ≤ 6) : InOrder sKey (setsL text adds seen) (setsDs text adds seen) := by
  refine ⟨?_, ?_⟩
  · rw [sets_once text ha hs, List.filter_eq_self.2 fun d hd => decide_eq_true (setsDs_key text adds seen d hd).1]
  · unfold setsDs
    rw [List.pairwise_append]
    refine ⟨?_, List.pairwise_singleton _ _, ?_⟩
    · rw [List.pairwise_map]
      refine List.Pairwise.imp ?_ List.pairwise_lt_range
      intro a b h
      simp only [ltN, ltD, addDnI, decide_eq_false_iff_not, decide_eq_true_eq]
      omega
    · intro a ha b hb
      obtain ⟨i, _, rfl⟩ := List.mem_map.1 ha
      rw [List.mem_singleton.1 hb]
      have := sum_whenD hs
      refine decide_eq_false ?_
      show ¬(sum (whenD seen) < 1 ∨ sum (whenD seen) = 1 ∧ _)
      omega
theorem sets_ops (text : ByteArray) {adds seen : Nat} (ha : adds ≤ 6) (hs : seen ≤ 6) {ds : List Dn} (h : IsOps sKey (setsL text adds seen) ds) : ds = setsDs text adds seen := by
  rw [isOps_eq h (sets_order text ha hs)]
  have h0 : (setsDs text adds seen)[0]!.o.kind = 3 := by
    have hl : 0 < (setsDs text adds seen).length := by simp [setsDs]
    rw [getElem!_pos _ 0 hl]
    exact (setsDs_key text adds seen _ (List.getElem_mem hl)).2.1
  unfold ofKind
  rw [h0]
  exact List.filter_eq_self.2 fun d hd => decide_eq_true (setsDs_key text adds seen d hd).2.1

theorem range6 {P : Nat → Prop} (h : P 0 ∧ P 1 ∧ P 2 ∧ P 3 ∧ P 4 ∧ P 5 ∧ P 6) {n : Nat} (hn : n ≤ 6) : P n := by
  obtain ⟨h0, h1, h2, h3, h4, h5, h6⟩ := h
  rcases (by omega : n = 0 ∨ n = 1 ∨ n = 2 ∨ n = 3 ∨ n = 4 ∨ n = 5 ∨ n = 6) with rfl | rfl | rfl | rfl | rfl | rfl | rfl <;> assumption

/-- The adds put their texts at their dots. -/
theorem adds_map (text : ByteArray) : ∀ n : Nat, ∀ e : D3, (((List.range n).map (addDnI text)).foldl addStep fun _ => none) e = if (0 ≤ e.p ∧ e.p < n) ∧ e.t = 1 ∧ e.a = 0 then some text else none := by
  intro n
  induction n with
  | zero => intro e; simp; omega
  | succ n ih =>
    intro e
    rw [List.range_succ, List.map_append, List.foldl_append]
    simp only [List.map_cons, List.map_nil, List.foldl_cons, List.foldl_nil]
    rw [show ∀ M, addStep M (addDnI text n) = upd M ⟨n, 1, 0⟩ (some text) from fun _ => rfl]
    unfold upd
    rw [ih e]
    obtain ⟨p, t, a⟩ := e
    simp only [D3.mk.injEq]
    by_cases h1 : p = n ∧ t = 1 ∧ a = 0
    · rw [if_pos h1, if_pos (by omega)]
    · rw [if_neg h1]
      by_cases h2 : (0 ≤ p ∧ p < n) ∧ t = 1 ∧ a = 0
      · rw [if_pos h2, if_pos (by omega)]
      · rw [if_neg h2, if_neg (by omega)]
/-- The drop takes those that were seen. -/
theorem drop_map (text : ByteArray) (M : D3 → Option ByteArray) : ∀ n : Nat, (∀ i : Nat, i < n → M (dotI i) = some text) → ∀ e : D3, (((List.range n).map dotI).foldl (delStep text) M) e = if (0 ≤ e.p ∧ e.p < n) ∧ e.t = 1 ∧ e.a = 0 then none else M e := by
  intro n
  induction n with
  | zero => intro _ e; simp; omega
  | succ n ih =>
    intro hM e
    rw [List.range_succ, List.map_append, List.foldl_append]
    simp only [List.map_cons, List.map_nil, List.foldl_cons, List.foldl_nil]
    have ih' := ih fun i hi => hM i (by omega)
    have hn : (((List.range n).map dotI).foldl (delStep text) M) (dotI n) = some text := by
      rw [ih' (dotI n), if_neg (by show ¬(((0:Int) ≤ n ∧ (n:Int) < n) ∧ _); omega)]
      exact hM n (by omega)
    rw [show ∀ M : D3 → Option ByteArray, M (dotI n) = some text → delStep text M (dotI n) = upd M (dotI n) none from fun M h => by unfold delStep; rw [if_pos (by rw [h]; rfl)]]
    rotate_left
    · exact hn
    rw [upd, ih' e]
    obtain ⟨p, t, a⟩ := e
    simp only [D3.mk.injEq, dotI]
    by_cases h1 : p = n ∧ t = 1 ∧ a = 0
    · rw [if_pos h1, if_pos (by omega)]
    · rw [if_neg h1]
      by_cases h2 : (0 ≤ p ∧ p < n) ∧ t = 1 ∧ a = 0
      · rw [if_pos h2, if_pos (by omega)]
      · rw [if_neg h2, if_neg (by omega)]
theorem addDnI_rem (text : ByteArray) (n : Nat) : ∀ M, ((List.range n).map (addDnI text)).foldl remStep M = M := by
  intro M
  induction List.range n generalizing M with
  | nil => rfl
  | cons x r ih => exact ih M
theorem sets_final (text : ByteArray) {adds seen : Nat} (hs : seen ≤ adds) (e : D3) : finalMap (setsDs text adds seen) e = if ((seen : Int) ≤ e.p ∧ e.p < adds) ∧ e.t = 1 ∧ e.a = 0 then some text else none := by
  unfold finalMap setsDs
  rw [List.foldl_append, List.foldl_append, addDnI_rem]
  show ((List.range seen).map dotI).foldl (delStep text) (((List.range adds).map (addDnI text)).foldl addStep fun _ => none) e = _
  rw [drop_map text _ seen (fun i hi => by rw [adds_map, if_pos (by show ((0:Int) ≤ i ∧ (i:Int) < adds) ∧ (1:Int) = 1 ∧ (0:Int) = 0; omega)]), adds_map]
  by_cases h1 : (0 ≤ e.p ∧ e.p < seen) ∧ e.t = 1 ∧ e.a = 0
  · rw [if_pos h1, if_neg (by omega)]
  · rw [if_neg h1]
    by_cases h2 : (0 ≤ e.p ∧ e.p < adds) ∧ e.t = 1 ∧ e.a = 0
    · rw [if_pos h2, if_pos (by omega)]
    · rw [if_neg h2, if_neg (by omega)]
theorem sets_stand (text : ByteArray) {adds seen : Nat} (ha : adds ≤ 6) (hs : seen ≤ adds) : (standA (setsDs text adds seen)).length = adds - seen ∧ ∀ d ∈ standA (setsDs text adds seen), d.o.text = text := by
  refine ⟨?_, fun d hd => (setsDs_key text adds seen d (List.mem_filter.1 hd).1).2.2⟩
  have e : standA (setsDs text adds seen) = (setsDs text adds seen).filter (fun x : Dn => decide (((seen : Int) ≤ x.dot.p ∧ x.dot.p < (adds : Int)) ∧ x.dot.t = 1 ∧ x.dot.a = 0)) := by
    unfold standA
    refine List.filter_congr fun x _ => ?_
    rw [sets_final text hs]
    by_cases h : ((seen : Int) ≤ x.dot.p ∧ x.dot.p < adds) ∧ x.dot.t = 1 ∧ x.dot.a = 0
    · rw [if_pos h, decide_eq_true h]; rfl
    · rw [if_neg h, decide_eq_false h]; rfl
  rw [e]
  rcases (by omega : adds = 0 ∨ adds = 1 ∨ adds = 2 ∨ adds = 3 ∨ adds = 4 ∨ adds = 5 ∨ adds = 6) with rfl | rfl | rfl | rfl | rfl | rfl | rfl <;>
  rcases (by omega : seen = 0 ∨ seen = 1 ∨ seen = 2 ∨ seen = 3 ∨ seen = 4 ∨ seen = 5 ∨ seen = 6) with rfl | rfl | rfl | rfl | rfl | rfl | rfl <;> first | rfl | omega
theorem all_replicate {text : ByteArray} : ∀ (l : List Dn), (∀ d ∈ l, d.o.text = text) → l.map (·.o.text) = List.replicate l.length text
  | [], _ => rfl
  | x :: r, h => by
    rw [List.map_cons, all_replicate r fun d hd => h d (List.mem_cons_of_mem _ hd), h x (List.mem_cons_self ..)]
    rfl
theorem sets_dots (text : ByteArray) {adds seen : Nat} (ha : adds ≤ 6) (hs : seen ≤ adds) {out : List D3} (h : IsDots text (setsDs text adds seen) out) : out.length = adds - seen := by
  obtain ⟨h1, h2⟩ := sets_stand text ha hs
  have h0 : (setsDs text adds seen)[0]!.o.kind = 3 := by
    have hl : 0 < (setsDs text adds seen).length := by simp [setsDs]
    rw [getElem!_pos _ 0 hl]
    exact (setsDs_key text adds seen _ (List.getElem_mem hl)).2.1
  have hne : setsDs text adds seen ≠ [] := by simp [setsDs]
  rcases h with ⟨h, _⟩ | ⟨_, h, _⟩
  · rcases h with h | h
    · exact absurd h hne
    · exact absurd h0 h
  · rw [h.length_eq, dotsUp, List.length_map, List.filter_eq_self.2 fun d hd => decide_eq_true (h2 d hd), h1]
theorem sets_val (text : ByteArray) {adds seen : Nat} (ha : adds ≤ 6) (hs : seen ≤ adds) : valA (setsDs text adds seen) = ⟨3, ByteArray.empty, 0, setA (List.replicate (adds - seen) text)⟩ := by
  obtain ⟨h1, h2⟩ := sets_stand text ha hs
  have h0 : (setsDs text adds seen)[0]!.o.kind = 3 := by
    have hl : 0 < (setsDs text adds seen).length := by simp [setsDs]
    rw [getElem!_pos _ 0 hl]
    exact (setsDs_key text adds seen _ (List.getElem_mem hl)).2.1
  have hne : setsDs text adds seen ≠ [] := by simp [setsDs]
  unfold valA
  rw [if_neg hne, h0, if_neg (by decide), if_neg (by decide), all_replicate _ h2, h1]
end Go.Proofs.YtilonnkohcocoaaGreatDoor
