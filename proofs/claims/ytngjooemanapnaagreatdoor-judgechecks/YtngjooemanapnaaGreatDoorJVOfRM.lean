/- Dots by its contract, where nothing is wrong; A counter's commits; a text is in a set if it has dots: plain mathematics; What the reference makes of ops: insertion, which ops are live: plain mathematics. -/
import Derived.Test.YtngjooemanapnaaGreatDoorJVOfW
import Derived.Test.YtngjooemanapnaaGreatDoorJVCmpD
import Derived.Test.YtngjooemanapnaaGreatDoorJVStandM
import Derived.Test.YtngjooemanapnaaGreatDoorJVOnceM
import Derived.Test.YtngjooemanapnaaGreatDoorJVCheck
import Derived.Test.YtngjooemanapnaaGreatDoorJVTurnM
import Derived.Test.YtngjooemanapnaaGreatDoorJVOf
import Derived.Test.YtngjooemanapnaaGreatDoorJVSortN
import Derived.Test.YtngjooemanapnaaGreatDoorJVMap
import Derived.Test.YtngjooemanapnaaGreatDoorJVCom
namespace Go.Proofs.YtngjooemanapnaaGreatDoor
open Go.RowKit Go.Sort Go.Maps Go.Shelf
set_option maxRecDepth 100000
set_option linter.unusedSectionVars false
variable [Inhabited ComV] [DecidableEq D3] [Inhabited D3] [Inhabited Dd] [Inhabited Dn] [Inhabited OpV]

/-- The dots of a text, in the order in which they count. -/
def dotsUp (text : ByteArray) (ds : List Dn) : List D3 := ((standA ds).filter fun x => decide (x.o.text = text)).map (·.dot)
/-- Which dots a text has: none but in a set; rising. -/
def IsDots (text : ByteArray) (ds : List Dn) (out : List D3) : Prop :=
  (ds = [] ∨ ds[0]!.o.kind ≠ 3) ∧ out = [] ∨ (ds ≠ [] ∧ ds[0]!.o.kind = 3) ∧ out.Perm (dotsUp text ds) ∧ out.Pairwise (fun a b => ltD b a = false)
/-- What Dots hands back, where nothing is wrong. -/
def DotsRet (key text : ByteArray) (l : List ComV) (w : World) (e : Ending) (w' : World) : Prop :=
  ∃ v ds out, e = .returned (.tuple #[v, .nilIface]) ∧ IsOps key l ds ∧ IsDots text ds out ∧ DotsAt w' v out ∧ Below w.heap.size w w'
theorem dots_nil (w : World) : DotsAt w (.slice none 0 0) [] := ⟨none, 0, rfl, fun _ => rfl, Nat.le_refl _, .inl rfl⟩
theorem Tryz.info132 : (Tryz.prog.info? 132).map (fun i => (i.zero, i.size, i.bytes)) = some (some (.agg #[.int .i64 0, .int .i64 0, .int .i64 0]), 3, 24) := by kernel_rfl
theorem D3.one (d : D3) : ∀ v ∈ d.cells, v.oneCell' = true := fun v hv => by
  simp only [D3.cells, List.mem_cons, List.not_mem_nil, or_false] at hv
  rcases hv with rfl | rfl | rfl <;> rfl
theorem flat3_get (xs : List D3) : ∀ (j i : Nat), j < xs.length → i < 3 → (xs.flatMap D3.cells)[j * 3 + i]? = some (xs[j]!.cells[i]!) := by
  induction xs with
  | nil => intro j i hj; simp at hj
  | cons x r ih =>
    intro j i hj hi
    rw [List.flatMap_cons]
    cases j with
    | zero =>
      rw [List.getElem?_append_left (by show _ < 3; omega), Nat.zero_mul, Nat.zero_add, List.getElem?_eq_getElem (show i < x.cells.length from hi)]
      show some _ = some (x.cells[i]!)
      rw [getElem!_pos x.cells i hi]
      rfl
    | succ j =>
      rw [List.getElem?_append_right (by show 3 ≤ _; omega), show (j + 1) * 3 + i - x.cells.length = j * 3 + i by show _ - 3 = _; omega, ih j i (by simpa using hj) hi]
      simp
theorem holds3_iff {w : World} {g : Nat} {d : Array D3} : HoldsK D3.cells 3 w g 0 d ↔ ∀ j, j < d.size → ∀ i, i < 3 → w.cell? ⟨g, j * 3 + i, none⟩ = some (d[j]!.cells[i]!) ∧ w.frozen? ⟨g, j * 3 + i, none⟩ = false := by
  constructor
  · intro h j hj i hi
    have := h (j * 3 + i) (by rw [size_flatK]; omega)
    rw [get_flatK _ _ _ _ (by omega), show (j * 3 + i) / 3 = j by omega, show (j * 3 + i) % 3 = i by omega, Nat.zero_add] at this
    exact this
  · intro h t ht
    rw [size_flatK] at ht
    rw [get_flatK _ _ _ _ ht, Nat.zero_add]
    have := h (t / 3) (by omega) (t % 3) (by omega)
    rw [show t / 3 * 3 + t % 3 = t by omega] at this
    exact this
theorem dots_of_holds {w : World} {g cap : Nat} {d : Array D3} (h : HoldsK D3.cells 3 w g 0 d) (hc : d.size ≤ cap) : DotsAt w (.slice (some ⟨g, 0, none⟩) d.size cap) d.toList := by
  refine ⟨_, cap, by simp, (fun e => by cases e), by simpa using hc, .inr ⟨g, 0, rfl, fun j r hr => ?_⟩⟩
  rw [List.getElem?_map] at hr
  cases hj : d.toList[j]? with
  | none => rw [hj] at hr; cases hr
  | some x =>
    rw [hj] at hr
    obtain rfl := Option.some.inj hr
    obtain ⟨hl, hx⟩ := List.getElem?_eq_some_iff.1 hj
    have hl' : j < d.size := by simpa using hl
    refine ⟨rfl, fun i u hu => ?_⟩
    have hi : i < 3 := (List.getElem?_eq_some_iff.1 hu).1
    have := (holds3_iff.1 h j hl' i hi).1
    have e : d[j]! = x := by rw [getElem!_pos d j hl', ← hx]; simp
    rw [Nat.zero_add, this, e, List.getElem!_eq_getElem?_getD, hu]
    rfl
/-- A row of dots that the call owns. -/
theorem holds3_of_owns {w : World} {base g n cap : Nat} {ts : List D3} (h : w.ownsRow base 132 3 (.slice (some ⟨g, 0, none⟩) n cap) ts.length (ts.flatMap D3.cells)) : HoldsK D3.cells 3 w g 0 ts.toArray ∧ base ≤ g ∧ g < w.heap.size ∧ n = ts.length ∧ ts.length ≤ cap := by
  obtain ⟨_, h2⟩ := h
  rcases h2 with ⟨h, _⟩ | ⟨g', cap', cur, he, hb, hh, hn, hm, hs, ht⟩
  · cases h
  · cases he
    refine ⟨?_, hb, (Array.getElem?_eq_some_iff.1 hh).1, rfl, hn⟩
    rw [holds3_iff]
    intro j hj i hi
    have hj' : j < ts.length := by simpa using hj
    have e := flat3_get ts j i hj' hi
    rw [← ht, List.getElem?_take, if_pos (by omega), Array.getElem?_toList] at e
    refine ⟨?_, ?_⟩
    · simp only [World.cell?, hh]
      rw [e]
      simp
    · simp only [World.frozen?, hh]
      simp
end Go.Proofs.YtngjooemanapnaaGreatDoor
namespace Go.Proofs.YtngjooemanapnaaGreatDoor
open Go.RowKit
set_option linter.unusedSectionVars false
variable [Inhabited ComV] [DecidableEq D3] [Inhabited D3] [Inhabited Dd] [Inhabited Dn] [Inhabited OpV]

theorem mem_compactUpTo {α : Type} [Inhabited α] [DecidableEq α] (d : Array α) (x : α) : ∀ m, x ∈ Lib.compactUpTo d m ↔ ∃ j, j < m ∧ d[j]! = x := by
  intro m
  induction m with
  | zero => simp [Lib.compactUpTo]
  | succ m ih =>
    rw [Lib.compactUpTo_succ, List.mem_append, ih]
    constructor
    · rintro (⟨j, h1, h2⟩ | h)
      · exact ⟨j, by omega, h2⟩
      · split at h
        · exact ⟨m, by omega, (List.mem_singleton.1 h).symm⟩
        · simp at h
    · rintro ⟨j, h1, h2⟩
      rcases Nat.lt_or_ge j m with h | h
      · exact .inl ⟨j, h, h2⟩
      · obtain rfl : j = m := by omega
        by_cases hk : Lib.keeps d j = true
        · exact .inr (by rw [if_pos hk]; exact List.mem_singleton.2 h2.symm)
        · have hj : j ≠ 0 := fun e => hk (by subst e; exact Lib.keeps_lt_one d 0 (by decide))
          have he : d[j]! = d[j - 1]! := by
            rcases Decidable.em (d[j]! = d[j - 1]!) with h | h
            · exact h
            · exact absurd (Lib.keeps_pos h) hk
          exact .inl ⟨j - 1, by omega, by rw [← he]; exact h2⟩
theorem mem_compact {α : Type} [Inhabited α] [DecidableEq α] (l : List α) (x : α) : x ∈ Lib.compact l ↔ x ∈ l := by
  unfold Lib.compact
  rw [mem_compactUpTo]
  constructor
  · rintro ⟨j, h1, h2⟩
    rw [getElem!_pos l.toArray j (by simpa using h1)] at h2
    rw [← h2]
    simp
  · intro h
    obtain ⟨j, h1, h2⟩ := List.getElem_of_mem h
    exact ⟨j, h1, by rw [getElem!_pos l.toArray j (by simpa using h1)]; simpa using h2⟩
theorem mem_setA (ts : List ByteArray) (t : ByteArray) : t.data.toList ∈ setA ts ↔ t ∈ ts := by
  unfold setA
  rw [mem_compact, List.mem_mergeSort]
  constructor
  · intro h
    obtain ⟨s, hs, he⟩ := List.mem_map.1 h
    rwa [← WideShapes.bytes_inj he]
  · exact fun h => List.mem_map.2 ⟨t, h, rfl⟩
/-- A text is in a set if, and only if, it has dots. -/
theorem set_dots {ds : List Dn} {text : ByteArray} {out : List D3} (hk : ∀ d ∈ ds, DnOk d) (h : IsDots text ds out) : text.data.toList ∈ (valA ds).set ↔ 0 < out.length := by
  rcases h with ⟨h1, rfl⟩ | ⟨⟨h1, h2⟩, h3, _⟩
  · have : (valA ds).set = [] := by
      unfold valA
      split
      · rfl
      · rename_i hne
        have h3 := h1.resolve_left hne
        have hm : ds[0]! ∈ ds := by
          have : 0 < ds.length := List.length_pos_iff.2 hne
          rw [getElem!_pos ds 0 this]
          exact List.getElem_mem _
        rcases (hk _ hm).kind with e | e | e
        · rw [if_pos e]
        · rw [if_neg (by rw [e]; decide), if_pos e]
        · exact absurd e h3
    rw [this]
    simp
  · have e : (valA ds).set = setA ((standA ds).map (·.o.text)) := by
      unfold valA
      rw [if_neg h1, if_neg (by rw [h2]; decide), if_neg (by rw [h2]; decide)]
    rw [e, mem_setA, h3.length_eq]
    unfold dotsUp
    rw [List.length_map, List.length_pos_iff, ne_eq, List.filter_eq_nil_iff]
    constructor
    · intro h hn
      obtain ⟨x, hx, he⟩ := List.mem_map.1 h
      exact hn x hx (decide_eq_true he)
    · intro hn
      rcases Classical.em (text ∈ (standA ds).map (·.o.text)) with h | h
      · exact h
      · exact absurd (fun x hx he => h (List.mem_map.2 ⟨x, hx, of_decide_eq_true he⟩)) hn
/-- The i-th commit of a counter. -/
def cntOp (n : Int) : OpV := ⟨0, ⟨#[110]⟩, 2, ByteArray.empty, n, false, []⟩
def cntC (ns : List Int) (i : Nat) : ComV := ⟨[(i : Int) + 1, 0], 0, [cntOp (ns.getD i 0)]⟩
def cntL (ns : List Int) (m : Nat) : List ComV := (List.range m).map (cntC ns)
def sumI (ns : List Int) : Int := ns.foldl (· + ·) 0
def cntD (ns : List Int) (i : Nat) : Dn := ⟨cntOp (ns.getD i 0), ⟨0, (i : Int) + 1, 0⟩, sum [(i : Int) + 1, 0]⟩
theorem cnt_flat (ns : List Int) (m : Nat) : flatA (cntL ns m) = (List.range m).map (cntD ns) := by
  unfold flatA cntL
  rw [List.flatMap_map]
  have : (fun a => (cntC ns a).ops.map (dnOf (cntC ns a))) = fun a => [cntD ns a] := rfl
  rw [this]
  generalize List.range m = r
  induction r with
  | nil => rfl
  | cons a r ih => rw [List.flatMap_cons, ih]; rfl
theorem cnt_one (ns : List Int) (m : Nat) : OneDot (cntL ns m) := by
  intro a ha b hb he
  rw [cnt_flat] at ha hb
  obtain ⟨i, _, rfl⟩ := List.mem_map.1 ha
  obtain ⟨k, _, rfl⟩ := List.mem_map.1 hb
  simp only [cntD, D3.mk.injEq] at he
  obtain rfl : i = k := by omega
  rfl
theorem cnt_bad {n : Int} (h1 : -1000 ≤ n) (h2 : n ≤ 1000) : opErr (cntOp n) 2 = 0 := by
  unfold opErr
  rw [if_neg (by show ¬((2 : Int) < 1 ∨ (6 : Int) < 2 ∨ (0 : Int) < 0 ∨ (12 : Int) ≤ 0); decide), if_neg (by show ¬ nameB ⟨#[110]⟩ = false; decide), if_neg (by show ¬ kindB 2 = false; decide), if_neg (by show ¬ foreignB (cntOp n) = true; simp [foreignB, cntOp]), if_neg, if_neg (by show ¬ ([] : List D3).all _ = false; decide)]
  show ¬((60 : Nat) < (ByteArray.empty).size ∨ n < -1099511627776 ∨ 1099511627776 < n ∨ 60 < ([] : List D3).length)
  have : ByteArray.empty.size = 0 := rfl
  rw [this]
  simp only [List.length_nil]
  omega
theorem cnt_ok {ns : List Int} (hn : ∀ i, i < ns.length → -1000 ≤ ns.getD i 0 ∧ ns.getD i 0 ≤ 1000) (h30 : ns.length ≤ 30) : ∀ i, i < (cntL ns ns.length).length → listBad (cntL ns ns.length) i = 0 := by
  refine listOk_of (n := 2) (fun c hc => ?_) (fun c hc => ?_)
  · obtain ⟨i, hi, rfl⟩ := List.mem_map.1 hc
    have hi' := List.mem_range.1 hi
    refine ⟨?_, Int.le_refl _, by show (0 : Int) < 2; decide, by show ((i : Int) + 1) ≠ 0; omega, by show 1 ≤ 12; decide, by show [_] ≠ []; simp, fun j hj => ?_⟩
    · rw [chk_zero]
      refine ⟨by show 1 ≤ 2; decide, by show 2 ≤ 6; decide, fun t ht => ?_⟩
      have ht' : t < 2 := ht
      rcases (by omega : t = 0 ∨ t = 1) with rfl | rfl
      · show 0 ≤ (i : Int) + 1 ∧ (i : Int) + 1 ≤ _
        omega
      · show (0 : Int) ≤ 0 ∧ (0 : Int) ≤ _
        omega
    · have hj' : j < 1 := hj
      obtain rfl : j = 0 := by omega
      unfold opBad
      have e : opErr (cntC ns i).ops[0]! ((cntC ns i).when_.length : Int) = 0 := cnt_bad (hn i hi').1 (hn i hi').2
      rw [if_neg (by rw [e]; decide), if_neg (by omega)]
  · obtain ⟨i, hi, rfl⟩ := List.mem_map.1 hc
    rfl
theorem sum_perm {a b : List Dn} (h : a.Perm b) : ∀ s : Int, a.foldl (fun s d => s + d.o.n) s = b.foldl (fun s d => s + d.o.n) s := by
  induction h with
  | nil => intro s; rfl
  | cons x _ ih => intro s; exact ih _
  | swap x y l => intro s; simp only [List.foldl_cons]; congr 1; omega
  | trans _ _ ih1 ih2 => intro s; exact (ih1 s).trans (ih2 s)
theorem cnt_sum (ns : List Int) : ∀ m, m ≤ ns.length → ((List.range m).map (cntD ns)).foldl (fun s d => s + d.o.n) 0 = sumI (ns.take m) := by
  intro m
  induction m with
  | zero => intro _; rfl
  | succ m ih =>
    intro hm
    rw [List.range_succ, List.map_append, List.foldl_append, ih (by omega), List.take_succ_eq_append_getElem (by omega)]
    unfold sumI
    rw [List.foldl_append]
    simp [cntD, cntOp, List.getD_eq_getElem?_getD, List.getElem?_eq_getElem (by omega : m < ns.length)]
/-- What a counter's commits make. -/
theorem cnt_val {ns : List Int} {ds : List Dn} (h : IsOps ⟨#[110]⟩ (cntL ns ns.length) ds) : (valA ds).n = sumI ns ∧ (0 < ns.length → (valA ds).kind = 2) ∧ (valA ds).set = [] := by
  obtain ⟨ys, ⟨hp, _⟩, rfl⟩ := h
  have hm := mem_onceA (cnt_one ns ns.length)
  have hd : ((List.range ns.length).map (cntD ns)).Pairwise (· ≠ ·) := by
    rw [List.pairwise_map]
    refine List.Pairwise.imp (fun {a b} h e => ?_) (List.pairwise_lt_range)
    have := congrArg (fun d => d.dot.t) e
    simp only [cntD] at this
    omega
  have hperm : (onceA (cntL ns ns.length)).Perm ((List.range ns.length).map (cntD ns)) := perm_of_mem (onceA_distinct _) hd fun x => by rw [hm, cnt_flat]
  have hall : ∀ x ∈ onceA (cntL ns ns.length), x.o.key = ⟨#[110]⟩ ∧ x.o.kind = 2 := fun x hx => by
    obtain ⟨i, _, rfl⟩ := List.mem_map.1 (hperm.mem_iff.1 hx)
    exact ⟨rfl, rfl⟩
  have hf : (onceA (cntL ns ns.length)).filter (fun x => decide (x.o.key = ⟨#[110]⟩)) = onceA (cntL ns ns.length) := List.filter_eq_self.2 fun x hx => decide_eq_true (hall x hx).1
  rw [hf] at hp
  have hp2 := hp.trans hperm
  have hk : ∀ x ∈ ys, x.o.kind = 2 := fun x hx => (hall x (hp.mem_iff.1 hx)).2
  have hlen : ys.length = ns.length := by have := hp2.length_eq; simpa using this
  have hof : ofKind ys = ys := by
    unfold ofKind
    refine List.filter_eq_self.2 fun x hx => decide_eq_true ?_
    have h0 : 0 < ys.length := List.length_pos_of_mem hx
    rw [hk x hx, getElem!_pos ys 0 h0, hk _ (List.getElem_mem _)]
  rw [hof]
  by_cases h0 : ys = []
  · have hn : ns = [] := List.eq_nil_of_length_eq_zero (by rw [← hlen, h0]; rfl)
    rw [h0, hn]
    exact ⟨rfl, fun h => absurd h (by decide), rfl⟩
  · have h1 : ys[0]!.o.kind = 2 := by
      have h0 : 0 < ys.length := List.length_pos_iff.2 h0
      rw [getElem!_pos ys 0 h0]
      exact hk _ (List.getElem_mem _)
    have e : valA ys = ⟨2, ByteArray.empty, sumN ys, []⟩ := by
      unfold valA
      rw [if_neg h0, if_neg (by rw [h1]; decide), if_pos h1]
    rw [e]
    refine ⟨?_, fun _ => rfl, rfl⟩
    show sumN ys = _
    unfold sumN
    rw [sum_perm hp2 0, cnt_sum ns _ (Nat.le_refl _), List.take_length]
end Go.Proofs.YtngjooemanapnaaGreatDoor
namespace Go.Proofs.YtngjooemanapnaaGreatDoor
open Go.RowKit
set_option linter.unusedSectionVars false
variable [Inhabited ComV] [DecidableEq D3] [Inhabited D3] [Inhabited Dd] [Inhabited Dn] [Inhabited OpV]

theorem ltN_asymm {x y : Dn} (h : ltN x y = true) : ltN y x = false := by
  obtain ⟨_, ⟨p, t, a⟩, wx⟩ := x
  obtain ⟨_, ⟨p', t', a'⟩, wy⟩ := y
  simp only [ltN, ltD, decide_eq_false_iff_not, decide_eq_true_eq] at h ⊢
  omega
theorem ltN_le_trans {x z z' : Dn} (h1 : ltN z x = false) (h2 : ltN z' z = false) : ltN z' x = false := by
  obtain ⟨_, ⟨p, t, a⟩, wx⟩ := x
  obtain ⟨_, ⟨p', t', a'⟩, wy⟩ := z
  obtain ⟨_, ⟨p2, t2, a2⟩, wz⟩ := z'
  simp only [ltN, ltD, decide_eq_false_iff_not, decide_eq_true_eq] at h1 h2 ⊢
  omega
/-- An op goes in behind those that are ahead. -/
def insAt (p : Dn → Bool) (out : List Dn) (x : Dn) : List Dn := out.takeWhile p ++ x :: out.dropWhile p
def insN (out : List Dn) (x : Dn) : List Dn := insAt (fun y => ltN y x) out x
def sortR (l : List Dn) : List Dn := l.foldl insN []
theorem insN_perm (out : List Dn) (x : Dn) : (insN out x).Perm (out ++ [x]) := by
  unfold insN insAt
  have h1 : (out.takeWhile (fun y => ltN y x) ++ x :: out.dropWhile (fun y => ltN y x)).Perm (x :: (out.takeWhile (fun y => ltN y x) ++ out.dropWhile (fun y => ltN y x))) := List.perm_middle
  rw [List.takeWhile_append_dropWhile] at h1
  exact h1.trans (List.perm_append_singleton x out).symm
theorem sortR_perm_aux (l : List Dn) : ∀ acc, (l.foldl insN acc).Perm (acc ++ l) := by
  induction l with
  | nil => intro acc; simp
  | cons x r ih =>
    intro acc
    have h := (ih (insN acc x)).trans ((insN_perm acc x).append_right r)
    simpa using h
theorem sortR_perm (l : List Dn) : (sortR l).Perm l := by simpa [sortR] using sortR_perm_aux l []
def Sorted (l : List Dn) : Prop := l.Pairwise (fun a b => ltN b a = false)
theorem mem_drop_le {x : Dn} : ∀ {out : List Dn}, Sorted out → ∀ z ∈ out.dropWhile (fun y => ltN y x), ltN z x = false
  | [], _, z, hz => by simp at hz
  | y :: r, hs, z, hz => by
    have hs' := List.pairwise_cons.1 hs
    by_cases h : ltN y x = true
    · rw [List.dropWhile_cons_of_pos (p := fun y => ltN y x) h] at hz
      exact mem_drop_le hs'.2 z hz
    · rw [List.dropWhile_cons_of_neg (p := fun y => ltN y x) h] at hz
      have hy : ltN y x = false := by simpa using h
      rcases List.mem_cons.1 hz with rfl | hz
      · exact hy
      · exact ltN_le_trans hy (hs'.1 z hz)
theorem mem_take_lt {x : Dn} : ∀ {out : List Dn}, ∀ z ∈ out.takeWhile (fun y => ltN y x), ltN z x = true
  | [], z, hz => by simp at hz
  | y :: r, z, hz => by
    by_cases h : ltN y x = true
    · rw [List.takeWhile_cons_of_pos (p := fun y => ltN y x) h] at hz
      rcases List.mem_cons.1 hz with rfl | hz
      · exact h
      · exact mem_take_lt z hz
    · rw [List.takeWhile_cons_of_neg (p := fun y => ltN y x) h] at hz
      simp at hz
theorem insN_sorted {out : List Dn} (h : Sorted out) (x : Dn) : Sorted (insN out x) := by
  unfold insN insAt Sorted
  have hsplit : (out.takeWhile (fun y => ltN y x) ++ out.dropWhile (fun y => ltN y x)).Pairwise (fun a b => ltN b a = false) := by
    rw [List.takeWhile_append_dropWhile]
    exact h
  rw [List.pairwise_append] at hsplit
  rw [List.pairwise_append]
  refine ⟨hsplit.1, List.pairwise_cons.2 ⟨fun z hz => mem_drop_le h z hz, hsplit.2.1⟩, fun a ha b hb => ?_⟩
  rcases List.mem_cons.1 hb with rfl | hb
  · exact ltN_asymm (mem_take_lt a ha)
  · exact hsplit.2.2 a ha b hb
theorem sortR_sorted (l : List Dn) : Sorted (sortR l) := by
  have : ∀ (l acc : List Dn), Sorted acc → Sorted (l.foldl insN acc) := by
    intro l
    induction l with
    | nil => intro acc h; exact h
    | cons x r ih => intro acc h; exact ih _ (insN_sorted h x)
  exact this l [] List.Pairwise.nil
/-- What the reference's OpsOf makes. -/
def opsR (key : ByteArray) (l : List ComV) : List Dn := ofKind (sortR ((onceA l).filter fun x => decide (x.o.key = key)))
theorem opsR_isOps (key : ByteArray) (l : List ComV) : IsOps key l (opsR key l) := ⟨_, ⟨sortR_perm _, sortR_sorted _⟩, rfl⟩
/-! ### live -/
theorem addStep_other (ds : List Dn) : ∀ (M : D3 → Option ByteArray) (d : D3), (∀ z ∈ ds, z.dot ≠ d) → (ds.foldl addStep M) d = M d := by
  induction ds with
  | nil => intro M d _; rfl
  | cons y r ih =>
    intro M d h
    rw [List.foldl_cons, ih _ d (fun z hz => h z (List.mem_cons_of_mem _ hz))]
    unfold addStep
    split
    · rfl
    · unfold upd
      rw [if_neg (fun e => h y (List.mem_cons_self ..) e.symm)]
theorem addStep_at (ds : List Dn) (hd : ds.Pairwise (fun x y => x.dot ≠ y.dot)) : ∀ (M : D3 → Option ByteArray), ∀ x ∈ ds, (ds.foldl addStep M) x.dot = if x.o.rem = true then M x.dot else some x.o.text := by
  induction ds with
  | nil => intro M x hx; simp at hx
  | cons y r ih =>
    intro M x hx
    have hd' := List.pairwise_cons.1 hd
    rw [List.foldl_cons]
    rcases List.mem_cons.1 hx with rfl | hx
    · rw [addStep_other r _ _ (fun z hz => (hd'.1 z hz).symm)]
      unfold addStep
      split
      · rfl
      · unfold upd
        rw [if_pos rfl]
    · rw [ih hd'.2 _ x hx]
      split
      · unfold addStep
        split
        · rfl
        · unfold upd
          rw [if_neg (hd'.1 x hx).symm]
      · rfl
theorem delFold (t : ByteArray) (ds : List D3) : ∀ (M : D3 → Option ByteArray) (d : D3), (ds.foldl (delStep t) M) d = if d ∈ ds ∧ (M d).getD ByteArray.empty = t then none else M d := by
  induction ds with
  | nil => intro M d; simp
  | cons e r ih =>
    intro M d
    rw [List.foldl_cons, ih]
    by_cases he : d = e
    · subst he
      by_cases ht : (M d).getD ByteArray.empty = t
      · have h1 : delStep t M d d = none := by
          unfold delStep
          rw [if_pos ht]
          unfold upd
          rw [if_pos rfl]
        rw [h1]
        rw [if_pos (c := d ∈ d :: r ∧ (M d).getD ByteArray.empty = t) ⟨List.mem_cons_self .., ht⟩]
        split <;> rfl
      · have h1 : delStep t M d d = M d := by
          unfold delStep
          rw [if_neg ht]
        rw [h1, if_neg (fun h => ht h.2), if_neg (fun h => ht h.2)]
    · have h1 : delStep t M e d = M d := by
        unfold delStep
        split
        · unfold upd
          rw [if_neg he]
        · rfl
      rw [h1]
      have : d ∈ e :: r ↔ d ∈ r := by rw [List.mem_cons]; exact ⟨fun h => h.resolve_left he, .inr⟩
      simp only [this]
theorem remFold (ds : List Dn) : ∀ (M : D3 → Option ByteArray) (d : D3), (ds.foldl remStep M) d = if ∃ y ∈ ds, d ∈ y.o.dots ∧ (M d).getD ByteArray.empty = y.o.text then none else M d := by
  induction ds with
  | nil => intro M d; simp
  | cons y r ih =>
    intro M d
    rw [List.foldl_cons, ih]
    have h1 : remStep M y d = if d ∈ y.o.dots ∧ (M d).getD ByteArray.empty = y.o.text then none else M d := delFold _ _ _ _
    by_cases hy : d ∈ y.o.dots ∧ (M d).getD ByteArray.empty = y.o.text
    · rw [h1, if_pos hy, if_pos (c := ∃ z ∈ y :: r, d ∈ z.o.dots ∧ (M d).getD ByteArray.empty = z.o.text) ⟨y, List.mem_cons_self .., hy⟩]
      split <;> rfl
    · rw [h1, if_neg hy]
      by_cases hr : ∃ z ∈ r, d ∈ z.o.dots ∧ (M d).getD ByteArray.empty = z.o.text
      · obtain ⟨z, hz, h⟩ := hr
        rw [if_pos ⟨z, hz, h⟩, if_pos ⟨z, List.mem_cons_of_mem _ hz, h⟩]
      · rw [if_neg hr, if_neg (fun ⟨z, hz, h⟩ => by
          rcases List.mem_cons.1 hz with rfl | hz
          · exact hy h
          · exact hr ⟨z, hz, h⟩)]
/-- An op that adds is not removed by any. -/
def liveB (ds : List Dn) (x : Dn) : Bool := !x.o.rem && !(ds.any fun y => y.o.rem && (decide (y.o.text = x.o.text) && decide (x.dot ∈ y.o.dots)))
theorem live_final {ds : List Dn} (hd : ds.Pairwise (fun x y => x.dot ≠ y.dot)) (hr : ∀ y ∈ ds, y.o.rem = false → y.o.dots = []) : ∀ x ∈ ds, (finalMap ds x.dot).isSome = liveB ds x := by
  intro x hx
  unfold finalMap liveB
  rw [remFold, addStep_at ds hd _ x hx]
  cases hrem : x.o.rem with
  | true => simp
  | false =>
    simp only [Bool.false_eq_true, if_false, Option.getD_some]
    by_cases hy : ∃ y ∈ ds, x.dot ∈ y.o.dots ∧ x.o.text = y.o.text
    · rw [if_pos hy]
      obtain ⟨y, hym, h1, h2⟩ := hy
      have hyr : y.o.rem = true := by
        cases h : y.o.rem with
        | true => rfl
        | false => rw [hr y hym h] at h1; simp at h1
      have : (ds.any fun y => y.o.rem && (decide (y.o.text = x.o.text) && decide (x.dot ∈ y.o.dots))) = true := List.any_eq_true.2 ⟨y, hym, by simp [hyr, h2, h1]⟩
      rw [this]
      rfl
    · rw [if_neg hy]
      have : (ds.any fun y => y.o.rem && (decide (y.o.text = x.o.text) && decide (x.dot ∈ y.o.dots))) = false := List.any_eq_false.2 fun y hym h => hy ⟨y, hym, by
        simp only [Bool.and_eq_true, decide_eq_true_eq] at h
        exact ⟨h.2.2, h.2.1.symm⟩⟩
      rw [this]
      rfl
end Go.Proofs.YtngjooemanapnaaGreatDoor
