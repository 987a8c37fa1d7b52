/- The reference's CutsOf: what it goes on, step by step; Events that the law copies: what stays where other blocks turn. -/
import Derived.Test.YtngjooemanapnaaGreatDoorJJR2
import Derived.Test.YtngjooemanapnaaGreatDoorJVOwns
import Derived.Test.YtngjooemanapnaaGreatDoorJVRowT
namespace Go.Proofs.YtngjooemanapnaaGreatDoor
open Go.RowKit Go.Sort Go.Maps
set_option maxRecDepth 100000
set_option linter.unusedSectionVars false
variable [Inhabited ComV] [DecidableEq D3] [Inhabited D3] [Inhabited Dd] [Inhabited Dn] [Inhabited OpV]

theorem ret_cuts (w : World) (tmps : Array Value) (g : Nat) (v a b : Value) (h2 : tmps[2]?.getD undef = v) (h3 : tmps[3]?.getD undef = .pointer (some ⟨g, 0, none⟩)) (hc : w.cell? ⟨g, 0, none⟩ = some a ∧ w.cell? ⟨g, 1, none⟩ = some b) :
    (results Tryz.f15 tmps).run Tryz.prog w = .ok (.tuple #[v, .agg #[a, b]]) w := by
  have hl := run_loadCellsFrom_list Tryz.prog w ⟨g, 0, none⟩ [a, b] 2 rfl (fun j v hj => by
    obtain ⟨h1, h2⟩ := List.getElem?_eq_some_iff.1 hj
    rw [Addr.add_lit, Nat.zero_add]
    have h1' : j < 2 := h1
    rcases (by omega : j = 0 ∨ j = 1) with rfl | rfl
    · rw [hc.1, ← h2]; rfl
    · rw [hc.2, ← h2]; rfl)
  simp [results, Tryz.results15, h2, h3, asAddr, loadVar, loadCells, Tryz.isAgg32, Tryz.sizeOf32, hl, Result.andThen]
/-- Those of the first k that are in no round and wait for none. -/
def nowK (n : Nat) (R : Nat → Nat → Bool) (P : Nat → Bool) (k : Nat) : List Nat := (List.range k).filter fun b => !P b && (List.range n).all fun a => !R a b || P a
theorem nowK_all (n : Nat) (R : Nat → Nat → Bool) (P : Nat → Bool) : nowK n R P n = nowL n R P := rfl
theorem nowK_succ (n : Nat) (R : Nat → Nat → Bool) (P : Nat → Bool) (k : Nat) : nowK n R P (k + 1) = nowK n R P k ++ if (!P k && (List.range n).all fun a => !R a k || P a) = true then [k] else [] := by
  unfold nowK
  rw [List.range_succ, List.filter_append]
  congr 1
  rw [List.filter_cons, List.filter_nil]
theorem nowK_len (n : Nat) (R : Nat → Nat → Bool) (P : Nat → Bool) (k : Nat) : (nowK n R P k).length ≤ k := by
  unfold nowK
  exact Nat.le_trans (List.length_filter_le _ _) (by simp)
/-- Is it free, as far as the first k tell? -/
def freeJ (R : Nat → Nat → Bool) (P : Nat → Bool) (i k : Nat) : Bool := (List.range k).all fun a => !R a i || P a
theorem freeJ_succ (R : Nat → Nat → Bool) (P : Nat → Bool) (i k : Nat) : freeJ R P i (k + 1) = (freeJ R P i k && (!R k i || P k)) := by
  unfold freeJ
  rw [List.range_succ, List.all_append]
  simp
/-- Who is in a round? -/
def inP (f : Nat → Int) : Nat → Bool := fun t => decide (0 ≤ f t)
theorem inP_none : inP (fun _ => -1) = fun _ => false := by funext t; rfl
/-- The numbers ts are in round N now. -/
def putF (f : Nat → Int) (N : Nat) (ts : List Nat) : Nat → Int := fun t => if t ∈ ts then (N : Int) else f t
theorem inP_put (n : Nat) (R : Nat → Nat → Bool) (f : Nat → Int) (N : Nat) : inP (putF f N (nowL n R (inP f))) = laidL n R (inP f) := by
  funext t
  unfold inP putF laidL
  by_cases h : t ∈ nowL n R (inP f)
  · have h' : t ∈ nowL n R (fun t => decide (0 ≤ f t)) := h
    rw [if_pos h', decide_eq_true h', Bool.or_true, decide_eq_true]
    omega
  · have h' : ¬ t ∈ nowL n R (fun t => decide (0 ≤ f t)) := h
    rw [if_neg h', decide_eq_false h', Bool.or_false]
theorem putF_nil (f : Nat → Int) (N : Nat) : putF f N [] = f := by
  funext t
  unfold putF
  rw [if_neg (by simp)]
theorem putF_snoc (f : Nat → Int) (N : Nat) (ts : List Nat) (a : Nat) : putF f N (ts ++ [a]) = fun t => if t = a then (N : Int) else putF f N ts t := by
  funext t
  unfold putF
  by_cases h : t = a
  · rw [if_pos h, if_pos (by rw [h]; simp)]
  · rw [if_neg h]
    by_cases q : t ∈ ts
    · rw [if_pos q, if_pos (by simp [q])]
    · rw [if_neg q, if_neg (by simp [q, h])]
/-- All vectors can be held against one another. -/
def CutOk (l : List EvV) : Prop := ∀ a ∈ l, ∀ b ∈ l, two a.c.when_ b.at_ = 0
theorem cutOk_of {l : List EvV} (h : (cutE l).1 = 0) : CutOk l := fun a ha b hb => by
  have g : ∀ e ∈ l, two e.c.when_ e.at_ = 0 ∧ e.at_.length = (l.getD 0 ev0).at_.length := fun e he => by
    obtain ⟨i, hi, rfl⟩ := mem_getD he
    have := scan_zero h i hi
    unfold cutB at this
    by_cases q : two (l.getD i ev0).c.when_ (l.getD i ev0).at_ = 0
    · refine ⟨q, ?_⟩
      rw [if_neg (fun x => x q)] at this
      by_cases z : (l.getD i ev0).at_.length = (l.getD 0 ev0).at_.length
      · exact z
      · rw [if_pos z] at this
        cases this
    · rw [if_pos q] at this
      exact absurd ((two_toNat _ _).1 this) q
  obtain ⟨h1, h2⟩ := g a ha
  obtain ⟨h3, h4⟩ := g b hb
  obtain ⟨k1, k2, k3⟩ := two_zero.1 h1
  obtain ⟨m1, m2, m3⟩ := two_zero.1 h3
  exact two_zero.2 ⟨k1, m2, by omega⟩
theorem in13c (wq : World) (l : List EvV) (hW : CutOk l) (hf : ∀ e ∈ l, EvFit e) (u : World) (hu : Below wq.heap.size wq u) (a b : EvV) (ha : a ∈ l) (hb : b ∈ l) (wv av : Value) (hw : IntsAt wq wv a.c.when_) (hat : IntsAt wq av b.at_) :
    Calls Tryz.prog 13 #[wv, av] u fun r w' => r = .returned (.bool (inB a.c.when_ b.at_)) ∧ ∃ q, w' = u.drewN q := by
  have h := hW a ha b hb
  rw [inB_of h]
  obtain ⟨h1, _, h3⟩ := two_zero.1 h
  exact in_any u wv av _ _ (hw.mono hu (Nat.le_refl _)) (hat.mono hu (Nat.le_refl _)) h3 (chk_zero.1 h1).1 (hf a ha).com.1
/-- Where the outer loop stands. -/
structure RcI (n : Nat) (R : Nat → Nat → Bool) (C : List (List Nat) × Bool) (w w1 : World) (rb N left : Nat) (xv : Value) (wr : World) (f : Nat → Int) (tss : List (List Nat)) (vs : List Value) (g : Nat) : Prop where
  cuts : cutsL n R g (inP f) tss = C
  fuel : left < g
  left_ : left = leftL' n (inP f)
  row : wr.ownsRow (rb + 1) 38 1 xv vs.length vs
  rounds : F2 (RoundAt (rb + 1) wr) vs tss
  rnd : RowI wr rb n f
  lo : ∀ t, t < n → -1 ≤ f t
  hi : ∀ t, t < n → f t < N
  below : Below (w.heap.size + 1) w1 wr
  len : vs.length + left ≤ n
  num : N + left ≤ n
def RcRet (l : List EvV) (w : World) (r : Ending) (w' : World) : Prop := ∃ tv, r = .returned (.tuple #[tv, .agg #[.int .i64 (((cutsE l).1 : Nat) : Int), .int .i64 (faultAt (cutsE l).2)]]) ∧ TssAt w' tv (cutsT l) ∧ Below w.heap.size w w'
end Go.Proofs.YtngjooemanapnaaGreatDoor
namespace Go.Proofs.YtngjooemanapnaaGreatDoor
open Go.RowKit Go.Sort Go.Maps
set_option maxRecDepth 100000
set_option linter.unusedSectionVars false
variable [Inhabited ComV] [DecidableEq D3] [Inhabited D3] [Inhabited Dd] [Inhabited Dn] [Inhabited OpV]

/-- Blocks of what an event's copy reads from stay. -/
structure Keep5 (w w' : World) : Prop where
  three : Keep3 w w'
  sns : KeepT 70 w w'
  strs : KeepT 9 w w'
theorem keepT_below {w w' : World} {B : Nat} (h : Below B w w') (hB : w.heap.size ≤ B) (t : TypeId) : KeepT t w w' := fun b _ hb => h.block b (Nat.lt_of_lt_of_le (lt_of_heap hb) hB)
theorem Keep5.of_below {w w' : World} {B : Nat} (h : Below B w w') (hB : w.heap.size ≤ B) : Keep5 w w' := ⟨Keep3.of_below h hB, keepT_below h hB 70, keepT_below h hB 9⟩
theorem keepT_grown {w w' : World} {base e size n : Nat} {v : Value} {xs : List Value} (hr : w.ownsRow base e size v n xs) (hg : w.grownBy w' v.ownBlock) (t : TypeId) (ht : t ≠ e) : KeepT t w w' := fun b cs hb => hg.block b (lt_of_heap hb) fun x => by
  obtain ⟨cs', h'⟩ := own_type hr x.symm
  rw [hb] at h'
  injection h' with h'
  injection h' with _ h'
  exact ht h'
theorem keepT_set {w : World} {b : Nat} {cs : Array Value} {t : TypeId} (h : w.heap[b]? = some (.cells cs t (0, 0))) (t' : TypeId) (ht : t' ≠ t) {w' : World} (hw : ∀ i, i ≠ b → w'.heap[i]? = w.heap[i]?) : KeepT t' w w' := fun i cs' hi => hw i fun x => by
  rw [x, h] at hi
  injection hi with hi
  injection hi with _ hi
  exact ht hi.symm
theorem keep3_set {w : World} {b : Nat} {cs : Array Value} {t : TypeId} (h : w.heap[b]? = some (.cells cs t (0, 0))) (h1 : 3 ≠ t) (h2 : 80 ≠ t) (h3 : 132 ≠ t) {w' : World} (hw : ∀ i, i ≠ b → w'.heap[i]? = w.heap[i]?) : Keep3 w w' := ⟨keepT_set h 3 h1 hw, keepT_set h 80 h2 hw, keepT_set h 132 h3 hw⟩
theorem StrsT.x {w : World} {v : Value} {ss : List (List UInt8)} (h : RowT 9 1 w v (ss.map fun s => [encStr s])) : StrsX w v ss := by
  obtain ⟨ad, cap, rfl, h1, h2, h3⟩ := h
  refine ⟨ad, cap, by rw [List.length_map], ?_⟩
  rcases h3 with h3 | ⟨b, off, cs, rfl, hh, h3⟩
  · exact .inl (by simpa using h3)
  · refine .inr ⟨b, off, rfl, fun t ht => ?_⟩
    have := (h3 t [encStr ss[t]!] (by rw [List.getElem?_map, List.getElem?_eq_getElem ht, getElem!_pos ss t ht]; rfl)).2 0 _ rfl
    rw [Nat.mul_one, Nat.add_zero] at this
    simp only [World.cell?, hh]
    rw [this]
    simp
theorem flatS (ss : List (List UInt8)) : (ss.map fun s => [encStr s]).flatten = ss.map encStr := by
  induction ss with
  | nil => rfl
  | cons z r ih => rw [List.map_cons, List.flatten_cons, ih]; rfl
theorem strsT_of_owns {w : World} {base : Nat} {v : Value} {ss : List (List UInt8)} (h : w.ownsRow base 9 1 v ss.length (ss.map encStr)) : RowT 9 1 w v (ss.map fun s => [encStr s]) := by
  refine rowT_of_owns (base := base) (n := ss.length) ?_ (by simp) (fun r hr => by obtain ⟨z, _, rfl⟩ := List.mem_map.1 hr; rfl)
  rw [flatS]
  exact h
/-- What was read, copied. -/
def SnT (w : World) (cs : List Value) (r : SnV) : Prop := ∃ sv, cs = [.string r.key, .int .i64 r.v.kind, .string r.v.text, .int .i64 r.v.n, sv] ∧ RowT 9 1 w sv (r.v.set.map fun s => [encStr s])
def SnsT (w : World) (v : Value) (rs : List SnV) : Prop := ∃ rows, RowT 70 5 w v rows ∧ F2 (SnT w) rows rs
/-- An event, copied. -/
def EvT (w : World) (cs : List Value) (e : EvV) : Prop := ∃ av rv wv ov, cs = evCells e av rv wv ov ∧ IntsT w av e.at_ ∧ SnsT w rv e.reads ∧ ComT w [wv, .int .i64 e.c.place, ov] e.c
theorem SnT.kept {w w' : World} {cs : List Value} {r : SnV} (h : SnT w cs r) (hk : KeepT 9 w w') : SnT w' cs r := let ⟨sv, h1, h2⟩ := h; ⟨sv, h1, RowT.kept h2 hk⟩
theorem SnsT.kept {w w' : World} {v : Value} {rs : List SnV} (h : SnsT w v rs) (hk : Keep5 w w') : SnsT w' v rs := let ⟨rows, h1, h2⟩ := h; ⟨rows, h1.kept hk.sns, f2_mono (fun _ _ h => h.kept hk.strs) h2⟩
theorem EvT.kept {w w' : World} {cs : List Value} {e : EvV} (h : EvT w cs e) (hk : Keep5 w w') : EvT w' cs e :=
  let ⟨a, r, c, o, h1, h2, h3, h4⟩ := h; ⟨a, r, c, o, h1, RowT.kept h2 hk.three.ints, h3.kept hk, h4.kept hk.three⟩
theorem EvT.row {w : World} {cs : List Value} {e : EvV} (h : EvT w cs e) : EvRow w cs e := by
  obtain ⟨a, r, c, o, h1, h2, ⟨rows, h3, h4⟩, h5⟩ := h
  obtain ⟨c', o', he, h6, h7⟩ := h5
  injection he with e1 e2
  injection e2 with _ e2
  injection e2 with e2
  subst e1 e2
  exact ⟨a, r, c, o, h1, ⟨h2.at, h6.at, h7.at⟩, rows, h3.at, f2_mono (fun _ _ ⟨sv, x1, x2⟩ => ⟨sv, x1, StrsT.x x2⟩) h4⟩
theorem f2_len7 {w : World} : ∀ {rows : List (List Value)} {l : List EvV}, F2 (EvT w) rows l → ∀ r ∈ rows, r.length = 7
  | [], [], _, r, hr => by simp at hr
  | _ :: _, _ :: _, ⟨h1, h2⟩, r, hr => by
    rcases List.mem_cons.1 hr with rfl | hr
    · obtain ⟨_, _, _, _, rfl, _⟩ := h1
      rfl
    · exact f2_len7 h2 r hr
theorem f2_len5 {w : World} : ∀ {rows : List (List Value)} {l : List SnV}, F2 (SnT w) rows l → ∀ r ∈ rows, r.length = 5
  | [], [], _, r, hr => by simp at hr
  | _ :: _, _ :: _, ⟨h1, h2⟩, r, hr => by
    rcases List.mem_cons.1 hr with rfl | hr
    · obtain ⟨_, rfl, _⟩ := h1
      rfl
    · exact f2_len5 h2 r hr
theorem evs_of_owns {w : World} {base n : Nat} {v : Value} {rows : List (List Value)} {l : List EvV} (h : w.ownsRow base 69 7 v n rows.flatten) (hn : n = l.length) (hf : F2 (EvT w) rows l) : EvsAt w v l :=
  ⟨rows, rowAt_of_owns h (by rw [hn, f2_len hf]) (f2_len7 hf), f2_mono (fun _ _ h => h.row) hf⟩
/-- Seven cells, stored one by one. -/
theorem set7 {w : World} {b : Nat} {cs : Array Value} {t : TypeId} (h : w.heap[b]? = some (.cells cs t (0, 0))) (hc : cs.size = 7) (v0 v1 v2 v3 v4 v5 v6 : Value) : (w.setCells b 0 [v0, v1, v2, v3, v4, v5, v6]).heap[b]? = some (.cells #[v0, v1, v2, v3, v4, v5, v6] t (0, 0)) := by
  have e : w.setCells b 0 [v0, v1, v2, v3, v4, v5, v6] = ((((((w.setCell ⟨b, 0, none⟩ v0).setCell ⟨b, 1, none⟩ v1).setCell ⟨b, 2, none⟩ v2).setCell ⟨b, 3, none⟩ v3).setCell ⟨b, 4, none⟩ v4).setCell ⟨b, 5, none⟩ v5).setCell ⟨b, 6, none⟩ v6 := rfl
  rw [e, heap_set (heap_set (heap_set (heap_set (heap_set (heap_set (heap_set h v0) v1) v2) v3) v4) v5) v6]
  obtain ⟨cs⟩ := cs
  match cs, hc with
  | [_, _, _, _, _, _, _], _ => simp
theorem set_else {b : Nat} : ∀ (vs : List Value) (o : Nat) (w : World) (i : Nat), i ≠ b → (w.setCells b o vs).heap[i]? = w.heap[i]?
  | [], _, _, _, _ => rfl
  | v :: r, o, w, i, hi => by
    show ((w.setCell ⟨b, o, none⟩ v).setCells b (o + 1) r).heap[i]? = _
    rw [set_else r (o + 1) _ i hi]
    exact Below.heap_setCell _ _ _ _ hi
/-- Where the copy of one event stands: k of what was read are copied. -/
structure EcI (wo : World) (xc : Array Value) (xb E : Nat) (e : EvV) (av wv ov rv : Value) (zs : List Int) (k : Nat) (rows : List (List Value)) (wr : World) : Prop where
  below : Below wo.heap.size wo wr
  xlo : wo.heap.size ≤ xb
  elo : wo.heap.size ≤ E
  box : wr.heap[xb]? = some (.cells xc 44 (0, 0))
  out : wr.heap[E]? = some (.cells #[.int .i64 e.ses, .int .i64 e.place, av, rv, wv, .int .i64 e.c.place, ov] 69 (0, 0))
  at_ : IntsT wr av zs
  com : ComT wr [wv, .int .i64 e.c.place, ov] e.c
  row : wr.ownsRow wo.heap.size 70 5 rv k rows.flatten
  sns : F2 (SnT wr) rows (e.reads.take k)
theorem EcI.moved {wo wr w' : World} {xc : Array Value} {xb E : Nat} {e : EvV} {av wv ov rv : Value} {zs : List Int} {k : Nat} {rows : List (List Value)} (h : EcI wo xc xb E e av wv ov rv zs k rows wr) (hb : Below wr.heap.size wr w') : EcI wo xc xb E e av wv ov rv zs k rows w' :=
  have hk := Keep5.of_below hb (Nat.le_refl _)
  { below := h.below.trans (hb.mono h.below.size)
    xlo := h.xlo
    elo := h.elo
    box := (hb.block _ (lt_of_heap h.box)).trans h.box
    out := (hb.block _ (lt_of_heap h.out)).trans h.out
    at_ := RowT.kept h.at_ hk.three.ints
    com := h.com.kept hk.three
    row := owns_below h.row fun b _ hc => hb.block b (lt_of_heap hc)
    sns := f2_mono (fun _ _ x => x.kept hk.strs) h.sns }
/-- The vector is copied. -/
theorem EcI.vec {wo wr w1 : World} {xc : Array Value} {xb E : Nat} {e : EvV} {wv ov av' : Value} (h : EcI wo xc xb E e (.slice none 0 0) wv ov (.slice none 0 0) [] 0 [] wr) (hg : wr.grownBy w1 none) (hr : w1.ownsRow wo.heap.size 3 1 av' e.at_.length (e.at_.map (Value.int .i64))) : EcI wo xc xb E e av' wv ov (.slice none 0 0) e.at_ 0 [] (w1.setCell ⟨E, 2, none⟩ av') := by
  have h1 : Below wr.heap.size wr w1 := ⟨hg.os, hg.tape, hg.output, hg.size, fun i hi => hg.block i hi (by simp)⟩
  have m := h.moved h1
  have hs : ∀ i : Nat, i ≠ E → (w1.setCell ⟨E, 2, none⟩ av').heap[i]? = w1.heap[i]? := fun i hi => Below.heap_setCell _ _ _ _ hi
  have hne : xb ≠ E := fun x => by
    have := m.box
    rw [x, m.out] at this
    injection this with this
    injection this with _ this
    cases this
  have hk : Keep3 w1 (w1.setCell ⟨E, 2, none⟩ av') := keep3_set m.out (by decide) (by decide) (by decide) hs
  exact
    { below := m.below.setCell (p := ⟨E, 2, none⟩) m.elo _
      xlo := m.xlo
      elo := m.elo
      box := (hs _ hne).trans m.box
      out := (heap_set m.out _).trans rfl
      at_ := RowT.kept (intsT_of_owns hr) hk.ints
      com := m.com.kept hk
      row := World.ownsRow_nil _ _ _ _
      sns := trivial }
/-- One more of what was read is copied. -/
theorem EcI.step {wo wr w1 : World} {xc : Array Value} {xb E : Nat} {e : EvV} {av wv ov rv rv' : Value} {zs : List Int} {k : Nat} {rows : List (List Value)} {r : List Value} {s : SnV} (h : EcI wo xc xb E e av wv ov rv zs k rows wr) (hk : k < e.reads.length) (hs : e.reads[k] = s) (hr : SnT wr r s) (hg : wr.grownBy w1 rv.ownBlock) (hn : w1.ownsRow wo.heap.size 70 5 rv' (k + 1) (rows.flatten ++ r)) : EcI wo xc xb E e av wv ov rv' zs (k + 1) (rows ++ [r]) (w1.setCell ⟨E, 3, none⟩ rv') := by
  have hq : ∀ (t : TypeId), t ≠ 70 → ∀ (b : Nat) (cs : Array Value), wr.heap[b]? = some (.cells cs t (0, 0)) → w1.heap[b]? = some (.cells cs t (0, 0)) := fun t ht b cs hb => (keepT_grown h.row hg t ht b cs hb).trans hb
  have hE := hq 69 (by decide) _ _ h.out
  have hsc : ∀ i : Nat, i ≠ E → (w1.setCell ⟨E, 3, none⟩ rv').heap[i]? = w1.heap[i]? := fun i hi => Below.heap_setCell _ _ _ _ hi
  have hne : xb ≠ E := fun x => by
    have := h.box
    rw [x, h.out] at this
    injection this with this
    injection this with _ this
    cases this
  have k1 : ∀ t : TypeId, t ≠ 70 → t ≠ 69 → KeepT t wr (w1.setCell ⟨E, 3, none⟩ rv') := fun t h1 h2 b cs hb => (keepT_set hE t h2 hsc b cs (hq t h1 b cs hb)).trans (keepT_grown h.row hg t h1 b cs hb)
  have k3 : Keep3 wr (w1.setCell ⟨E, 3, none⟩ rv') := ⟨k1 3 (by decide) (by decide), k1 80 (by decide) (by decide), k1 132 (by decide) (by decide)⟩
  have hlo := fun b hb => (h.row.lt b hb).1
  exact
    { below := (show Below wo.heap.size wo w1 from ⟨hg.os.trans h.below.os, hg.tape.trans h.below.tape, hg.output.trans h.below.output, Nat.le_trans h.below.size hg.size, fun i hi => (hg.block i (Nat.lt_of_lt_of_le hi h.below.size) fun x => by have := hlo i x.symm; omega).trans (h.below.block i hi)⟩).setCell (p := ⟨E, 3, none⟩) h.elo _
      xlo := h.xlo
      elo := h.elo
      box := (hsc _ hne).trans (hq 44 (by decide) _ _ h.box)
      out := (heap_set hE _).trans rfl
      at_ := RowT.kept h.at_ k3.ints
      com := h.com.kept k3
      row := by
        have : w1.ownsRow wo.heap.size 70 5 rv' (k + 1) (rows ++ [r]).flatten := by simpa using hn
        exact owns_below this (keepT_set hE 70 (by decide) hsc)
      sns := by
        rw [List.take_succ_eq_append_getElem hk, hs]
        exact f2_append (f2_mono (fun _ _ x => x.kept (k1 9 (by decide) (by decide))) h.sns) (hr.kept (k1 9 (by decide) (by decide))) }
/-- All is copied. -/
theorem EcI.all {wo wr : World} {xc : Array Value} {xb E : Nat} {e : EvV} {av wv ov rv : Value} {rows : List (List Value)} (h : EcI wo xc xb E e av wv ov rv e.at_ e.reads.length rows wr) : EvT wr (evCells e av rv wv ov) e := by
  have hs := h.sns
  rw [List.take_length] at hs
  exact ⟨av, rv, wv, ov, rfl, h.at_, ⟨rows, rowT_of_owns h.row (f2_len hs).symm (f2_len5 hs), hs⟩, h.com⟩
/-- The first i events are copied. -/
structure EsI (w : World) (l : List EvV) (v : Value) (rows : List (List Value)) (wr : World) : Prop where
  below : Below w.heap.size w wr
  row : wr.ownsRow w.heap.size 69 7 v l.length rows.flatten
  evs : F2 (EvT wr) rows l
theorem EsI.moved {w wr w' : World} {l : List EvV} {v : Value} {rows : List (List Value)} (h : EsI w l v rows wr) (hb : Below wr.heap.size wr w') : EsI w l v rows w' where
  below := h.below.trans (hb.mono h.below.size)
  row := owns_below h.row fun b _ hc => hb.block b (lt_of_heap hc)
  evs := f2_mono (fun _ _ h => h.kept (Keep5.of_below hb (Nat.le_refl _))) h.evs
theorem EsI.step {w wr w' : World} {l : List EvV} {v v' : Value} {rows : List (List Value)} {r : List Value} {e : EvV} (h : EsI w l v rows wr) (hc : EvT wr r e) (hg : wr.grownBy w' v.ownBlock) (hr : w'.ownsRow w.heap.size 69 7 v' (l.length + 1) (rows.flatten ++ r)) : EsI w (l ++ [e]) v' (rows ++ [r]) w' :=
  have hk : Keep5 wr w' := ⟨⟨keepT_grown h.row hg 3 (by decide), keepT_grown h.row hg 80 (by decide), keepT_grown h.row hg 132 (by decide)⟩, keepT_grown h.row hg 70 (by decide), keepT_grown h.row hg 9 (by decide)⟩
  { below := h.below.trans ⟨hg.os, hg.tape, hg.output, hg.size, fun i hi => hg.block i (Nat.lt_of_lt_of_le hi h.below.size) fun x => by have := (h.row.lt i x.symm).1; omega⟩
    row := by simpa using hr
    evs := f2_append (f2_mono (fun _ _ x => x.kept hk) h.evs) (hc.kept hk) }
end Go.Proofs.YtngjooemanapnaaGreatDoor
