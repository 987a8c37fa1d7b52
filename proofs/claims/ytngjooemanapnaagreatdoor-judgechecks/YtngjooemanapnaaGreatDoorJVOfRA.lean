/- inTurn: does an event see what its session did last?; Rising texts, each once; rising dots; the value that the reference makes: plain mathematics; The reference's ahead and lessDot by their contracts. -/
import Derived.Test.YtngjooemanapnaaGreatDoorJJF
import Derived.Test.YtngjooemanapnaaGreatDoorJVOfRM
import Derived.Test.YtngjooemanapnaaGreatDoorJVTurnM
import Derived.Test.YtngjooemanapnaaGreatDoorJVOf
import Derived.Test.YtngjooemanapnaaGreatDoorJVStandM
import Derived.Test.YtngjooemanapnaaGreatDoorJVOnceM
import Derived.Test.YtngjooemanapnaaGreatDoorJVCmpD
namespace Go.Proofs.YtngjooemanapnaaGreatDoor
open Go.RowKit Go.Maps Go.Shelf
set_option maxRecDepth 100000
set_option linter.unusedSectionVars false
variable [Inhabited ComV] [DecidableEq D3] [Inhabited D3] [Inhabited Dd] [Inhabited Dn] [Inhabited OpV]

/-- A value of the map, as it is. -/
def elemV : Value → Option (DataW Value × List MemPlace) := fun v => some (.held v, [])
/-- A Go int. -/
def n64 (k : Int) : Prop := -9223372036854775808 ≤ k ∧ k ≤ 9223372036854775807
theorem n64_wf {k : Int} (h : n64 k) : (Lit.int .i64 k).wf = true := by
  obtain ⟨h1, h2⟩ := h
  have e1 : IntKind.i64.min = -9223372036854775808 := rfl
  have e2 : IntKind.i64.max = 9223372036854775807 := rfl
  simp [Lit.wf, e1, e2]
  omega
theorem key_64 {k : Int} (h : n64 k) : keyOf Tryz.prog 3 (.int .i64 k) = some (.int .i64 k) := keyOf_int_mk Tryz.underlying3 (n64_wf h)
theorem keyed3 : Keyed Tryz.prog 3 := int_keyed Tryz.underlying3
theorem zero38 (w : World) : (zeroValue 38).run Tryz.prog w = .ok (.slice none 0 0) w := by kernel_rfl
theorem key_lit (k : Int) : WideAt.IsKeyLit (Lit.int .i64 k) := trivial
theorem lit_inj {a b : Int} (h : (Lit.int .i64 a) = .int .i64 b) : a = b := by
  injection h
/-- What is kept, by session. -/
def MapS (D : DataW Value) (M : Int → Option Value) : Prop := ∀ k, n64 k → Maps.has D (.int .i64 k) = (M k).isSome ∧ ∀ z, D.atKey (.int .i64 k) z = ((M k).map fun v => .held v).getD z
def updS (M : Int → Option Value) (k : Int) (x : Option Value) : Int → Option Value := fun j => if j = k then x else M j
theorem MapS.start : MapS (.map []) fun _ => none := fun _ _ => ⟨rfl, fun _ => rfl⟩
theorem MapS.put {D : DataW Value} {M : Int → Option Value} (h : MapS D M) (hD : IsMap D) (k : Int) (v : Value) : MapS (D.put (.int .i64 k) (.held v)) (updS M k (some v)) := fun j hj => by
  unfold updS
  by_cases q : j = k
  · subst q
    rw [if_pos rfl, has_put_same hD (key_lit _)]
    exact ⟨rfl, fun z => atKey_put_same hD (key_lit _) _ z⟩
  · rw [if_neg q, has_put_other (fun x => q (lit_inj x))]
    exact ⟨(h j hj).1, fun z => by rw [atKey_put_other (fun x => q (lit_inj x))]; exact (h j hj).2 z⟩
/-- The look-up, in whatever world that has the map as it is. -/
theorem lookS {w : World} {mb n : Nat} {D : DataW Value} {M : Int → Option Value} (hm : w.ownsMap Tryz.prog 3 elemV mb n D) (hM : MapS D M) {k : Int} (hk : n64 k) : (Instr.lookup 94 (.map (some mb)) (.int .i64 k) true).run Tryz.prog w = .ok (.tuple #[(M k).getD (.slice none 0 0), .bool (M k).isSome]) w := by
  obtain ⟨v, ps, hrun, hv⟩ := hm.look_ok keyed3 Tryz.underlying94 (zero38 _) (zd := .held (.slice none 0 0)) (zp := []) rfl (key_64 hk)
  have h2 := (hM k hk).2 (.held (.slice none 0 0))
  unfold elemV at hv
  have h3 := (congrArg Prod.fst (Option.some.inj hv)).trans h2
  rw [hrun, (hM k hk).1]
  cases hq : M k with
  | none =>
    rw [hq] at h3
    injection h3 with h3
    rw [h3]
    rfl
  | some u =>
    rw [hq] at h3
    injection h3 with h3
    rw [h3]
    rfl
/-- What inTurn keeps: behind the events l. -/
structure TurnI (wq w : World) (cb mb n : Nat) (l : List EvV) : Prop where
  cell : w.heap[cb]? = some (.cells #[.map (some mb)] 94 (0, 0))
  map : ∃ D M, w.ownsMap Tryz.prog 3 elemV mb n D ∧ MapS D M ∧ ∀ s, n64 s → (doneL s l = none ∧ M s = none ∨ ∃ zs v, doneL s l = some zs ∧ M s = some v ∧ IntsAt wq v zs)
theorem TurnI.mlt {wq w : World} {cb mb n : Nat} {l : List EvV} (h : TurnI wq w cb mb n l) : mb < w.heap.size := by obtain ⟨D, M, hm, _⟩ := h.map; exact hm.lt
theorem TurnI.stay {wq w u : World} {cb mb n : Nat} {l : List EvV} (h : TurnI wq w cb mb n l) (hb : Below w.heap.size w u) : TurnI wq u cb mb n l := by
  obtain ⟨D, M, ⟨es, clock, q, r⟩, hM⟩ := h.map
  exact ⟨(hb.block _ (lt_of_heap h.cell)).trans h.cell, D, M, ⟨es, clock, (hb.block _ (lt_of_heap q)).trans q, r⟩, hM⟩
/-- Only block mb has turned. -/
def OnlyB (mb : Nat) (w w' : World) : Prop := w'.os = w.os ∧ w'.tape = w.tape ∧ w'.output = w.output ∧ w.heap.size ≤ w'.heap.size ∧ ∀ q, q < w.heap.size → q ≠ mb → w'.heap[q]? = w.heap[q]?
theorem OnlyB.below {mb B : Nat} {wq w w' : World} (h : OnlyB mb w w') (hB : B ≤ mb) (hb : Below B wq w) (hs : B ≤ w.heap.size) : Below B wq w' := by
  obtain ⟨h1, h2, h3, h4, h5⟩ := h
  exact ⟨h1.trans hb.os, h2.trans hb.tape, h3.trans hb.output, Nat.le_trans hb.size h4, fun q hq => (h5 q (by omega) (by omega)).trans (hb.block q hq)⟩
theorem OnlyB.of {mb : Nat} {w w' : World} (h : Below w.heap.size w w') : OnlyB mb w w' := ⟨h.os, h.tape, h.output, h.size, fun q hq _ => h.block q hq⟩
theorem OnlyB.trans {mb : Nat} {w w' w'' : World} (h : OnlyB mb w w') (g : OnlyB mb w' w'') : OnlyB mb w w'' :=
  ⟨g.1.trans h.1, g.2.1.trans h.2.1, g.2.2.1.trans h.2.2.1, Nat.le_trans h.2.2.2.1 g.2.2.2.1, fun q hq hn => (g.2.2.2.2 q (Nat.lt_of_lt_of_le hq h.2.2.2.1) hn).trans (h.2.2.2.2 q hq hn)⟩
theorem OnlyB.grown {mb : Nat} {w w' : World} (h : w.grownBy w' (some mb)) : OnlyB mb w w' := ⟨h.os, h.tape, h.output, h.size, fun q hq hn => h.block q hq fun e => hn (Option.some.inj e)⟩
def turnOk (zs : Option (List Int)) (at_ : List Int) : Bool := match zs with | none => true | some zs => inB zs at_
def TurnRet (A : Nat → Addr) (wq : World) (cb mb n : Nat) (l : List EvV) (e : EvV) (w : World) (r : Ending) (w' : World) : Prop := r = .returned (errV A (if turnOk (doneL e.ses l) e.at_ = false then 9 else 0)) ∧ TurnI wq w' cb mb (n + 1) (l ++ [e]) ∧ OnlyB mb w w'
set_option maxHeartbeats 4000000 in
theorem turn_any (A : Nat → Addr) (wq w : World) (hq : Below wq.heap.size wq w) (hE : E4 A w) (hold : w.cell? ⟨8, 0, none⟩ = some (.iface 223 (.pointer (some (A 8))))) (hs : 12 ≤ wq.heap.size) (cb mb n : Nat) (l : List EvV) (hT : TurnI wq w cb mb n l) (hcm : cb ≠ mb) (hmq : wq.heap.size ≤ mb) (hn : n ≤ 1000) (hd : ∀ s zs, doneL s l = some zs → zs.length ≤ 1000000) (e : EvV) (he64 : n64 e.ses) (av rv wv ov : Value) (he : EvAt wq e av wv ov) (hr : ∃ a n c, rv = .slice a n c) (hz : e.at_.length ≤ 1000000) :
    Calls Tryz.prog 45 #[.agg (evCells e av rv wv ov).toArray, .pointer (some ⟨cb, 0, none⟩)] w (TurnRet A wq cb mb n l e w) := by
  have hw12 : 12 ≤ w.heap.size := Nat.le_trans hs hq.size
  have hT1 := fun o => hT.stay (below_alloc w o)
  obtain ⟨D, M, hm, hM, hK⟩ := hT.map
  have hcl := lt_of_heap hT.cell
  have hml := hm.lt
  have hlook := fun o => lookS (hm.alloc o) hM he64
  have hcc : ∀ o, (w.alloc o).cell? ⟨cb, 0, none⟩ = some (.map (some mb)) := fun o => (cell_of (hT1 o).cell).trans rfl
  have hmo := fun o => hm.alloc o
  have hisD := hm.isMap
  have HM := hid hM
  have HK := hid hK
  have HT := hid hT
  have HE : Hid (∀ u, Below w.heap.size w u ∨ OnlyB mb w u → E4 A u ∧ u.cell? ⟨8, 0, none⟩ = some (.iface 223 (.pointer (some (A 8))))) := hid (by
    intro u hu
    have hb : Below wq.heap.size w u := by
      rcases hu with hu | hu
      · exact hu.mono hq.size
      · exact hu.below hmq (Below.refl _ _) hq.size
    exact ⟨hE.below hb hs, by rw [hb.cell (p := ⟨8, 0, none⟩) (by show 8 < _; omega)]; exact hold⟩)
  obtain ⟨aa, ac, wa, wc, oa, oc, rfl, rfl, rfl⟩ := evAt_shape he
  obtain ⟨ra, rn, rc, rfl⟩ := hr
  have KW : ∀ u zs v, Hid (OnlyB mb w u → IntsAt wq v zs → zs.length ≤ 1000000 → Calls Tryz.prog 44 #[v, .slice aa e.at_.length ac] u fun r w' => r = .returned (.bool (inB zs e.at_)) ∧ ∃ q, w' = u.drewN q) := fun u zs v => hid fun hu hv hl => by
    have hb : Below wq.heap.size wq u := hu.below hmq hq hq.size
    exact withinJ_any A u (HE.out u (.inr hu)).1 v _ zs e.at_ (hv.mono hb (Nat.le_refl _)) (he.at_.mono hb (Nat.le_refl _)) hl hz
  have HD := hid hd
  have HW := hid he.when_
  unfold TurnRet
  obtain ⟨e1, e2, e3, e4, ⟨e5, e6, e7⟩⟩ := e
  unfold evCells
  simp only at he64 hlook KW HW ⊢
  have hkey := key_64 he64
  have H64 := hid he64
  clear hT hT1 hm hM hK hE hold he hz hd he64
  have FIN : ∀ w1 : World, w1.ownsMap Tryz.prog 3 elemV mb (n + 1) (D.put (.int .i64 e1) (.held (.slice wa e5.length wc))) → (w.alloc (.cells #[.int .i64 e1, .int .i64 e2, .slice aa e3.length ac, .slice ra rn rc, .slice wa e5.length wc, .int .i64 e6, .slice oa e7.length oc] 69)).grownBy w1 (some mb) → Hid (TurnI wq w1 cb mb (n + 1) (l ++ [⟨e1, e2, e3, e4, ⟨e5, e6, e7⟩⟩]) ∧ OnlyB mb w w1 ∧ w1.heap[w.heap.size]? = some (.cells #[.int .i64 e1, .int .i64 e2, .slice aa e3.length ac, .slice ra rn rc, .slice wa e5.length wc, .int .i64 e6, .slice oa e7.length oc] 69 (0, 0))) := fun w1 hown1 hg1 => hid (by
    have hO : OnlyB mb w w1 := (OnlyB.of (below_alloc w _)).trans (OnlyB.grown hg1)
    refine ⟨⟨?_, _, _, hown1, HM.out.put hisD e1 (.slice wa e5.length wc), fun s hs => ?_⟩, hO, ?_⟩
    · exact (hO.2.2.2.2 _ hcl hcm).trans HT.out.cell
    · rw [doneL_snoc]
      unfold updS
      by_cases h : e1 = s
      · subst h
        rw [if_pos rfl, if_pos rfl]
        exact .inr ⟨_, _, rfl, rfl, HW.out⟩
      · rw [if_neg h, if_neg (fun x => h x.symm)]
        exact HK.out s hs
    · exact (hg1.block _ (by simp) (fun e => by have := Option.some.inj e; omega)).trans (heap_new w _))
  rcases HK.out e1 H64.out with ⟨q1, q2⟩ | ⟨zs, v, q1, q2, q3⟩
  · rw [q1]
    rw [q2] at hlook
    simp only [Option.getD_none, Option.isSome_none] at hlook
    clear q1 q2 HM HT HW KW HD
    go_enter Tryz.func45, Tryz.ntmps45
    go_wp2_with (at_mapUpdate; refine wpList_mapUpdate_own _ rfl _ _ _ 94 rfl 3 38 keyed3 Tryz.underlying94 elemV mb n D rfl (hmo _) ?hmx _ _ _ rfl rfl hkey _ [] rfl ?_; (case hmx => unfold maxLen; omega); intro w1 hown1 hgrow1; have F1 := FIN w1 hown1 hgrow1; clear hown1 hgrow1 hlook hmo)
    go_ret
    exact ⟨rfl, F1.out.1, F1.out.2.1⟩
  · rw [q1]
    rw [q2] at hlook
    simp only [Option.getD_some, Option.isSome_some] at hlook
    have hzl := HD.out e1 zs q1
    obtain ⟨va, vc, rfl⟩ := q3.slice
    have Q3 := hid q3
    clear q1 q2 q3 HM HT HW HD
    show Calls _ _ _ _ fun r w' => r = .returned (errV A (if inB zs e3 = false then 9 else 0)) ∧ TurnI wq w' cb mb (n + 1) _ ∧ OnlyB mb w w'
    obtain ⟨qb, hqb⟩ : ∃ q, q = inB zs e3 := ⟨_, rfl⟩
    rw [← hqb]
    have HQB := hid hqb
    clear hqb
    have e9 : errV A 9 = .iface 223 (.pointer (some (A 8))) := rfl
    cases qb with
    | true =>
      go_enter Tryz.func45, Tryz.ntmps45
      go_wp2_with (at_mapUpdate; refine wpList_mapUpdate_own _ rfl _ _ _ 94 rfl 3 38 keyed3 Tryz.underlying94 elemV mb n D rfl (hmo _) ?hmx _ _ _ rfl rfl hkey _ [] rfl ?_; (case hmx => unfold maxLen; omega); intro w1 hown1 hgrow1; have F1 := FIN w1 hown1 hgrow1; have K1 := hid ((KW w1 zs _).out F1.out.2.1 Q3.out hzl); have x2 : w1.cell? ⟨w.heap.size, 2, none⟩ = some (.slice aa e3.length ac) := (cell_of F1.out.2.2).trans rfl; clear hown1 hgrow1 hlook hmo)
      refine K1.out.mono ?_
      rintro r w2 ⟨rfl, q, rfl⟩
      rw [← HQB.out]
      clear K1
      go_wp2
      go_ret
      have hb := below_draws (Below.refl w1.heap.size w1) q
      exact ⟨rfl, F1.out.1.stay hb, F1.out.2.1.trans (OnlyB.of hb)⟩
    | false =>
      go_enter Tryz.func45, Tryz.ntmps45
      go_wp2_with (at_mapUpdate; refine wpList_mapUpdate_own _ rfl _ _ _ 94 rfl 3 38 keyed3 Tryz.underlying94 elemV mb n D rfl (hmo _) ?hmx _ _ _ rfl rfl hkey _ [] rfl ?_; (case hmx => unfold maxLen; omega); intro w1 hown1 hgrow1; have F1 := FIN w1 hown1 hgrow1; have K1 := hid ((KW w1 zs _).out F1.out.2.1 Q3.out hzl); have x2 : w1.cell? ⟨w.heap.size, 2, none⟩ = some (.slice aa e3.length ac) := (cell_of F1.out.2.2).trans rfl; clear hown1 hgrow1 hlook hmo)
      refine K1.out.mono ?_
      rintro r w2 ⟨rfl, q, rfl⟩
      rw [← HQB.out]
      have hb := below_draws (Below.refl w1.heap.size w1) q
      have F2 := hid (F1.out.1.stay hb)
      have O2 := hid (F1.out.2.1.trans (OnlyB.of hb))
      have hge := (HE.out _ (.inr O2.out)).2
      clear K1 hb x2
      go_wp2
      go_ret
      exact ⟨rfl, F2.out, O2.out⟩
end Go.Proofs.YtngjooemanapnaaGreatDoor
namespace Go.Proofs.YtngjooemanapnaaGreatDoor
open Go.RowKit
set_option linter.unusedSectionVars false
variable [Inhabited ComV] [DecidableEq D3] [Inhabited D3] [Inhabited Dd] [Inhabited Dn] [Inhabited OpV]

abbrev Tx := List UInt8
/-- A text goes in its place, once. -/
def enterL (l : List Tx) (s : Tx) : List Tx :=
  l.takeWhile (fun x => decide (x < s)) ++ (if (l.dropWhile (fun x => decide (x < s))).head? = some s then l.dropWhile (fun x => decide (x < s)) else s :: l.dropWhile (fun x => decide (x < s)))
def Rise (l : List Tx) : Prop := l.Pairwise (· < ·)
theorem take_lt {s : Tx} : ∀ {l : List Tx}, ∀ z ∈ l.takeWhile (fun x => decide (x < s)), z < s
  | [], z, hz => by simp at hz
  | y :: r, z, hz => by
    by_cases h : y < s
    · rw [List.takeWhile_cons_of_pos (p := fun x => decide (x < s)) (decide_eq_true h)] at hz
      rcases List.mem_cons.1 hz with rfl | hz
      · exact h
      · exact take_lt z hz
    · rw [List.takeWhile_cons_of_neg (p := fun x => decide (x < s)) (by simpa using h)] at hz
      simp at hz
theorem drop_ge {s : Tx} : ∀ {l : List Tx}, Rise l → ∀ z ∈ l.dropWhile (fun x => decide (x < s)), s ≤ z
  | [], _, z, hz => by simp at hz
  | y :: r, hs, z, hz => by
    have hs' := List.pairwise_cons.1 hs
    by_cases h : y < s
    · rw [List.dropWhile_cons_of_pos (p := fun x => decide (x < s)) (decide_eq_true h)] at hz
      exact drop_ge hs'.2 z hz
    · rw [List.dropWhile_cons_of_neg (p := fun x => decide (x < s)) (by simpa using h)] at hz
      have hy : s ≤ y := List.not_lt.1 h
      rcases List.mem_cons.1 hz with rfl | hz
      · exact hy
      · exact List.le_iff_lt_or_eq.2 (.inl (List.lt_of_le_of_lt hy (hs'.1 z hz)))
theorem enterL_mem (l : List Tx) (s x : Tx) : x ∈ enterL l s ↔ x = s ∨ x ∈ l := by
  have hl : x ∈ l ↔ x ∈ l.takeWhile (fun x => decide (x < s)) ∨ x ∈ l.dropWhile (fun x => decide (x < s)) := by
    rw [← List.mem_append, List.takeWhile_append_dropWhile]
  unfold enterL
  rw [List.mem_append, hl]
  split
  · rename_i h
    have hm : s ∈ l.dropWhile (fun x => decide (x < s)) := List.mem_of_mem_head? (by rw [h]; rfl)
    constructor
    · rintro (h1 | h1)
      · exact .inr (.inl h1)
      · exact .inr (.inr h1)
    · rintro (rfl | h1 | h1)
      · exact .inr hm
      · exact .inl h1
      · exact .inr h1
  · rw [List.mem_cons]
    constructor
    · rintro (h1 | h1 | h1)
      · exact .inr (.inl h1)
      · exact .inl h1
      · exact .inr (.inr h1)
    · rintro (h1 | h1 | h1)
      · exact .inr (.inl h1)
      · exact .inl h1
      · exact .inr (.inr h1)
theorem enterL_rise {l : List Tx} (h : Rise l) (s : Tx) : Rise (enterL l s) := by
  have hsplit : (l.takeWhile (fun x => decide (x < s)) ++ l.dropWhile (fun x => decide (x < s))).Pairwise (· < ·) := by
    rw [List.takeWhile_append_dropWhile]
    exact h
  rw [List.pairwise_append] at hsplit
  unfold enterL Rise
  rw [List.pairwise_append]
  split
  · exact hsplit
  · rename_i hne
    refine ⟨hsplit.1, List.pairwise_cons.2 ⟨fun z hz => ?_, hsplit.2.1⟩, fun a ha b hb => ?_⟩
    · rcases List.le_iff_lt_or_eq.1 (drop_ge h z hz) with h1 | h1
      · exact h1
      · subst h1
        exfalso
        cases hd : l.dropWhile (fun x => decide (x < s)) with
        | nil => rw [hd] at hz; simp at hz
        | cons y r =>
          rw [hd] at hz hne
          have h2 := hsplit.2.1
          rw [hd] at h2
          rcases List.mem_cons.1 hz with rfl | hz
          · exact hne rfl
          · have h3 := (List.pairwise_cons.1 h2).1 _ hz
            have h4 := drop_ge h y (by rw [hd]; exact List.mem_cons_self ..)
            exact List.lt_irrefl s (List.lt_of_le_of_lt h4 h3)
    · rcases List.mem_cons.1 hb with rfl | hb
      · exact take_lt a ha
      · exact hsplit.2.2 a ha b hb
def enters (ts : List Tx) : List Tx := ts.foldl enterL []
theorem enters_aux (ts : List Tx) : ∀ acc, Rise acc → Rise (ts.foldl enterL acc) ∧ ∀ x, x ∈ ts.foldl enterL acc ↔ x ∈ acc ∨ x ∈ ts := by
  induction ts with
  | nil => intro acc h; exact ⟨h, fun x => by simp⟩
  | cons t r ih =>
    intro acc h
    obtain ⟨h1, h2⟩ := ih (enterL acc t) (enterL_rise h t)
    refine ⟨h1, fun x => ?_⟩
    rw [List.foldl_cons, h2, enterL_mem, List.mem_cons]
    constructor
    · rintro ((h | h) | h)
      · exact .inr (.inl h)
      · exact .inl h
      · exact .inr (.inr h)
    · rintro (h | h | h)
      · exact .inl (.inr h)
      · exact .inl (.inl h)
      · exact .inr h
theorem rise_unique {a b : List Tx} (ha : Rise a) (hb : Rise b) (h : ∀ x, x ∈ a ↔ x ∈ b) : a = b := by
  have ne : ∀ {l : List Tx}, Rise l → l.Pairwise (· ≠ ·) := fun h => List.Pairwise.imp (fun {x y} (hx : x < y) (e : x = y) => List.lt_irrefl y (by rw [e] at hx; exact hx)) h
  have hp : a.Perm b := perm_of_mem (ne ha) (ne hb) h
  exact hp.eq_of_pairwise (fun x y _ _ h1 h2 => absurd h2 (List.lt_asymm h1)) ha hb
theorem sort_le (l : List Tx) : (l.mergeSort fun x y => decide (x ≤ y)).Pairwise (fun a b => a ≤ b) :=
  (List.pairwise_mergeSort (fun a b c h g => by simp at *; exact List.le_trans h g) (fun a b => by simpa using List.le_total a b) l).imp fun h => of_decide_eq_true h
theorem compactUpTo_rise (l : List Tx) (h : l.Pairwise (fun a b => a ≤ b)) : ∀ m, m ≤ l.length → Rise (Lib.compactUpTo l.toArray m) := by
  have hle : ∀ i j, i ≤ j → j < l.length → l.toArray[i]! ≤ l.toArray[j]! := fun i j hij hj => by
    rcases Nat.lt_or_ge i j with h1 | h1
    · have := List.pairwise_iff_getElem.1 h i j (by omega) hj h1
      rw [getElem!_pos l.toArray i (by simp; omega), getElem!_pos l.toArray j (by simpa using hj)]
      simpa using this
    · obtain rfl : i = j := by omega
      exact List.le_refl _
  intro m
  induction m with
  | zero => intro _; simp [Lib.compactUpTo, Rise]
  | succ m ih =>
    intro hm
    rw [Lib.compactUpTo_succ]
    unfold Rise
    rw [List.pairwise_append]
    refine ⟨ih (by omega), ?_, fun a ha b hb => ?_⟩
    · split <;> simp
    · split at hb
      · rename_i hk
        obtain rfl := List.mem_singleton.1 hb
        obtain ⟨j, hj, rfl⟩ := (mem_compactUpTo _ _ _).1 ha
        have hm0 : m ≠ 0 := by omega
        have hne : l.toArray[m]! ≠ l.toArray[m - 1]! := by
          unfold Lib.keeps at hk
          have := of_decide_eq_true hk
          exact this.resolve_left hm0
        have h1 := hle j (m - 1) (by omega) (by omega)
        have h2 := hle (m - 1) m (by omega) (by omega)
        rcases List.le_iff_lt_or_eq.1 h2 with h3 | h3
        · exact List.lt_of_le_of_lt h1 h3
        · exact absurd h3.symm hne
      · simp at hb
theorem setA_rise (ts : List ByteArray) : Rise (setA ts) := compactUpTo_rise _ (sort_le _) _ (Nat.le_refl _)
/-- One by one in their place, or all at once. -/
theorem enters_setA (ts : List ByteArray) : enters (ts.map (·.data.toList)) = setA ts := by
  obtain ⟨h1, h2⟩ := enters_aux (ts.map (·.data.toList)) [] List.Pairwise.nil
  refine rise_unique h1 (setA_rise ts) fun x => ?_
  unfold enters
  rw [h2]
  unfold setA
  rw [mem_compact, List.mem_mergeSort]
  simp
end Go.Proofs.YtngjooemanapnaaGreatDoor
namespace Go.Proofs.YtngjooemanapnaaGreatDoor
open Go.RowKit Go.Sort Go.Maps
set_option maxRecDepth 100000
set_option linter.unusedSectionVars false
variable [Inhabited ComV] [DecidableEq D3] [Inhabited D3] [Inhabited Dd] [Inhabited Dn] [Inhabited OpV]

set_option maxHeartbeats 2000000 in
theorem ahead_any (w : World) (x y : Dd) : Calls Tryz.prog 96 #[.agg x.enc.toArray, .agg y.enc.toArray] w fun e w' => e = .returned (.bool (ltN x.abs y.abs)) ∧ w' = (w.alloc (.cells x.enc.toArray 137)).alloc (.cells y.enc.toArray 137) := by
  obtain ⟨x1, x2, x3, x4, x5, x6, xp, xl, xc, ⟨x8, x9, x10⟩, x11, xd⟩ := x
  obtain ⟨y1, y2, y3, y4, y5, y6, yp, yl, yc, ⟨y8, y9, y10⟩, y11, yd⟩ := y
  obtain ⟨r, hr⟩ : ∃ r, r = ltN (Dd.abs ⟨x1, x2, x3, x4, x5, x6, xp, xl, xc, ⟨x8, x9, x10⟩, x11, xd⟩) (Dd.abs ⟨y1, y2, y3, y4, y5, y6, yp, yl, yc, ⟨y8, y9, y10⟩, y11, yd⟩) := ⟨_, rfl⟩
  rw [← hr]
  have hr' : r = decide (x11 < y11 ∨ x11 = y11 ∧ (x8 < y8 ∨ x8 = y8 ∧ (x9 < y9 ∨ x9 = y9 ∧ x10 < y10))) := by
    rw [hr]
    unfold ltN ltD Dd.abs
    simp only [decide_eq_true_eq]
  have HR := hid hr'
  clear hr hr'
  show Calls Tryz.prog 96 #[.agg #[.int .i64 x1, .string x2, .int .i64 x3, .string x4, .int .i64 x5, .bool x6, .slice xp xl xc, .int .i64 x8, .int .i64 x9, .int .i64 x10, .int .i64 x11], .agg #[.int .i64 y1, .string y2, .int .i64 y3, .string y4, .int .i64 y5, .bool y6, .slice yp yl yc, .int .i64 y8, .int .i64 y9, .int .i64 y10, .int .i64 y11]] w _
  by_cases h1 : x11 = y11
  · subst h1
    have b1 : (x11 != x11) = false := by simp
    by_cases h2 : x8 = y8
    · subst h2
      have b2 : (x8 != x8) = false := by simp
      by_cases h3 : x9 = y9
      · subst h3
        have b3 : (x9 != x9) = false := by simp
        go_enter Tryz.func96, Tryz.ntmps96
        go_wp2
        go_ret
        exact ⟨ret_bool (by rw [HR.out]; simp), rfl⟩
      · have b3 : (x9 != y9) = true := by simpa using h3
        have H3 := hid h3
        clear h3
        go_enter Tryz.func96, Tryz.ntmps96
        go_wp2
        go_ret
        exact ⟨ret_bool (by rw [HR.out]; have := H3.out; simp [this]), rfl⟩
    · have b2 : (x8 != y8) = true := by simpa using h2
      have H2 := hid h2
      clear h2
      go_enter Tryz.func96, Tryz.ntmps96
      go_wp2
      go_ret
      exact ⟨ret_bool (by rw [HR.out]; have := H2.out; simp [this]), rfl⟩
  · have b1 : (x11 != y11) = true := by simpa using h1
    have H1 := hid h1
    clear h1
    go_enter Tryz.func96, Tryz.ntmps96
    go_wp2
    go_ret
    exact ⟨ret_bool (by rw [HR.out]; have := H1.out; rw [decide_eq_decide]; omega), rfl⟩
end Go.Proofs.YtngjooemanapnaaGreatDoor
