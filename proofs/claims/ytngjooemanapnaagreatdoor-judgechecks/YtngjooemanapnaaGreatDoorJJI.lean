/- For the reference's enter: appending to a row of one's own; where a text's place is; Commits of events in a row of one's own: commitsOf, slices.Clone, slices.DeleteFunc; Texts and values, the same or not: slices.Equal, SameTexts, sameValue, SameValue; isTrue. -/
import Derived.Test.YtngjooemanapnaaGreatDoorJVOfRL
import Derived.Test.YtngjooemanapnaaGreatDoorJVSame
import Derived.Test.YtngjooemanapnaaGreatDoorJJL
import Derived.Test.YtngjooemanapnaaGreatDoorJVOfRA
import Derived.Test.YtngjooemanapnaaGreatDoorJVOf
import Derived.Test.YtngjooemanapnaaGreatDoorJVIs
import Derived.Test.YtngjooemanapnaaGreatDoorJVOnce
import Derived.Laws.AppendOwnNone
import Derived.Test.YtngjooemanapnaaGreatDoorJVHeavy
namespace Go.Proofs.YtngjooemanapnaaGreatDoor
open Go.RowKit Go.Sort Go.Maps
set_option maxRecDepth 100000
set_option linter.unusedSectionVars false
variable [Inhabited ComV] [DecidableEq D3] [Inhabited D3] [Inhabited Dd] [Inhabited Dn] [Inhabited OpV]

/-- append(own row, x...): whatever x reads as. -/
theorem wpList_append_own_src {w : World} {ops : Array Oper} {rest : List Oper} {o : Oper} {a : Act} {Q : Exit → Act → World → Prop} (hgd : o.guard = none) (s x : Operand) (t : TypeId)
    (ho : o.op = .call { callee := .builtin .append, args := #[s, x], argTypes := #[t, t] })
    (base : Nat) (e : TypeId) (i : TypeInfo) (z : Value) (size bytes : Nat) (ht : Tryz.prog.underlying t = some (.slice e)) (hi : Tryz.prog.info? e = some i) (hz : i.zero = some z)
    (hsize : i.size = size) (hby : i.bytes = bytes) (hzs : z.cells.size = size) (hsz : 0 < size)
    (v0 : Value) (n : Nat) (xs : List Value) (hs : a.eval s = v0) (hown : w.ownsRow base e size v0 n xs) (v : Value) (m : Nat) (news : List Value) (hx : a.eval x = v) (hv : SrcAt w v m size news) (h1 : ∀ u ∈ news, u.oneCell' = true)
    (h63 : n + m ≤ maxLen) (hbytes : (n + m) * bytes ≤ 140737488355328) (hbase : base ≤ w.heap.size)
    (h : ∀ v' w', w'.ownsRow base e size v' (n + m) (xs ++ news) → w.grownBy w' v0.ownBlock → wpList Tryz.prog ops Q rest (a.put o.dst v') w') : wpList Tryz.prog ops Q (o :: rest) a w := by
  rcases hv with ⟨rfl, rfl, rfl⟩ | ⟨ad, c, rfl, hl, hn⟩
  · exact wpList_append_own_none hgd s x t ho base e i size ht hi v0 n xs hs hown hx (h _ _ (by simpa using hown) ⟨rfl, rfl, rfl, Nat.le_refl _, fun _ _ _ => rfl⟩)
  · exact wpList_append_own w hgd s x t ho base e i z size bytes ht hi hz hsize hby hzs hsz v0 n xs hs hown ad m c news hx hl hn h1 h63 hbytes hbase fun v' w' h2 h3 _ => h v' w' h2 h3
theorem strs_one (ss : List Tx) : ∀ u ∈ ss.map encStr, u.oneCell' = true := fun u hu => by
  obtain ⟨z, _, rfl⟩ := List.mem_map.1 hu
  rfl
theorem strs_of_row {w : World} {base : Nat} {v : Value} {ss : List Tx} (h : w.ownsRow base 9 1 v ss.length (ss.map encStr)) : StrsAt w v ss := by
  obtain ⟨_, h2⟩ := h
  rcases h2 with ⟨rfl, h0⟩ | ⟨g, cap, cur, rfl, hb, hh, hn, hm, hs, ht⟩
  · exact ⟨none, 0, by rw [h0], .inl (List.eq_nil_of_length_eq_zero h0)⟩
  · refine ⟨_, cap, rfl, .inr ⟨g, rfl, fun t htt => ?_⟩⟩
    have e : cur[t]? = some (encStr ss[t]!) := by
      have h1 : (cur.toList.take (ss.length * 1))[t]? = (ss.map encStr)[t]? := by rw [ht]
      rw [List.getElem?_take, if_pos (by omega), Array.getElem?_toList] at h1
      rw [h1, List.getElem?_map, List.getElem?_eq_getElem htt, getElem!_pos ss t htt]
      rfl
    simp only [World.cell?, hh]
    exact e
/-- Where the search for a text's place ends. -/
theorem split_at {s : Tx} : ∀ {ss : List Tx} {k : Nat}, (∀ j, j < k → ss[j]! < s) → k ≤ ss.length → (k = ss.length ∨ ¬ ss[k]! < s) → ss.takeWhile (fun x => decide (x < s)) = ss.take k ∧ ss.dropWhile (fun x => decide (x < s)) = ss.drop k
  | [], k, _, hk, _ => by
    obtain rfl : k = 0 := by simpa using hk
    exact ⟨rfl, rfl⟩
  | y :: r, 0, _, _, h2 => by
    have h : ¬ y < s := h2.resolve_left (by simp)
    rw [List.takeWhile_cons_of_neg (p := fun x => decide (x < s)) (by simpa using h), List.dropWhile_cons_of_neg (p := fun x => decide (x < s)) (by simpa using h)]
    exact ⟨rfl, rfl⟩
  | y :: r, k + 1, h1, hk, h2 => by
    have h : y < s := h1 0 (by omega)
    obtain ⟨e1, e2⟩ := split_at (ss := r) (k := k) (fun j hj => by have := h1 (j + 1) (by omega); simpa using this) (by simpa using hk) (by
      rcases h2 with h2 | h2
      · exact .inl (by simpa using h2)
      · exact .inr (by simpa using h2))
    rw [List.takeWhile_cons_of_pos (p := fun x => decide (x < s)) (decide_eq_true h), List.dropWhile_cons_of_pos (p := fun x => decide (x < s)) (decide_eq_true h), e1, e2]
    exact ⟨rfl, rfl⟩
end Go.Proofs.YtngjooemanapnaaGreatDoor
namespace Go.Proofs.YtngjooemanapnaaGreatDoor
open Go.RowKit Go.Sort Go.Maps
set_option maxRecDepth 100000
set_option linter.unusedSectionVars false
variable [Inhabited ComV] [DecidableEq D3] [Inhabited D3] [Inhabited Dd] [Inhabited Dn] [Inhabited OpV]

theorem info41 : (Tryz.prog.info? 41).map (fun i => (i.zero, i.size, i.bytes)) = some (some (.agg #[.slice none 0 0, .int .i64 0, .slice none 0 0]), 3, 56) := by kernel_rfl
/-- The cells of a commit read as what they are said to. -/
def GoodC (w : World) (x : Cm) : Prop := IntsAt w (.slice x.wa x.wn x.wc) x.c.when_ ∧ x.p = x.c.place ∧ OpsAt w (.slice x.oa x.on x.oc) x.c.ops
theorem GoodC.mono {w w' : World} {x : Cm} {B : Nat} (h : GoodC w x) (hb : Below B w w') (hB : w.heap.size ≤ B) : GoodC w' x := ⟨h.1.mono hb hB, h.2.1, h.2.2.mono hb hB⟩
theorem comRow_of {w : World} {x : Cm} (h : GoodC w x) : ComRow w x.enc x.c := ⟨_, _, by unfold Cm.enc; rw [h.2.1], h.1, h.2.2⟩
theorem cm_sub {G : Cm → Prop} : ∀ {xs : List Cm}, (∀ x ∈ xs, G x) → ∃ zs : List (CmG G), zs.map (·.1) = xs
  | [], _ => ⟨[], rfl⟩
  | x :: xs, h => by
    obtain ⟨zs, e⟩ := cm_sub (xs := xs) fun y hy => h y (by simp [hy])
    exact ⟨⟨x, h x (by simp)⟩ :: zs, congrArg (List.cons x) e⟩
theorem flat_enc (xs : List Cm) : ∀ (j i : Nat), j < xs.length → i < 3 → (xs.flatMap Cm.enc)[j * 3 + i]? = (xs[j]?.bind fun x => x.enc[i]?) := by
  induction xs with
  | nil => intro j i hj; simp at hj
  | cons x r ih =>
    intro j i hj hi
    rw [List.flatMap_cons]
    cases j with
    | zero =>
      rw [List.getElem?_append_left (by show 0 * 3 + i < 3; omega), Nat.zero_mul, Nat.zero_add]
      rfl
    | succ j =>
      rw [List.getElem?_append_right (by show 3 ≤ _; omega), show (j + 1) * 3 + i - x.enc.length = j * 3 + i by show (j + 1) * 3 + i - 3 = _; omega, ih j i (by simpa using hj) hi]
      simp
/-- A row of commits in memory of one's own reads as commits. -/
theorem coms_of_cells {w : World} {b n cap : Nat} {xs : List Cm} (hn : n = xs.length) (hc : xs.length ≤ cap) (h : ∀ j, j < xs.length → ∀ i u, (xs[j]?.bind fun x => x.enc[i]?) = some u → w.cell? ⟨b, 0 + j * 3 + i, none⟩ = some u) (hg : ∀ x ∈ xs, GoodC w x) : ComsAt w (.slice (some ⟨b, 0, none⟩) n cap) (xs.map (·.c)) := by
  subst hn
  refine ⟨xs.map Cm.enc, ⟨_, cap, by rw [List.length_map], (fun e => by cases e), by rw [List.length_map]; exact hc, .inr ⟨b, 0, rfl, fun j r hr => ?_⟩⟩, ?_⟩
  · rw [List.getElem?_map] at hr
    cases hx : xs[j]? with
    | none => rw [hx] at hr; cases hr
    | some x =>
      rw [hx] at hr
      obtain rfl := Option.some.inj hr
      refine ⟨rfl, fun i u hu => h j (List.getElem?_eq_some_iff.1 hx).1 i u ?_⟩
      rw [hx]
      exact hu
  · clear h hc
    induction xs with
    | nil => trivial
    | cons x r ih => exact ⟨comRow_of (hg x (by simp)), ih fun y hy => hg y (by simp [hy])⟩
theorem coms_nil (w : World) : ComsAt w (.slice none 0 0) [] := ⟨[], ⟨none, 0, rfl, fun _ => rfl, Nat.le_refl _, .inl rfl⟩, trivial⟩
/-- What commitsOf hands back. -/
def CmRet (wq w : World) (l : List EvV) (r : Ending) (w' : World) : Prop := ∃ (xv : Value) (xs : List Cm), r = .returned xv ∧ w'.ownsRow w.heap.size 41 3 xv xs.length (xs.flatMap Cm.enc) ∧ xs.map (·.c) = comsL l ∧ (∀ x ∈ xs, GoodC wq x) ∧ Below w.heap.size w w'
theorem comsL_take (l : List EvV) (k : Nat) (h : k < l.length) : comsL (l.take (k + 1)) = comsL (l.take k) ++ (if (l.getD k ev0).c.ops = [] then [] else [(l.getD k ev0).c]) := by
  have e : l.getD k ev0 = l[k] := by rw [List.getD_eq_getElem?_getD, List.getElem?_eq_getElem h]; rfl
  unfold comsL
  rw [List.take_succ_eq_append_getElem h, List.map_append, List.filter_append, e]
  congr 1
  simp only [List.map_cons, List.map_nil, List.filter_cons, List.filter_nil]
  by_cases h : l[k].c.ops = [] <;> simp [h]
set_option maxHeartbeats 4000000 in
theorem commitsOf_any (wq w : World) (hq : Below wq.heap.size wq w) (l : List EvV) (v : Value) (hv : EvsAt wq v l) (hl : l.length ≤ 1000) (hsm : ∀ e ∈ l, e.c.ops.length ≤ 1000000) : Calls Tryz.prog 46 #[v] w (CmRet wq w l) := by
  obtain ⟨i41, hi, hz0, hz1, hz2⟩ := info_parts info41
  obtain ⟨ad, cap, rfl, hn, hcap, hv⟩ := hv.shape
  by_cases hne : l = []
  · subst hne
    clear hv hsm
    go_enter Tryz.func46, Tryz.ntmps46
    go_wp2
    refine wp_loop_rounds 1 ?_
    rw [rounds_succ]
    go_wp2
    go_ret
    exact ⟨_, [], rfl, World.ownsRow_nil _ _ _ _, rfl, fun _ h => by simp at h, Below.refl _ _⟩
  obtain ⟨b, off, rfl, hv2⟩ := hv.resolve_left hne
  clear hv
  obtain ⟨n, hnl⟩ : ∃ n, n = l.length := ⟨_, rfl⟩
  rw [← hnl] at hl hv2 hcap ⊢
  have HV := hid hv2
  have HN := hid hnl
  have HSM := hid hsm
  have HQ := hid hq
  clear hv2 hnl hne hn hsm hq
  go_enter Tryz.func46, Tryz.ntmps46
  go_wp2
  go_loopw [3, 8] (fun x y wr => ∃ (k : Nat) (xv : Value) (xs : List Cm), k ≤ n ∧ y = .int .i64 k ∧ x = xv ∧ Hid (xs.map (·.c) = comsL (l.take k)) ∧ Hid (∀ z ∈ xs, GoodC wq z) ∧ Hid (wr.ownsRow w.heap.size 41 3 xv xs.length (xs.flatMap Cm.enc)) ∧ Hid (Below w.heap.size w wr) ∧ xs.length ≤ k) (fun _ y _ => n - (intOf y).toNat)
  case atStart => exact ⟨0, _, [], Nat.zero_le _, rfl, rfl, rfl, hid fun _ h => by simp at h, World.ownsRow_nil _ _ _ _, Below.refl _ _, Nat.le_refl _⟩
  case round =>
    obtain ⟨k, xv, xs, hk, rfl, hxx, HX, HG, HR, HB, hxk⟩ := hrel
    obtain rfl := hxx.symm
    have hsz := HB.out.size
    by_cases hlt : k < n
    · have hi1 : (k : Int) < (n : Int) := by omega
      obtain ⟨av, rv, wv, ov, hE, hRd, hc⟩ := HV.out k hlt
      have hcc : ∀ j u, (evCells (l.getD k ev0) av rv wv ov)[j]? = some u → wr.cell? ⟨b, off + k * 7 + j, none⟩ = some u := fun j u hj => by
        have := hc j u hj
        rw [(HQ.out.trans (HB.out.mono HQ.out.size)).cell (p := ⟨b, off + k * 7 + j, none⟩) (lt_of_cell this)]
        exact this
      have htk := comsL_take l k (by have := HN.out; omega)
      have hso := HSM.out (l.getD k ev0) (getD_mem (by have := HN.out; omega))
      obtain ⟨ex, hex⟩ : ∃ ex, ex = l.getD k ev0 := ⟨_, rfl⟩
      rw [← hex] at hcc hE hRd htk hso
      obtain ⟨aa, ac, wa, wc, oa, oc, rfl, rfl, rfl⟩ := evAt_shape hE
      obtain ⟨ra, rn, rc, rfl⟩ : ∃ a n c, rv = .slice a n c := by obtain ⟨_, ⟨a, c, rfl, _⟩, _⟩ := hRd; exact ⟨_, _, _, rfl⟩
      have KW := fun W => hid (wrote_any W ex aa ra wa oa ex.at_.length ac rn rc ex.c.when_.length wc oc hso)
      have hgood : GoodC wq ⟨wa, ex.c.when_.length, wc, ex.c.place, oa, ex.c.ops.length, oc, ex.c⟩ := ⟨hE.when_, rfl, hE.ops⟩
      have HGD := hid hgood
      have HTK := hid htk
      have hrow := HR.out
      obtain ⟨e1, e2, e3, e4, ⟨e5, e6, e7⟩⟩ := ex
      have c0 : wr.cell? ⟨b, off + k * 7, none⟩ = some (.int .i64 e1) := hcc 0 _ rfl
      have c1 : wr.cell? ⟨b, off + k * 7 + 1, none⟩ = some (.int .i64 e2) := hcc 1 _ rfl
      have c2 : wr.cell? ⟨b, off + k * 7 + 2, none⟩ = some (.slice aa e3.length ac) := hcc 2 _ rfl
      have c3 : wr.cell? ⟨b, off + k * 7 + 3, none⟩ = some (.slice ra rn rc) := hcc 3 _ rfl
      have c4 : wr.cell? ⟨b, off + k * 7 + 4, none⟩ = some (.slice wa e5.length wc) := hcc 4 _ rfl
      have c5 : wr.cell? ⟨b, off + k * 7 + 5, none⟩ = some (.int .i64 e6) := hcc 5 _ rfl
      have c6 : wr.cell? ⟨b, off + k * 7 + 6, none⟩ = some (.slice oa e7.length oc) := hcc 6 _ rfl
      obtain ⟨xa, xc, hxv⟩ := row_shape hrow
      subst hxv
      simp only at KW
      by_cases ho : e7 = []
      · rw [decide_eq_false (fun x => x ho)] at KW
        have HO := hid ho
        clear hcc hE hRd hc hgood htk hex ho
        go_wp2_with fail
        refine (KW _).out.mono ?_
        rintro e w2 ⟨rfl, hb⟩
        have B2 : Hid (Below wr.heap.size wr w2) := hid ((below_alloc _ _).trans (hb.mono (by simp)))
        clear hb KW c0 c1 c2 c3 c4 c5 c6 hrow
        go_wp2
        refine ⟨⟨k + 1, _, xs, by omega, by go_num, rfl, hid ?_, HG, hid ?_, hid (HB.out.trans (B2.out.mono hsz)), by omega⟩, by simp [intOf]; omega⟩
        · rw [HTK.out, HX.out]; simp [HO.out]
        · exact owns_below HR.out fun q cs hq => B2.out.block q (lt_of_heap hq)
      · rw [decide_eq_true ho] at KW
        have HO := hid ho
        clear hcc hE hRd hc hgood htk hex ho
        go_wp2_with fail
        refine (KW _).out.mono ?_
        rintro e w2 ⟨rfl, hb⟩
        have hb2 : Below wr.heap.size wr w2 := (below_alloc _ _).trans (hb.mono (by simp))
        have hx2 : w2.heap[wr.heap.size]? = some (.cells #[.int .i64 e1, .int .i64 e2, .slice aa e3.length ac, .slice ra rn rc, .slice wa e5.length wc, .int .i64 e6, .slice oa e7.length oc] 69 (0, 0)) := (hb.block _ (by simp)).trans (heap_new _ _)
        have d4 : w2.cell? ⟨wr.heap.size, 4, none⟩ = some (.slice wa e5.length wc) := (cell_of hx2).trans rfl
        have d5 : w2.cell? ⟨wr.heap.size, 5, none⟩ = some (.int .i64 e6) := (cell_of hx2).trans rfl
        have d6 : w2.cell? ⟨wr.heap.size, 6, none⟩ = some (.slice oa e7.length oc) := (cell_of hx2).trans rfl
        have hr2 : w2.ownsRow w.heap.size 41 3 (.slice xa xs.length xc) xs.length (xs.flatMap Cm.enc) := owns_below HR.out fun q cs hq => hb2.block q (lt_of_heap hq)
        have B2 := hid hb2
        clear hb hb2 hx2 KW c0 c1 c2 c3 c4 c5 c6 hrow
        have hw2 := B2.out.size
        go_wp2_with (at_builtin; refine wpList_append_own_src rfl _ _ 96 rfl w.heap.size 41 i41 _ 3 56 Tryz.underlying96 hi hz0 hz1 hz2 rfl (by decide) _ _ _ rfl (hr2.alloc _) _ 1 [.slice wa e5.length wc, .int .i64 e6, .slice oa e7.length oc] rfl ?hs1 (by simp [Value.oneCell']) ?hm2 ?hm3 ?hm4 ?_; (case hs1 => exact .inr ⟨_, _, rfl, rfl, cells11_new _ _ _ _ rfl⟩); (case hm2 => unfold maxLen; omega); (case hm3 => omega); (case hm4 => simp; omega); intro v' w5 hown' hgrow2; have O5 := hid hown'; have G5 := hid hgrow2; clear hown' hgrow2)
        refine ⟨⟨k + 1, v', xs ++ [⟨wa, e5.length, wc, e6, oa, e7.length, oc, ⟨e5, e6, e7⟩⟩], by omega, by go_num, rfl, hid ?_, hid ?_, hid ?_, hid ?_, by simp; omega⟩, by simp [intOf]; omega⟩
        · rw [HTK.out, List.map_append, HX.out]; simp [HO.out]
        · intro z hz
          rcases List.mem_append.1 hz with h | h
          · exact HG.out z h
          · obtain rfl := List.mem_singleton.1 h
            exact HGD.out
        · have := O5.out
          rw [List.flatMap_append, List.length_append]
          exact this
        · exact ((HB.out.trans (B2.out.mono hsz)).alloc (by omega) _).grown G5.out (by simp; omega) (fun j hj => (hr2.lt j hj).1)
    · obtain rfl : k = n := by omega
      have hx := HX.out
      rw [List.take_of_length_le (by have := HN.out; omega)] at hx
      have HX2 := hid hx
      clear hx HX
      go_wp2
      go_ret
      exact ⟨_, xs, rfl, HR.out, HX2.out, HG.out, HB.out⟩
end Go.Proofs.YtngjooemanapnaaGreatDoor
namespace Go.Proofs.YtngjooemanapnaaGreatDoor
open Go.RowKit Go.Maps
set_option maxRecDepth 100000
set_option linter.unusedSectionVars false
variable [Inhabited ComV] [DecidableEq D3] [Inhabited D3] [Inhabited Dd] [Inhabited Dn] [Inhabited OpV]

theorem encStr_ne {l m : List UInt8} {s t : ByteArray} (h1 : encStr l = .string s) (h2 : encStr m = .string t) (h : l ≠ m) : (s.toList == t.toList) = false := by
  rw [beq_eq_false_iff_ne]
  intro e
  have : s = t := by
    by_cases q : s = t
    · exact q
    · exact absurd e (ne_toList q)
  subst this
  have h3 := h1.trans h2.symm
  have g1 : encStr l = .string ⟨l.toArray⟩ := rfl
  have g2 : encStr m = .string ⟨m.toArray⟩ := rfl
  rw [g1, g2] at h3
  injection h3 with h3
  injection h3 with h3
  exact h (by simpa using congrArg Array.toList h3)
def DrB (q : Bool) (w : World) (e : Ending) (w' : World) : Prop := e = .returned (.bool q) ∧ ∃ n, w' = w.drewN n
set_option maxHeartbeats 1000000 in
theorem sameTexts_any (w : World) (v v' : Value) (ss tt : List (List UInt8)) (h : StrsX w v ss) (h' : StrsX w v' tt) (hl : ss.length ≤ 1000000) :
    Calls Tryz.prog 76 #[v, v'] w (DrB (decide (ss = tt)) w) := by
  obtain ⟨a1, c1, rfl, h⟩ := h
  obtain ⟨a2, c2, rfl, h'⟩ := h'
  by_cases hq : ss.length = tt.length
  · obtain ⟨n, hn⟩ : ∃ n, n = ss.length := ⟨_, rfl⟩
    rw [← hq, ← hn]
    rw [← hn] at hl
    have HN := hid hn
    have HQ2 := hid hq
    have H1 := hid h
    have H2 := hid h'
    have bn : ((n : Int) != (n : Int)) = false := by simp
    clear hn h h' hq
    go_enter Tryz.func76, Tryz.ntmps76
    go_wp2
    go_loopw [5] (fun i wr => ∃ k : Nat, k ≤ n ∧ i = .int .i64 k ∧ Hid (∃ q, wr = w.drewN q) ∧ Hid (∀ j, j < k → ss[j]! = tt[j]!)) (fun i _ => n - (intOf i).toNat)
    case atStart => exact ⟨0, Nat.zero_le _, rfl, ⟨0, rfl⟩, hid fun j hj => absurd hj (Nat.not_lt_zero _)⟩
    case round =>
      obtain ⟨k, hk, rfl, HQ, HE⟩ := hrel
      by_cases hlt : k < n
      · obtain ⟨b1, o1, rfl, g1⟩ := H1.out.resolve_left (fun h => by have := HN.out; rw [h] at this; simp at this; omega)
        obtain ⟨b2, o2, rfl, g2⟩ := H2.out.resolve_left (fun h => by have h1 := HN.out; have h2 := HQ2.out; rw [h] at h2; simp only [List.length_nil] at h2; omega)
        have e1 : wr.cell? ⟨b1, o1 + k, none⟩ = some (encStr ss[k]!) := by obtain ⟨q, hq⟩ := HQ.out; rw [hq]; exact g1 k (by have := HN.out; omega)
        have e2 : wr.cell? ⟨b2, o2 + k, none⟩ = some (encStr tt[k]!) := by obtain ⟨q, hq⟩ := HQ.out; rw [hq]; exact g2 k (by have := HN.out; have := HQ2.out; omega)
        obtain ⟨s, hs⟩ := encStr_shape ss[k]!
        obtain ⟨t, ht⟩ := encStr_shape tt[k]!
        have hi1 : (k : Int) < (n : Int) := by omega
        by_cases he : ss[k]! = tt[k]!
        · rw [← he, hs] at e2
          rw [hs] at e1
          have J : Hid (∀ j, j < k + 1 → ss[j]! = tt[j]!) := hid fun j hj => by
            rcases Nat.lt_succ_iff_lt_or_eq.1 hj with h | rfl
            · exact HE.out j h
            · exact he
          clear hs ht g1 g2 he
          go_upto_region 6 with (fail)
          go_quiet (fail)
          go_wp2
          go_roundw
          case rel => exact ⟨k + 1, by omega, by go_num, by obtain ⟨q, hq⟩ := HQ.out; exact ⟨_, by rw [hq]; exact World.drewN_drewN _ _ _⟩, J⟩
          case measure => simp [intOf]; omega
        · have hb := encStr_ne hs ht he
          rw [hs] at e1
          rw [ht] at e2
          have hf : Hid (decide (ss = tt) = false) := hid (decide_eq_false fun e => he (by rw [e]))
          clear hs ht g1 g2 he
          go_upto_region 6 with (fail)
          go_quiet (fail)
          go_wp2
          go_ret
          exact ⟨by rw [hf.out]; rfl, by obtain ⟨q, hq⟩ := HQ.out; exact ⟨_, by rw [hq]; exact World.drewN_drewN _ _ _⟩⟩
      · obtain rfl : k = n := by omega
        go_wp2
        go_ret
        refine ⟨ret_bool ?_, HQ.out⟩
        rw [eq_comm, decide_eq_true_eq]
        refine List.ext_getElem HQ2.out fun i h1 h2 => ?_
        have := HE.out i (by have := HN.out; omega)
        rwa [getElem!_pos ss i h1, getElem!_pos tt i h2] at this
  · have hf : decide (ss = tt) = false := decide_eq_false fun e => hq (by rw [e])
    unfold DrB
    rw [hf]
    have bn : ((ss.length : Int) != (tt.length : Int)) = true := by simp; omega
    clear h h' hf
    go_enter Tryz.func76, Tryz.ntmps76
    go_wp2
    go_ret
    exact ⟨rfl, 0, rfl⟩
set_option maxHeartbeats 1000000 in
theorem equal_any (w : World) (v v' : Value) (ss tt : List (List UInt8)) (h : StrsX w v ss) (h' : StrsX w v' tt) (hl : ss.length ≤ 1000000) :
    Calls Tryz.prog 94 #[v, v'] w (DrB (decide (ss = tt)) w) := by
  obtain ⟨a1, c1, rfl, h⟩ := h
  obtain ⟨a2, c2, rfl, h'⟩ := h'
  by_cases hq : ss.length = tt.length
  · obtain ⟨n, hn⟩ : ∃ n, n = ss.length := ⟨_, rfl⟩
    rw [← hq, ← hn]
    rw [← hn] at hl
    have HN := hid hn
    have HQ2 := hid hq
    have H1 := hid h
    have H2 := hid h'
    have bn : ((n : Int) != (n : Int)) = false := by simp
    clear hn h h' hq
    go_enter Tryz.func94, Tryz.ntmps94
    go_wp2
    go_loopw [13] (fun i wr => ∃ k : Nat, k ≤ n ∧ i = .int .i64 k ∧ Hid (∃ q, wr = w.drewN q) ∧ Hid (∀ j, j < k → ss[j]! = tt[j]!)) (fun i _ => n - (intOf i).toNat)
    case atStart => exact ⟨0, Nat.zero_le _, rfl, ⟨0, rfl⟩, hid fun j hj => absurd hj (Nat.not_lt_zero _)⟩
    case round =>
      obtain ⟨k, hk, rfl, HQ, HE⟩ := hrel
      by_cases hlt : k < n
      · obtain ⟨b1, o1, rfl, g1⟩ := H1.out.resolve_left (fun h => by have := HN.out; rw [h] at this; simp at this; omega)
        obtain ⟨b2, o2, rfl, g2⟩ := H2.out.resolve_left (fun h => by have h1 := HN.out; have h2 := HQ2.out; rw [h] at h2; simp only [List.length_nil] at h2; omega)
        have e1 : wr.cell? ⟨b1, o1 + k, none⟩ = some (encStr ss[k]!) := by obtain ⟨q, hq⟩ := HQ.out; rw [hq]; exact g1 k (by have := HN.out; omega)
        have e2 : wr.cell? ⟨b2, o2 + k, none⟩ = some (encStr tt[k]!) := by obtain ⟨q, hq⟩ := HQ.out; rw [hq]; exact g2 k (by have := HN.out; have := HQ2.out; omega)
        obtain ⟨s, hs⟩ := encStr_shape ss[k]!
        obtain ⟨t, ht⟩ := encStr_shape tt[k]!
        have hi1 : (k : Int) < (n : Int) := by omega
        by_cases he : ss[k]! = tt[k]!
        · rw [← he, hs] at e2
          rw [hs] at e1
          have J : Hid (∀ j, j < k + 1 → ss[j]! = tt[j]!) := hid fun j hj => by
            rcases Nat.lt_succ_iff_lt_or_eq.1 hj with h | rfl
            · exact HE.out j h
            · exact he
          clear hs ht g1 g2 he
          go_upto_region 6 with (fail)
          go_quiet (fail)
          go_wp2
          go_roundw
          case rel => exact ⟨k + 1, by omega, by go_num, by obtain ⟨q, hq⟩ := HQ.out; exact ⟨_, by rw [hq]; exact World.drewN_drewN _ _ _⟩, J⟩
          case measure => simp [intOf]; omega
        · have hb := encStr_ne hs ht he
          rw [hs] at e1
          rw [ht] at e2
          have hf : Hid (decide (ss = tt) = false) := hid (decide_eq_false fun e => he (by rw [e]))
          clear hs ht g1 g2 he
          go_upto_region 6 with (fail)
          go_quiet (fail)
          go_wp2
          go_ret
          exact ⟨by rw [hf.out]; rfl, by obtain ⟨q, hq⟩ := HQ.out; exact ⟨_, by rw [hq]; exact World.drewN_drewN _ _ _⟩⟩
      · obtain rfl : k = n := by omega
        go_wp2
        go_ret
        refine ⟨ret_bool ?_, HQ.out⟩
        rw [eq_comm, decide_eq_true_eq]
        refine List.ext_getElem HQ2.out fun i h1 h2 => ?_
        have := HE.out i (by have := HN.out; omega)
        rwa [getElem!_pos ss i h1, getElem!_pos tt i h2] at this
  · have hf : decide (ss = tt) = false := decide_eq_false fun e => hq (by rw [e])
    unfold DrB
    rw [hf]
    have bn : ((ss.length : Int) != (tt.length : Int)) = true := by simp; omega
    clear h h' hf
    go_enter Tryz.func94, Tryz.ntmps94
    go_wp2
    go_ret
    exact ⟨rfl, 0, rfl⟩
end Go.Proofs.YtngjooemanapnaaGreatDoor
