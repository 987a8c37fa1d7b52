/- Values, the same or not; Values, the same or not; trueReads: what of all commits was within, and were the reads so?; trueReads by its contract. -/
import Derived.Test.YtngjooemanapnaaGreatDoorJJI
import Derived.Test.YtngjooemanapnaaGreatDoorJJF
import Derived.Test.YtngjooemanapnaaGreatDoorJVSame
import Derived.Test.YtngjooemanapnaaGreatDoorJVOfW
import Derived.Lib.SliceRun
import Derived.Lib.RowBridge
namespace Go.Proofs.YtngjooemanapnaaGreatDoor
open Go.RowKit Go.Maps
set_option maxRecDepth 100000
set_option linter.unusedSectionVars false
variable [Inhabited ComV] [DecidableEq D3] [Inhabited D3] [Inhabited Dd] [Inhabited Dn] [Inhabited OpV]

set_option maxHeartbeats 4000000 in
theorem sameValJ_any (w : World) (a b : ValV) (sv tv : Value) (h : StrsX w sv a.set) (h' : StrsX w tv b.set) (hl : a.set.length ≤ 1000000) :
    Calls Tryz.prog 75 #[.agg #[.int .i64 a.kind, .string a.text, .int .i64 a.n, sv], .agg #[.int .i64 b.kind, .string b.text, .int .i64 b.n, tv]] w fun r w' => r = .returned (.bool (sameV a b)) ∧ Below w.heap.size w w' := by
  obtain ⟨k1, t1, n1, s1⟩ := a
  obtain ⟨k2, t2, n2, s2⟩ := b
  simp only at h h' hl ⊢
  have hb := below2 w (.cells #[.int .i64 k1, .string t1, .int .i64 n1, sv] 55) (.cells #[.int .i64 k2, .string t2, .int .i64 n2, tv] 55)
  have K := hid (equal_any _ sv tv s1 s2 (h.mono hb (Nat.le_refl _)) (h'.mono hb (Nat.le_refl _)) hl)
  have HB := hid hb
  obtain ⟨a1, c1, rfl⟩ := h.len
  obtain ⟨a2, c2, rfl⟩ := h'.len
  show Calls _ _ _ _ fun r w' => r = .returned (.bool (decide (k1 = k2) && (decide (t1 = t2) && (decide (n1 = n2) && decide (s1 = s2))))) ∧ Below w.heap.size w w'
  obtain ⟨q, hq⟩ : ∃ q, q = decide (s1 = s2) := ⟨_, rfl⟩
  rw [← hq] at K ⊢
  obtain ⟨m1, hm1⟩ : ∃ m, m = s1.length := ⟨_, rfl⟩
  obtain ⟨m2, hm2⟩ : ∃ m, m = s2.length := ⟨_, rfl⟩
  rw [← hm1, ← hm2] at K HB ⊢
  clear h h' hl hb hq hm1 hm2
  by_cases e1 : k1 = k2
  · subst e1
    by_cases e2 : t1 = t2
    · subst e2
      by_cases e3 : n1 = n2
      · subst e3
        have x1 : (decide (k1 = k1) && (decide (t1 = t1) && (decide (n1 = n1) && q))) = q := by simp
        rw [x1]
        clear x1
        go_enter Tryz.func75, Tryz.ntmps75
        go_wp2_with fail
        refine K.out.mono ?_
        rintro e w2 ⟨rfl, n, rfl⟩
        clear K
        go_wp2
        go_ret
        exact ⟨rfl, below_draws HB.out n⟩
      · have b3 : (n1 == n2) = false := beq_eq_false_iff_ne.2 e3
        have d3 : decide (n1 = n2) = false := decide_eq_false e3
        rw [d3]
        clear e3 d3 K
        go_enter Tryz.func75, Tryz.ntmps75
        go_wp2
        go_ret
        exact ⟨ret_bool (by simp), HB.out⟩
    · have b2 := ne_toList e2
      have b2' : (t1.toList == t2.toList) = false := beq_eq_false_iff_ne.2 b2
      have d2 : decide (t1 = t2) = false := decide_eq_false e2
      rw [d2]
      clear e2 b2 d2 K
      go_enter Tryz.func75, Tryz.ntmps75
      go_wp2
      go_ret
      exact ⟨ret_bool (by simp), HB.out⟩
  · have b1 : (k1 == k2) = false := beq_eq_false_iff_ne.2 e1
    have d1 : decide (k1 = k2) = false := decide_eq_false e1
    rw [d1]
    clear e1 d1 K
    go_enter Tryz.func75, Tryz.ntmps75
    go_wp2
    go_ret
    exact ⟨ret_bool (by simp), HB.out⟩
set_option maxHeartbeats 4000000 in
theorem sameValR_any (w : World) (a b : ValV) (sv tv : Value) (h : StrsX w sv a.set) (h' : StrsX w tv b.set) (hl : a.set.length ≤ 1000000) :
    Calls Tryz.prog 56 #[.agg #[.int .i64 a.kind, .string a.text, .int .i64 a.n, sv], .agg #[.int .i64 b.kind, .string b.text, .int .i64 b.n, tv]] w fun r w' => r = .returned (.bool (sameV a b)) ∧ Below w.heap.size w w' := by
  obtain ⟨k1, t1, n1, s1⟩ := a
  obtain ⟨k2, t2, n2, s2⟩ := b
  simp only at h h' hl ⊢
  have hb := below2 w (.cells #[.int .i64 k1, .string t1, .int .i64 n1, sv] 55) (.cells #[.int .i64 k2, .string t2, .int .i64 n2, tv] 55)
  have K := hid (sameTexts_any _ sv tv s1 s2 (h.mono hb (Nat.le_refl _)) (h'.mono hb (Nat.le_refl _)) hl)
  have HB := hid hb
  obtain ⟨a1, c1, rfl⟩ := h.len
  obtain ⟨a2, c2, rfl⟩ := h'.len
  show Calls _ _ _ _ fun r w' => r = .returned (.bool (decide (k1 = k2) && (decide (t1 = t2) && (decide (n1 = n2) && decide (s1 = s2))))) ∧ Below w.heap.size w w'
  obtain ⟨q, hq⟩ : ∃ q, q = decide (s1 = s2) := ⟨_, rfl⟩
  rw [← hq] at K ⊢
  obtain ⟨m1, hm1⟩ : ∃ m, m = s1.length := ⟨_, rfl⟩
  obtain ⟨m2, hm2⟩ : ∃ m, m = s2.length := ⟨_, rfl⟩
  rw [← hm1, ← hm2] at K HB ⊢
  clear h h' hl hb hq hm1 hm2
  by_cases e1 : k1 = k2
  · subst e1
    by_cases e2 : t1 = t2
    · subst e2
      by_cases e3 : n1 = n2
      · subst e3
        have x1 : (decide (k1 = k1) && (decide (t1 = t1) && (decide (n1 = n1) && q))) = q := by simp
        rw [x1]
        clear x1
        go_enter Tryz.func56, Tryz.ntmps56
        go_wp2_with fail
        refine K.out.mono ?_
        rintro e w2 ⟨rfl, n, rfl⟩
        clear K
        go_wp2
        go_ret
        exact ⟨rfl, below_draws HB.out n⟩
      · have b3 : (n1 == n2) = false := beq_eq_false_iff_ne.2 e3
        have d3 : decide (n1 = n2) = false := decide_eq_false e3
        rw [d3]
        clear e3 d3 K
        go_enter Tryz.func56, Tryz.ntmps56
        go_wp2
        go_ret
        exact ⟨ret_bool (by simp), HB.out⟩
    · have b2 := ne_toList e2
      have b2' : (t1.toList == t2.toList) = false := beq_eq_false_iff_ne.2 b2
      have d2 : decide (t1 = t2) = false := decide_eq_false e2
      rw [d2]
      clear e2 b2 d2 K
      go_enter Tryz.func56, Tryz.ntmps56
      go_wp2
      go_ret
      exact ⟨ret_bool (by simp), HB.out⟩
  · have b1 : (k1 == k2) = false := beq_eq_false_iff_ne.2 e1
    have d1 : decide (k1 = k2) = false := decide_eq_false e1
    rw [d1]
    clear e1 d1 K
    go_enter Tryz.func56, Tryz.ntmps56
    go_wp2
    go_ret
    exact ⟨ret_bool (by simp), HB.out⟩
end Go.Proofs.YtngjooemanapnaaGreatDoor
namespace Go.Proofs.YtngjooemanapnaaGreatDoor
open Go.RowKit Go.Maps
set_option maxRecDepth 100000
set_option linter.unusedSectionVars false
variable [Inhabited ComV] [DecidableEq D3] [Inhabited D3] [Inhabited Dd] [Inhabited Dn] [Inhabited OpV]

/-- Kept out of the walk's sight. -/
structure ShutJ (p : Prop) : Prop where
  out : p
/-- A value of memory, to be held against another one. -/
theorem ValAt.x {w : World} {v : Value} {x : ValV} (h : ValAt w v x) : ∃ sv, v = .agg #[.int .i64 x.kind, .string x.text, .int .i64 x.n, sv] ∧ StrsX w sv x.set := by
  obtain ⟨sv, h1, h2⟩ := h
  exact ⟨sv, h1, h2.x⟩
set_option maxHeartbeats 4000000 in
/-- isTrue. -/
theorem isTrue_any (A : Nat → Addr) (w : World) (hE : E5 A w) (r : SnV) (sv : Value) (h : StrsX w sv r.v.set) (v : Value) (l : List ComV) (hv : ComsAt w v l) (hl : l.length ≤ 1000) (hsm : ∀ c ∈ l, SmallC c) (hok : ∀ i, i < l.length → listBad l i = 0) (hx : (valA (opsR r.key l)).set.length ≤ 1000000) :
    Calls Tryz.prog 53 #[.agg #[.string r.key, .int .i64 r.v.kind, .string r.v.text, .int .i64 r.v.n, sv], v] w fun e w' => e = .returned (.bool (trueB l r)) ∧ Below w.heap.size w w' := by
  have h13 := hE.size
  obtain ⟨a, n, cp, rfl⟩ : ∃ a n cp, v = .slice a n cp := by obtain ⟨a, cp, rfl, _⟩ := hv.shape; exact ⟨_, _, _, rfl⟩
  obtain ⟨sa, sc, rfl⟩ := h.len
  obtain ⟨o0, ho0⟩ : ∃ o0, o0 = Obj.cells #[.string r.key, .int .i64 r.v.kind, .string r.v.text, .int .i64 r.v.n, .slice sa r.v.set.length sc] 70 := ⟨_, rfl⟩
  have b0 := below_alloc w o0
  have hx0 : (w.alloc o0).heap[w.heap.size]? = some (.cells #[.string r.key, .int .i64 r.v.kind, .string r.v.text, .int .i64 r.v.n, .slice sa r.v.set.length sc] 70 (0, 0)) := by rw [ho0]; exact heap_new _ _
  unfold trueB
  cases hn : nameB r.key with
  | false =>
    have K := of_err A (w.alloc o0) (hE.below b0 h13) r.key (.slice a n cp) l (hv.mono b0 (Nat.le_refl _)) hl hsm 3 (by unfold errOf; rw [if_pos hn])
    rw [Bool.false_and]
    have KK := hid K
    clear K hE h hv hsm hok hx hn
    go_enter Tryz.func53, Tryz.ntmps53
    go_wp2_with fail
    rw [← ho0]
    refine KK.out.mono ?_
    rintro e w2 ⟨t, ad, rfl, _, hb⟩
    have B2 := hid (b0.trans (hb.mono b0.size))
    unfold zeroV
    clear KK hb hx0 ho0 b0
    go_wp2
    go_ret
    refine ⟨rfl, ?_⟩
    exact B2.out.alloc B2.out.size _
  | true =>
    have K := of_ok A (w.alloc o0) (hE.e4.below b0 (by omega)) (by have := b0.size; omega) r.key hn (.slice a n cp) l (hv.mono b0 (Nat.le_refl _)) hl hsm hok
    rw [Bool.true_and]
    have KK := hid K
    clear K hE hv hsm hok hn
    have HX := hid hx
    have HS := hid h
    clear hx h
    go_enter Tryz.func53, Tryz.ntmps53
    go_wp2_with fail
    rw [← ho0]
    refine KK.out.mono ?_
    rintro e w2 ⟨vv, ds, rfl, hI, hV, hb⟩
    have hds := opsR_of hI
    subst hds
    obtain ⟨tv, rfl, ht⟩ := hV.x
    have hb2 := b0.trans (hb.mono b0.size)
    have hx2 : w2.heap[w.heap.size]? = some (.cells #[.string r.key, .int .i64 r.v.kind, .string r.v.text, .int .i64 r.v.n, .slice sa r.v.set.length sc] 70 (0, 0)) := (hb.block _ (by simp)).trans hx0
    obtain ⟨vx, hvx⟩ : ∃ vx, vx = valA (opsR r.key l) := ⟨_, rfl⟩
    rw [← hvx] at ht ⊢
    have HVX := ShutJ.mk hvx
    have hx3 := HX.out
    rw [← hvx] at hx3
    have KS := fun o => hid (sameValJ_any (w2.alloc o) vx r.v tv (.slice sa r.v.set.length sc) (ht.mono (below_alloc w2 o) (Nat.le_refl _)) (HS.out.mono (hb2.alloc hb2.size o) (Nat.le_refl _)) hx3)
    have c1 : ∀ o, (w2.alloc o).cell? ⟨w.heap.size, 1, none⟩ = some (.int .i64 r.v.kind) := fun o => cell_alloc ((cell_of hx2).trans rfl) o
    have c2 : ∀ o, (w2.alloc o).cell? ⟨w.heap.size, 2, none⟩ = some (.string r.v.text) := fun o => cell_alloc ((cell_of hx2).trans rfl) o
    have c3 : ∀ o, (w2.alloc o).cell? ⟨w.heap.size, 3, none⟩ = some (.int .i64 r.v.n) := fun o => cell_alloc ((cell_of hx2).trans rfl) o
    have c4 : ∀ o, (w2.alloc o).cell? ⟨w.heap.size, 4, none⟩ = some (.slice sa r.v.set.length sc) := fun o => cell_alloc ((cell_of hx2).trans rfl) o
    obtain ⟨ta, tc, rfl⟩ := ht.len
    have B2 := hid hb2
    obtain ⟨rk, ⟨r1, r2, r3, r4⟩⟩ := r
    obtain ⟨x1, x2, x3, x4⟩ := vx
    simp only at KS c1 c2 c3 c4
    obtain ⟨q, hq⟩ : ∃ q, q = sameV ⟨x1, x2, x3, x4⟩ ⟨r1, r2, r3, r4⟩ := ⟨_, rfl⟩
    simp only [← hq] at KS
    have HQ := ShutJ.mk hq
    clear KK hb hb2 hx0 hx2 ho0 b0 hI hV ht hvx hx3 hq HS HX
    go_wp2_with fail
    with_reducible refine (KS _).out.mono ?_
    rintro e w3 ⟨rfl, hb3⟩
    have B3 : Hid (Below w.heap.size w w3) := hid ((B2.out.alloc B2.out.size _).trans (hb3.mono (B2.out.alloc B2.out.size _).size))
    clear hb3 KS c1 c2 c3 c4
    go_wp2
    go_ret
    refine ⟨ret_bool ?_, B3.out⟩
    rw [← HVX.out]
    exact HQ.out
end Go.Proofs.YtngjooemanapnaaGreatDoor
namespace Go.Proofs.YtngjooemanapnaaGreatDoor
open Go.RowKit Go.Sort Go.Maps
set_option maxRecDepth 100000
set_option linter.unusedSectionVars false
variable [Inhabited ComV] [DecidableEq D3] [Inhabited D3] [Inhabited Dd] [Inhabited Dn] [Inhabited OpV]

theorem valA_set_len (ds : List Dn) : (valA ds).set.length ≤ ds.length := by
  unfold valA
  split
  · exact Nat.zero_le _
  · split
    · exact Nat.zero_le _
    · split
      · exact Nat.zero_le _
      · show (setA _).length ≤ _
        unfold setA
        refine Nat.le_trans (Lib.compact_length_le _) ?_
        rw [List.length_mergeSort, List.length_map, List.length_map]
        unfold standA
        exact List.length_filter_le _ _
theorem opsR_set_len {key : ByteArray} {l : List ComV} (hl : l.length ≤ 1000) (hok : ∀ i, i < l.length → listBad l i = 0) : (valA (opsR key l)).set.length ≤ 1000000 := by
  have h1 := isOps_len (opsR_isOps key l) (fun c hc => by
    obtain ⟨i, hi, rfl⟩ := List.getElem_of_mem hc
    have := (comOk_of (c := l[i]!) (by
      have := hok i hi
      unfold listBad at this
      split at this
      · rename_i h; exact absurd this h
      · rename_i h; simpa using h)).few
    rwa [getElem!_pos l i hi] at this)
  have := valA_set_len (opsR key l)
  omega
theorem src_owns {w : World} {base : Nat} {v : Value} {n : Nat} {news : List Value} (h : w.ownsRow base 41 3 v n news) : SrcAt w v n 3 news := by
  obtain ⟨hl, h2⟩ := h
  rcases h2 with ⟨rfl, h0⟩ | ⟨g, cap, cur, rfl, hb, hh, hn, hm, hs, ht⟩
  · exact .inl ⟨by rfl, h0, List.eq_nil_of_length_eq_zero (by omega)⟩
  · refine .inr ⟨_, cap, rfl, hl, fun j u hu => ?_⟩
    rw [Addr.add_lit, Nat.zero_add]
    simp only [World.cell?, hh]
    rw [← ht, List.getElem?_take] at hu
    split at hu
    · rw [Array.getElem?_toList] at hu
      rw [hu]
      rfl
    · cases hu
def ClRet (w : World) (n : Nat) (news : List Value) (x : Ending) (w' : World) : Prop := ∃ a c, x = .returned (.slice a n c) ∧ w'.ownsRow w.heap.size 41 3 (.slice a n c) n news ∧ Below w.heap.size w w'
set_option maxHeartbeats 2000000 in
theorem clone49 (w : World) (a : Option Addr) (n c : Nat) (news : List Value) (h : SrcAt w (.slice a n c) n 3 news) (h1 : ∀ u ∈ news, u.oneCell' = true) (hl : n ≤ 1000000) : Calls Tryz.prog 49 #[.slice a n c] w (ClRet w n news) := by
  have q22 : ∀ (w : World) (a : Option Addr) (n c n' c' : Nat), (binOp .eql 96 (.slice a n c) (.slice none n' c')).run Tryz.prog w = .ok (.bool a.isNone) w := fun w a n c n' c' => Lib.run_eql_slice_nil w _ _ a n c n' c' Tryz.underlying96
  obtain ⟨i0, hi, hz0, hz1, hz2⟩ := info_parts info41
  have HS := hid h
  have H1 := hid h1
  clear h h1
  cases a with
  | none =>
    have hh : n = 0 ∧ c = 0 ∧ news = [] := by
      rcases HS.out with ⟨h1, h2, h3⟩ | ⟨ad, c', h1, _⟩
      · injection h1 with _ h4 h5
        exact ⟨h4, h5, h3⟩
      · cases h1
    obtain ⟨rfl, rfl, rfl⟩ := hh
    go_enter Tryz.func49, Tryz.ntmps49
    go_wp2
    go_ret
    exact ⟨none, 0, rfl, World.ownsRow_nil _ _ _ _, Below.refl _ _⟩
  | some ad =>
    have hsrc : ∀ o, SrcAt (w.alloc o) (.slice (some ad) n c) n 3 news := fun o => by
      rcases HS.out with ⟨h1, _⟩ | ⟨ad', c', h1, h2, h3⟩
      · cases h1
      · exact .inr ⟨ad', c', h1, h2, fun j u hu => cell_alloc (h3 j u hu) o⟩
    have HSR := hid hsrc
    clear hsrc HS
    go_enter Tryz.func49, Tryz.ntmps49
    go_wp2_with (at_builtin; refine wpList_append_own_src rfl _ _ 96 rfl w.heap.size 41 i0 _ 3 56 Tryz.underlying96 hi hz0 hz1 hz2 rfl (by decide) _ _ _ rfl (World.ownsRow_made w #[] 0 (Nat.le_refl _) (Nat.zero_le _) rfl) _ n news rfl (HSR.out _) H1.out ?hm2 ?hm3 ?hm4 ?_; (case hm2 => unfold maxLen; omega); (case hm3 => omega); (case hm4 => simp); intro v3 w3 hown3 hgrow3)
    rw [Nat.zero_add, List.nil_append] at hown3
    obtain ⟨a3, c3, rfl⟩ := row_shape hown3
    have HT := hid hown3
    have HB : Hid (Below w.heap.size w w3) := ((Below.refl _ w).alloc (Nat.le_refl _) _).grown hgrow3 (by simp) (fun k hk => ((World.ownsRow_made (e := 41) (size := 3) (base := w.heap.size) w #[] 0 (Nat.le_refl _) (Nat.zero_le _) rfl).lt k hk).1)
    clear hown3 hgrow3
    go_wp2
    go_ret
    exact ⟨a3, c3, rfl, HT.out, HB.out⟩
/-- A row of one's own, by its commits. -/
theorem holds_owns {G : Cm → Prop} [Inhabited (CmG G)] {w : World} {base : Nat} {v : Value} {n : Nat} {zs : List (CmG G)} (hn : n = zs.length) (h : w.ownsRow base 41 3 v n ((zs.map (·.1)).flatMap Cm.enc)) : (v = .slice none 0 0 ∧ zs = []) ∨ ∃ g cap, v = .slice (some ⟨g, 0, none⟩) zs.length cap ∧ base ≤ g ∧ g < w.heap.size ∧ zs.length ≤ cap ∧ HoldsK encG 3 w g 0 zs.toArray := by
  subst hn
  obtain ⟨_, h2⟩ := h
  rcases h2 with ⟨rfl, h0⟩ | ⟨g, cap, cur, rfl, hb, hh, hn, hm, hs, ht⟩
  · exact .inl ⟨rfl, List.eq_nil_of_length_eq_zero h0⟩
  · refine .inr ⟨g, cap, rfl, hb, lt_of_heap hh, hn, ?_⟩
    rw [holdsC_iff]
    intro j hj i hi
    have hj' : j < zs.length := by simpa using hj
    have e := flat_enc (zs.map (·.1)) j i (by simpa using hj') hi
    rw [← ht, List.getElem?_take, if_pos (by omega), Array.getElem?_toList, List.getElem?_map, List.getElem?_eq_getElem hj'] at e
    have e2 : cur[j * 3 + i]? = some ((encG zs.toArray[j]!)[i]!) := by
      have e3 : cur[j * 3 + i]? = (encG zs[j])[i]? := e
      have e4 : zs.toArray[j]! = zs[j] := by rw [getElem!_pos zs.toArray j hj]; simp
      rw [e3, e4, getElem!_pos (encG zs[j]) i (by rw [encG_length]; exact hi), List.getElem?_eq_getElem (by rw [encG_length]; exact hi)]
    refine ⟨?_, ?_⟩
    · simp only [World.cell?, hh]
      rw [e2]
      simp
    · simp only [World.frozen?, hh]
      simp
theorem coms_holds {G : Cm → Prop} [Inhabited (CmG G)] {w : World} {g n cap : Nat} {zs : List (CmG G)} (hn : n = zs.length) (hc : zs.length ≤ cap) (h : HoldsK encG 3 w g 0 zs.toArray) (hg : ∀ x : CmG G, GoodC w x.1) : ComsAt w (.slice (some ⟨g, 0, none⟩) n cap) (zs.map fun x => x.1.c) := by
  have := coms_of_cells (w := w) (b := g) (n := n) (cap := cap) (xs := zs.map (·.1)) (by rw [List.length_map]; exact hn) (by rw [List.length_map]; exact hc) (fun j hj i u hu => by
    rw [List.length_map] at hj
    rw [List.getElem?_map, List.getElem?_eq_getElem hj] at hu
    have hi : i < 3 := (List.getElem?_eq_some_iff.1 hu).1
    have := (holdsC_iff.1 h j (by simpa using hj) i hi).1
    rw [Nat.zero_add, this, getElem!_pos zs.toArray j (by simpa using hj)]
    have e : (encG zs.toArray[j])[i]? = some u := hu
    rw [List.getElem!_eq_getElem?_getD, e]
    rfl) (fun x hx => by obtain ⟨y, _, rfl⟩ := List.mem_map.1 hx; exact hg y)
  rw [List.map_map] at this
  exact this
end Go.Proofs.YtngjooemanapnaaGreatDoor
namespace Go.Proofs.YtngjooemanapnaaGreatDoor
open Go.RowKit Go.Sort Go.Maps
set_option maxRecDepth 100000
set_option linter.unusedSectionVars false
variable [Inhabited ComV] [DecidableEq D3] [Inhabited D3] [Inhabited Dd] [Inhabited Dn] [Inhabited OpV]

/-- A commit in memory that is not too great. -/
abbrev GC (wq : World) (x : Cm) : Prop := GoodC wq x ∧ SmallC x.c
set_option maxHeartbeats 2000000 in
/-- Is a commit not within? -/
theorem keep_any (A : Nat → Addr) (wq W : World) (hq : Below wq.heap.size wq W) (hE : E4 A W) (h12 : 12 ≤ W.heap.size) (eb : Nat) (e : EvV) (av rv wv ov : Value) (hbox : W.heap[eb]? = some (.cells (evCells e av rv wv ov).toArray 69 (0, 0))) (he : EvAt wq e av wv ov) (hz : e.at_.length ≤ 1000000) (x : CmG (GC wq)) :
    Calls Tryz.prog 50 #[.agg (encG x).toArray, .pointer (some ⟨eb, 0, none⟩)] W fun r w' => r = .returned (.bool (!inB x.1.c.when_ e.at_)) ∧ ∃ n, w' = (W.alloc (.cells (encG x).toArray 41)).drewN n := by
  obtain ⟨⟨u1, u2, u3, u4, u5, u6, u7, uc⟩, ⟨⟨g1, g2, g3⟩, g4⟩⟩ := x
  simp only [encG, Cm.enc] at g1 g2 g3 g4 ⊢
  have K := fun o => hid (withinJ_any A (W.alloc o) (hE.below (below_alloc _ _) h12) (.slice u1 u2 u3) av _ _ (g1.mono (hq.trans ((below_alloc W o).mono hq.size)) (Nat.le_refl _)) (he.at_.mono (hq.trans ((below_alloc W o).mono hq.size)) (Nat.le_refl _)) g4.1 hz)
  obtain ⟨aa, ac, rfl⟩ := he.at_.slice
  have c2 : ∀ o, (W.alloc o).cell? ⟨eb, 2, none⟩ = some (.slice aa e.at_.length ac) := fun o => cell_alloc ((cell_of hbox).trans rfl) o
  have hne : eb ≠ W.heap.size := by have := lt_of_heap hbox; omega
  obtain ⟨q, hQ⟩ : ∃ q, q = inB uc.when_ e.at_ := ⟨_, rfl⟩
  rw [← hQ] at K ⊢
  clear hbox he g1 g2 g3 g4 hE hq hQ hz
  go_enter Tryz.func50, Tryz.ntmps50
  go_wp2_with fail
  with_reducible refine (K _).out.mono ?_
  rintro r w' ⟨rfl, n, rfl⟩
  go_wp2
  go_ret
  exact ⟨rfl, n, rfl⟩
theorem not_all {α : Type} (p : α → Bool) (l : List α) : (!l.all p) = l.any fun x => !p x := by
  induction l with
  | nil => rfl
  | cons a l ih => rw [List.all_cons, List.any_cons, Bool.not_and, ih]
/-- A read of memory, and what its set reads as. -/
structure Rd where
  key : ByteArray
  kind : Int
  text : ByteArray
  n : Int
  sa : Option Addr
  sn : Nat
  sc : Nat
  set : List (List UInt8)
def Rd.enc (x : Rd) : List Value := [.string x.key, .int .i64 x.kind, .string x.text, .int .i64 x.n, .slice x.sa x.sn x.sc]
def Rd.sn_ (x : Rd) : SnV := ⟨x.key, ⟨x.kind, x.text, x.n, x.set⟩⟩
abbrev RdG (wq : World) := { x : Rd // StrsX wq (.slice x.sa x.sn x.sc) x.set }
def encR {wq : World} (x : RdG wq) : List Value := x.1.enc
/-- Reads of memory. -/
theorem rds_of {w : World} : ∀ {rows : List (List Value)} {rs : List SnV}, F2 (SnRow w) rows rs → ∃ zs : List (RdG w), zs.map encR = rows ∧ zs.map (·.1.sn_) = rs
  | [], [], _ => ⟨[], rfl, rfl⟩
  | r :: rows, s :: rs, ⟨⟨sv, h1, h2⟩, h⟩ => by
    obtain ⟨zs, e1, e2⟩ := rds_of h
    obtain ⟨a, c, rfl⟩ := h2.len
    refine ⟨⟨⟨s.key, s.v.kind, s.v.text, s.v.n, a, s.v.set.length, c, s.v.set⟩, h2⟩ :: zs, ?_, ?_⟩
    · rw [List.map_cons, e1, h1]; rfl
    · rw [List.map_cons, e2]; rfl
set_option maxHeartbeats 2000000 in
theorem notTrue_any (A : Nat → Addr) (wq W : World) (hq : Below wq.heap.size wq W) (hE : E5 A W) (sb : Nat) (sv : Value) (l : List ComV) (hs : W.cell? ⟨sb, 0, none⟩ = some sv) (hv : ComsAt W sv l) (hl : l.length ≤ 1000) (hsm : ∀ c ∈ l, SmallC c) (hok : ∀ i, i < l.length → listBad l i = 0) (x : RdG wq) :
    Calls Tryz.prog 52 #[.agg (encR x).toArray, .pointer (some ⟨sb, 0, none⟩)] W fun r w' => r = .returned (.bool (!trueB l x.1.sn_)) ∧ Below W.heap.size W w' := by
  obtain ⟨⟨u1, u2, u3, u4, u5, u6, u7, us⟩, hx⟩ := x
  have h13 := hE.size
  simp only [encR, Rd.enc, Rd.sn_] at hx ⊢
  have hb := fun o => below_alloc W o
  have K := fun o => hid (isTrue_any A (W.alloc o) (hE.below (below_alloc _ _) h13) ⟨u1, ⟨u2, u3, u4, us⟩⟩ (.slice u5 u6 u7) (hx.mono (hq.trans ((below_alloc W o).mono hq.size)) (Nat.le_refl _)) sv l (hv.mono (below_alloc W o) (Nat.le_refl _)) hl hsm hok (opsR_set_len hl hok))
  obtain ⟨a, c, rfl, _⟩ := hv.shape
  have c0 : ∀ o, (W.alloc o).cell? ⟨sb, 0, none⟩ = some (.slice a l.length c) := fun o => cell_alloc hs o
  have hne : sb ≠ W.heap.size := by have := lt_of_cell hs; simp only at this; omega
  obtain ⟨q, hQ⟩ : ∃ q, q = trueB l ⟨u1, ⟨u2, u3, u4, us⟩⟩ := ⟨_, rfl⟩
  rw [← hQ] at K ⊢
  clear hx hv hs hE hok hsm hQ hq
  go_enter Tryz.func52, Tryz.ntmps52
  go_wp2_with fail
  with_reducible refine (K _).out.mono ?_
  rintro r w' ⟨rfl, hbb⟩
  have B := hid hbb
  clear hbb K
  go_wp2
  go_ret
  exact ⟨rfl, (hb _).trans (B.out.mono (by simp))⟩
theorem indexFuncR_none (w : World) (p : Option Addr) (cap : Nat) (fv : Value) : Calls Tryz.prog 73 #[.slice p 0 cap, fv] w fun e w' => e = .returned (.int .i64 (-1)) ∧ w' = w := by
  go_enter Tryz.func73, Tryz.ntmps73
  go_wp2
  refine wp_loop_rounds 1 ?_
  rw [rounds_succ]
  go_wp2
  go_ret
  exact ⟨rfl, rfl⟩
theorem containsR_none (w : World) (p : Option Addr) (cap : Nat) (fv : Value) : Calls Tryz.prog 51 #[.slice p 0 cap, fv] w fun e w' => e = .returned (.bool false) ∧ w' = w := by
  go_enter Tryz.func51, Tryz.ntmps51
  go_wp2_with (go_at_call 73; refine (indexFuncR_none _ _ _ _).mono ?_; rintro e w' ⟨rfl, rfl⟩)
  go_ret
  exact ⟨rfl, rfl⟩
theorem lies_any (A : Nat → Addr) (wq w : World) (hq : Below wq.heap.size wq w) (hE : E5 A w) (sb : Nat) (sv : Value) (l : List ComV) (hs : w.cell? ⟨sb, 0, none⟩ = some sv) (hv : ComsAt w sv l) (hl : l.length ≤ 1000) (hsm : ∀ c ∈ l, SmallC c) (hok : ∀ i, i < l.length → listBad l i = 0) (rv : Value) (rs : List SnV) (hr : SnsAt wq rv rs) (hrl : rs.length ≤ 1000000) :
    Calls Tryz.prog 51 #[rv, .func (.func 52) #[] #[.pointer (some ⟨sb, 0, none⟩)]] w fun r w' => r = .returned (.bool (!readsB l rs)) ∧ Below w.heap.size w w' := by
  have h13 := hE.size
  obtain ⟨rows, ⟨ad, cap, rfl, hn, hcap, h⟩, hf⟩ := hr
  have hlen := f2_len hf
  have hneg : (!readsB l rs) = rs.any fun r => !trueB l r := by
    unfold readsB
    exact not_all _ _
  rw [hneg]
  by_cases h0 : rs = []
  · subst h0
    obtain rfl : rows = [] := List.eq_nil_of_length_eq_zero hlen
    refine (containsR_none w ad cap _).mono ?_
    rintro e w' ⟨rfl, rfl⟩
    exact ⟨rfl, Below.refl _ _⟩
  · have hpos : 0 < rs.length := List.length_pos_iff.2 h0
    obtain ⟨zs, e1, e2⟩ := rds_of hf
    have hzl : zs.length = rs.length := by rw [← e2, List.length_map]
    rcases h with h | ⟨b, off, rfl, h⟩
    · rw [h] at hlen; simp at hlen; omega
    · have hcell : ∀ j (hj : j < zs.length), ∀ i u, (encR zs[j])[i]? = some u → w.cell? ⟨b, off + j * 5 + i, none⟩ = some u := fun j hj i u hu => by
        have := (h j (encR zs[j]) (by rw [← e1, List.getElem?_map, List.getElem?_eq_getElem hj]; rfl)).2 i u hu
        rw [hq.cell (p := ⟨b, off + j * 5 + i, none⟩) (lt_of_cell this)]
        exact this
      have hb : b < w.heap.size := lt_of_cell (hcell 0 (by omega) 0 _ rfl)
      haveI : Inhabited (RdG wq) := ⟨zs[0]'(by omega)⟩
      have hsl := lt_of_cell hs
      have hcon := AnyQ.slices_ContainsFunc Tryz.hasSn 5 Tryz.isAgg70 Tryz.sizeOf70 (encR (wq := wq)) (fun _ => rfl) (fun x => !trueB l x.1.sn_) 52 #[.pointer (some ⟨sb, 0, none⟩)] (enters_of Tryz.func52 (by kernel_rfl) rfl) b off rs.length cap zs w
        (fun W x hW => (notTrue_any A wq W (hq.trans (hW.mono hq.size)) (hE.below hW h13) sb sv l (by rw [hW.cell (p := ⟨sb, 0, none⟩) hsl]; exact hs) (hv.mono hW (Nat.le_refl _)) hl hsm hok x).mono fun _ _ ⟨he, hw⟩ => ⟨he, hW.trans (hw.mono hW.size)⟩) (by omega) (by omega) hb (fun j hj i u hu => by
          refine hcell j hj i u ?_
          rw [← getElem!_pos zs j hj]
          exact hu)
      change Calls Tryz.prog 51 _ _ _ at hcon
      rw [List.take_of_length_le (by omega)] at hcon
      rw [show rows.length = rs.length by omega]
      refine hcon.mono ?_
      rintro e w' ⟨rfl, hw⟩
      exact ⟨ret_bool (by rw [← e2, List.any_map]; rfl), hw⟩
end Go.Proofs.YtngjooemanapnaaGreatDoor
