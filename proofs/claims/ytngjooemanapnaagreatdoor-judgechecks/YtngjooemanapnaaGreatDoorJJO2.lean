/- What the law's walk asks besides: bounds of verdicts and rounds; what stays; the closed fact; judge.Seen. -/
import Derived.Test.YtngjooemanapnaaGreatDoorJJL
import Derived.Test.YtngjooemanapnaaGreatDoorJJP
import Derived.Test.YtngjooemanapnaaGreatDoorJJQ
namespace Go.Proofs.YtngjooemanapnaaGreatDoor
open Go.RowKit Go.Sort Go.Maps
set_option maxRecDepth 100000
set_option linter.unusedSectionVars false
variable [Inhabited ComV] [DecidableEq D3] [Inhabited D3] [Inhabited Dd] [Inhabited Dn] [Inhabited OpV]

theorem srcAt_mono {w w' : World} {v : Value} {m size B : Nat} {news : List Value} (h : SrcAt w v m size news) (hb : Below B w w') (hB : w.heap.size ≤ B) : SrcAt w' v m size news := by
  rcases h with h | ⟨ad, c, h1, h2, h3⟩
  · exact .inl h
  · exact .inr ⟨ad, c, h1, h2, fun j u hj => by
      have := h3 j u hj
      rw [hb.cell (Nat.lt_of_lt_of_le (lt_of_cell this) hB)]
      exact this⟩
theorem SnRowN.mono {w w' : World} {cs : List Value} {r : SnV} {B : Nat} (h : SnRowN w cs r) (hb : Below B w w') (hB : w.heap.size ≤ B) : SnRowN w' cs r :=
  let ⟨sv, h1, h2, h3⟩ := h; ⟨sv, h1, srcAt_mono h2 hb hB, h3.mono hb hB⟩
theorem SnsAtN.mono {w w' : World} {v : Value} {rs : List SnV} {B : Nat} (h : SnsAtN w v rs) (hb : Below B w w') (hB : w.heap.size ≤ B) : SnsAtN w' v rs :=
  let ⟨r, h1, h2⟩ := h; ⟨r, h1.mono hb hB, f2_mono (fun _ _ h => h.mono hb hB) h2⟩
theorem EvRowN.mono {w w' : World} {cs : List Value} {e : EvV} {B : Nat} (h : EvRowN w cs e) (hb : Below B w w') (hB : w.heap.size ≤ B) : EvRowN w' cs e :=
  let ⟨a, r, c, o, h1, h2, h3⟩ := h; ⟨a, r, c, o, h1, h2.mono hb hB, h3.mono hb hB⟩
theorem EvsAtN.mono {w w' : World} {v : Value} {l : List EvV} {B : Nat} (h : EvsAtN w v l) (hb : Below B w w') (hB : w.heap.size ≤ B) : EvsAtN w' v l :=
  let ⟨r, h1, h2⟩ := h; ⟨r, h1.mono hb hB, f2_mono (fun _ _ h => h.mono hb hB) h2⟩
theorem TssAt.mono {w w' : World} {v : Value} {tss : List (List Nat)} {B : Nat} (h : TssAt w v tss) (hb : Below B w w') (hB : w.heap.size ≤ B) : TssAt w' v tss := by
  obtain ⟨ad, cap, rfl, h⟩ := h
  refine ⟨ad, cap, rfl, ?_⟩
  rcases h with h | ⟨b, rfl, h⟩
  · exact .inl h
  · refine .inr ⟨b, rfl, fun j hj => ?_⟩
    obtain ⟨sv, h1, h2⟩ := h j hj
    exact ⟨sv, by rw [hb.cell (Nat.lt_of_lt_of_le (lt_of_cell h1) hB)]; exact h1, h2.mono hb hB⟩
/-! ### How great a verdict's number is -/
theorem wholeB_le (n : Int) (e : EvV) : wholeB n e ≤ 12 := by
  unfold wholeB
  have := comErr_le e.c
  repeat' split
  all_goals omega
theorem besideB_le (l : List EvV) (i : Nat) : besideB l i ≤ 12 := by
  unfold besideB
  repeat' split
  all_goals omega
theorem two_le (zs ys : List Int) : (two zs ys).toNat ≤ 12 := by
  unfold two
  rcases chk_cases zs with h | h | h <;> rcases chk_cases ys with h' | h' | h' <;> rw [h, h'] <;> (repeat' split) <;> omega
theorem cutB_le (l : List EvV) (i : Nat) : cutB l i ≤ 12 := by
  unfold cutB
  have := two_le (l.getD i ev0).c.when_ (l.getD i ev0).at_
  repeat' split
  all_goals omega
theorem checkE_le (n : Int) (l : List EvV) : (checkE n l).1 ≤ 12 := by
  unfold checkE
  split
  · decide
  · split
    · exact scan_le fun i => wholeB_le n _
    · exact scan_le fun i => besideB_le l i
theorem checkE_zero {n : Int} {l : List EvV} (h : (checkE n l).1 = 0) : checkE n l = (0, none) := by
  unfold checkE at h ⊢
  split at h
  · cases h
  · rename_i h1
    rw [if_neg h1]
    split at h
    · rename_i h2
      exact absurd h h2
    · rename_i h2
      rw [if_neg h2]
      exact scan_fst_zero h
theorem cutsE_le (l : List EvV) : (cutsE l).1 ≤ 12 := by
  unfold cutsE
  split
  · exact scan_le fun i => cutB_le l i
  · split
    · show 0 ≤ 12; omega
    · show 10 ≤ 12; omega
theorem cutsE_zero {l : List EvV} (h : (cutsE l).1 = 0) : cutsE l = (0, none) := by
  unfold cutsE at h ⊢
  split at h
  · rename_i h1
    exact absurd h h1
  · rename_i h1
    rw [if_neg h1]
    split at h
    · rename_i h2
      rw [if_pos h2]
    · cases h
/-! ### How many rounds, and of how many -/
theorem cutsL_len {n : Nat} {rel : Nat → Nat → Bool} : ∀ (f : Nat) (P : Nat → Bool) (out : List (List Nat)), (∀ ts ∈ out, ts.length ≤ n) → (∀ ts ∈ (cutsL n rel f P out).1, ts.length ≤ n) ∧ (cutsL n rel f P out).1.length ≤ out.length + f
  | 0, _, out, h => ⟨h, Nat.le_refl _⟩
  | f + 1, P, out, h => by
    unfold cutsL
    split
    · exact ⟨h, by show out.length ≤ _; omega⟩
    · split
      · exact ⟨fun ts ht => by simp at ht, by show 0 ≤ _; omega⟩
      · have h' : ∀ ts ∈ out ++ [nowL n rel P], ts.length ≤ n := fun ts ht => by
          rcases List.mem_append.1 ht with ht | ht
          · exact h ts ht
          · rw [List.mem_singleton.1 ht]; exact nowL_len n rel P
        have := cutsL_len (rel := rel) f (laidL n rel P) _ h'
        refine ⟨this.1, ?_⟩
        have h2 := this.2
        rw [List.length_append] at h2
        simp at h2
        omega
theorem cutsT_len (l : List EvV) : (∀ ts ∈ cutsT l, ts.length ≤ l.length) ∧ (cutsT l).length ≤ l.length + 1 := by
  unfold cutsT
  split
  · have := cutsL_len (n := l.length) (rel := relB l) (l.length + 1) (fun _ => false) [] (fun ts ht => by simp at ht)
    refine ⟨this.1, ?_⟩
    have h2 := this.2
    simp at h2
    exact h2
  · exact ⟨fun ts ht => by simp at ht, by simp⟩
/-! ### The closed fact -/
theorem evs_nil (w : World) : EvsAt w (.slice none 0 0) [] := ⟨[], ⟨none, 0, rfl, fun _ => rfl, Nat.le_refl _, .inl rfl⟩, trivial⟩
theorem cutsE_nil : cutsE [] = (0, none) := by
  unfold cutsE cutE cutR
  rw [show scan (cutB []) ([] : List EvV).length = (0, none) from scan_none fun i hi => absurd hi (Nat.not_lt_zero _)]
  simp [cutsL, leftL']
theorem cutsT_nil : cutsT [] = [] := by
  have := (cutsT_len []).1
  unfold cutsT
  rw [cutsE_nil]
  simp [cutR, cutsL, leftL']
theorem checkE_one : checkE 1 [] = (0, none) := by
  unfold checkE wholeE
  rw [if_neg (by omega)]
  rw [show scan (fun i => wholeB 1 (([] : List EvV).getD i ev0)) ([] : List EvV).length = (0, none) from scan_none fun i hi => absurd hi (Nat.not_lt_zero _)]
  rw [if_neg (by simp)]
  exact scan_none fun i hi => absurd hi (Nat.not_lt_zero _)
theorem checkE_nought : checkE 0 [] = (2, none) := by
  unfold checkE
  rw [if_pos (by omega)]
set_option maxHeartbeats 2000000 in
theorem judged_any (A : Nat → Addr) (B : Nat) (w : World) (hS : Sents A B w) : Calls Tryz.prog 4 #[] w fun r w' => r = .returned (.bool true) ∧ Below w.heap.size w w' := by
  have hE : ∀ e ∈ ([] : List EvV), EvFit e := fun e he => by simp at he
  have K14 : Hid (Calls Tryz.prog 14 #[.slice none 0 0] w (CuRet A [] w)) := cutsJ_any A B w hS [] _ (evs_nil w) (by simp) hE
  have K7 : Hid (∀ u, Below w.heap.size w u → ∀ n : Int, Calls Tryz.prog 7 #[.int .i64 n, .slice none 0 0] u (ErRet A (checkE n []) u)) := fun u hu n => checkJ_any A B u (hS.below (hu.mono hS.size)) n [] _ (evs_nil u) (by simp) hE
  have K11 : Hid (∀ u, Below w.heap.size w u → Calls Tryz.prog 11 #[errV A 2, .int .i64 2] u fun e w' => e = .returned (.bool true) ∧ Below u.heap.size u w') := fun u hu => coded_err A B u (hS.below (hu.mono hS.size)) 2 (by decide)
  clear hE hS
  go_enter Tryz.func4, Tryz.ntmps4
  go_wp2_with fail
  refine K14.out.mono ?_
  rintro r w1 ⟨v, x, rfl, hv, hx, hb1⟩
  rw [cutsT_nil] at hv
  rw [cutsE_nil] at hx
  obtain ⟨ad, cap, rfl, _⟩ := hv
  obtain rfl : x = .nilIface := hx
  have HB1 := hid hb1
  clear hb1
  go_wp2_with fail
  refine (K7.out w1 HB1.out 1).mono ?_
  rintro r w2 ⟨x, rfl, hx, hb2⟩
  rw [checkE_one] at hx
  obtain rfl : x = .nilIface := hx
  have HB2 := hid (HB1.out.trans (hb2.mono HB1.out.size))
  clear hb2
  go_wp2_with fail
  refine (K7.out w2 HB2.out 0).mono ?_
  rintro r w3 ⟨x, rfl, hx, hb3⟩
  rw [checkE_nought] at hx
  obtain rfl : x = errV A 2 := hx
  have HB3 := hid (HB2.out.trans (hb3.mono HB2.out.size))
  clear hb3
  go_wp2_with fail
  refine (K11.out w3 HB3.out).mono ?_
  rintro r w4 ⟨rfl, hb4⟩
  have HB4 := hid (HB3.out.trans (hb4.mono HB3.out.size))
  clear hb4
  go_wp2
  go_ret
  exact ⟨rfl, HB4.out⟩
end Go.Proofs.YtngjooemanapnaaGreatDoor
namespace Go.Proofs.YtngjooemanapnaaGreatDoor
open Go.RowKit Go.Sort Go.Maps
set_option maxRecDepth 100000
set_option linter.unusedSectionVars false
variable [Inhabited ComV] [DecidableEq D3] [Inhabited D3] [Inhabited Dd] [Inhabited Dn] [Inhabited OpV]

theorem isNumber_any (w : World) (ad : Option Addr) (n c : Nat) (a : Int) : Calls Tryz.prog 31 #[.slice ad n c, .int .i64 a] w fun r w' => r = .returned (.bool (decide (0 ≤ a) && decide (a < n))) ∧ w' = w := by
  by_cases h : 0 ≤ a
  · by_cases h2 : a < n
    · go_enter Tryz.func31, Tryz.ntmps31
      go_wp2
      go_ret
      exact ⟨ret_bool (by simp [h, h2]), rfl⟩
    · go_enter Tryz.func31, Tryz.ntmps31
      go_wp2
      go_ret
      exact ⟨ret_bool (by simp [h2]), rfl⟩
  · go_enter Tryz.func31, Tryz.ntmps31
    go_wp2
    go_ret
    exact ⟨ret_bool (by simp; intro; omega), rfl⟩
/-- What Seen tells: is it seen, and the error's number. -/
def seB (l : List EvV) (a b : Int) : Bool × Nat :=
  if a < 0 ∨ (l.length : Int) ≤ a ∨ b < 0 ∨ (l.length : Int) ≤ b then (false, 2)
  else if two (l.getD a.toNat ev0).c.when_ (l.getD b.toNat ev0).at_ ≠ 0 then (false, (two (l.getD a.toNat ev0).c.when_ (l.getD b.toNat ev0).at_).toNat)
  else (leB (l.getD a.toNat ev0).c.when_ (l.getD b.toNat ev0).at_, 0)
def SeRet (A : Nat → Addr) (s : Bool × Nat) (w : World) (r : Ending) (w' : World) : Prop := r = .returned (.tuple #[.bool s.1, errV A s.2]) ∧ Below w.heap.size w w'
set_option maxHeartbeats 4000000 in
theorem seenJ_any (A : Nat → Addr) (w : World) (hE : E4 A w) (h12 : 12 ≤ w.heap.size) (l : List EvV) (v : Value) (hv : EvsAt w v l) (hf : ∀ e ∈ l, EvFit e) (a b : Int) : Calls Tryz.prog 10 #[v, .int .i64 a, .int .i64 b] w (SeRet A (seB l a b) w) := by
  have KN := fun W ad n c a => hid (isNumber_any W ad n c a)
  have g0 := hE.bound
  by_cases h : a < 0 ∨ (l.length : Int) ≤ a ∨ b < 0 ∨ (l.length : Int) ≤ b
  · have hs : seB l a b = (false, 2) := if_pos h
    rw [hs]
    obtain ⟨va, vc, rfl, _⟩ := hv.shape
    obtain ⟨n, hn⟩ : ∃ n, n = l.length := ⟨_, rfl⟩
    rw [← hn] at h ⊢
    have K1 := hid ((KN w va n vc a).out)
    have K2 := hid ((KN w va n vc b).out)
    by_cases ha : 0 ≤ a ∧ a < n
    · have e1 : (decide (0 ≤ a) && decide (a < (n : Int))) = true := by simp [ha.1, ha.2]
      have e2 : (decide (0 ≤ b) && decide (b < (n : Int))) = false := by
        rcases h with h | h | h | h
        · omega
        · omega
        · rw [decide_eq_false (by omega : ¬ 0 ≤ b)]; rfl
        · rw [decide_eq_false (by omega : ¬ b < (n : Int)), Bool.and_false]
      rw [e1] at K1
      rw [e2] at K2
      clear KN hE hv hf h ha hs hn e1 e2
      go_enter Tryz.func10, Tryz.ntmps10
      go_wp2_with fail
      with_reducible refine K1.out.mono ?_
      rintro r w' ⟨rfl, hw'⟩
      rw [hw']
      clear hw'
      go_wp2_with fail
      with_reducible refine K2.out.mono ?_
      rintro r w' ⟨rfl, hw'⟩
      rw [hw']
      clear hw' K1 K2
      go_upto_region 2 with (fail)
      go_region
      go_wp2
      go_ret2
      exact ⟨rfl, (Below.refl _ _).drew⟩
    · have e1 : (decide (0 ≤ a) && decide (a < (n : Int))) = false := by
        rw [Bool.eq_false_iff]
        intro x
        rw [Bool.and_eq_true, decide_eq_true_eq, decide_eq_true_eq] at x
        exact ha x
      rw [e1] at K1
      clear KN hE hv hf h ha hs hn e1 K2
      go_enter Tryz.func10, Tryz.ntmps10
      go_wp2_with fail
      with_reducible refine K1.out.mono ?_
      rintro r w' ⟨rfl, hw'⟩
      rw [hw']
      clear hw' K1
      go_upto_region 2 with (fail)
      go_region
      go_wp2
      go_ret2
      exact ⟨rfl, (Below.refl _ _).drew⟩
  · obtain ⟨p, hp⟩ : ∃ p : Nat, a = p := ⟨a.toNat, by omega⟩
    obtain ⟨q, hq⟩ : ∃ q : Nat, b = q := ⟨b.toNat, by omega⟩
    subst hp hq
    have hs : seB l p q = if two (l.getD p ev0).c.when_ (l.getD q ev0).at_ ≠ 0 then (false, (two (l.getD p ev0).c.when_ (l.getD q ev0).at_).toNat) else (leB (l.getD p ev0).c.when_ (l.getD q ev0).at_, 0) := by
      unfold seB
      rw [if_neg h, Int.toNat_natCast, Int.toNat_natCast]
    rw [hs]
    have hp : p < l.length := by omega
    have hq : q < l.length := by omega
    obtain ⟨ad, cap, rfl, _, hcap, hv'⟩ := hv.shape
    obtain ⟨bb, off, rfl, hv2⟩ := hv'.resolve_left (fun h => by rw [h] at hp; simp at hp)
    obtain ⟨av1, rv1, wv1, ov1, he1, _, hc1⟩ := hv2 p hp
    obtain ⟨av2, rv2, wv2, ov2, he2, _, hc2⟩ := hv2 q hq
    have hf1 := hf _ (getD_mem hp)
    have hf2 := hf _ (getD_mem hq)
    obtain ⟨e1, hee1⟩ : ∃ e1, e1 = l.getD p ev0 := ⟨_, rfl⟩
    obtain ⟨e2, hee2⟩ : ∃ e2, e2 = l.getD q ev0 := ⟨_, rfl⟩
    rw [← hee1] at he1 hc1 hf1 ⊢
    rw [← hee2] at he2 hc2 hf2 ⊢
    obtain ⟨n, hn⟩ : ∃ n, n = l.length := ⟨_, rfl⟩
    rw [← hn] at hp hq hcap ⊢
    have K1 := hid ((KN w (some ⟨bb, off, none⟩) n cap p).out)
    have K2 := hid ((KN w (some ⟨bb, off, none⟩) n cap q).out)
    rw [show (decide (0 ≤ (p : Int)) && decide ((p : Int) < (n : Int))) = true by simp; omega] at K1
    rw [show (decide (0 ≤ (q : Int)) && decide ((q : Int) < (n : Int))) = true by simp; omega] at K2
    obtain ⟨wa, wc, rfl⟩ := he1.when_.slice
    obtain ⟨aa, ac, rfl⟩ := he2.at_.slice
    have c1 : w.cell? ⟨bb, off + p * 7 + 4, none⟩ = some (.slice wa e1.c.when_.length wc) := hc1 4 _ rfl
    have c2 : w.cell? ⟨bb, off + q * 7 + 2, none⟩ = some (.slice aa e2.at_.length ac) := hc2 2 _ rfl
    have hp1 : (p : Int) < (n : Int) := by omega
    have hq1 : (q : Int) < (n : Int) := by omega
    have l1 := lt_of_cell c1
    have l2 := lt_of_cell c2
    have HELD : Hid (∀ u, Below w.heap.size w u → u.cell? ⟨bb, off + p * 7 + 4, none⟩ = some (.slice wa e1.c.when_.length wc) ∧ u.cell? ⟨bb, off + q * 7 + 2, none⟩ = some (.slice aa e2.at_.length ac)) := hid fun u hu => ⟨by rw [hu.cell (p := ⟨bb, off + p * 7 + 4, none⟩) l1]; exact c1, by rw [hu.cell (p := ⟨bb, off + q * 7 + 2, none⟩) l2]; exact c2⟩
    have hd0 : Below w.heap.size w w := Below.refl _ _
    have hd1 : Below w.heap.size w w.drew := hd0.drew
    by_cases ht : two e1.c.when_ e2.at_ = 0
    · rw [if_neg (fun x => x ht)]
      have KK : ∀ u, Below w.heap.size w u → Hid (Calls Tryz.prog 32 #[.slice wa e1.c.when_.length wc, .slice aa e2.at_.length ac] u fun r w' => r = .returned (.tuple #[.bool (leB e1.c.when_ e2.at_), .nilIface]) ∧ ∃ q, w' = u.drewN q) := fun u hu => hid (Within_ok A u (hE.below hu h12) _ _ _ _ (he1.when_.mono hu (Nat.le_refl _)) (he2.at_.mono hu (Nat.le_refl _)) ht)
      have K32 := hid KK
      clear KN hE hv hf hs hn hv' hv2 he1 he2 hc1 hc2 hf1 hf2 hee1 hee2 c1 c2 l1 l2 KK ht h
      go_enter Tryz.func10, Tryz.ntmps10
      go_wp2_with fail
      with_reducible refine K1.out.mono ?_
      rintro r w' ⟨rfl, hw'⟩
      rw [hw']
      clear hw'
      go_wp2_with fail
      with_reducible refine K2.out.mono ?_
      rintro r w' ⟨rfl, hw'⟩
      rw [hw']
      clear hw' K1 K2
      go_upto_region 3 with (fail)
      go_region_held (fun u => u.cell? ⟨bb, off + p * 7 + 4, none⟩ = some (.slice wa e1.c.when_.length wc) ∧ u.cell? ⟨bb, off + q * 7 + 2, none⟩ = some (.slice aa e2.at_.length ac)) ((refine HELD.out _ ?_; with_reducible assumption)) (first | (go_at_call 32; refine (K32.out _ ?hb4).out.mono ?_; (case hb4 => with_reducible assumption); rintro e w' ⟨rfl, nq, hw'⟩; have hbw : Below w.heap.size w w' := (by rw [hw']; exact below_draws hd1 nq); clear hw'))
      go_wp2
      go_ret2
      exact ⟨rfl, hbw⟩
    · rw [if_pos ht]
      obtain ⟨k, hk⟩ : ∃ k, (two e1.c.when_ e2.at_).toNat = k + 1 := ⟨(two e1.c.when_ e2.at_).toNat - 1, by have := (two_toNat e1.c.when_ e2.at_); omega⟩
      rw [hk]
      have KK : ∀ u, Below w.heap.size w u → Hid (Calls Tryz.prog 32 #[.slice wa e1.c.when_.length wc, .slice aa e2.at_.length ac] u fun r w' => r = .returned (.tuple #[.bool false, .iface 223 (.pointer (some (A k)))]) ∧ w' = u) := fun u hu => hid (by
        have := Within_bad A u (hE.below hu h12) _ _ _ _ (he1.when_.mono hu (Nat.le_refl _)) (he2.at_.mono hu (Nat.le_refl _)) hf1.com.1 hf2.at_ ht
        rw [hk, Nat.add_sub_cancel] at this
        exact this)
      have K32 := hid KK
      clear KN hE hv hf hs hn hv' hv2 he1 he2 hc1 hc2 hf1 hf2 hee1 hee2 c1 c2 l1 l2 KK ht h hk
      go_enter Tryz.func10, Tryz.ntmps10
      go_wp2_with fail
      with_reducible refine K1.out.mono ?_
      rintro r w' ⟨rfl, hw'⟩
      rw [hw']
      clear hw'
      go_wp2_with fail
      with_reducible refine K2.out.mono ?_
      rintro r w' ⟨rfl, hw'⟩
      rw [hw']
      clear hw' K1 K2
      go_upto_region 3 with (fail)
      go_region_held (fun u => u.cell? ⟨bb, off + p * 7 + 4, none⟩ = some (.slice wa e1.c.when_.length wc) ∧ u.cell? ⟨bb, off + q * 7 + 2, none⟩ = some (.slice aa e2.at_.length ac)) ((refine HELD.out _ ?_; with_reducible assumption)) (first | (go_at_call 32; refine (K32.out _ ?hb4).out.mono ?_; (case hb4 => with_reducible assumption); rintro e w' ⟨rfl, hw'⟩; have hbw : Below w.heap.size w w' := (by rw [hw']; first | exact hd1 | exact hd0); clear hw'))
      go_wp2
      go_ret2
      exact ⟨rfl, hbw⟩
end Go.Proofs.YtngjooemanapnaaGreatDoor
