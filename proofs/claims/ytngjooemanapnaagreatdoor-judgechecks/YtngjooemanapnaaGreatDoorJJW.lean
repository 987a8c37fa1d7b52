/- fitEvents: few, and short?; JudgeChecks: events that are few and short; Events as they come in; JudgeChecks: any number, any events, any two of them. -/
import Derived.Test.YtngjooemanapnaaGreatDoorJJL
import Derived.Test.YtngjooemanapnaaGreatDoorJJH4
import Derived.Test.YtngjooemanapnaaGreatDoorJJK
import Derived.Test.YtngjooemanapnaaGreatDoorJVHeavy
import Derived.Test.YtngjooemanapnaaGreatDoorJJO2
import Derived.Deep.DeepCutAuto
import Derived.Deep.CutBlock
import Derived.Deep.RegionHeld
import Derived.Test.YtngjooemanapnaaGreatDoorJVOfRA
import Derived.Test.YtngjooemanapnaaGreatDoorJVLaid2
import Derived.Deep.Slices
import Derived.Deep.Fields
import Derived.Test.YtngjooemanapnaaGreatDoorJJS2
import Derived.Test.YtngjooemanapnaaGreatDoorJJR2
import Derived.Test.YtngjooemanapnaaGreatDoorJJR4
namespace Go.Proofs.YtngjooemanapnaaGreatDoor
open Go.RowKit Go.Sort Go.Maps
set_option maxRecDepth 100000
set_option linter.unusedSectionVars false
variable [Inhabited ComV] [DecidableEq D3] [Inhabited D3] [Inhabited Dd] [Inhabited Dn] [Inhabited OpV]

def lightR (r : SnV) : Bool := decide (r.key.size ≤ 60) && (decide (r.v.set.length ≤ 20) && decide (r.v.text.size ≤ 200))
def lightE (e : EvV) : Bool := !heavyB e.c && (decide (e.at_.length ≤ 20) && (decide (e.reads.length ≤ 20) && e.reads.all lightR))
/-- What the law lets by. -/
def fitB (l : List EvV) : Bool := l.all lightE && decide (l.length ≤ 20)
theorem light_com {c : ComV} (h3 : heavyB c = false) : c.when_.length ≤ 20 ∧ c.ops.length ≤ 20 ∧ ∀ o ∈ c.ops, o.key.size ≤ 60 ∧ o.text.size ≤ 200 ∧ o.dots.length ≤ 70 := by
  unfold heavyB at h3
  simp only [Bool.or_eq_false_iff, decide_eq_false_iff_not, List.any_eq_false] at h3
  refine ⟨by omega, by omega, fun o ho => ?_⟩
  have h4 : heavyO o = false := by simpa using h3.2.2 o ho
  unfold heavyO at h4
  simp only [Bool.or_eq_false_iff, decide_eq_false_iff_not] at h4
  omega
theorem light_ev {e : EvV} (h : lightE e = true) (hs : n64 e.ses) : EvLight e ∧ EvFit e := by
  unfold lightE at h
  simp only [Bool.and_eq_true, Bool.not_eq_true', decide_eq_true_eq, List.all_eq_true] at h
  obtain ⟨h1, h2, h3, h4⟩ := h
  obtain ⟨g1, g2, g3⟩ := light_com h1
  refine ⟨⟨h2, h3, fun r hr => ?_, g1, g2, fun o ho => (g3 o ho).2.2⟩, ⟨⟨by omega, by omega, fun o ho => ?_⟩, by omega, by omega, hs⟩⟩
  · have := h4 r hr
    unfold lightR at this
    simp only [Bool.and_eq_true, decide_eq_true_eq] at this
    exact this.2.1
  · have := g3 o ho
    exact ⟨by omega, by omega⟩
theorem fit_of {l : List EvV} (h : fitB l = true) : l.length ≤ 20 ∧ ∀ e ∈ l, lightE e = true := by
  unfold fitB at h
  simp only [Bool.and_eq_true, decide_eq_true_eq, List.all_eq_true] at h
  exact ⟨h.2, h.1⟩
theorem fit_bad {l : List EvV} {i : Nat} (hi : i < l.length) (h : lightE (l.getD i ev0) = false) : fitB l = false := by
  unfold fitB
  rw [Bool.and_eq_false_iff]
  refine .inl ?_
  rw [List.all_eq_false]
  exact ⟨_, getD_mem hi, by rw [h]; decide⟩
theorem fit_all {l : List EvV} (h : ∀ j, j < l.length → lightE (l.getD j ev0) = true) : fitB l = decide (l.length ≤ 20) := by
  unfold fitB
  rw [List.all_eq_true.2 fun e he => by obtain ⟨j, hj, rfl⟩ := mem_getD he; exact h j hj]
  rfl
theorem light_heavy {e : EvV} (h : heavyB e.c = true) : lightE e = false := by unfold lightE; rw [h]; rfl
theorem light_at {e : EvV} (h : 20 < e.at_.length) : lightE e = false := by unfold lightE; rw [decide_eq_false (by omega : ¬ e.at_.length ≤ 20)]; simp
theorem light_reads {e : EvV} (h : 20 < e.reads.length) : lightE e = false := by unfold lightE; rw [decide_eq_false (by omega : ¬ e.reads.length ≤ 20)]; simp
theorem light_read {e : EvV} {r : SnV} (hr : r ∈ e.reads) (h : lightR r = false) : lightE e = false := by
  unfold lightE
  have : e.reads.all lightR = false := by rw [List.all_eq_false]; exact ⟨r, hr, by rw [h]; decide⟩
  rw [this]
  simp
theorem light_yes {e : EvV} (h1 : heavyB e.c = false) (h2 : e.at_.length ≤ 20) (h3 : e.reads.length ≤ 20) (h4 : ∀ k, (hk : k < e.reads.length) → lightR e.reads[k] = true) : lightE e = true := by
  unfold lightE
  rw [h1, decide_eq_true h2, decide_eq_true h3, List.all_eq_true.2 fun r hr => by obtain ⟨k, hk, rfl⟩ := List.getElem_of_mem hr; exact h4 k hk]
  rfl
set_option maxHeartbeats 4000000 in
theorem fitEvents_any (w : World) (l : List EvV) (v : Value) (hv : EvsAtN w v l) (hl : l.length ≤ 9223372036854775807) : Calls Tryz.prog 5 #[v] w fun r w' => r = .returned (.bool (fitB l)) ∧ Below w.heap.size w w' := by
  obtain ⟨ad, cap, rfl, _, _, hv'⟩ := hv.shape
  obtain ⟨n, hn⟩ : ∃ n, n = l.length := ⟨_, rfl⟩
  rw [← hn] at hl hv' ⊢
  have HN := ShutJ.mk hn
  have HV := hid hv'
  clear hv hv' hn
  go_enter Tryz.func5, Tryz.ntmps5
  go_wp2
  go_loopw [3] (fun x wr => ∃ i : Nat, i ≤ n ∧ x = .int .i64 i ∧ Hid (∀ j, j < i → lightE (l.getD j ev0) = true) ∧ Hid (Below w.heap.size w wr)) (fun x _ => n - (intOf x).toNat)
  case atStart => exact ⟨0, Nat.zero_le _, rfl, hid fun j hj => absurd hj (Nat.not_lt_zero _), hid (Below.refl _ _)⟩
  case round =>
    obtain ⟨i, hi, rfl, HZ, HB⟩ := hrel
    by_cases hlt : i < n
    · have hi1 : (i : Int) < (n : Int) := by omega
      obtain ⟨b, off, rfl, hck⟩ := HV.out.resolve_left (fun h => by have := HN.out; rw [h] at this; simp at this; omega)
      obtain ⟨kv, kr, kw, ko, hke, hkr, hkc⟩ := hck i hlt
      obtain ⟨e, he⟩ : ∃ e, e = l.getD i ev0 := ⟨_, rfl⟩
      rw [← he] at hke hkr hkc
      have HE := ShutJ.mk he
      obtain ⟨aa, ac, wa, wc, oa, oc, rfl, rfl, rfl⟩ := evAt_shape hke
      obtain ⟨ra, rc, rfl⟩ : ∃ a c, kr = .slice a e.reads.length c := by
        obtain ⟨rows, ⟨a, c, rfl, _⟩, h⟩ := hkr
        exact ⟨a, c, by rw [f2_len h]⟩
      have HC : Hid (∀ u, Below w.heap.size w u → ∀ j x, (evCells e (.slice aa e.at_.length ac) (.slice ra e.reads.length rc) (.slice wa e.c.when_.length wc) (.slice oa e.c.ops.length oc))[j]? = some x → u.cell? ⟨b, off + i * 7 + j, none⟩ = some x) := hid fun u hu j x hj => by
        have := hkc j x hj
        rw [hu.cell (p := ⟨b, off + i * 7 + j, none⟩) (lt_of_cell this)]
        exact this
      have KH : Calls Tryz.prog 17 #[.agg #[.slice wa e.c.when_.length wc, .int .i64 e.c.place, .slice oa e.c.ops.length oc]] wr fun x w' => x = .returned (.int .i64 (heavyN e.c)) ∧ Below wr.heap.size wr w' := heavyCommit wr e.c _ _ (hke.when_.mono HB.out (Nat.le_refl _)) (hke.ops.mono HB.out (Nat.le_refl _))
      have HR := hid hkr
      have c4 : wr.cell? ⟨b, off + i * 7 + 4, none⟩ = some (.slice wa e.c.when_.length wc) := HC.out wr HB.out 4 _ rfl
      have c5 : wr.cell? ⟨b, off + i * 7 + 5, none⟩ = some (.int .i64 e.c.place) := HC.out wr HB.out 5 _ rfl
      have c6 : wr.cell? ⟨b, off + i * 7 + 6, none⟩ = some (.slice oa e.c.ops.length oc) := HC.out wr HB.out 6 _ rfl
      have C2 := hid fun (u : World) (hu : Below w.heap.size w u) => HC.out u hu 2 _ rfl
      have C3 := hid fun (u : World) (hu : Below w.heap.size w u) => HC.out u hu 3 _ rfl
      obtain ⟨la, hla⟩ : ∃ la, la = e.at_.length := ⟨_, rfl⟩
      obtain ⟨lr, hlr⟩ : ∃ lr, lr = e.reads.length := ⟨_, rfl⟩
      obtain ⟨lw, hlw⟩ : ∃ lw, lw = e.c.when_.length := ⟨_, rfl⟩
      obtain ⟨lo, hlo⟩ : ∃ lo, lo = e.c.ops.length := ⟨_, rfl⟩
      obtain ⟨pl, hpl⟩ : ∃ pl, pl = e.c.place := ⟨_, rfl⟩
      rw [← hlw, ← hlo, ← hpl] at KH
      rw [← hlw] at c4
      rw [← hpl] at c5
      rw [← hlo] at c6
      rw [← hla] at C2
      rw [← hlr] at C3 HR
      have HLA := ShutJ.mk hla
      have HLR := ShutJ.mk hlr
      have hbad : Hid (lightE e = false → fitB l = false) := hid fun h => fit_bad (i := i) (by have := HN.out; omega) (by rw [← HE.out]; exact h)
      clear hke hkr hkc hck hla hlr hlw hlo hpl he HC
      cases hh : heavyB e.c with
      | true =>
        rw [heavyN_one hh] at KH
        have KH' := hid KH
        have HF : Hid (fitB l = false) := hid (hbad.out (light_heavy hh))
        clear hh KH
        go_wp2_with fail
        refine KH'.out.mono ?_
        rintro x w' ⟨rfl, hb⟩
        have HB2 := hid (HB.out.trans (hb.mono HB.out.size))
        clear hb c4 c5 c6
        go_wp2
        go_ret
        exact ⟨ret_bool HF.out.symm, HB2.out⟩
      | false =>
        rw [heavyN_zero hh] at KH
        have KH' := hid KH
        have HH := ShutJ.mk hh
        clear hh KH
        by_cases x1 : (20 : Int) < la
        · have HF : Hid (fitB l = false) := hid (hbad.out (light_at (by have := HLA.out; omega)))
          go_wp2_with fail
          refine KH'.out.mono ?_
          rintro x w' ⟨rfl, hb⟩
          have HB2 := hid (HB.out.trans (hb.mono HB.out.size))
          have c2 := C2.out w' HB2.out
          clear hb c4 c5 c6
          go_wp2
          go_ret
          exact ⟨ret_bool HF.out.symm, HB2.out⟩
        by_cases x2 : (20 : Int) < lr
        · have HF : Hid (fitB l = false) := hid (hbad.out (light_reads (by have := HLR.out; omega)))
          have b1 : decide ((20 : Int) < la) = false := decide_eq_false x1
          go_wp2_with fail
          refine KH'.out.mono ?_
          rintro x w' ⟨rfl, hb⟩
          have HB2 := hid (HB.out.trans (hb.mono HB.out.size))
          have c2 := C2.out w' HB2.out
          have c3 := C3.out w' HB2.out
          clear hb c4 c5 c6 x1
          go_wp2
          go_ret
          exact ⟨ret_bool HF.out.symm, HB2.out⟩
        have b1 : decide ((20 : Int) < la) = false := decide_eq_false x1
        have b2 : decide ((20 : Int) < lr) = false := decide_eq_false x2
        have X1 := hid x1
        have hlr20 : lr ≤ 20 := by omega
        clear x1 x2
        go_wp2_with fail
        refine KH'.out.mono ?_
        rintro x w' ⟨rfl, hb⟩
        have HB2 := hid (HB.out.trans (hb.mono HB.out.size))
        have c2 := C2.out w' HB2.out
        have c3 := C3.out w' HB2.out
        clear hb c4 c5 c6 KH'
        go_wp2
        clear c2 c3 b1 b2
        go_loopw [4] (fun y wx => ∃ k : Nat, k ≤ lr ∧ y = .int .i64 k ∧ Hid (∀ j, (hj : j < e.reads.length) → j < k → lightR e.reads[j] = true) ∧ Hid (Below w.heap.size w wx)) (fun y _ => lr - (intOf y).toNat)
        case atStart => exact ⟨0, Nat.zero_le _, rfl, hid fun j _ hj => absurd hj (Nat.not_lt_zero _), HB2⟩
        case round =>
          obtain ⟨k, hk, rfl, HZk, HBk⟩ := hrel
          have c3 := C3.out _ HBk.out
          by_cases hlk : k < lr
          · have hk1 : (k : Int) < (lr : Int) := by omega
            have hkl : k < e.reads.length := by have := HLR.out; omega
            obtain ⟨sb, so, sc, sv, hre, _, ⟨sa, sq, rfl⟩, hsc⟩ := HR.out.get hkl
            injection hre with hra hrl hrc
            clear hrl hrc
            subst hra
            obtain ⟨s, hs⟩ : ∃ s, s = e.reads[k] := ⟨_, rfl⟩
            rw [← hs] at hsc
            have hmem : s ∈ e.reads := by rw [hs]; exact List.getElem_mem _
            have HS := ShutJ.mk hs
            have HM := hid hmem
            have up : ∀ {a : Addr} {v : Value}, w.cell? a = some v → wr.cell? a = some v := fun {a v} h => by rw [HBk.out.cell (lt_of_cell h)]; exact h
            have d0 : wr.cell? ⟨sb, so + k * 5, none⟩ = some (.string s.key) := up (hsc 0 _ rfl)
            have d1 : wr.cell? ⟨sb, so + k * 5 + 1, none⟩ = some (.int .i64 s.v.kind) := up (hsc 1 _ rfl)
            have d2 : wr.cell? ⟨sb, so + k * 5 + 2, none⟩ = some (.string s.v.text) := up (hsc 2 _ rfl)
            have d3 : wr.cell? ⟨sb, so + k * 5 + 3, none⟩ = some (.int .i64 s.v.n) := up (hsc 3 _ rfl)
            have d4 : wr.cell? ⟨sb, so + k * 5 + 4, none⟩ = some (.slice sa s.v.set.length sq) := up (hsc 4 _ rfl)
            obtain ⟨sk, hsk⟩ : ∃ sk, sk = s.key := ⟨_, rfl⟩
            obtain ⟨st, hst⟩ : ∃ st, st = s.v.text := ⟨_, rfl⟩
            obtain ⟨sl, hsl⟩ : ∃ sl, sl = s.v.set.length := ⟨_, rfl⟩
            rw [← hsk] at d0
            rw [← hst] at d2
            rw [← hsl] at d4
            have HSK := ShutJ.mk hsk
            have HST := ShutJ.mk hst
            have HSL := ShutJ.mk hsl
            clear hs hmem hsc up hsk hst hsl
            by_cases y1 : (60 : Int) < sk.size
            · have HF : Hid (fitB l = false) := hid (hbad.out (light_read HM.out (by unfold lightR; rw [decide_eq_false (by have := HSK.out; rw [← this]; omega : ¬ s.key.size ≤ 60)]; rfl)))
              go_wp2
              go_ret
              exact ⟨ret_bool HF.out.symm, HBk.out.trans ((below_alloc _ _).mono HBk.out.size)⟩
            by_cases y2 : (20 : Int) < sl
            · have HF : Hid (fitB l = false) := hid (hbad.out (light_read HM.out (by unfold lightR; rw [decide_eq_false (by have := HSL.out; omega : ¬ s.v.set.length ≤ 20)]; simp)))
              go_wp2
              go_ret
              exact ⟨ret_bool HF.out.symm, HBk.out.trans ((below_alloc _ _).mono HBk.out.size)⟩
            by_cases y3 : (200 : Int) < st.size
            · have HF : Hid (fitB l = false) := hid (hbad.out (light_read HM.out (by unfold lightR; rw [decide_eq_false (by have := HST.out; rw [← this]; omega : ¬ s.v.text.size ≤ 200)]; simp)))
              go_wp2
              go_ret
              exact ⟨ret_bool HF.out.symm, HBk.out.trans ((below_alloc _ _).mono HBk.out.size)⟩
            have HL : Hid (lightR s = true) := hid (by
              have q1 := HSK.out
              have q2 := HSL.out
              have q3 := HST.out
              unfold lightR
              rw [← q1, ← q3, decide_eq_true (by omega : sk.size ≤ 60), decide_eq_true (by omega : s.v.set.length ≤ 20), decide_eq_true (by omega : st.size ≤ 200)]
              rfl)
            go_wp2
            go_roundw
            case rel =>
              refine ⟨k + 1, by omega, by go_num, hid fun j hj hjk => ?_, hid (HBk.out.trans ((below_alloc _ _).mono HBk.out.size))⟩
              rcases Nat.lt_succ_iff_lt_or_eq.1 hjk with h | rfl
              · exact HZk.out j hj h
              · rw [← HS.out]; exact HL.out
            case measure => simp [intOf]; omega
          · obtain rfl : k = lr := by omega
            have HL : Hid (lightE e = true) := hid (light_yes HH.out (by have := HLA.out; have := X1.out; omega) (by have := HLR.out; omega) (fun j hj => HZk.out j hj (by have := HLR.out; omega)))
            go_wp2
            go_roundw
            case rel =>
              refine ⟨i + 1, by omega, by go_num, hid fun j hj => ?_, HBk⟩
              rcases Nat.lt_succ_iff_lt_or_eq.1 hj with h | rfl
              · exact HZ.out j h
              · rw [← HE.out]; exact HL.out
            case measure => simp [intOf]; omega
    · obtain rfl : i = n := by omega
      have HF : Hid (fitB l = decide (i ≤ 20)) := hid (by rw [fit_all (fun j hj => HZ.out j (by have := HN.out; omega)), HN.out])
      go_wp2
      go_ret
      exact ⟨ret_bool (by rw [HF.out]; by_cases h : i ≤ 20 <;> simp [h] <;> omega), HB.out⟩
end Go.Proofs.YtngjooemanapnaaGreatDoor
namespace Go.Proofs.YtngjooemanapnaaGreatDoor
open Go.RowKit Go.Sort Go.Maps
set_option maxRecDepth 100000
set_option linter.unusedSectionVars false
variable [Inhabited ComV] [DecidableEq D3] [Inhabited D3] [Inhabited Dd] [Inhabited Dn] [Inhabited OpV]

def OkRet (w : World) (r : Ending) (w' : World) : Prop := r = .returned (.bool true) ∧ Below w.heap.size w w'
/-- All that the law calls. -/
structure CkK (A : Nat → Addr) (w : World) (l : List EvV) (er ce : Nat × Option Nat) (ct : List (List Nat)) (q : Bool) (ev : Value) (n a b : Int) (v : Value) : Prop where
  k4 : ∀ u, Below w.heap.size w u → Calls Tryz.prog 4 #[] u (OkRet u)
  k5 : ∀ u, Below w.heap.size w u → Calls Tryz.prog 5 #[v] u (OkRet u)
  k6 : ∀ u, Below w.heap.size w u → ∀ x e, ErrAt A u x e → e.1 ≤ 12 → (e.1 = 0 → e = (0, none)) → Calls Tryz.prog 6 #[x, .agg #[.int .i64 ((e.1 : Nat) : Int), .int .i64 (faultAt e.2)]] u (OkRet u)
  k7 : ∀ u, Below w.heap.size w u → ∀ x, EvsAt u x l → Calls Tryz.prog 7 #[.int .i64 n, x] u (ErRet A er u)
  k8 : ∀ u, Below w.heap.size w u → Calls Tryz.prog 8 #[v] u fun r w' => ∃ x, r = .returned x ∧ EvsAt w' x l ∧ Below u.heap.size u w'
  k9 : ∀ u, Below w.heap.size w u → Calls Tryz.prog 9 #[.int .i64 n, v] u fun r w' => r = .returned (.agg #[.int .i64 ((er.1 : Nat) : Int), .int .i64 (faultAt er.2)]) ∧ Below u.heap.size u w'
  k10 : ∀ u, Below w.heap.size w u → ∀ x, EvsAt u x l → Calls Tryz.prog 10 #[x, .int .i64 a, .int .i64 b] u fun r w' => r = .returned (.tuple #[.bool q, ev]) ∧ Below u.heap.size u w'
  k11 : ∀ u, Below w.heap.size w u → ∀ k, k ≤ 12 → Calls Tryz.prog 11 #[errV A k, .int .i64 ((k : Nat) : Int)] u (OkRet u)
  k14 : ∀ u, Below w.heap.size w u → ∀ x, EvsAt u x l → Calls Tryz.prog 14 #[x] u fun r w' => ∃ y x, r = .returned (.tuple #[y, x]) ∧ TssAt w' y ct ∧ ErrAt A w' x ce ∧ Below u.heap.size u w'
  k15 : ∀ u, Below w.heap.size w u → Calls Tryz.prog 15 #[v] u fun r w' => ∃ y, r = .returned (.tuple #[y, .agg #[.int .i64 ((ce.1 : Nat) : Int), .int .i64 (faultAt ce.2)]]) ∧ TssAt w' y ct ∧ Below u.heap.size u w'
  er12 : er.1 ≤ 12
  er0 : er.1 = 0 → er = (0, none)
  ce12 : ce.1 ≤ 12
  ce0 : ce.1 = 0 → ce = (0, none)
  ctl : ∀ ts ∈ ct, ts.length ≤ 1000000
  ctn : ct.length ≤ 1000000
/-- Two events that are there. -/
def PairAt (A : Nat → Addr) (w : World) (m : Nat) (ad : Option Addr) (q : Bool) (ev : Value) (a b : Int) : Prop :=
  ∃ (a' b' b0 off : Nat) (wa aa : Option Addr) (lw wc la ac : Nat), a = a' ∧ b = b' ∧ a' < m ∧ b' < m ∧ ad = some ⟨b0, off, none⟩ ∧
    (∀ u, Below w.heap.size w u → u.cell? ⟨b0, off + a' * 7 + 4, none⟩ = some (.slice wa lw wc) ∧ u.cell? ⟨b0, off + b' * 7 + 2, none⟩ = some (.slice aa la ac)) ∧
    ((∃ tn : Nat, 0 < tn ∧ tn ≤ 12 ∧ q = false ∧ ev = errV A tn ∧ ∀ u, Below w.heap.size w u → Calls Tryz.prog 12 #[.slice wa lw wc, .slice aa la ac] u fun r w' => r = .returned (.int .i64 ((tn : Nat) : Int)) ∧ w' = u) ∨
      (ev = .nilIface ∧ (∀ u, Below w.heap.size w u → Calls Tryz.prog 12 #[.slice wa lw wc, .slice aa la ac] u fun r w' => r = .returned (.int .i64 0) ∧ w' = u) ∧ ∀ u, Below w.heap.size w u → Calls Tryz.prog 13 #[.slice wa lw wc, .slice aa la ac] u fun r w' => r = .returned (.bool q) ∧ Below u.heap.size u w'))
theorem pair_at (A : Nat → Addr) (w : World) (l : List EvV) (ad : Option Addr) (cap m : Nat) (hm : m = l.length) (hv : EvsAt w (.slice ad m cap) l) (hE : ∀ e ∈ l, EvFit e) (a b : Int) (h : ¬(a < 0 ∨ (m : Int) ≤ a ∨ b < 0 ∨ (m : Int) ≤ b)) : PairAt A w m ad (seB l a b).1 (errV A (seB l a b).2) a b := by
  subst hm
  obtain ⟨a', rfl⟩ : ∃ a' : Nat, a = a' := ⟨a.toNat, by omega⟩
  obtain ⟨b', rfl⟩ : ∃ b' : Nat, b = b' := ⟨b.toNat, by omega⟩
  have ha : a' < l.length := by omega
  have hb : b' < l.length := by omega
  obtain ⟨ad', cap', he, _, _, hx⟩ := hv.shape
  injection he with he1 _ he3
  subst he1 he3
  obtain ⟨b0, off, rfl, hy⟩ := hx.resolve_left (fun h => by rw [h] at ha; simp at ha)
  obtain ⟨av, rv, wv, ov, h1, _, h3⟩ := hy a' ha
  obtain ⟨av2, rv2, wv2, ov2, g1, _, g3⟩ := hy b' hb
  obtain ⟨_, _, wa, wc, _, _, rfl, rfl, rfl⟩ := evAt_shape h1
  obtain ⟨aa, ac, _, _, _, _, rfl, rfl, rfl⟩ := evAt_shape g1
  have e4 : ∀ u, Below w.heap.size w u → u.cell? ⟨b0, off + a' * 7 + 4, none⟩ = some (.slice wa (l.getD a' ev0).c.when_.length wc) := fun u hu => by
    have := h3 4 _ rfl
    rw [hu.cell (p := ⟨b0, off + a' * 7 + 4, none⟩) (lt_of_cell this)]
    exact this
  have e2 : ∀ u, Below w.heap.size w u → u.cell? ⟨b0, off + b' * 7 + 2, none⟩ = some (.slice aa (l.getD b' ev0).at_.length ac) := fun u hu => by
    have := g3 2 _ rfl
    rw [hu.cell (p := ⟨b0, off + b' * 7 + 2, none⟩) (lt_of_cell this)]
    exact this
  have hfa := hE _ (getD_mem ha)
  have hfb := hE _ (getD_mem hb)
  have hs : seB l a' b' = if two (l.getD a' ev0).c.when_ (l.getD b' ev0).at_ ≠ 0 then (false, (two (l.getD a' ev0).c.when_ (l.getD b' ev0).at_).toNat) else (leB (l.getD a' ev0).c.when_ (l.getD b' ev0).at_, 0) := by
    unfold seB
    rw [if_neg h]
    simp only [Int.toNat_natCast]
  rw [hs]
  have K := fun u (hu : Below w.heap.size w u) => twoError u _ _ _ _ (h1.when_.mono hu (Nat.le_refl _)) (g1.at_.mono hu (Nat.le_refl _)) hfa.com.1 hfb.at_
  have t12 := two_le (l.getD a' ev0).c.when_ (l.getD b' ev0).at_
  have tp : 0 ≤ two (l.getD a' ev0).c.when_ (l.getD b' ev0).at_ := by
    unfold two
    rcases chk_cases (l.getD a' ev0).c.when_ with h | h | h <;> rcases chk_cases (l.getD b' ev0).at_ with h' | h' | h' <;> rw [h, h'] <;> (repeat' split) <;> omega
  refine ⟨a', b', b0, off, wa, aa, _, wc, _, ac, rfl, rfl, ha, hb, rfl, fun u hu => ⟨e4 u hu, e2 u hu⟩, ?_⟩
  by_cases ht : two (l.getD a' ev0).c.when_ (l.getD b' ev0).at_ = 0
  · rw [if_neg (fun h => h ht)]
    refine .inr ⟨rfl, fun u hu => (K u hu).mono fun r w' ⟨h1, h2⟩ => ⟨by rw [h1, ht], h2⟩, fun u hu => ?_⟩
    obtain ⟨t1, _, t3⟩ := two_zero.1 ht
    refine (in_any u _ _ _ _ (h1.when_.mono hu (Nat.le_refl _)) (g1.at_.mono hu (Nat.le_refl _)) t3 (chk_zero.1 t1).1 hfa.com.1).mono ?_
    rintro r w' ⟨h1, q, rfl⟩
    exact ⟨h1, below_draws (Below.refl _ _) q⟩
  · rw [if_pos ht]
    refine .inl ⟨_, by omega, t12, rfl, rfl, fun u hu => (K u hu).mono fun r w' ⟨h1, h2⟩ => ⟨by rw [h1, Int.toNat_of_nonneg tp], h2⟩⟩
theorem TssAt.two {w : World} {x y : Value} {ct : List (List Nat)} (h1 : TssAt w x ct) (h2 : TssAt w y ct) : ∃ a1 a2 c1 c2, x = .slice a1 ct.length c1 ∧ y = .slice a2 ct.length c2 ∧ ∀ k, k < ct.length → ∃ b1 b2 s1 s2 n d1 d2, a1 = some ⟨b1, 0, none⟩ ∧ a2 = some ⟨b2, 0, none⟩ ∧ w.cell? ⟨b1, k, none⟩ = some (.slice s1 n d1) ∧ w.cell? ⟨b2, k, none⟩ = some (.slice s2 n d2) ∧
    IntsAt w (.slice s1 n d1) ((ct.getD k []).map fun t => ((t : Nat) : Int)) ∧ IntsAt w (.slice s2 n d2) ((ct.getD k []).map fun t => ((t : Nat) : Int)) := by
  obtain ⟨a1, c1, rfl, h1⟩ := h1
  obtain ⟨a2, c2, rfl, h2⟩ := h2
  refine ⟨a1, a2, c1, c2, rfl, rfl, fun k hk => ?_⟩
  obtain ⟨b1, rfl, p1⟩ := h1.resolve_left (fun h => by rw [h] at hk; simp at hk)
  obtain ⟨b2, rfl, p2⟩ := h2.resolve_left (fun h => by rw [h] at hk; simp at hk)
  obtain ⟨sv1, x1, y1⟩ := p1 k hk
  obtain ⟨sv2, x2, y2⟩ := p2 k hk
  have z1 := y1
  have z2 := y2
  obtain ⟨s1, d1, rfl, _⟩ := z1
  obtain ⟨s2, d2, rfl, _⟩ := z2
  exact ⟨b1, b2, s1, s2, _, d1, d2, rfl, rfl, x1, x2, y1, y2⟩
set_option maxHeartbeats 8000000 in
theorem checks_in (A : Nat → Addr) (w : World) (l : List EvV) (er ce : Nat × Option Nat) (ct : List (List Nat)) (q : Bool) (ev : Value) (n a b : Int) (ad : Option Addr) (m cap : Nat) (ob : Bool)
    (K : CkK A w l er ce ct q ev n a b (.slice ad m cap)) (hob : ob = decide (a < 0 ∨ (m : Int) ≤ a ∨ b < 0 ∨ (m : Int) ≤ b)) (ho : ob = true → q = false ∧ ev = errV A 2) (hi : ob = false → PairAt A w m ad q ev a b) :
    Calls Tryz.prog 3 #[.int .i64 n, .slice ad m cap, .int .i64 a, .int .i64 b] w (OkRet w) := by
  have HO := hid ho
  have HI := hid hi
  have HOB := ShutJ.mk hob
  clear ho hi hob
  go_enter Tryz.func3, Tryz.ntmps3
  go_wp2_with fail
  refine (K.k4 w (Below.refl _ _)).mono ?_
  rintro r w1 ⟨rfl, hb1⟩
  have HB1 := hid hb1
  clear hb1
  go_wp2_with fail
  refine (K.k5 w1 HB1.out).mono ?_
  rintro r w2 ⟨rfl, hb⟩
  have HB2 := hid (HB1.out.trans (hb.mono HB1.out.size))
  clear hb HB1
  go_wp2_with fail
  refine (K.k8 w2 HB2.out).mono ?_
  rintro r w3 ⟨x, rfl, hx, hb⟩
  have HX := hid hx
  have HB3 := hid (HB2.out.trans (hb.mono HB2.out.size))
  clear hb hx HB2
  go_wp2_with fail
  refine (K.k7 w3 HB3.out x HX.out).mono ?_
  rintro r w4 ⟨y, rfl, hy, hb⟩
  have HY := hid hy
  have HB4 := hid (HB3.out.trans (hb.mono HB3.out.size))
  clear hb hy HB3 HX
  go_wp2_with fail
  refine (K.k9 w4 HB4.out).mono ?_
  rintro r w5 ⟨rfl, hb⟩
  have HY5 := hid (errAt_mono HY.out hb (Nat.le_refl _))
  have HB5 := hid (HB4.out.trans (hb.mono HB4.out.size))
  clear hb HB4 HY
  go_wp2_with fail
  refine (K.k6 w5 HB5.out y er HY5.out K.er12 K.er0).mono ?_
  rintro r w6 ⟨rfl, hb⟩
  have HB6 := hid (HB5.out.trans (hb.mono HB5.out.size))
  clear hb HB5 HY5
  go_wp2_with fail
  refine (K.k8 w6 HB6.out).mono ?_
  rintro r w7 ⟨x2, rfl, hx, hb⟩
  have HX := hid hx
  have HB7 := hid (HB6.out.trans (hb.mono HB6.out.size))
  clear hb hx HB6
  go_wp2_with fail
  refine (K.k10 w7 HB7.out x2 HX.out).mono ?_
  rintro r w8 ⟨rfl, hb⟩
  have HB8 := hid (HB7.out.trans (hb.mono HB7.out.size))
  clear hb HX HB7
  go_upto_region 7 with (fail)
  go_cut [60] (fun x wx => x = .bool ob ∧ wx = w8)
  case first =>
    by_cases x1 : a < 0
    · have hf : ob = true := by rw [HOB.out]; exact decide_eq_true (.inl x1)
      have HF := ShutJ.mk hf
      clear hf
      go_wp2_with fail
      go_meet
      exact ⟨by rw [HF.out], rfl⟩
    by_cases x2 : (m : Int) ≤ a
    · have hf : ob = true := by rw [HOB.out]; exact decide_eq_true (.inr (.inl x2))
      have HF := ShutJ.mk hf
      clear hf
      go_wp2_with fail
      go_meet
      exact ⟨by rw [HF.out], rfl⟩
    by_cases x3 : b < 0
    · have hf : ob = true := by rw [HOB.out]; exact decide_eq_true (.inr (.inr (.inl x3)))
      have HF := ShutJ.mk hf
      clear hf
      go_wp2_with fail
      go_meet
      exact ⟨by rw [HF.out], rfl⟩
    by_cases x4 : (m : Int) ≤ b
    · have hf : ob = true := by rw [HOB.out]; exact decide_eq_true (.inr (.inr (.inr x4)))
      have HF := ShutJ.mk hf
      clear hf
      go_wp2_with fail
      go_meet
      exact ⟨by rw [HF.out], rfl⟩
    have hf : ob = false := by rw [HOB.out]; exact decide_eq_false (by omega)
    have HF := ShutJ.mk hf
    clear hf
    go_wp2_with fail
    go_meet
    exact ⟨by rw [HF.out], rfl⟩
  case rest =>
    obtain ⟨rfl, rfl⟩ := hcut
    go_upto_if 60 with fail
    go_cut [12] (fun _ wx => Hid (Below w.heap.size w wx))
    case first =>
      cases ob with
      | true =>
        obtain ⟨rfl, rfl⟩ := HO.out rfl
        go_wp2_with fail
        refine (K.k11 _ HB8.out 2 (by decide)).mono ?_
        rintro r w9 ⟨rfl, hb⟩
        have HB9 := hid (HB8.out.trans (hb.mono HB8.out.size))
        clear hb
        go_wp2_with fail
        go_meet
        exact HB9
      | false =>
        obtain ⟨a', b', b0, off, wa, aa, lw, wq, la, ac, rfl, rfl, ha, hb', rfl, HC, hcase⟩ := HI.out rfl
        have hai : (a' : Int) < (m : Int) := by omega
        have hbi : (b' : Int) < (m : Int) := by omega
        obtain ⟨w8', hw8⟩ : ∃ w8', w8' = wc := ⟨_, rfl⟩
        subst hw8
        have hd0 : Below w8'.heap.size w8' w8' := Below.refl _ _
        have hd1 : Below w8'.heap.size w8' w8'.drew := hd0.drew
        have hwu : ∀ u, Below w8'.heap.size w8' u → Below w.heap.size w u := fun u hu => HB8.out.trans (hu.mono HB8.out.size)
        have HELD : Hid (∀ u, Below w8'.heap.size w8' u → u.cell? ⟨b0, off + a' * 7 + 4, none⟩ = some (.slice wa lw wq) ∧ u.cell? ⟨b0, off + b' * 7 + 2, none⟩ = some (.slice aa la ac)) := hid fun u hu => HC u (hwu u hu)
        have HWU := hid hwu
        clear HC hwu
        rcases hcase with ⟨tn, h0, h12, rfl, rfl, K12⟩ | ⟨rfl, K12, K13⟩
        · have tpos : (0 : Int) < (tn : Int) := by omega
          have K12' : Hid (∀ u, Below w8'.heap.size w8' u → Hid (Calls Tryz.prog 12 #[.slice wa lw wq, .slice aa la ac] u fun r w' => r = .returned (.int .i64 ((tn : Nat) : Int)) ∧ w' = u)) := hid fun u hu => hid (K12 u (HWU.out u hu))
          have H12 := hid h12
          clear K12 h12 h0
          go_upto_region 10 with (fail)
          go_region_held (fun u => u.cell? ⟨b0, off + a' * 7 + 4, none⟩ = some (.slice wa lw wq) ∧ u.cell? ⟨b0, off + b' * 7 + 2, none⟩ = some (.slice aa la ac)) ((refine HELD.out _ ?_; with_reducible assumption)) (first | (go_at_call 12; refine (K12'.out _ ?hb4).out.mono ?_; (case hb4 => with_reducible assumption); rintro e w' ⟨rfl, hw'⟩; have hbw : Below w8'.heap.size w8' w' := (by rw [hw']; first | exact hd1 | exact hd0); clear hw'))
          have HB9 := hid (HWU.out w' hbw)
          clear hbw hd0 hd1 K12' HELD
          go_wp2_with fail
          refine (K.k11 w' HB9.out tn H12.out).mono ?_
          rintro r w10 ⟨rfl, hb⟩
          have HB10 := hid (HB9.out.trans (hb.mono HB9.out.size))
          clear hb
          go_wp2_with fail
          go_meet
          exact HB10
        · have K12' : Hid (∀ u, Below w8'.heap.size w8' u → Hid (Calls Tryz.prog 12 #[.slice wa lw wq, .slice aa la ac] u fun r w' => r = .returned (.int .i64 0) ∧ w' = u)) := hid fun u hu => hid (K12 u (HWU.out u hu))
          have K13' : Hid (∀ u, Below w8'.heap.size w8' u → Hid (Calls Tryz.prog 13 #[.slice wa lw wq, .slice aa la ac] u fun r w' => r = .returned (.bool q) ∧ Below u.heap.size u w')) := hid fun u hu => hid (K13 u (HWU.out u hu))
          have hqq : (q != q) = false := by simp
          clear K12 K13
          go_upto_region 10 with (fail)
          go_region_held (fun u => u.cell? ⟨b0, off + a' * 7 + 4, none⟩ = some (.slice wa lw wq) ∧ u.cell? ⟨b0, off + b' * 7 + 2, none⟩ = some (.slice aa la ac)) ((refine HELD.out _ ?_; with_reducible assumption)) (first | (go_at_call 12; refine (K12'.out _ ?hb4).out.mono ?_; (case hb4 => with_reducible assumption); rintro e w' ⟨rfl, hw'⟩; have hbw : Below w8'.heap.size w8' w' := (by rw [hw']; first | exact hd1 | exact hd0); clear hw'))
          have hbw1 : Below w8'.heap.size w8' w'.drew := hbw.drew
          clear K12' hd0 hd1
          go_upto_region 14 with (fail)
          go_region_held (fun u => u.cell? ⟨b0, off + a' * 7 + 4, none⟩ = some (.slice wa lw wq) ∧ u.cell? ⟨b0, off + b' * 7 + 2, none⟩ = some (.slice aa la ac)) ((refine HELD.out _ ?_; with_reducible assumption)) (first | (go_at_call 13; refine (K13'.out _ ?hb4).out.mono ?_; (case hb4 => with_reducible assumption); rintro e w2' ⟨rfl, hb2'⟩; have hbw2 : Below w8'.heap.size w8' w2' := (by first | exact hbw1.trans (hb2'.mono hbw1.size) | exact hbw.trans (hb2'.mono hbw.size)); clear hb2'))
          have HB9 := hid (HWU.out w2' hbw2)
          clear hbw hbw1 hbw2 K13' HELD
          go_wp2_with fail
          go_meet
          exact HB9
    case rest =>
      have HB9 := hcut
      clear hcut HB8 HO HI
      go_wp2_with fail
      refine (K.k8 _ HB9.out).mono ?_
      rintro r w10 ⟨x3, rfl, hx, hb⟩
      have HX := hid hx
      have HB10 := hid (HB9.out.trans (hb.mono HB9.out.size))
      clear hb hx HB9
      go_wp2_with fail
      refine (K.k14 w10 HB10.out x3 HX.out).mono ?_
      rintro r w11 ⟨xv, ev2, rfl, hT, hE2, hb⟩
      have HT := hid hT
      have HE2 := hid hE2
      have HB11 := hid (HB10.out.trans (hb.mono HB10.out.size))
      clear hb hT hE2 HB10 HX
      go_wp2_with fail
      refine (K.k15 w11 HB11.out).mono ?_
      rintro r w12 ⟨tv, rfl, hT2, hb⟩
      obtain ⟨a1, a2, c1, c2, rfl, rfl, hrow⟩ := (HT.out.mono hb (Nat.le_refl _)).two hT2
      have HROW := hid hrow
      have HE3 := hid (errAt_mono HE2.out hb (Nat.le_refl _))
      have HB12 := hid (HB11.out.trans (hb.mono HB11.out.size))
      obtain ⟨z, hz⟩ : ∃ z, z = ct.length := ⟨_, rfl⟩
      rw [← hz]
      have HZ := ShutJ.mk hz
      have hz63 : (z : Int) ≤ 1000000 := by have := K.ctn; omega
      clear hb hT2 HT HE2 HB11 hrow hz
      go_wp2_with fail
      refine (K.k6 _ ?hu6 ev2 ce ?he6 K.ce12 K.ce0).mono ?_
      case hu6 => exact HB12.out.alloc HB12.out.size _
      case he6 => exact errAt_mono HE3.out (below_alloc _ _) (Nat.le_refl _)
      rintro r w14 ⟨rfl, hb⟩
      have HB14 := hid ((below_alloc w12 (.cells #[.int .i64 ((ce.1 : Nat) : Int), .int .i64 (faultAt ce.2)] 32)).trans (hb.mono (by simp)))
      clear hb HE3
      go_wp2_with fail
      go_loopw [16] (fun x wr => ∃ k : Nat, k ≤ z ∧ x = .int .i64 k ∧ Hid (Below w12.heap.size w12 wr)) (fun x _ => z - (intOf x).toNat)
      case atStart => exact ⟨0, Nat.zero_le _, rfl, HB14⟩
      case round =>
        clear HB14
        obtain ⟨k, hk, rfl, HB⟩ := hrel
        by_cases hlt : k < z
        · have hk1 : (k : Int) < (z : Int) := by omega
          have hkl : k < ct.length := by have := HZ.out; omega
          obtain ⟨b1, b2, s1, s2, nn, d1, d2, rfl, rfl, e1, e2, i1, i2⟩ := HROW.out k hkl
          obtain ⟨wo, hwo⟩ : ∃ wo, wo = wr := ⟨_, rfl⟩
          subst hwo
          have hd0 : Below wo.heap.size wo wo := Below.refl _ _
          have hd1 : Below wo.heap.size wo wo.drew := hd0.drew
          have hwu : ∀ u, Below wo.heap.size wo u → Below w12.heap.size w12 u := fun u hu => HB.out.trans (hu.mono HB.out.size)
          have hlen : (ct.getD k []).length ≤ 1000000 := by
            rw [List.getD_eq_getElem?_getD, List.getElem?_eq_getElem hkl]
            exact K.ctl _ (List.getElem_mem hkl)
          have K16 : Hid (∀ u, Below wo.heap.size wo u → Hid (Calls Tryz.prog 16 #[.slice s1 nn d1, .slice s2 nn d2] u fun r w' => r = .returned (.bool true) ∧ Below u.heap.size u w')) := hid fun u hu => hid (by
            refine (sameInts u _ _ _ _ (i1.mono (hwu u hu) (Nat.le_refl _)) (i2.mono (hwu u hu) (Nat.le_refl _)) (by simpa using hlen)).mono ?_
            rintro r w' ⟨h1, q, rfl⟩
            exact ⟨by rw [h1, decide_eq_true rfl], below_draws (Below.refl _ _) q⟩)
          have HELD : Hid (∀ u, Below wo.heap.size wo u → u.cell? ⟨b1, k, none⟩ = some (.slice s1 nn d1) ∧ u.cell? ⟨b2, k, none⟩ = some (.slice s2 nn d2)) := hid fun u hu => ⟨by rw [(hwu u hu).cell (p := ⟨b1, k, none⟩) (lt_of_cell e1)]; exact e1, by rw [(hwu u hu).cell (p := ⟨b2, k, none⟩) (lt_of_cell e2)]; exact e2⟩
          have HWU := hid hwu
          clear e1 e2 i1 i2 hlen hwu HROW
          go_upto_region 23 with (fail)
          go_region_held (fun u => u.cell? ⟨b1, k, none⟩ = some (.slice s1 nn d1) ∧ u.cell? ⟨b2, k, none⟩ = some (.slice s2 nn d2)) ((refine HELD.out _ ?_; with_reducible assumption)) (first | (go_at_call 16; refine (K16.out _ ?hb4).out.mono ?_; (case hb4 => with_reducible assumption); rintro e w' ⟨rfl, hb'⟩; have hbw : Below wo.heap.size wo w' := (by first | exact hd1.trans (hb'.mono hd1.size) | exact hd0.trans (hb'.mono hd0.size)); clear hb'))
          have HB2 := hid (HWU.out w' hbw)
          clear hbw hd0 hd1 K16 HELD
          go_wp2
          go_roundw
          case rel => exact ⟨k + 1, by omega, by go_num, HB2⟩
          case measure => simp [intOf]; omega
        · obtain rfl : k = z := by omega
          go_wp2
          go_ret
          exact ⟨rfl, HB12.out.trans (HB.out.mono HB12.out.size)⟩
end Go.Proofs.YtngjooemanapnaaGreatDoor
namespace Go.Proofs.YtngjooemanapnaaGreatDoor
open Go.ChangeShapes Go.WideShapes Go.ChangeAt Go.RowKit Go.Deep
set_option maxRecDepth 100000
set_option linter.unusedSectionVars false
variable [Inhabited ComV] [DecidableEq D3] [Inhabited D3] [Inhabited Dd] [Inhabited Dn] [Inhabited OpV]

section
variable {H : Type} {enc : TypeId × Value → H} {W : World}
/-- Rows of k cells, each of which reads as an element. -/
theorem rows_view {t e k fuel : Nat} {v : Value} {x : DataW H × List MemPlace} (ht : Tryz.prog.underlying t = some (.slice e)) (hk : Tryz.prog.cellsOf e = k) (hk0 : 0 < k) (h : DataW.trod enc Tryz.prog W 0 (fun _ => true) true fuel t [v] = some x) :
    ∃ rows n, RowAt k W v rows ∧ rows.length ≤ 9223372036854775807 ∧ ∀ r ∈ rows, r.length = k ∧ ∃ y, DataW.trod enc Tryz.prog W 0 (fun _ => true) true n e r = some y := by
  rcases open_slice ht h with ⟨hv, _⟩ | ⟨a, len, cap, m, n, D, Pl, hv, _, hl, hm, hmm, _, hx⟩
  · simp only [List.cons.injEq, and_true] at hv
    subst hv
    exact ⟨[], 0, ⟨none, 0, rfl, fun _ => rfl, Nat.le_refl _, .inl rfl⟩, Nat.zero_le _, fun r hr => by simp at hr⟩
  · simp only [List.cons.injEq, and_true] at hv
    subst hv
    simp only [if_true] at hmm
    subst hmm
    rw [hk] at hx
    obtain ⟨R, hR⟩ := choose_lt (α := List Value) (p := fun i r => W.cells? 0 (a.add (i * k)) k = some r ∧ DataW.trod enc Tryz.prog W 0 (fun _ => true) true n e r = some (D i, Pl i)) hx
    have hrow : ∀ i, i < m → (R i).length = k := fun i hi => (World.cells?_some (hR i hi).1).2.1
    refine ⟨(List.range len).map R, n, ⟨some a, m, by simp, (fun h => by cases h), by simpa using hl, ?_⟩, by rw [List.length_map, List.length_range]; exact Nat.le_trans hl hm, fun r hr => ?_⟩
    · by_cases h0 : len = 0
      · subst h0; exact .inl rfl
      · have h00 := (hR 0 (by omega)).1
        obtain ⟨_, hlen, hcell⟩ := World.cells?_some h00
        obtain ⟨b, o, spot⟩ := a
        have hc0 := hcell 0 hk0
        rw [Nat.zero_mul, List.getElem?_eq_getElem (by omega)] at hc0
        have hspot : spot = none := by simpa [Addr.add] using World.cell?_spot hc0
        subst hspot
        refine .inr ⟨b, o, rfl, fun j r hr => ?_⟩
        have hj : j < len := by have := (List.getElem?_eq_some_iff.1 hr).1; simpa using this
        rw [List.getElem?_map, List.getElem?_range hj] at hr
        obtain rfl := Option.some.inj hr
        refine ⟨hrow j (by omega), fun i u hu => ?_⟩
        obtain ⟨_, hlen, hcell⟩ := World.cells?_some (hR j (by omega)).1
        have hi : i < k := by have := (List.getElem?_eq_some_iff.1 hu).1; omega
        have := hcell i hi
        rw [add_add, Addr.add_lit, hu] at this
        rw [← this]
        congr 2
        omega
    · obtain ⟨i, hi, rfl⟩ := List.mem_map.1 hr
      have hi' := List.mem_range.1 hi
      exact ⟨hrow i (by omega), _, (hR i (by omega)).2⟩
/-- One by one. -/
theorem f2_choose {α β : Type} {R : α → β → Prop} : ∀ {l : List α}, (∀ a ∈ l, ∃ b, R a b) → ∃ m, F2 R l m
  | [], _ => ⟨[], trivial⟩
  | a :: l, h => by
    obtain ⟨b, hb⟩ := h a (List.mem_cons_self ..)
    obtain ⟨m, hm⟩ := f2_choose (fun a ha => h a (List.mem_cons_of_mem _ ha))
    exact ⟨b :: m, hb, hm⟩
/-- A field of one cell. -/
theorem field1 {t n : Nat} {fs : Array Field} {r : List Value} {x : DataW H × List MemPlace} (ht : Tryz.prog.underlying t = some (.struct fs)) (hone : oneCellFields Tryz.prog fs = true) (hl : r.length = fs.size) (h : DataW.trod enc Tryz.prog W 0 (fun _ => true) true n t r = some x) :
    ∃ n', ∀ (i : Nat) (f : Field), fs[i]? = some f → ∃ y, DataW.trod enc Tryz.prog W 0 (fun _ => true) true n' f.type [r.getD i undef] = some y := by
  obtain ⟨xs, n', _, _, _, hxl, hf⟩ := DataW.trod_struct ht h
  refine ⟨n', fun i f hi => ?_⟩
  have hlt : i < fs.size := (Array.getElem?_eq_some_iff.1 hi).1
  obtain ⟨ho, hc1⟩ := hone_of hone i f hi
  have g := hf i f hi
  rw [ho, hc1, take1_drop r i undef (by omega), List.getElem?_eq_getElem (by omega)] at g
  exact ⟨_, g⟩
theorem int_cell {n : Nat} {v : Value} {y : DataW H × List MemPlace} (h : DataW.trod enc Tryz.prog W 0 (fun _ => true) true n 3 [v] = some y) : ∃ z, v = .int .i64 z ∧ (Lit.int .i64 z).wf = true := by
  obtain ⟨z, hz, _, hw⟩ := DataW.trod_int Tryz.underlying3 h
  exact ⟨z, by simpa using hz, hw⟩
theorem str_cell {n : Nat} {v : Value} {y : DataW H × List MemPlace} (h : DataW.trod enc Tryz.prog W 0 (fun _ => true) true n 9 [v] = some y) : ∃ s, v = .string s := by
  obtain ⟨z, hz, _⟩ := DataW.trod_string Tryz.underlying9 h
  exact ⟨z, by simpa using hz⟩
theorem bool_cell {n : Nat} {v : Value} {y : DataW H × List MemPlace} (h : DataW.trod enc Tryz.prog W 0 (fun _ => true) true n 4 [v] = some y) : ∃ s, v = .bool s := by
  obtain ⟨z, hz, _⟩ := DataW.trod_bool Tryz.underlying4 h
  exact ⟨z, by simpa using hz⟩
theorem ints_cellV {n : Nat} {v : Value} {y : DataW H × List MemPlace} (h : DataW.trod enc Tryz.prog W 0 (fun _ => true) true n 38 [v] = some y) : ∃ zs, IntsAt W v zs := by
  obtain ⟨rows, n', ⟨ad, cap, rfl, hn, hc, hq⟩, _, hr⟩ := rows_view Tryz.underlying38 (k := 1) (by kernel_rfl) (by decide) h
  obtain ⟨zs, hf⟩ := f2_choose (R := fun (r : List Value) (z : Int) => r = [.int .i64 z]) (l := rows) (fun r hrm => by
    obtain ⟨hl, y, hy⟩ := hr r hrm
    match r, hl with
    | [v], _ =>
      obtain ⟨z, rfl, _⟩ := int_cell hy
      exact ⟨z, rfl⟩)
  have hlen := f2_len hf
  refine ⟨zs, ad, cap, by rw [hlen], hn, ?_⟩
  rcases hq with hq | ⟨b, o, rfl, hq⟩
  · exact .inl (List.eq_nil_of_length_eq_zero (by rw [← hlen, hq]; rfl))
  · refine .inr ⟨b, o, rfl, fun t ht => ?_⟩
    obtain ⟨r, hrr, rfl⟩ := f2_get hf t (zs.getD t 0) (by rw [List.getD_eq_getElem?_getD, List.getElem?_eq_getElem ht]; rfl)
    have := (hq t _ hrr).2 0 _ rfl
    rw [Nat.mul_one, Nat.add_zero] at this
    exact this
theorem strs_cell {n : Nat} {v : Value} {y : DataW H × List MemPlace} (h : DataW.trod enc Tryz.prog W 0 (fun _ => true) true n 53 [v] = some y) : ∃ ss : List (List UInt8), SrcAt W v ss.length 1 (ss.map encStr) ∧ StrsX W v ss := by
  obtain ⟨rows, n', ⟨ad, cap, rfl, hn, hc, hq⟩, _, hr⟩ := rows_view Tryz.underlying53 (k := 1) (by kernel_rfl) (by decide) h
  obtain ⟨ss, hf⟩ := f2_choose (R := fun (r : List Value) (z : List UInt8) => r = [encStr z]) (l := rows) (fun r hrm => by
    obtain ⟨hl, y, hy⟩ := hr r hrm
    match r, hl with
    | [v], _ =>
      obtain ⟨z, rfl⟩ := str_cell hy
      exact ⟨z.data.toList, by rw [encStr_data]⟩)
  have hlen := f2_len hf
  have hcell : ∀ b o, ad = some ⟨b, o, none⟩ → (∀ j r, rows[j]? = some r → r.length = 1 ∧ ∀ i u, r[i]? = some u → W.cell? ⟨b, o + j * 1 + i, none⟩ = some u) → ∀ t z, ss[t]? = some z → W.cell? ⟨b, o + t, none⟩ = some (encStr z) := fun b o _ hq t z hz => by
    obtain ⟨r, hrr, rfl⟩ := f2_get hf t z hz
    have := (hq t _ hrr).2 0 _ rfl
    rw [Nat.mul_one, Nat.add_zero] at this
    exact this
  refine ⟨ss, ?_, ad, cap, by rw [hlen], ?_⟩
  · cases ad with
    | none =>
      obtain rfl := hn rfl
      rcases hq with hq | ⟨b, o, he, _⟩
      · have h0 : ss = [] := List.eq_nil_of_length_eq_zero (by rw [← hlen, hq]; rfl)
        subst h0
        subst hq
        exact .inl ⟨rfl, rfl, rfl⟩
      · cases he
    | some a =>
      refine .inr ⟨a, cap, by rw [hlen], by simp, fun j u hj => ?_⟩
      rw [List.getElem?_map] at hj
      cases hjj : ss[j]? with
      | none => rw [hjj] at hj; cases hj
      | some z =>
        rw [hjj] at hj
        obtain rfl := Option.some.inj hj
        rcases hq with hq | ⟨b, o, he, hq⟩
        · have h0 : ss = [] := List.eq_nil_of_length_eq_zero (by rw [← hlen, hq]; rfl)
          rw [h0] at hjj
          simp at hjj
        · obtain rfl := Option.some.inj he
          rw [Addr.add_lit]
          exact hcell b o rfl hq j z hjj
  · rcases hq with hq | ⟨b, o, rfl, hq⟩
    · exact .inl (List.eq_nil_of_length_eq_zero (by rw [← hlen, hq]; rfl))
    · refine .inr ⟨b, o, rfl, fun t ht => ?_⟩
      exact hcell b o rfl hq t _ (by rw [List.getElem?_eq_getElem ht, getElem!_pos ss t ht])
theorem dots_cell {n : Nat} {v : Value} {y : DataW H × List MemPlace} (h : DataW.trod enc Tryz.prog W 0 (fun _ => true) true n 78 [v] = some y) : ∃ ds, DotsAt W v ds := by
  obtain ⟨rows, n', hR, _, hr⟩ := rows_view Tryz.underlying78 (k := 3) (by kernel_rfl) (by decide) h
  have : ∀ l : List (List Value), (∀ r ∈ l, ∃ d : D3, r = d.cells) → ∃ ds : List D3, l = ds.map D3.cells := by
    intro l
    induction l with
    | nil => exact fun _ => ⟨[], rfl⟩
    | cons r l ih =>
      intro h
      obtain ⟨d, rfl⟩ := h r (List.mem_cons_self ..)
      obtain ⟨ds, rfl⟩ := ih (fun r hr => h r (List.mem_cons_of_mem _ hr))
      exact ⟨d :: ds, rfl⟩
  obtain ⟨ds, rfl⟩ := this rows fun r hrm => by
    obtain ⟨hl, y, hy⟩ := hr r hrm
    obtain ⟨m, hf⟩ := field1 Tryz.underlying132 (by kernel_rfl) hl hy
    match r, hl with
    | [a, b, c], _ =>
      obtain ⟨_, h0⟩ := hf 0 _ rfl
      obtain ⟨_, h1⟩ := hf 1 _ rfl
      obtain ⟨_, h2⟩ := hf 2 _ rfl
      obtain ⟨z0, e0, _⟩ := int_cell h0
      obtain ⟨z1, e1, _⟩ := int_cell h1
      obtain ⟨z2, e2, _⟩ := int_cell h2
      have e0' : a = .int .i64 z0 := e0
      have e1' : b = .int .i64 z1 := e1
      have e2' : c = .int .i64 z2 := e2
      exact ⟨⟨z0, z1, z2⟩, by rw [e0', e1', e2']; rfl⟩
  exact ⟨ds, hR⟩
theorem op_cells {n : Nat} {r : List Value} {y : DataW H × List MemPlace} (hl : r.length = 7) (h : DataW.trod enc Tryz.prog W 0 (fun _ => true) true n 80 r = some y) : ∃ o, OpRow W r o := by
  obtain ⟨m, hf⟩ := field1 Tryz.underlying80 (by kernel_rfl) hl h
  match r, hl with
  | [a, b, c, d, e, f, g], _ =>
    obtain ⟨_, h0⟩ := hf 0 _ rfl
    obtain ⟨_, h1⟩ := hf 1 _ rfl
    obtain ⟨_, h2⟩ := hf 2 _ rfl
    obtain ⟨_, h3⟩ := hf 3 _ rfl
    obtain ⟨_, h4⟩ := hf 4 _ rfl
    obtain ⟨_, h5⟩ := hf 5 _ rfl
    obtain ⟨_, h6⟩ := hf 6 _ rfl
    obtain ⟨z0, e0, _⟩ := int_cell h0
    obtain ⟨z1, e1⟩ := str_cell h1
    obtain ⟨z2, e2, _⟩ := int_cell h2
    obtain ⟨z3, e3⟩ := str_cell h3
    obtain ⟨z4, e4, _⟩ := int_cell h4
    obtain ⟨z5, e5⟩ := bool_cell h5
    obtain ⟨ds, hd⟩ := dots_cell h6
    have e0' : a = .int .i64 z0 := e0
    have e1' : b = .string z1 := e1
    have e2' : c = .int .i64 z2 := e2
    have e3' : d = .string z3 := e3
    have e4' : e = .int .i64 z4 := e4
    have e5' : f = .bool z5 := e5
    exact ⟨⟨z0, z1, z2, z3, z4, z5, ds⟩, g, by rw [e0', e1', e2', e3', e4', e5']; rfl, hd⟩
theorem ops_cell {n : Nat} {v : Value} {y : DataW H × List MemPlace} (h : DataW.trod enc Tryz.prog W 0 (fun _ => true) true n 39 [v] = some y) : ∃ os, OpsAt W v os := by
  obtain ⟨rows, n', hR, _, hr⟩ := rows_view Tryz.underlying39 (k := 7) (by kernel_rfl) (by decide) h
  obtain ⟨os, hf⟩ := f2_choose (R := OpRow W) (l := rows) fun r hrm => op_cells (hr r hrm).1 (hr r hrm).2.choose_spec
  exact ⟨os, rows, hR, hf⟩
theorem com_cells {n : Nat} {r : List Value} {y : DataW H × List MemPlace} (hl : r.length = 3) (h : DataW.trod enc Tryz.prog W 0 (fun _ => true) true n 41 r = some y) : ∃ c, ComRow W r c := by
  obtain ⟨m, hf⟩ := field1 Tryz.underlying41 (by kernel_rfl) hl h
  match r, hl with
  | [a, b, c], _ =>
    obtain ⟨_, h0⟩ := hf 0 _ rfl
    obtain ⟨_, h1⟩ := hf 1 _ rfl
    obtain ⟨_, h2⟩ := hf 2 _ rfl
    obtain ⟨zs, hz⟩ := ints_cellV h0
    obtain ⟨z1, e1, _⟩ := int_cell h1
    obtain ⟨os, ho⟩ := ops_cell h2
    have e1' : b = .int .i64 z1 := e1
    exact ⟨⟨zs, z1, os⟩, a, c, by rw [e1'], hz, ho⟩
/-- A value's four cells. -/
theorem val_cells {n : Nat} {r : List Value} {y : DataW H × List MemPlace} (hl : r.length = 4) (h : DataW.trod enc Tryz.prog W 0 (fun _ => true) true n 55 r = some y) : ∃ (x : ValV) (sv : Value), r = [.int .i64 x.kind, .string x.text, .int .i64 x.n, sv] ∧ SrcAt W sv x.set.length 1 (x.set.map encStr) ∧ StrsX W sv x.set := by
  obtain ⟨m, hf⟩ := field1 Tryz.underlying55 (by kernel_rfl) hl h
  match r, hl with
  | [a, b, c, d], _ =>
    obtain ⟨_, h0⟩ := hf 0 _ rfl
    obtain ⟨_, h1⟩ := hf 1 _ rfl
    obtain ⟨_, h2⟩ := hf 2 _ rfl
    obtain ⟨_, h3⟩ := hf 3 _ rfl
    obtain ⟨z0, e0, _⟩ := int_cell h0
    obtain ⟨z1, e1⟩ := str_cell h1
    obtain ⟨z2, e2, _⟩ := int_cell h2
    obtain ⟨ss, hs1, hs2⟩ := strs_cell h3
    have e0' : a = .int .i64 z0 := e0
    have e1' : b = .string z1 := e1
    have e2' : c = .int .i64 z2 := e2
    exact ⟨⟨z0, z1, z2, ss⟩, d, by rw [e0', e1', e2'], hs1, hs2⟩
/-- The five cells of what was read. -/
theorem seen_cells {n : Nat} {r : List Value} {y : DataW H × List MemPlace} (hl : r.length = 5) (h : DataW.trod enc Tryz.prog W 0 (fun _ => true) true n 57 r = some y) : ∃ s, SnRowN W r s := by
  obtain ⟨xs, n', _, _, _, hxl, hg⟩ := DataW.trod_struct Tryz.underlying57 h
  match r, hl with
  | [a, b, c, d, e], _ =>
    have g0 : DataW.trod enc Tryz.prog W 0 (fun _ => true) true n' 9 (([a, b, c, d, e].drop 0).take (Tryz.prog.cellsOf 9)) = _ := hg 0 _ rfl
    have g1 : DataW.trod enc Tryz.prog W 0 (fun _ => true) true n' 55 (([a, b, c, d, e].drop 1).take (Tryz.prog.cellsOf 55)) = _ := hg 1 _ rfl
    have k9 : Tryz.prog.cellsOf 9 = 1 := by kernel_rfl
    have k55 : Tryz.prog.cellsOf 55 = 4 := by kernel_rfl
    have hx2 : xs.length = 2 := hxl
    rw [k9, List.getElem?_eq_getElem (by omega)] at g0
    rw [k55, List.getElem?_eq_getElem (by omega)] at g1
    obtain ⟨z0, e0⟩ := str_cell (v := a) g0
    obtain ⟨x, sv, e1, h1, h2⟩ := val_cells (r := [b, c, d, e]) rfl g1
    injection e1 with e1 e2
    injection e2 with e2 e3
    injection e3 with e3 e4
    injection e4 with e4 _
    subst e0 e1 e2 e3 e4
    exact ⟨⟨z0, x⟩, _, rfl, h1, h2⟩
theorem seens_cell {n : Nat} {v : Value} {y : DataW H × List MemPlace} (h : DataW.trod enc Tryz.prog W 0 (fun _ => true) true n 42 [v] = some y) : ∃ rs, SnsAtN W v rs := by
  obtain ⟨rows, n', hR, _, hr⟩ := rows_view Tryz.underlying42 (k := 5) (by kernel_rfl) (by decide) h
  obtain ⟨os, hf⟩ := f2_choose (R := SnRowN W) (l := rows) fun r hrm => seen_cells (hr r hrm).1 (hr r hrm).2.choose_spec
  exact ⟨os, rows, hR, hf⟩
theorem n64_of {k : Int} (h : (Lit.int .i64 k).wf = true) : n64 k := by
  have e1 : IntKind.i64.min = -9223372036854775808 := rfl
  have e2 : IntKind.i64.max = 9223372036854775807 := rfl
  simp [Lit.wf, e1, e2] at h
  exact h
/-- An event's seven cells. -/
theorem ev_cells {n : Nat} {r : List Value} {y : DataW H × List MemPlace} (hl : r.length = 7) (h : DataW.trod enc Tryz.prog W 0 (fun _ => true) true n 44 r = some y) : ∃ e, EvRowN W r e ∧ n64 e.ses := by
  obtain ⟨xs, n', _, _, _, hxl, hg⟩ := DataW.trod_struct Tryz.underlying44 h
  match r, hl with
  | [a, b, c, d, e, f, g], _ =>
    have g0 : DataW.trod enc Tryz.prog W 0 (fun _ => true) true n' 3 (([a, b, c, d, e, f, g].drop 0).take (Tryz.prog.cellsOf 3)) = _ := hg 0 _ rfl
    have g1 : DataW.trod enc Tryz.prog W 0 (fun _ => true) true n' 3 (([a, b, c, d, e, f, g].drop 1).take (Tryz.prog.cellsOf 3)) = _ := hg 1 _ rfl
    have g2 : DataW.trod enc Tryz.prog W 0 (fun _ => true) true n' 38 (([a, b, c, d, e, f, g].drop 2).take (Tryz.prog.cellsOf 38)) = _ := hg 2 _ rfl
    have g3 : DataW.trod enc Tryz.prog W 0 (fun _ => true) true n' 42 (([a, b, c, d, e, f, g].drop 3).take (Tryz.prog.cellsOf 42)) = _ := hg 3 _ rfl
    have g4 : DataW.trod enc Tryz.prog W 0 (fun _ => true) true n' 41 (([a, b, c, d, e, f, g].drop 4).take (Tryz.prog.cellsOf 41)) = _ := hg 4 _ rfl
    have k3 : Tryz.prog.cellsOf 3 = 1 := by kernel_rfl
    have k38 : Tryz.prog.cellsOf 38 = 1 := by kernel_rfl
    have k42 : Tryz.prog.cellsOf 42 = 1 := by kernel_rfl
    have k41 : Tryz.prog.cellsOf 41 = 3 := by kernel_rfl
    have hx5 : xs.length = 5 := hxl
    rw [k3, List.getElem?_eq_getElem (by omega)] at g0 g1
    rw [k38, List.getElem?_eq_getElem (by omega)] at g2
    rw [k42, List.getElem?_eq_getElem (by omega)] at g3
    rw [k41, List.getElem?_eq_getElem (by omega)] at g4
    obtain ⟨z0, e0, w0⟩ := int_cell (v := a) g0
    obtain ⟨z1, e1, _⟩ := int_cell (v := b) g1
    obtain ⟨zs, hz⟩ := ints_cellV (v := c) g2
    obtain ⟨rs, hr⟩ := seens_cell (v := d) g3
    obtain ⟨cc, ⟨wv, ov, e3, hw, ho⟩⟩ := com_cells (r := [e, f, g]) rfl g4
    injection e3 with e31 e3
    injection e3 with e32 e3
    injection e3 with e33 _
    subst e0 e1 e31 e32 e33
    exact ⟨⟨z0, z1, zs, rs, cc⟩, ⟨_, _, _, _, rfl, ⟨hz, hw, ho⟩, hr⟩, n64_of w0⟩
theorem f2_both {α β : Type} {R : α → β → Prop} {p : β → Prop} : ∀ {l : List α} {m : List β}, F2 (fun a b => R a b ∧ p b) l m → F2 R l m ∧ ∀ b ∈ m, p b
  | [], [], _ => ⟨trivial, fun b hb => by simp at hb⟩
  | _ :: _, _ :: _, ⟨h1, h2⟩ => ⟨⟨h1.1, (f2_both h2).1⟩, fun b hb => by
    rcases List.mem_cons.1 hb with rfl | hb
    · exact h1.2
    · exact (f2_both h2).2 b hb⟩
/-- Events that came in. -/
def EvsIn (w : World) (v : Value) (l : List EvV) : Prop := EvsAtN w v l ∧ l.length ≤ 9223372036854775807 ∧ ∀ e ∈ l, n64 e.ses
theorem evs_view {v : Value} {d : DataW H} {p : List MemPlace} {base : Nat} (hv : Value.okWide Tryz.prog W .any base 22 v) (h : DataW.Trod enc Tryz.prog W 0 (fun _ => true) true 22 v d p) : ∃ l, EvsIn W v l := by
  obtain ⟨a0, len, cap, rfl⟩ := okWide_slice Tryz.underlying22 hv
  obtain ⟨fuel, hf⟩ := h
  have hf' : DataW.trod enc Tryz.prog W 0 (fun _ => true) true fuel 22 [.slice a0 len cap] = some (d, p) := by simpa [Value.cells] using hf
  obtain ⟨rows, n', hR, hs, hr⟩ := rows_view Tryz.underlying22 (k := 7) (by kernel_rfl) (by decide) hf'
  obtain ⟨os, hf⟩ := f2_choose (R := fun r e => EvRowN W r e ∧ n64 e.ses) (l := rows) fun r hrm => ev_cells (hr r hrm).1 (hr r hrm).2.choose_spec
  obtain ⟨h1, h2⟩ := f2_both hf
  exact ⟨os, ⟨rows, hR, h1⟩, by rw [← f2_len h1]; exact hs, h2⟩
end
theorem Tryz.read22 : Tryz.prog.readableRec 22 = true := by kernel_rfl
theorem Tryz.lt22 : 22 < Tryz.prog.types.size := of_decide_eq_true (by kernel_rfl)
theorem evs_stay {H : Type} {enc : TypeId × Value → H} {W W' : World} {v : Value} {d : DataW H} {p : List MemPlace} (h : DataW.Trod enc Tryz.prog W 0 (fun _ => true) true 22 v d p) (hb : Below W.heap.size W W') (hlt : ∀ x ∈ p, x.block < W.heap.size) :
    DataW.Trod enc Tryz.prog W' 0 (fun b => decide (b < W.heap.size)) true 22 v d p := Below.trod Tryz.laidOut Tryz.read22 Tryz.lt22 h hb hlt
end Go.Proofs.YtngjooemanapnaaGreatDoor
namespace Go.Proofs.YtngjooemanapnaaGreatDoor
open Go.RowKit Go.Sort Go.Maps
set_option maxRecDepth 100000
set_option linter.unusedSectionVars false
variable [Inhabited ComV] [DecidableEq D3] [Inhabited D3] [Inhabited Dd] [Inhabited Dn] [Inhabited OpV]

theorem checks_out (w : World) (n a b : Int) (ad : Option Addr) (m cap : Nat)
    (k4 : ∀ u, Below w.heap.size w u → Calls Tryz.prog 4 #[] u (OkRet u)) (k5 : ∀ u, Below w.heap.size w u → Calls Tryz.prog 5 #[.slice ad m cap] u fun r w' => r = .returned (.bool false) ∧ Below u.heap.size u w') :
    Calls Tryz.prog 3 #[.int .i64 n, .slice ad m cap, .int .i64 a, .int .i64 b] w (OkRet w) := by
  have K4 := hid k4
  have K5 := hid k5
  clear k4 k5
  go_enter Tryz.func3, Tryz.ntmps3
  go_wp2_with fail
  refine (K4.out w (Below.refl _ _)).mono ?_
  rintro r w1 ⟨rfl, hb1⟩
  have HB1 := hid hb1
  clear hb1
  go_wp2_with fail
  refine (K5.out w1 HB1.out).mono ?_
  rintro r w2 ⟨rfl, hb⟩
  have HB2 := hid (HB1.out.trans (hb.mono HB1.out.size))
  clear hb
  go_wp2
  go_ret
  exact ⟨rfl, HB2.out⟩
theorem checks_walk (A : Nat → Addr) (w : World) (hS : Sents A w.heap.size w) (n a b : Int) (v : Value) (l : List EvV) (hv : EvsIn w v l) :
    Calls Tryz.prog 3 #[.int .i64 n, v, .int .i64 a, .int .i64 b] w fun e w' => e = .returned (.bool true) ∧ Below w.heap.size w w' := by
  obtain ⟨hN, hlen, hses⟩ := hv
  obtain ⟨ad, cap, rfl, _⟩ := hN.shape
  have k4 := fun u (hu : Below w.heap.size w u) => judged_any A w.heap.size u (hS.below hu)
  have k5 := fun u (hu : Below w.heap.size w u) => fitEvents_any u l _ (hN.mono hu (Nat.le_refl _)) hlen
  cases hfit : fitB l with
  | false => exact checks_out w n a b ad l.length cap k4 fun u hu => (k5 u hu).mono fun r w' ⟨h1, h2⟩ => ⟨by rw [h1, hfit], h2⟩
  | true =>
    obtain ⟨h20, hL⟩ := fit_of hfit
    have hE : ∀ e ∈ l, EvFit e := fun e he => (light_ev (hL e he) (hses e he)).2
    have hLt : ∀ e ∈ l, EvLight e := fun e he => (light_ev (hL e he) (hses e he)).1
    have h12 : ∀ u, Below w.heap.size w u → 12 ≤ u.heap.size := fun u hu => Nat.le_trans (by have := hS.gl; omega) (hS.below hu).size
    refine checks_in A w l (checkE n l) (cutsE l) (cutsT l) (seB l a b).1 (errV A (seB l a b).2) n a b ad l.length cap _ ?_ rfl (fun h => ?_) (fun h => pair_at A w l ad cap _ rfl hN.at hE a b (of_decide_eq_false h))
    · exact
        { k4 := k4
          k5 := fun u hu => (k5 u hu).mono fun r w' ⟨h1, h2⟩ => ⟨by rw [h1, hfit], h2⟩
          k6 := fun u hu x e h h1 h2 => faulted_err A w.heap.size u (hS.below hu) x e h h1 h2
          k7 := fun u hu x hx => checkJ_any A w.heap.size u (hS.below hu) n l x hx (by omega) hE
          k8 := fun u hu => eventsOf_any u l _ (hN.mono hu (Nat.le_refl _)) h20 hLt
          k9 := fun u hu => eventsFault_any u l _ (hN.at.mono hu (Nat.le_refl _)) (by omega) hE n
          k10 := fun u hu x hx => seenJ_any A u (hS.below hu).e4 (h12 u hu) l x hx hE a b
          k11 := fun u hu k hk => coded_err A w.heap.size u (hS.below hu) k hk
          k14 := fun u hu x hx => cutsJ_any A w.heap.size u (hS.below hu) l x hx (by omega) hE
          k15 := fun u hu => refCuts_any u l _ (hN.at.mono hu (Nat.le_refl _)) (by omega) hE
          er12 := checkE_le n l
          er0 := checkE_zero
          ce12 := cutsE_le l
          ce0 := cutsE_zero
          ctl := fun ts ht => by have := (cutsT_len l).1 ts ht; omega
          ctn := by have := (cutsT_len l).2; omega }
    · have hs : seB l a b = (false, 2) := by unfold seB; rw [if_pos (of_decide_eq_true h)]
      rw [hs]
      exact ⟨rfl, rfl⟩
end Go.Proofs.YtngjooemanapnaaGreatDoor
