/- fitEvents: few, and short? -/
import Derived.Test.YtngjooemanapnaaGreatDoorJVIs
import Derived.Test.YtngjooemanapnaaGreatDoorJJI3
import Derived.Test.YtngjooemanapnaaGreatDoorJJN
import Derived.Test.YtngjooemanapnaaGreatDoorJVOwnM
namespace Go.Proofs.YtngjooemanapnaaGreatDoor
open Go.RowKit Go.Sort Go.Maps
set_option maxRecDepth 100000

def lightR (r : SnV) : Bool := decide (r.key.size ≤ 60) && (decide (r.v.set.length ≤ 20) && decide (r.v.text.size ≤ 200))
def lightE (e : EvV) : Bool := !heavyB e.c && (decide (e.at_.length ≤ 20) && (decide (e.reads.length ≤ 20) && e.reads.all lightR))
/-- What the law lets by. -/
def fitB (l : List EvV) : Bool := l.all lightE && decide (l.length ≤ 20)
theorem light_com {c : ComV} (h3 : heavyB c = false) : c.when_.length ≤ 20 ∧ c.ops.length ≤ 20 ∧ ∀ o ∈ c.ops, o.key.size ≤ 60 ∧ o.text.size ≤ 200 ∧ o.dots.length ≤ 70 := by
  unfold heavyB at h3
  simp only [Bool.or_eq_false_iff, decide_eq_false_iff_not, List.any_eq_false] at h3
  refine ⟨by omega, by omega, fun o ho => ?_⟩
  have h4 : heavyO o = false := by simpa using h3.2.2 o ho
  unfold heavyO at h4
  simp only [Bool.or_eq_false_iff, decide_eq_false_iff_not] at h4
  omega
theorem light_ev {e : EvV} (h : lightE e = true) (hs : n64 e.ses) : EvLight e ∧ EvFit e := by
  unfold lightE at h
  simp only [Bool.and_eq_true, Bool.not_eq_true', decide_eq_true_eq, List.all_eq_true] at h
  obtain ⟨h1, h2, h3, h4⟩ := h
  obtain ⟨g1, g2, g3⟩ := light_com h1
  refine ⟨⟨h2, h3, fun r hr => ?_, g1, g2, fun o ho => (g3 o ho).2.2⟩, ⟨⟨by omega, by omega, fun o ho => ?_⟩, by omega, by omega, hs⟩⟩
  · have := h4 r hr
    unfold lightR at this
    simp only [Bool.and_eq_true, decide_eq_true_eq] at this
    exact this.2.1
  · have := g3 o ho
    exact ⟨by omega, by omega⟩
theorem fit_of {l : List EvV} (h : fitB l = true) : l.length ≤ 20 ∧ ∀ e ∈ l, lightE e = true := by
  unfold fitB at h
  simp only [Bool.and_eq_true, decide_eq_true_eq, List.all_eq_true] at h
  exact ⟨h.2, h.1⟩
theorem fit_bad {l : List EvV} {i : Nat} (hi : i < l.length) (h : lightE (l.getD i ev0) = false) : fitB l = false := by
  unfold fitB
  rw [Bool.and_eq_false_iff]
  refine .inl ?_
  rw [List.all_eq_false]
  exact ⟨_, getD_mem hi, by rw [h]; decide⟩
theorem fit_all {l : List EvV} (h : ∀ j, j < l.length → lightE (l.getD j ev0) = true) : fitB l = decide (l.length ≤ 20) := by
  unfold fitB
  rw [List.all_eq_true.2 fun e he => by obtain ⟨j, hj, rfl⟩ := mem_getD he; exact h j hj]
  rfl
theorem light_heavy {e : EvV} (h : heavyB e.c = true) : lightE e = false := by unfold lightE; rw [h]; rfl
theorem light_at {e : EvV} (h : 20 < e.at_.length) : lightE e = false := by unfold lightE; rw [decide_eq_false (by omega : ¬ e.at_.length ≤ 20)]; simp
theorem light_reads {e : EvV} (h : 20 < e.reads.length) : lightE e = false := by unfold lightE; rw [decide_eq_false (by omega : ¬ e.reads.length ≤ 20)]; simp
theorem light_read {e : EvV} {r : SnV} (hr : r ∈ e.reads) (h : lightR r = false) : lightE e = false := by
  unfold lightE
  have : e.reads.all lightR = false := by rw [List.all_eq_false]; exact ⟨r, hr, by rw [h]; decide⟩
  rw [this]
  simp
theorem light_yes {e : EvV} (h1 : heavyB e.c = false) (h2 : e.at_.length ≤ 20) (h3 : e.reads.length ≤ 20) (h4 : ∀ k, (hk : k < e.reads.length) → lightR e.reads[k] = true) : lightE e = true := by
  unfold lightE
  rw [h1, decide_eq_true h2, decide_eq_true h3, List.all_eq_true.2 fun r hr => by obtain ⟨k, hk, rfl⟩ := List.getElem_of_mem hr; exact h4 k hk]
  rfl
set_option maxHeartbeats 4000000 in
theorem fitEvents_any (w : World) (l : List EvV) (v : Value) (hv : EvsAtN w v l) (hl : l.length ≤ 9223372036854775807) : Calls Tryz.prog 5 #[v] w fun r w' => r = .returned (.bool (fitB l)) ∧ Below w.heap.size w w' := by
  obtain ⟨ad, cap, rfl, _, _, hv'⟩ := hv.shape
  obtain ⟨n, hn⟩ : ∃ n, n = l.length := ⟨_, rfl⟩
  rw [← hn] at hl hv' ⊢
  have HN := ShutJ.mk hn
  have HV := hid hv'
  clear hv hv' hn
  go_enter Tryz.func5, Tryz.ntmps5
  go_wp2
  go_loopw [3] (fun x wr => ∃ i : Nat, i ≤ n ∧ x = .int .i64 i ∧ Hid (∀ j, j < i → lightE (l.getD j ev0) = true) ∧ Hid (Below w.heap.size w wr)) (fun x _ => n - (intOf x).toNat)
  case atStart => exact ⟨0, Nat.zero_le _, rfl, hid fun j hj => absurd hj (Nat.not_lt_zero _), hid (Below.refl _ _)⟩
  case round =>
    obtain ⟨i, hi, rfl, HZ, HB⟩ := hrel
    by_cases hlt : i < n
    · have hi1 : (i : Int) < (n : Int) := by omega
      obtain ⟨b, off, rfl, hck⟩ := HV.out.resolve_left (fun h => by have := HN.out; rw [h] at this; simp at this; omega)
      obtain ⟨kv, kr, kw, ko, hke, hkr, hkc⟩ := hck i hlt
      obtain ⟨e, he⟩ : ∃ e, e = l.getD i ev0 := ⟨_, rfl⟩
      rw [← he] at hke hkr hkc
      have HE := ShutJ.mk he
      obtain ⟨aa, ac, wa, wc, oa, oc, rfl, rfl, rfl⟩ := evAt_shape hke
      obtain ⟨ra, rc, rfl⟩ : ∃ a c, kr = .slice a e.reads.length c := by
        obtain ⟨rows, ⟨a, c, rfl, _⟩, h⟩ := hkr
        exact ⟨a, c, by rw [f2_len h]⟩
      have HC : Hid (∀ u, Below w.heap.size w u → ∀ j x, (evCells e (.slice aa e.at_.length ac) (.slice ra e.reads.length rc) (.slice wa e.c.when_.length wc) (.slice oa e.c.ops.length oc))[j]? = some x → u.cell? ⟨b, off + i * 7 + j, none⟩ = some x) := hid fun u hu j x hj => by
        have := hkc j x hj
        rw [hu.cell (p := ⟨b, off + i * 7 + j, none⟩) (lt_of_cell this)]
        exact this
      have KH : Calls Tryz.prog 17 #[.agg #[.slice wa e.c.when_.length wc, .int .i64 e.c.place, .slice oa e.c.ops.length oc]] wr fun x w' => x = .returned (.int .i64 (heavyN e.c)) ∧ Below wr.heap.size wr w' := heavyCommit wr e.c _ _ (hke.when_.mono HB.out (Nat.le_refl _)) (hke.ops.mono HB.out (Nat.le_refl _))
      have HR := hid hkr
      have c4 : wr.cell? ⟨b, off + i * 7 + 4, none⟩ = some (.slice wa e.c.when_.length wc) := HC.out wr HB.out 4 _ rfl
      have c5 : wr.cell? ⟨b, off + i * 7 + 5, none⟩ = some (.int .i64 e.c.place) := HC.out wr HB.out 5 _ rfl
      have c6 : wr.cell? ⟨b, off + i * 7 + 6, none⟩ = some (.slice oa e.c.ops.length oc) := HC.out wr HB.out 6 _ rfl
      have C2 := hid fun (u : World) (hu : Below w.heap.size w u) => HC.out u hu 2 _ rfl
      have C3 := hid fun (u : World) (hu : Below w.heap.size w u) => HC.out u hu 3 _ rfl
      obtain ⟨la, hla⟩ : ∃ la, la = e.at_.length := ⟨_, rfl⟩
      obtain ⟨lr, hlr⟩ : ∃ lr, lr = e.reads.length := ⟨_, rfl⟩
      obtain ⟨lw, hlw⟩ : ∃ lw, lw = e.c.when_.length := ⟨_, rfl⟩
      obtain ⟨lo, hlo⟩ : ∃ lo, lo = e.c.ops.length := ⟨_, rfl⟩
      obtain ⟨pl, hpl⟩ : ∃ pl, pl = e.c.place := ⟨_, rfl⟩
      rw [← hlw, ← hlo, ← hpl] at KH
      rw [← hlw] at c4
      rw [← hpl] at c5
      rw [← hlo] at c6
      rw [← hla] at C2
      rw [← hlr] at C3 HR
      have HLA := ShutJ.mk hla
      have HLR := ShutJ.mk hlr
      have hbad : Hid (lightE e = false → fitB l = false) := hid fun h => fit_bad (i := i) (by have := HN.out; omega) (by rw [← HE.out]; exact h)
      clear hke hkr hkc hck hla hlr hlw hlo hpl he HC
      cases hh : heavyB e.c with
      | true =>
        rw [heavyN_one hh] at KH
        have KH' := hid KH
        have HF : Hid (fitB l = false) := hid (hbad.out (light_heavy hh))
        clear hh KH
        go_wp2_with fail
        refine KH'.out.mono ?_
        rintro x w' ⟨rfl, hb⟩
        have HB2 := hid (HB.out.trans (hb.mono HB.out.size))
        clear hb c4 c5 c6
        go_wp2
        go_ret
        exact ⟨ret_bool HF.out.symm, HB2.out⟩
      | false =>
        rw [heavyN_zero hh] at KH
        have KH' := hid KH
        have HH := ShutJ.mk hh
        clear hh KH
        by_cases x1 : (20 : Int) < la
        · have HF : Hid (fitB l = false) := hid (hbad.out (light_at (by have := HLA.out; omega)))
          go_wp2_with fail
          refine KH'.out.mono ?_
          rintro x w' ⟨rfl, hb⟩
          have HB2 := hid (HB.out.trans (hb.mono HB.out.size))
          have c2 := C2.out w' HB2.out
          clear hb c4 c5 c6
          go_wp2
          go_ret
          exact ⟨ret_bool HF.out.symm, HB2.out⟩
        by_cases x2 : (20 : Int) < lr
        · have HF : Hid (fitB l = false) := hid (hbad.out (light_reads (by have := HLR.out; omega)))
          have b1 : decide ((20 : Int) < la) = false := decide_eq_false x1
          go_wp2_with fail
          refine KH'.out.mono ?_
          rintro x w' ⟨rfl, hb⟩
          have HB2 := hid (HB.out.trans (hb.mono HB.out.size))
          have c2 := C2.out w' HB2.out
          have c3 := C3.out w' HB2.out
          clear hb c4 c5 c6 x1
          go_wp2
          go_ret
          exact ⟨ret_bool HF.out.symm, HB2.out⟩
        have b1 : decide ((20 : Int) < la) = false := decide_eq_false x1
        have b2 : decide ((20 : Int) < lr) = false := decide_eq_false x2
        have X1 := hid x1
        have hlr20 : lr ≤ 20 := by omega
        clear x1 x2
        go_wp2_with fail
        refine KH'.out.mono ?_
        rintro x w' ⟨rfl, hb⟩
        have HB2 := hid (HB.out.trans (hb.mono HB.out.size))
        have c2 := C2.out w' HB2.out
        have c3 := C3.out w' HB2.out
        clear hb c4 c5 c6 KH'
        go_wp2
        clear c2 c3 b1 b2
        go_loopw [4] (fun y wx => ∃ k : Nat, k ≤ lr ∧ y = .int .i64 k ∧ Hid (∀ j, (hj : j < e.reads.length) → j < k → lightR e.reads[j] = true) ∧ Hid (Below w.heap.size w wx)) (fun y _ => lr - (intOf y).toNat)
        case atStart => exact ⟨0, Nat.zero_le _, rfl, hid fun j _ hj => absurd hj (Nat.not_lt_zero _), HB2⟩
        case round =>
          obtain ⟨k, hk, rfl, HZk, HBk⟩ := hrel
          have c3 := C3.out _ HBk.out
          by_cases hlk : k < lr
          · have hk1 : (k : Int) < (lr : Int) := by omega
            have hkl : k < e.reads.length := by have := HLR.out; omega
            obtain ⟨sb, so, sc, sv, hre, _, ⟨sa, sq, rfl⟩, hsc⟩ := HR.out.get hkl
            injection hre with hra hrl hrc
            clear hrl hrc
            subst hra
            obtain ⟨s, hs⟩ : ∃ s, s = e.reads[k] := ⟨_, rfl⟩
            rw [← hs] at hsc
            have hmem : s ∈ e.reads := by rw [hs]; exact List.getElem_mem _
            have HS := ShutJ.mk hs
            have HM := hid hmem
            have up : ∀ {a : Addr} {v : Value}, w.cell? a = some v → wr.cell? a = some v := fun {a v} h => by rw [HBk.out.cell (lt_of_cell h)]; exact h
            have d0 : wr.cell? ⟨sb, so + k * 5, none⟩ = some (.string s.key) := up (hsc 0 _ rfl)
            have d1 : wr.cell? ⟨sb, so + k * 5 + 1, none⟩ = some (.int .i64 s.v.kind) := up (hsc 1 _ rfl)
            have d2 : wr.cell? ⟨sb, so + k * 5 + 2, none⟩ = some (.string s.v.text) := up (hsc 2 _ rfl)
            have d3 : wr.cell? ⟨sb, so + k * 5 + 3, none⟩ = some (.int .i64 s.v.n) := up (hsc 3 _ rfl)
            have d4 : wr.cell? ⟨sb, so + k * 5 + 4, none⟩ = some (.slice sa s.v.set.length sq) := up (hsc 4 _ rfl)
            obtain ⟨sk, hsk⟩ : ∃ sk, sk = s.key := ⟨_, rfl⟩
            obtain ⟨st, hst⟩ : ∃ st, st = s.v.text := ⟨_, rfl⟩
            obtain ⟨sl, hsl⟩ : ∃ sl, sl = s.v.set.length := ⟨_, rfl⟩
            rw [← hsk] at d0
            rw [← hst] at d2
            rw [← hsl] at d4
            have HSK := ShutJ.mk hsk
            have HST := ShutJ.mk hst
            have HSL := ShutJ.mk hsl
            clear hs hmem hsc up hsk hst hsl
            by_cases y1 : (60 : Int) < sk.size
            · have HF : Hid (fitB l = false) := hid (hbad.out (light_read HM.out (by unfold lightR; rw [decide_eq_false (by have := HSK.out; rw [← this]; omega : ¬ s.key.size ≤ 60)]; rfl)))
              go_wp2
              go_ret
              exact ⟨ret_bool HF.out.symm, HBk.out.trans ((below_alloc _ _).mono HBk.out.size)⟩
            by_cases y2 : (20 : Int) < sl
            · have HF : Hid (fitB l = false) := hid (hbad.out (light_read HM.out (by unfold lightR; rw [decide_eq_false (by have := HSL.out; omega : ¬ s.v.set.length ≤ 20)]; simp)))
              go_wp2
              go_ret
              exact ⟨ret_bool HF.out.symm, HBk.out.trans ((below_alloc _ _).mono HBk.out.size)⟩
            by_cases y3 : (200 : Int) < st.size
            · have HF : Hid (fitB l = false) := hid (hbad.out (light_read HM.out (by unfold lightR; rw [decide_eq_false (by have := HST.out; rw [← this]; omega : ¬ s.v.text.size ≤ 200)]; simp)))
              go_wp2
              go_ret
              exact ⟨ret_bool HF.out.symm, HBk.out.trans ((below_alloc _ _).mono HBk.out.size)⟩
            have HL : Hid (lightR s = true) := hid (by
              have q1 := HSK.out
              have q2 := HSL.out
              have q3 := HST.out
              unfold lightR
              rw [← q1, ← q3, decide_eq_true (by omega : sk.size ≤ 60), decide_eq_true (by omega : s.v.set.length ≤ 20), decide_eq_true (by omega : st.size ≤ 200)]
              rfl)
            go_wp2
            go_roundw
            case rel =>
              refine ⟨k + 1, by omega, by go_num, hid fun j hj hjk => ?_, hid (HBk.out.trans ((below_alloc _ _).mono HBk.out.size))⟩
              rcases Nat.lt_succ_iff_lt_or_eq.1 hjk with h | rfl
              · exact HZk.out j hj h
              · rw [← HS.out]; exact HL.out
            case measure => simp [intOf]; omega
          · obtain rfl : k = lr := by omega
            have HL : Hid (lightE e = true) := hid (light_yes HH.out (by have := HLA.out; have := X1.out; omega) (by have := HLR.out; omega) (fun j hj => HZk.out j hj (by have := HLR.out; omega)))
            go_wp2
            go_roundw
            case rel =>
              refine ⟨i + 1, by omega, by go_num, hid fun j hj => ?_, HBk⟩
              rcases Nat.lt_succ_iff_lt_or_eq.1 hj with h | rfl
              · exact HZ.out j h
              · rw [← HE.out]; exact HL.out
            case measure => simp [intOf]; omega
    · obtain rfl : i = n := by omega
      have HF : Hid (fitB l = decide (i ≤ 20)) := hid (by rw [fit_all (fun j hj => HZ.out j (by have := HN.out; omega)), HN.out])
      go_wp2
      go_ret
      exact ⟨ret_bool (by rw [HF.out]; by_cases h : i ≤ 20 <;> simp [h] <;> omega), HB.out⟩
end Go.Proofs.YtngjooemanapnaaGreatDoor
