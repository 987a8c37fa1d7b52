/- judge.rounds by its contract. -/
import Derived.Test.YtngjooemanapnaaGreatDoorJJN3
namespace Go.Proofs.YtngjooemanapnaaGreatDoor
open Go.RowKit Go.Sort Go.Maps
set_option maxRecDepth 100000
set_option linter.unusedSectionVars false
variable [Inhabited ComV] [DecidableEq D3] [Inhabited D3] [Inhabited Dd] [Inhabited Dn] [Inhabited OpV]

theorem info38 : (Tryz.prog.info? 38).map (fun i => (i.zero, i.size, i.bytes)) = some (some (.slice none 0 0), 1, 24) := by kernel_rfl
theorem mk38 (W : World) (n : Nat) (hn : n ≤ 1000) : ∃ cs, (Instr.makeSlice 38 (.int .i64 n) (.int .i64 n)).run Tryz.prog W = .ok (.slice (some ⟨W.heap.size, 0, none⟩) n n) (W.alloc (.cells cs 3)) ∧ ∀ t, t < n → cs[t]? = some (.int .i64 0) := by
  obtain ⟨i3, hi, hz0, hz1, hz2⟩ := info_parts info3
  refine ⟨madeCells #[.int .i64 0] (n * 1), ?_, fun t ht => ?_⟩
  · have := run_make (P := Tryz.prog) W 38 3 i3 _ Tryz.underlying38 hi hz0 .i64 .i64 n n (by omega) (by omega) (by rw [hz2]; omega) (by omega)
    rw [hz1, show (Value.int .i64 0).cells = #[Value.int .i64 0] from rfl] at this
    simpa using this
  · unfold madeCells
    rw [Nat.mul_one, Array.getElem?_map, Array.getElem?_range, if_pos ht]
    simp [Nat.mod_one]
/-- All rounds, and whether none is held. -/
def cutR (l : List EvV) : List (List Nat) × Bool := cutsL l.length (relB l) (l.length + 1) (fun _ => false) []
def RdRet (A : Nat → Addr) (C : List (List Nat) × Bool) (w : World) (r : Ending) (w' : World) : Prop :=
  Below w.heap.size w w' ∧ ((C.2 = true ∧ ∃ v, r = .returned (.tuple #[v, .nilIface]) ∧ TssAt w' v C.1) ∨ (C.2 = false ∧ r = .returned (.tuple #[.slice none 0 0, .iface 223 (.pointer (some (A 9)))])))
/-- Where the outer loop stands. -/
structure RdI (n : Nat) (R : Nat → Nat → Bool) (C : List (List Nat) × Bool) (w : World) (left : Nat) (xv : Value) (wr : World) (P : Nat → Bool) (tss : List (List Nat)) (vs : List Value) (g : Nat) : Prop where
  closed : ClosedL n R P
  cuts : cutsL n R g P tss = C
  fuel : left < g
  left_ : left = leftL' n P
  row : wr.ownsRow (w.heap.size + 2) 38 1 xv vs.length vs
  rounds : F2 (RoundAt (w.heap.size + 1) wr) vs tss
  waits : Waits wr (w.heap.size + 1) w.heap.size n (wtL n R P)
  below : Below w.heap.size w wr
  len : vs.length + left ≤ n
theorem offF_succ' {n : Nat} {R : Nat → Nat → Bool} {P : Nat → Bool} {ts : List Nat} (e : ts = nowL n R P) {i : Nat} (h : i < ts.length) (t : Nat) : offF n R P (i + 1) t = offF n R P i t + if R (ts.getD i 0) t = true then -1 else 0 := by
  subst e
  rw [offF_succ n R P i t h, List.getD_eq_getElem?_getD, List.getElem?_eq_getElem h]
  rfl
theorem nowL_getD {n : Nat} {R : Nat → Nat → Bool} {P : Nat → Bool} {ts : List Nat} (e : ts = nowL n R P) {i : Nat} (h : i < ts.length) : ts.getD i 0 < n := by
  have : ts.getD i 0 ∈ ts := by rw [List.getD_eq_getElem?_getD, List.getElem?_eq_getElem h]; exact List.getElem_mem h
  rw [e] at this
  subst e
  exact nowL_lt this
theorem cutsL_step {n : Nat} {R : Nat → Nat → Bool} {P : Nat → Bool} {g : Nat} {out : List (List Nat)} {C : List (List Nat) × Bool} {ts : List Nat} (h : cutsL n R (g + 1) P out = C) (h0 : leftL' n P ≠ 0) (e : ts = nowL n R P) (h1 : ts ≠ []) : cutsL n R g (laidL n R P) (out ++ [ts]) = C := by
  subst e
  rw [← h, cutsL, if_neg h0, if_neg h1]
set_option maxHeartbeats 4000000 in
theorem rounds_any (A : Nat → Addr) (w : World) (hE : E4 A w) (h12 : 12 ≤ w.heap.size) (hheld : w.cell? ⟨9, 0, none⟩ = some (.iface 223 (.pointer (some (A 9))))) (l : List EvV) (v : Value) (hv : EvsAt w v l) (hl : l.length ≤ 1000) (hsm : ∀ e ∈ l, EvFit e) :
    Calls Tryz.prog 35 #[v] w (RdRet A (cutR l) w) := by
  obtain ⟨cs, hms, hcs⟩ := mk38 w l.length hl
  have e62 := enters_of Tryz.func62 (by kernel_rfl) rfl
  have e64 := enters_of Tryz.func64 (by kernel_rfl) rfl
  have KE1 : ∀ W f a, Hid (Below w.heap.size w W → a < l.length → Waits W (w.heap.size + 1) w.heap.size l.length f → (∀ t, t < l.length → -10000 ≤ f t ∧ f t ≤ 10000) → Calls Tryz.prog 61 #[v, .int .i64 (a : Nat), .func (.func 62) #[] #[.pointer (some ⟨w.heap.size + 1, 0, none⟩)]] W (EachRet l.length l a 1 f (w.heap.size + 1) w.heap.size W)) := fun W f a => hid fun hb ha hW hf =>
    each_any A w W hb hE h12 l v hv hl hsm a ha 62 (w.heap.size + 1) w.heap.size 1 e62 (tell62 _ _ _) (Nat.le_refl _) f hW hf
  have KE2 : ∀ W f a, Hid (Below w.heap.size w W → a < l.length → Waits W (w.heap.size + 1) w.heap.size l.length f → (∀ t, t < l.length → -10000 ≤ f t ∧ f t ≤ 10000) → Calls Tryz.prog 61 #[v, .int .i64 (a : Nat), .func (.func 64) #[] #[.pointer (some ⟨w.heap.size + 1, 0, none⟩)]] W (EachRet l.length l a (-1) f (w.heap.size + 1) w.heap.size W)) := fun W f a => hid fun hb ha hW hf =>
    each_any A w W hb hE h12 l v hv hl hsm a ha 64 (w.heap.size + 1) w.heap.size (-1) e64 (tell64 _ _ _) (Nat.le_refl _) f hW hf
  obtain ⟨va, vc, rfl, _⟩ := hv.shape
  obtain ⟨i38, hi, hz0, hz1, hz2⟩ := info_parts info38
  obtain ⟨n, hn⟩ : ∃ n, n = l.length := ⟨_, rfl⟩
  rw [← hn] at hms hcs KE1 KE2 hl ⊢
  have HN := hid hn
  have HH := hid hheld
  have HCS := hid hcs
  obtain ⟨CC, hCC⟩ : ∃ CC, CC = cutR l := ⟨_, rfl⟩
  rw [← hCC]
  unfold cutR at hCC
  rw [← hn] at hCC
  have HCC := ShutJ.mk hCC
  clear hE hheld hv hsm hn hcs e62 e64 hCC
  go_enter Tryz.func35, Tryz.ntmps35
  go_wp2
  have hw0 : Waits ((w.alloc (.cells cs 3)).alloc (.cells #[.slice (some ⟨w.heap.size, 0, none⟩) n n] 38)) (w.heap.size + 1) w.heap.size n (cnt1 (relB l) 0) := by
    refine ⟨⟨n, ?_⟩, cs, ?_, fun t ht => ?_⟩
    · have := heap_new (w.alloc (.cells cs 3)) (.cells #[.slice (some ⟨w.heap.size, 0, none⟩) n n] 38)
      rwa [World.size_alloc] at this
    · exact heap_old (heap_new _ _) _
    · rw [HCS.out t ht]
      simp [cnt1]
  have HW0 := hid hw0
  have hb0 := below2 w (.cells cs 3) (.cells #[.slice (some ⟨w.heap.size, 0, none⟩) n n] 38)
  have HB0 := hid hb0
  clear hw0 hb0 hms
  go_loopw [16] (fun x wr => ∃ k : Nat, k ≤ n ∧ x = .int .i64 k ∧ Hid (Waits wr (w.heap.size + 1) w.heap.size n (cnt1 (relB l) k)) ∧ Hid (Below w.heap.size w wr)) (fun x _ => n - (intOf x).toNat)
  case atStart => exact ⟨0, Nat.zero_le _, rfl, HW0, HB0⟩
  case round =>
    obtain ⟨k, hk, rfl, HW, HB⟩ := hrel
    have hsz := HB.out.size
    obtain ⟨c, hvar⟩ := HW.out.var
    have hvl := lt_of_heap hvar
    by_cases hlt : k < n
    · have hi1 : (k : Int) < (n : Int) := by omega
      have KC := hid ((KE1 wr (cnt1 (relB l) k) k).out HB.out hlt HW.out (fun t _ => by have := cnt1_bd (relB l) k t; omega))
      clear hvar
      go_wp2_with fail
      with_reducible refine KC.out.mono ?_
      rintro r w2 ⟨rfl, h1, h2⟩
      have H1 := hid h1
      have H2 := hid h2
      clear h1 h2 KC
      go_wp2
      refine ⟨⟨k + 1, by omega, by go_num, hid ?_, hid (H2.out.below (Nat.le_refl _) HB.out hsz)⟩, by simp [intOf]; omega⟩
      refine H1.out.congr fun t ht => ?_
      unfold eachF
      rw [cnt1_succ]
      by_cases q : relB l k t = true
      · rw [if_pos ⟨ht, q⟩, if_pos q]
      · rw [if_neg (fun x => q x.2), if_neg q]
    · obtain rfl : k = n := by omega
      have hinit : RdI k (relB l) CC w k (.slice none 0 0) wr (fun _ => false) [] [] (k + 1) := by
        refine ⟨closed_none _ _, HCC.out.symm, by omega, ?_, World.ownsRow_nil _ _ _ _, trivial, HW.out.congr (fun t _ => cnt1_wt (relB l) k t), HB.out, by simp⟩
        unfold leftL'
        rw [List.filter_eq_self.2 (by simp)]
        simp
      have HI0 := hid hinit
      obtain ⟨wo, hwo⟩ : ∃ wo : World, wo = wr := ⟨wr, rfl⟩
      subst hwo
      clear hinit HW HB hvar hvl hsz
      go_wp2
      go_loopw [6, 7] (fun x y wr => ∃ (left : Nat) (xv : Value) (P : Nat → Bool) (tss : List (List Nat)) (vs : List Value) (g : Nat), y = .int .i64 left ∧ x = xv ∧ left ≤ k ∧ Hid (RdI k (relB l) CC w left xv wr P tss vs g)) (fun _ y _ => (intOf y).toNat)
      case atStart => exact ⟨k, _, _, _, _, _, rfl, rfl, Nat.le_refl _, HI0⟩
      case round =>
        clear HI0
        obtain ⟨left, xv, P, tss, vs, g, rfl, hxx, hle, HI⟩ := hrel
        obtain rfl := hxx.symm
        have hsz := HI.out.below.size
        obtain ⟨c, hvar⟩ := HI.out.waits.var
        have hvl := lt_of_heap hvar
        by_cases hlt : 0 < left
        · have hi1 : (0 : Int) < (left : Int) := by omega
          have c0 : wr.cell? ⟨w.heap.size + 1, 0, none⟩ = some (.slice (some ⟨w.heap.size, 0, none⟩) k c) := (cell_of hvar).trans rfl
          have KT : Hid (Calls Tryz.prog 63 #[.slice (some ⟨w.heap.size, 0, none⟩) k c] wr fun r w' => ∃ v, r = .returned v ∧ w'.ownsRow wr.heap.size 3 1 v (nowL k (relB l) P).length ((nowL k (relB l) P).map natV) ∧ RowI w' w.heap.size k (takeF k (wtL k (relB l) P)) ∧ OnlyB w.heap.size wr w') := hid (by
            refine (take_any wr w.heap.size k c hl _ HI.out.waits.row).mono ?_
            rintro r w' ⟨v, rfl, h1, h2, h3⟩
            rw [freeL_now] at h1
            exact ⟨v, rfl, h1, h2, h3⟩)
          have hll := nowL_len k (relB l) P
          have hls := left_laid k (relB l) P
          rw [← HI.out.left_] at hls
          have hlen := HI.out.len
          obtain ⟨xa, xc, rfl⟩ := row_shape HI.out.row
          obtain ⟨ts, hts⟩ : ∃ ts, ts = nowL k (relB l) P := ⟨_, rfl⟩
          rw [← hts] at KT hll hls
          have HTS := ShutJ.mk hts
          clear hvar hts
          go_wp2_with fail
          with_reducible refine KT.out.mono ?_
          rintro r w2 ⟨rv, rfl, hr2, hi2, hO2⟩
          have hb2 : Below w.heap.size w w2 := hO2.below (Nat.le_refl _) HI.out.below hsz
          have HR2 := hid hr2
          have HI2 := hid hi2
          have HO2 := hid hO2
          have HB2 := hid hb2
          obtain ⟨ra, rc, rfl⟩ := row_shape hr2
          by_cases hnow : ts = []
          · have g9 : w2.cell? ⟨9, 0, none⟩ = some (.iface 223 (.pointer (some (A 9)))) := by
              rw [hb2.cell (p := ⟨9, 0, none⟩) (by show 9 < _; omega)]
              exact HH.out
            have hC : CC = ([], false) := by
              have e := HTS.out
              rw [hnow] at e
              rw [← HI.out.cuts]
              obtain ⟨g', rfl⟩ : ∃ g', g = g' + 1 := ⟨g - 1, by have := HI.out.fuel; omega⟩
              rw [cutsL, if_neg (by rw [← HI.out.left_]; omega), if_pos e.symm]
            have HC := ShutJ.mk hC
            have hm0 : ts.length = 0 := by rw [hnow]; rfl
            rw [hm0]
            clear hr2 hi2 hO2 hb2 KT c0 hnow hC hm0
            go_upto_region 12 with (fail)
            go_region
            go_wp2
            go_ret2
            rw [RdRet, HC.out]
            exact ⟨HB2.out.drew, .inr ⟨rfl, rfl⟩⟩
          · have hm0 : 0 < ts.length := List.length_pos_iff.2 hnow
            have hra := RoundAt.of (B := w.heap.size + 1) hr2 (by omega) hnow
            have HRA := hid hra
            obtain ⟨g2, c2, cs2, hrv, hg2, hg2h, hg2c⟩ := hra
            have hw2 : Waits w2 (w.heap.size + 1) w.heap.size k (offF k (relB l) P 0) := by
              have hne := HI.out.waits.ne
              obtain ⟨c', hv'⟩ := HI.out.waits.var
              obtain ⟨cs', h1, h2⟩ := hi2
              exact ⟨⟨c', (hO2.2.2.2.2 _ (lt_of_heap hv') hne).trans hv'⟩, cs', h1, fun t ht => by rw [h2 t ht, offF_zero, takeF_now _ _ _ _ ht]⟩
            have HW2 := hid hw2
            have HRV := ShutJ.mk hrv
            injection hrv with hra1 _ hrc1
            subst hra1 hrc1
            have HC2 := hid hg2c
            have HG2 := hid hg2h
            obtain ⟨m, hm⟩ : ∃ m, m = ts.length := ⟨_, rfl⟩
            have hcl : (decide ((m : Int) = 0)) = false := decide_eq_false (by omega)
            have hcb : ((m : Int) == 0) = false := beq_eq_false_iff_ne.2 (by omega)
            rw [← hm] at hm0 hll hls ⊢
            have HM := ShutJ.mk hm
            have hml : m ≤ left := by omega
            have HLS := ShutJ.mk hls
            clear hls hr2 hi2 hO2 hb2 KT c0 hnow hw2 hg2h hg2c hm
            go_wp2
            obtain ⟨w2', hw2'⟩ : ∃ w2' : World, w2' = w2 := ⟨w2, rfl⟩
            obtain ⟨wo', hwo'⟩ : ∃ wo' : World, wo' = wr := ⟨wr, rfl⟩
            subst hwo'
            go_loopw [36] (fun x wr => ∃ i : Nat, i ≤ m ∧ x = .int .i64 i ∧ Hid (Waits wr (w.heap.size + 1) w.heap.size k (offF k (relB l) P i)) ∧ Hid (OnlyB w.heap.size w2 wr)) (fun x _ => m - (intOf x).toNat)
            case atStart => exact ⟨0, Nat.zero_le _, rfl, HW2, hid (OnlyB.of (Below.refl _ _))⟩
            case round =>
              obtain ⟨i, hi3, rfl, HWi, HOi⟩ := hrel
              by_cases hlti : i < m
              · have hii : (i : Int) < (m : Int) := by omega
                have hit : i < ts.length := by have := HM.out; omega
                have hmem : ts.getD i 0 < k := nowL_getD HTS.out hit
                have cx : wr.cell? ⟨g2, i, none⟩ = some (.int .i64 (ts.getD i 0 : Nat)) := by
                  have h1 := (HOi.out.2.2.2.2 g2 (lt_of_heap HG2.out) (by omega)).trans HG2.out
                  simp only [World.cell?, h1]
                  rw [HC2.out i hit]
                  simp [natV]
                have hsucc := offF_succ' HTS.out hit
                have HSU := hid hsucc
                obtain ⟨a, ha⟩ : ∃ a, a = ts.getD i 0 := ⟨_, rfl⟩
                rw [← ha] at hmem cx HSU
                have hbw : Below w.heap.size w wr := HOi.out.below (Nat.le_refl _) HB2.out HB2.out.size
                have KC := hid ((KE2 wr (offF k (relB l) P i) a).out hbw hmem HWi.out (fun t _ => by have := offF_bd k (relB l) P i t; omega))
                clear ha hsucc hbw hit
                go_wp2_with fail
                with_reducible refine KC.out.mono ?_
                rintro r w5 ⟨rfl, h1, h2⟩
                have H1 := hid h1
                have H2 := hid h2
                clear h1 h2 KC cx
                go_wp2
                refine ⟨⟨i + 1, by omega, by go_num, hid ?_, hid (HOi.out.trans H2.out)⟩, by simp [intOf]; omega⟩
                refine H1.out.congr fun t ht => ?_
                unfold eachF
                rw [HSU.out t]
                by_cases q : relB l a t = true
                · rw [if_pos ⟨ht, q⟩, if_pos q]
                · rw [if_neg (fun x => q x.2), if_neg q]
              · obtain rfl : i = m := by omega
                have hO3 : OnlyB w.heap.size wo' wr := HO2.out.trans HOi.out
                have hb3 : Below w.heap.size w wr := HOi.out.below (Nat.le_refl _) HB2.out HB2.out.size
                have hrow : wr.ownsRow (w.heap.size + 2) 38 1 (.slice xa vs.length xc) vs.length vs := own_keep HI.out.row fun q hq => by
                  have := HI.out.row.lt q hq
                  exact hO3.2.2.2.2 q this.2 (by omega)
                have HRO := hid hrow
                have HO3 := hid hO3
                have HB3 := hid hb3
                have hsz3 := hb3.size
                have hvb : w.heap.size + 2 ≤ wr.heap.size := by
                  obtain ⟨c', hv'⟩ := HWi.out.var
                  have := lt_of_heap hv'
                  omega
                have hsub : (left : Int) - (i : Int) = ((left - i : Nat) : Int) := by omega
                clear hO3 hb3
                go_wp2_with (at_builtin; refine wpList_append_own_src rfl _ _ 46 rfl (w.heap.size + 2) 38 i38 _ 1 24 Tryz.underlying46 hi hz0 hz1 hz2 rfl (by decide) _ _ _ rfl (hrow.alloc _) _ 1 [.slice (some ⟨g2, 0, none⟩) i rc] rfl ?hs1 (by simp [Value.oneCell']) ?hm2 ?hm3 ?hm4 ?_; (case hs1 => exact .inr ⟨_, _, rfl, rfl, cells11_new _ _ _ _ rfl⟩); (case hm2 => unfold maxLen; omega); (case hm3 => omega); (case hm4 => simp; omega); intro v' w5 hown' hgrow2; have O5 := hid hown'; have G5 := hid hgrow2; clear hown' hgrow2)
                have hgb : ∀ q, (Value.slice xa vs.length xc).ownBlock = some q → w.heap.size + 2 ≤ q := fun q hq => (HRO.out.lt q hq).1
                have hB5 : Below w.heap.size w w5 := (HB3.out.alloc hsz3 _).grown G5.out (by simp; omega) (fun q hq => by have := hgb q hq; omega)
                have hty := fun q hq => own_type (HRO.out.alloc (.cells #[.slice (some ⟨g2, 0, none⟩) i rc] 38)) (b := q) hq
                obtain ⟨g', hg'⟩ : ∃ g', g = g' + 1 := ⟨g - 1, by have := HI.out.fuel; omega⟩
                refine ⟨⟨left - i, v', laidL k (relB l) P, tss ++ [ts], vs ++ [.slice (some ⟨g2, 0, none⟩) i rc], g', rfl, rfl, by omega, hid ⟨HI.out.closed.laid, ?_, ?_, ?_, ?_, ?_, ?_, hB5, ?_⟩⟩, by simp [intOf]; omega⟩
                · have h := HI.out.cuts
                  rw [hg'] at h
                  exact cutsL_step h (by rw [← HI.out.left_]; omega) HTS.out (fun e => by have := HM.out; rw [e] at this; simp at this; omega)
                · have := HI.out.fuel
                  omega
                · have := HLS.out
                  omega
                · rw [List.length_append]
                  exact O5.out
                · have hO4 : OnlyB w.heap.size wo' (wr.alloc (.cells #[.slice (some ⟨g2, 0, none⟩) i rc] 38)) := HO3.out.trans (OnlyB.of (below_alloc _ _))
                  have hO5 : OnlyB w.heap.size w2 (wr.alloc (.cells #[.slice (some ⟨g2, 0, none⟩) i rc] 38)) := HOi.out.trans (OnlyB.of (below_alloc _ _))
                  have hr := HRA.out
                  rw [← HM.out] at hr
                  exact f2_snoc (f2_mono (fun _ _ h => (RoundAt.only h hO4 (by omega)).grown G5.out (fun q hq => hty q hq)) HI.out.rounds) ((RoundAt.only hr hO5 (by omega)).grown G5.out (fun q hq => hty q hq))
                · have h1 : Waits wr (w.heap.size + 1) w.heap.size k (wtL k (relB l) (laidL k (relB l) P)) := HWi.out.congr fun t ht => by
                    have e := offF_all HI.out.closed ht
                    rw [← HTS.out, ← HM.out] at e
                    exact e
                  have h2 := h1.stay (below_alloc wr (.cells #[.slice (some ⟨g2, 0, none⟩) i rc] 38))
                  obtain ⟨⟨c', hv'⟩, hw'⟩ := h2
                  refine ⟨⟨c', (G5.out.block _ (lt_of_heap hv') fun e => ?_).trans hv'⟩, hw'.stay (G5.out.block _ hw'.lt fun e => ?_)⟩
                  · have := hgb _ e.symm
                    omega
                  · have := hgb _ e.symm
                    omega
                · simp
                  omega
        · obtain rfl : left = 0 := by omega
          obtain ⟨xa, xc, rfl⟩ := row_shape HI.out.row
          clear hvar
          go_wp2
          go_ret2
          have hC : CC = (tss, true) := by
            rw [← HI.out.cuts]
            obtain ⟨g', rfl⟩ : ∃ g', g = g' + 1 := ⟨g - 1, by have := HI.out.fuel; omega⟩
            rw [cutsL, if_pos HI.out.left_.symm]
          rw [RdRet, hC]
          exact ⟨HI.out.below, .inl ⟨rfl, _, rfl, TssAt.of HI.out.row HI.out.rounds⟩⟩
end Go.Proofs.YtngjooemanapnaaGreatDoor
