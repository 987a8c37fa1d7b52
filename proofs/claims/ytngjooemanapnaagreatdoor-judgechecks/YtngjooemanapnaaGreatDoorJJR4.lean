/- The reference's CutsOf. -/
import Derived.Test.YtngjooemanapnaaGreatDoorJJS1
namespace Go.Proofs.YtngjooemanapnaaGreatDoor
open Go.RowKit Go.Sort Go.Maps
set_option maxRecDepth 100000
set_option linter.unusedSectionVars false
variable [Inhabited ComV] [DecidableEq D3] [Inhabited D3] [Inhabited Dd] [Inhabited Dn] [Inhabited OpV]

theorem cutsE_at {l : List EvV} {k : Nat} (hk : k < l.length) (hz : ∀ j, j < k → cutB l j = 0) (hc : cutB l k ≠ 0) : cutsE l = (cutB l k, some k) ∧ cutsT l = [] := by
  have e : cutE l = (cutB l k, some k) := scan_some hk hz hc
  have e2 : cutsE l = (cutB l k, some k) := by unfold cutsE; rw [e, if_pos hc]
  exact ⟨e2, by unfold cutsT; rw [e2, if_neg hc]⟩
theorem only_setCells {b : Nat} : ∀ (vs : List Value) (o : Nat) (w : World), OnlyB b w (w.setCells b o vs)
  | [], _, _ => OnlyB.of (Below.refl _ _)
  | _ :: vs, o, w => (only_setCell (w := w)).trans (only_setCells vs (o + 1) _)
theorem tss_nil (w : World) : TssAt w (.slice none 0 0) [] := ⟨none, 0, rfl, .inl rfl⟩
set_option maxHeartbeats 8000000 in
theorem refCuts_any (w : World) (l : List EvV) (v : Value) (hv : EvsAt w v l) (hl : l.length ≤ 1000) (hf : ∀ e ∈ l, EvFit e) : Calls Tryz.prog 15 #[v] w (RcRet l w) := by
  obtain ⟨i38, hi8, hz0, hz1, hz2⟩ := info_parts info38
  obtain ⟨i3, hi3, hy0, hy1, hy2⟩ := info_parts info3
  have K12 := fun u (hu : Below w.heap.size w u) (e : EvV) (he : e ∈ l) (wv av : Value) (h1 : IntsAt w wv e.c.when_) (h2 : IntsAt w av e.at_) => hid (twoError u wv av _ _ (h1.mono hu (Nat.le_refl _)) (h2.mono hu (Nat.le_refl _)) (hf e he).com.1 (hf e he).at_)
  have K13 := fun (hW : CutOk l) u (hu : Below w.heap.size w u) a b ha hb wv av h1 h2 => hid (in13c w l hW hf u hu a b ha hb wv av h1 h2)
  have KM := fun W n hn => mk38 W n hn
  obtain ⟨w1, hw1⟩ : ∃ w1, w1 = w.alloc (.cells #[.int .i64 0, .int .i64 0] 32) := ⟨_, rfl⟩
  have hg1 : w1.heap[w.heap.size]? = some (.cells #[.int .i64 0, .int .i64 0] 32 (0, 0)) := by rw [hw1]; exact heap_new _ _
  have hb1 : Below w.heap.size w w1 := by rw [hw1]; exact below_alloc _ _
  have hs1 : w1.heap.size = w.heap.size + 1 := by rw [hw1]; simp
  obtain ⟨ad, cap, rfl, _, hcap, hv'⟩ := hv.shape
  obtain ⟨n, hn⟩ : ∃ n, n = l.length := ⟨_, rfl⟩
  rw [← hn] at hl hv' hcap ⊢
  have HN := ShutJ.mk hn
  have HV := hid hv'
  have HB1 := hid hb1
  have HX : Hid (∀ u, Below (w.heap.size + 1) w1 u → (∀ j, j < 2 → (u.cell? ⟨w.heap.size, 0 + j, none⟩).isSome = true) ∧ (∀ j, j < 2 → u.frozen? ⟨w.heap.size, 0 + j, none⟩ = false) ∧ ∀ a b : Value, (u.setCells w.heap.size 0 [a, b]).cell? ⟨w.heap.size, 0, none⟩ = some a ∧ (u.setCells w.heap.size 0 [a, b]).cell? ⟨w.heap.size, 1, none⟩ = some b) := hid fun u hu => box2 hg1 hu
  -- the cells of any event, in any world
  have HCE : Hid (∀ k, k < n → ∃ b off aa ac ra rn rc wa wc oa oc, ad = some ⟨b, off, none⟩ ∧ EvAt w (l.getD k ev0) (.slice aa (l.getD k ev0).at_.length ac) (.slice wa (l.getD k ev0).c.when_.length wc) (.slice oa (l.getD k ev0).c.ops.length oc) ∧ ∀ u, Below w.heap.size w u → ∀ j x, (evCells (l.getD k ev0) (.slice aa (l.getD k ev0).at_.length ac) (.slice ra rn rc) (.slice wa (l.getD k ev0).c.when_.length wc) (.slice oa (l.getD k ev0).c.ops.length oc))[j]? = some x → u.cell? ⟨b, off + k * 7 + j, none⟩ = some x) := hid fun k hk => by
    obtain ⟨b, off, rfl, hck⟩ := HV.out.resolve_left (fun h => by have := HN.out; rw [h] at this; simp at this; omega)
    obtain ⟨kv, kr, kw, ko, hke, hkr, hkc⟩ := hck k hk
    obtain ⟨aa, ac, wa, wc, oa, oc, rfl, rfl, rfl⟩ := evAt_shape hke
    obtain ⟨ra, rn, rc, rfl⟩ : ∃ a n c, kr = .slice a n c := by obtain ⟨_, ⟨a, c, rfl, _⟩, _⟩ := hkr; exact ⟨_, _, _, rfl⟩
    exact ⟨b, off, aa, ac, ra, rn, rc, wa, wc, oa, oc, rfl, hke, fun u hu j x hx => by
      have := hkc j x hx
      rw [hu.cell (p := ⟨b, off + k * 7 + j, none⟩) (lt_of_cell this)]
      exact this⟩
  have hadb : 0 < n → ∃ b off, ad = some ⟨b, off, none⟩ := fun h => by
    obtain ⟨b, off, _, _, _, _, _, _, _, _, _, h1, _⟩ := HCE.out 0 h
    exact ⟨b, off, h1⟩
  have HMEM : Hid (∀ k, k < n → l.getD k ev0 ∈ l) := hid fun k hk => getD_mem (by have := HN.out; omega)
  by_cases hn0 : n = 0
  · subst hn0
    obtain rfl : l = [] := List.eq_nil_of_length_eq_zero HN.out.symm
    have hE0 : cutsE [] = (0, none) := by decide
    have hT0 : cutsT [] = [] := by decide
    obtain ⟨cs, hms, hcs⟩ := KM w1 0 (by omega)
    have hms' : (Instr.makeSlice 38 (.int .i64 0) (.int .i64 0)).run Tryz.prog w1 = .ok (.slice (some ⟨w1.heap.size, 0, none⟩) 0 0) (w1.alloc (.cells cs 3)) := hms
    have hb2 : Below (w.heap.size + 1) w1 (w1.alloc (.cells cs 3)) := Below.alloc (Below.refl _ _) (by omega) _
    have HB2 := hid hb2
    have HE := ShutJ.mk hE0
    have HE2 := ShutJ.mk hT0
    have hsz2 : w.heap.size + 1 ≤ (w1.alloc (.cells cs 3)).heap.size := by simp; omega
    clear hv hv' hf hn hg1 hb1 hadb K12 K13 KM HV HCE HMEM hms hcs hb2 hE0 hT0
    go_enter Tryz.func15, Tryz.ntmps15
    go_wp2
    rw [← hw1]
    clear hw1
    go_loopw [4] (fun x wr => x = .int .i64 0 ∧ wr = w1) (fun _ _ => 0)
    case atStart => exact ⟨rfl, rfl⟩
    case round =>
      obtain ⟨rfl, rfl⟩ := hrel
      go_wp2
      go_loopw [7] (fun x wr' => x = .int .i64 0 ∧ wr' = wr.alloc (.cells cs 3)) (fun _ _ => 0)
      case atStart => exact ⟨rfl, rfl⟩
      case round =>
        obtain ⟨rfl, rfl⟩ := hrel
        go_wp2
        go_loopw [8, 9, 10] (fun x y z wr' => x = .slice none 0 0 ∧ y = .int .i64 0 ∧ z = .int .i64 0 ∧ wr' = wr.alloc (.cells cs 3)) (fun _ _ _ _ => 0)
        case atStart => exact ⟨rfl, rfl, rfl, rfl⟩
        case round =>
          obtain ⟨rfl, rfl, rfl, rfl⟩ := hrel
          go_wp2_with fail
          refine (fine_any _).mono ?_
          rintro r w2 ⟨rfl, hb⟩
          have HB3 : Hid (Below (w.heap.size + 1) wr w2) := hid (HB2.out.trans (hb.mono hsz2))
          have X := hid (HX.out w2 HB3.out)
          clear hb
          go_wp2_with (refine wpList_store_k _ rfl (.tmp 3) (.tmp 160) 32 rfl w.heap.size 0 [.int .i64 0, .int .i64 (-1)] rfl rfl 2 rfl Tryz.sizeOf32 rfl _ ?hW X.out.1 X.out.2.1 ?_; case hW => rfl)
          refine bodyPost_ret (ret_cuts _ _ w.heap.size _ _ _ rfl rfl (X.out.2.2 _ _)) rfl ⟨.slice none 0 0, ?_, by rw [HE2.out]; exact tss_nil _, below_setCells (Nat.le_refl _) _ _ (HB1.out.trans (HB3.out.mono (by omega)))⟩
          rw [HE.out]
          rfl
  · obtain ⟨b, off, rfl⟩ := hadb (by omega)
    clear hv hv' hf hn hg1 hb1 hadb
    go_enter Tryz.func15, Tryz.ntmps15
    go_wp2
    rw [← hw1]
    clear hw1
    go_loopw [4] (fun x wr => ∃ k : Nat, k ≤ n ∧ x = .int .i64 k ∧ Hid (∀ j, j < k → cutB l j = 0) ∧ Hid (Below (w.heap.size + 1) w1 wr)) (fun x _ => n - (intOf x).toNat)
    case atStart => exact ⟨0, Nat.zero_le _, rfl, hid fun _ h => absurd h (Nat.not_lt_zero _), Below.refl _ _⟩
    case round =>
      obtain ⟨k, hk, rfl, HZ, HB⟩ := hrel
      have hwr : Below w.heap.size w wr := HB1.out.trans (HB.out.mono (by omega))
      by_cases hlt : k < n
      · have hk1 : (k : Int) < (n : Int) := by omega
        have hn1 : (0 : Int) < (n : Int) := by omega
        obtain ⟨b', off', aa, ac, ra, rn, rc, wa, wc, oa, oc, hab, hke, hkc⟩ := HCE.out k hlt
        obtain ⟨b2, off2, aa0, ac0, _, _, _, _, _, _, _, hab2, _, hkc0⟩ := HCE.out 0 (by omega)
        injection hab with hab
        injection hab with hab1 hab2'
        subst hab1 hab2'
        injection hab2 with hab2
        injection hab2 with hab1 hab2'
        subst hab1 hab2'
        have KT := K12
        have K1 : Hid (∀ u, Below wr.heap.size wr u → Hid (Calls Tryz.prog 12 #[.slice wa (l.getD k ev0).c.when_.length wc, .slice aa (l.getD k ev0).at_.length ac] u fun e w' => e = .returned (.int .i64 (two (l.getD k ev0).c.when_ (l.getD k ev0).at_)) ∧ w' = u)) := hid fun u hu => K12 u (hwr.trans (hu.mono hwr.size)) _ (HMEM.out k hlt) _ _ hke.when_ hke.at_
        have HELD : Hid (∀ u, Below wr.heap.size wr u → u.cell? ⟨b, off + k * 7 + 4, none⟩ = some (.slice wa (l.getD k ev0).c.when_.length wc) ∧ u.cell? ⟨b, off + k * 7 + 2, none⟩ = some (.slice aa (l.getD k ev0).at_.length ac)) := hid fun u hu => ⟨hkc u (hwr.trans (hu.mono hwr.size)) 4 _ rfl, hkc u (hwr.trans (hu.mono hwr.size)) 2 _ rfl⟩
        have HELD2 : Hid (∀ u, Below wr.heap.size wr u → u.cell? ⟨b, off + k * 7 + 2, none⟩ = some (.slice aa (l.getD k ev0).at_.length ac) ∧ u.cell? ⟨b, off + 2, none⟩ = some (.slice aa0 (l.getD 0 ev0).at_.length ac0)) := hid fun u hu => ⟨hkc u (hwr.trans (hu.mono hwr.size)) 2 _ rfl, by
          have := hkc0 u (hwr.trans (hu.mono hwr.size)) 2 _ rfl
          rwa [show off + 0 * 7 + 2 = off + 2 by omega] at this⟩
        obtain ⟨la, hla⟩ : ∃ la, la = (l.getD k ev0).at_.length := ⟨_, rfl⟩
        obtain ⟨l0, hl0⟩ : ∃ l0, l0 = (l.getD 0 ev0).at_.length := ⟨_, rfl⟩
        obtain ⟨lw, hlw⟩ : ∃ lw, lw = (l.getD k ev0).c.when_.length := ⟨_, rfl⟩
        obtain ⟨tt, htt⟩ : ∃ tt, tt = two (l.getD k ev0).c.when_ (l.getD k ev0).at_ := ⟨_, rfl⟩
        rw [← htt, ← hlw, ← hla] at K1
        rw [← hlw, ← hla] at HELD
        rw [← hla, ← hl0] at HELD2
        have hcut : cutB l k = if tt ≠ 0 then tt.toNat else if la ≠ l0 then 3 else 0 := by unfold cutB; rw [← htt, ← hla, ← hl0]
        have htp : 0 ≤ tt := by
          rw [htt]
          have := two_toNat (l.getD k ev0).c.when_ (l.getD k ev0).at_
          unfold two
          rcases chk_cases (l.getD k ev0).c.when_ with h | h | h <;> rcases chk_cases (l.getD k ev0).at_ with h' | h' | h' <;> rw [h, h'] <;> (repeat' split) <;> omega
        have HCUT := ShutJ.mk hcut
        have hd0 : Below wr.heap.size wr wr := Below.refl _ _
        have hd1 : Below wr.heap.size wr wr.drew := hd0.drew
        clear hke hkc hkc0 KT hla hl0 hlw htt hcut
        by_cases ht0 : tt = 0
        · have HT0 := ShutJ.mk ht0
          subst ht0
          by_cases hle : la = l0
          · have bn : ((la : Int) != (l0 : Int)) = false := by rw [hle]; simp
            have HLE := ShutJ.mk hle
            clear hle htp
            go_upto_region 4 with (fail)
            go_region_held (fun u => u.cell? ⟨b, off + k * 7 + 4, none⟩ = some (.slice wa lw wc) ∧ u.cell? ⟨b, off + k * 7 + 2, none⟩ = some (.slice aa la ac)) ((refine HELD.out _ ?_; with_reducible assumption)) (first | (go_at_call 12; refine (K1.out _ ?hb4).out.mono ?_; (case hb4 => with_reducible assumption); rintro e w' ⟨rfl, hw'⟩; have hbw : Below wr.heap.size wr w' := (by rw [hw']; first | exact hd1 | exact hd0); clear hw'))
            have hbw1 : Below wr.heap.size wr w'.drew := hbw.drew
            go_upto_region 5 with (fail)
            go_region_held (fun u => u.cell? ⟨b, off + k * 7 + 2, none⟩ = some (.slice aa la ac) ∧ u.cell? ⟨b, off + 2, none⟩ = some (.slice aa0 l0 ac0)) ((refine HELD2.out _ ?_; with_reducible assumption)) (fail)
            have HBW := hid hbw1
            clear hbw hbw1 hd0 hd1 HELD HELD2 K1
            go_wp2
            go_roundw
            case rel =>
              refine ⟨k + 1, by omega, by go_num, hid fun j hj => ?_, hid (HB.out.trans (HBW.out.mono (by have := HB.out.size; omega)))⟩
              rcases Nat.lt_succ_iff_lt_or_eq.1 hj with h | rfl
              · exact HZ.out j h
              · rw [HCUT.out, if_neg (fun h => h rfl), if_neg (fun h => h HLE.out)]
            case measure => simp [intOf]; omega
          · have bn : ((la : Int) != (l0 : Int)) = true := by simp; omega
            have HLE := ShutJ.mk hle
            clear hle htp
            go_upto_region 4 with (fail)
            go_region_held (fun u => u.cell? ⟨b, off + k * 7 + 4, none⟩ = some (.slice wa lw wc) ∧ u.cell? ⟨b, off + k * 7 + 2, none⟩ = some (.slice aa la ac)) ((refine HELD.out _ ?_; with_reducible assumption)) (first | (go_at_call 12; refine (K1.out _ ?hb4).out.mono ?_; (case hb4 => with_reducible assumption); rintro e w' ⟨rfl, hw'⟩; have hbw : Below wr.heap.size wr w' := (by rw [hw']; first | exact hd1 | exact hd0); clear hw'))
            have hbw1 : Below wr.heap.size wr w'.drew := hbw.drew
            go_upto_region 5 with (fail)
            go_region_held (fun u => u.cell? ⟨b, off + k * 7 + 2, none⟩ = some (.slice aa la ac) ∧ u.cell? ⟨b, off + 2, none⟩ = some (.slice aa0 l0 ac0)) ((refine HELD2.out _ ?_; with_reducible assumption)) (fail)
            have HBW : Hid (Below (w.heap.size + 1) w1 w'.drew) := hid (HB.out.trans (hbw1.mono (by have := HB.out.size; omega)))
            have X := hid (HX.out _ HBW.out)
            clear hbw hbw1 hd0 hd1 HELD HELD2 K1
            go_wp2_with (refine wpList_store_k _ rfl (.tmp 3) (.tmp 55) 32 rfl w.heap.size 0 [.int .i64 3, .int .i64 k] rfl rfl 2 rfl Tryz.sizeOf32 rfl _ ?hW X.out.1 X.out.2.1 ?_; case hW => rfl)
            have hc3 : cutB l k = 3 := by rw [HCUT.out, if_neg (fun h => h rfl), if_pos HLE.out]
            obtain ⟨e1, e2⟩ := cutsE_at (by have := HN.out; omega) HZ.out (by rw [hc3]; decide)
            rw [hc3] at e1
            refine bodyPost_ret (ret_cuts _ _ w.heap.size _ _ _ rfl rfl (X.out.2.2 _ _)) rfl ⟨_, ?_, by rw [e2]; exact tss_nil _, below_setCells (Nat.le_refl _) _ _ (HB1.out.trans (HBW.out.mono (by omega)))⟩
            rw [e1]
            rfl
        · have eb : (tt == 0) = false := beq_eq_false_iff_ne.2 ht0
          have htpos : 0 < tt := by omega
          have HT0 := ShutJ.mk ht0
          clear ht0 htp
          go_upto_region 4 with (fail)
          go_region_held (fun u => u.cell? ⟨b, off + k * 7 + 4, none⟩ = some (.slice wa lw wc) ∧ u.cell? ⟨b, off + k * 7 + 2, none⟩ = some (.slice aa la ac)) ((refine HELD.out _ ?_; with_reducible assumption)) (first | (go_at_call 12; refine (K1.out _ ?hb4).out.mono ?_; (case hb4 => with_reducible assumption); rintro e w' ⟨rfl, hw'⟩; have hbw : Below wr.heap.size wr w' := (by rw [hw']; first | exact hd1 | exact hd0); clear hw'))
          have hbw1 : Below wr.heap.size wr w'.drew := hbw.drew
          go_upto_region 5 with (fail)
          go_region
          have HBW : Hid (Below (w.heap.size + 1) w1 w'.drew) := hid (HB.out.trans (hbw1.mono (by have := HB.out.size; omega)))
          have X := hid (HX.out _ HBW.out)
          clear hbw hbw1 hd0 hd1 HELD HELD2 K1
          go_wp2_with (refine wpList_store_k _ rfl (.tmp 3) (.tmp 55) 32 rfl w.heap.size 0 [.int .i64 tt, .int .i64 k] rfl rfl 2 rfl Tryz.sizeOf32 rfl _ ?hW X.out.1 X.out.2.1 ?_; case hW => rfl)
          have hc3 : cutB l k = tt.toNat := by rw [HCUT.out, if_pos HT0.out]
          obtain ⟨e1, e2⟩ := cutsE_at (by have := HN.out; omega) HZ.out (by rw [hc3]; omega)
          rw [hc3] at e1
          refine bodyPost_ret (ret_cuts _ _ w.heap.size _ _ _ rfl rfl (X.out.2.2 _ _)) rfl ⟨_, ?_, by rw [e2]; exact tss_nil _, below_setCells (Nat.le_refl _) _ _ (HB1.out.trans (HBW.out.mono (by omega)))⟩
          rw [e1]
          show Ending.returned (Value.tuple #[_, Value.agg #[.int .i64 tt, .int .i64 k]]) = Ending.returned (Value.tuple #[_, Value.agg #[.int .i64 ((tt.toNat : Nat) : Int), .int .i64 k]])
          rw [show ((tt.toNat : Nat) : Int) = tt by omega]
          rfl
      · obtain rfl : k = n := by omega
        have hcz : (cutE l).1 = 0 := by
          unfold cutE
          rw [scan_none (fun j hj => HZ.out j (by have := HN.out; omega))]
        have K13' := K13 (cutOk_of hcz)
        have HCZ := ShutJ.mk hcz
        obtain ⟨cs, hms, hcs⟩ := KM wr k hl
        have hb2 : Below (w.heap.size + 1) w1 (wr.alloc (.cells cs 3)) := HB.out.alloc (by have := HB.out.size; omega) _
        have hsz : w.heap.size + 1 ≤ wr.heap.size := by have := HB.out.size; omega
        have hr0 : RowI (wr.alloc (.cells cs 3)) wr.heap.size k (fun t => if t < 0 then -1 else 0) := ⟨cs, heap_new _ _, fun t ht => by rw [hcs t ht]; simp⟩
        have HB2 := hid hb2
        have HR0 := hid hr0
        clear K12 K13 KM hcz hcs hb2 hr0 HZ
        obtain ⟨rb, hrb⟩ : ∃ rb, rb = wr.heap.size := ⟨_, rfl⟩
        obtain ⟨ws, hws⟩ : ∃ ws : World, ws = wr := ⟨wr, rfl⟩
        subst hws
        have HRB := ShutJ.mk hrb
        go_wp2
        obtain ⟨wm, hwm⟩ : ∃ wm, wm = ws.alloc (.cells cs 3) := ⟨_, rfl⟩
        rw [← hwm] at HB2 HR0 ⊢
        have hsm : ws.heap.size < wm.heap.size := by rw [hwm]; simp
        rw [← hrb] at HR0 hsm hsz ⊢
        clear hwm hms hrb
        go_loopw [7] (fun x wr => ∃ j : Nat, j ≤ k ∧ x = .int .i64 j ∧ Hid (RowI wr rb k (fun t => if t < j then -1 else 0)) ∧ Hid (Below (w.heap.size + 1) w1 wr) ∧ rb < wr.heap.size) (fun x _ => k - (intOf x).toNat)
        case atStart => exact ⟨0, Nat.zero_le _, rfl, HR0, HB2, hsm⟩
        case round =>
          obtain ⟨j, hj, rfl, HRj, HBj, hrj⟩ := hrel
          by_cases hlt : j < k
          · have hj1 : (j : Int) < (k : Int) := by omega
            have cj := HRj.out.cell hlt
            have fj := HRj.out.free j
            have hset := HRj.out.set (b := j) (-1)
            have e : (fun t => if t = j then (-1 : Int) else if t < j then -1 else 0) = fun t => if t < j + 1 then -1 else 0 := by
              funext t
              by_cases h : t = j
              · rw [if_pos h, if_pos (by omega)]
              · rw [if_neg h]
                by_cases h2 : t < j
                · rw [if_pos h2, if_pos (by omega)]
                · rw [if_neg h2, if_neg (by omega)]
            rw [e] at hset
            have HS := hid hset
            obtain ⟨xj, hxj⟩ : ∃ xj : Int, xj = (if j < j then -1 else 0) := ⟨_, rfl⟩
            rw [← hxj] at cj
            clear hset e hxj
            go_wp2
            go_roundw
            case rel => exact ⟨j + 1, by omega, by go_num, HS, hid (HBj.out.setCell (by show w.heap.size + 1 ≤ rb; exact hsz) _), by simp; omega⟩
            case measure => simp [intOf]; omega
          · obtain rfl : j = k := by omega
            obtain ⟨NN, hNN⟩ : ∃ NN : World, NN = wr := ⟨wr, rfl⟩
            obtain ⟨CC, hCC⟩ : ∃ CC, CC = cutR l := ⟨_, rfl⟩
            have HCR := ShutJ.mk hCC
            unfold cutR at hCC
            rw [← HN.out] at hCC
            have hinit : RcI j (relB l) CC w w1 rb 0 j (.slice none 0 0) wr (fun _ => -1) [] [] (j + 1) := by
              refine ⟨by rw [inP_none]; exact hCC.symm, by omega, ?_, World.ownsRow_nil _ _ _ _, trivial, ?_, fun _ _ => by omega, fun _ _ => by omega, HBj.out, by simp, by omega⟩
              · rw [inP_none]
                unfold leftL'
                rw [List.filter_eq_self.2 (by simp)]
                simp
              · obtain ⟨cs', h1, h2⟩ := HRj.out
                exact ⟨cs', h1, fun t ht => (h2 t ht).trans (by simp only [if_pos ht])⟩
            have HI0 := hid hinit
            have HHN : Hid (0 < j) := hid (by omega)
            clear hinit hCC HRj HBj HB2 HR0 hlt hj hsm hNN
            go_wp2
            go_loopw [8, 9, 10] (fun x y z wr => ∃ (left N : Nat) (xv : Value) (f : Nat → Int) (tss : List (List Nat)) (vs : List Value) (g : Nat), z = .int .i64 N ∧ y = .int .i64 left ∧ x = xv ∧ left ≤ j ∧ Hid (RcI j (relB l) CC w w1 rb N left xv wr f tss vs g)) (fun _ y _ _ => (intOf y).toNat)
            case atStart => exact ⟨j, 0, _, _, _, _, _, rfl, rfl, rfl, Nat.le_refl _, HI0⟩
            case round =>
              clear HI0
              obtain ⟨left, N, xv, f, tss, vs, g, rfl, rfl, hxx, hle, HI⟩ := hrel
              obtain rfl := hxx.symm
              have hrw := HI.out.rnd.lt
              have hsw := HI.out.below.size
              by_cases hlt : 0 < left
              · have hi1 : (0 : Int) < (left : Int) := by omega
                obtain ⟨wo, hwo⟩ : ∃ wo : World, wo = wr := ⟨wr, rfl⟩
                subst hwo
                obtain ⟨P, hP⟩ : ∃ P, P = inP f := ⟨_, rfl⟩
                have HP := ShutJ.mk hP
                obtain ⟨xa, xc, rfl⟩ := row_shape HI.out.row
                clear hP
                go_wp2
                go_loopw [11, 12] (fun x y wr => ∃ (i : Nat) (nv : Value), i ≤ j ∧ y = .int .i64 i ∧ x = nv ∧ Hid (wr.ownsRow wo.heap.size 3 1 nv (nowK j (relB l) P i).length ((nowK j (relB l) P i).map natV)) ∧ Hid (Below wo.heap.size wo wr)) (fun _ y _ => j - (intOf y).toNat)
                case atStart => exact ⟨0, _, Nat.zero_le _, rfl, rfl, World.ownsRow_nil _ _ _ _, Below.refl _ _⟩
                case round =>
                  obtain ⟨i, nv, hi, rfl, hxx, HRn, HBn⟩ := hrel
                  obtain rfl := hxx.symm
                  have hos := HBn.out.size
                  by_cases hlti : i < j
                  · have hii : (i : Int) < (j : Int) := by omega
                    have hRI : RowI wr rb j f := HI.out.rnd.stay (HBn.out.block _ hrw)
                    have ci := hRI.cell hlti
                    have hsucc := nowK_succ j (relB l) P i
                    have HS := ShutJ.mk hsucc
                    have hPi : P i = decide (0 ≤ f i) := by rw [HP.out]; rfl
                    have HPI := ShutJ.mk hPi
                    have HRI := hid hRI
                    obtain ⟨na, nc, rfl⟩ := row_shape HRn.out
                    obtain ⟨m, hm⟩ : ∃ m, m = (nowK j (relB l) P i).length := ⟨_, rfl⟩
                    obtain ⟨ys, hys⟩ : ∃ ys, ys = (nowK j (relB l) P i).map natV := ⟨_, rfl⟩
                    have hmj := nowK_len j (relB l) P i
                    rw [← hm] at HRn hmj ⊢
                    rw [← hys] at HRn
                    have HM := ShutJ.mk hm
                    have HYS := ShutJ.mk hys
                    obtain ⟨x, hx⟩ : ∃ x, x = f i := ⟨_, rfl⟩
                    rw [← hx] at ci
                    have HXI := ShutJ.mk hx
                    clear hsucc hPi hRI hm hys hx
                    by_cases hfi : 0 ≤ x
                    · have hdx : decide (x ≥ 0) = true := decide_eq_true hfi
                      have HF := ShutJ.mk (show P i = true by rw [HPI.out, ← HXI.out, decide_eq_true hfi])
                      go_wp2
                      refine ⟨⟨i + 1, _, by omega, by go_num, rfl, hid ?_, HBn⟩, by simp [intOf]; omega⟩
                      rw [HS.out, HF.out]
                      simp only [Bool.not_true, Bool.false_and, Bool.false_eq_true, if_false, List.append_nil]
                      rw [← HM.out, ← HYS.out]
                      exact HRn.out
                    · have HF := ShutJ.mk (show P i = false by rw [HPI.out, ← HXI.out, decide_eq_false hfi])
                      obtain ⟨b2, off2, aa, ac, _, _, _, _, _, _, _, hab, hei, hci⟩ := HCE.out i hlti
                      injection hab with hab
                      injection hab with hab1 hab2'
                      subst hab1 hab2'
                      obtain ⟨la, hla⟩ : ∃ la, la = (l.getD i ev0).at_.length := ⟨_, rfl⟩
                      have hwq : Below w.heap.size w wr := (HB1.out.trans (HI.out.below.mono (by omega))).trans (HBn.out.mono (by omega))
                      have HWQ := hid hwq
                      have HCI : Hid (∀ u, Below wr.heap.size wr u → u.cell? ⟨b, off + i * 7 + 2, none⟩ = some (.slice aa la ac)) := hid fun u hu => by rw [hla]; exact hci u (HWQ.out.trans (hu.mono HWQ.out.size)) 2 _ rfl
                      have HEI := hid hei.at_
                      rw [← hla] at HEI
                      obtain ⟨wq, hwq'⟩ : ∃ wq : World, wq = wr := ⟨wr, rfl⟩
                      subst hwq'
                      clear hei hci hla hwq
                      go_wp2
                      go_loopw [13, 14] (fun x y wr => ∃ (k : Nat) (fr : Bool), k ≤ j ∧ y = .int .i64 k ∧ x = .bool fr ∧ Hid (fr = freeJ (relB l) P i k) ∧ Hid (Below wq.heap.size wq wr)) (fun _ y _ => j - (intOf y).toNat)
                      case atStart => exact ⟨0, true, Nat.zero_le _, rfl, rfl, rfl, Below.refl _ _⟩
                      case round =>
                        obtain ⟨k, fr, hk, rfl, rfl, HFR, HBk⟩ := hrel
                        by_cases hltk : k < j
                        · have hkk : (k : Int) < (j : Int) := by omega
                          obtain ⟨b2, off2, _, _, _, _, _, wa, wc, oa, oc, hab, hek, hck⟩ := HCE.out k hltk
                          injection hab with hab
                          injection hab with hab1 hab2'
                          subst hab1 hab2'
                          have hwk : Below w.heap.size w wr := HWQ.out.trans (HBk.out.mono HWQ.out.size)
                          have hRk : RowI wr rb j f := HRI.out.stay (HBk.out.block _ (by omega))
                          have ck := hRk.cell hltk
                          have hfk := HI.out.hi k hltk
                          have hPk : P k = decide (0 ≤ f k) := by rw [HP.out]; rfl
                          obtain ⟨y, hy⟩ : ∃ y, y = f k := ⟨_, rfl⟩
                          rw [← hy] at ck hfk hPk
                          obtain ⟨lw, hlw⟩ : ∃ lw, lw = (l.getD k ev0).c.when_.length := ⟨_, rfl⟩
                          obtain ⟨lo, hlo⟩ : ∃ lo, lo = (l.getD k ev0).c.ops.length := ⟨_, rfl⟩
                          obtain ⟨fb, hfb⟩ : ∃ fb, fb = inB (l.getD k ev0).c.when_ (l.getD i ev0).at_ := ⟨_, rfl⟩
                          have hR : relB l k i = (decide (lo ≠ 0) && fb) := by
                            unfold relB
                            rw [← hfb, hlo]
                            congr 1
                            rw [decide_eq_decide]
                            constructor
                            · intro h h2; exact h (List.eq_nil_of_length_eq_zero h2)
                            · intro h h2; exact h (by rw [h2]; rfl)
                          have HR := ShutJ.mk hR
                          have HPK := ShutJ.mk hPk
                          have KJ2 : Hid (∀ u, Below wr.heap.size wr u → Hid (Calls Tryz.prog 13 #[.slice wa lw wc, .slice aa la ac] u fun r w' => r = .returned (.bool fb) ∧ ∃ q, w' = u.drewN q)) := hid fun u hu => by
                            rw [hfb, hlw]
                            exact K13' u (hwk.trans (hu.mono hwk.size)) _ _ (HMEM.out k hltk) (HMEM.out i hlti) _ _ hek.when_ HEI.out
                          have HELD : Hid (∀ u, Below wr.heap.size wr u → u.cell? ⟨b, off + k * 7 + 4, none⟩ = some (.slice wa lw wc) ∧ u.cell? ⟨b, off + i * 7 + 2, none⟩ = some (.slice aa la ac)) := hid fun u hu => ⟨by rw [hlw]; exact hck u (hwk.trans (hu.mono hwk.size)) 4 _ rfl, HCI.out u (HBk.out.trans (hu.mono HBk.out.size))⟩
                          have HC6 : Hid (∀ u, Below wr.heap.size wr u → u.cell? ⟨b, off + k * 7 + 6, none⟩ = some (.slice oa lo oc) ∧ u.cell? ⟨rb, k, none⟩ = some (.int .i64 y)) := hid fun u hu => ⟨by rw [hlo]; exact hck u (hwk.trans (hu.mono hwk.size)) 6 _ rfl, by rw [hu.cell (p := ⟨rb, k, none⟩) (by have := HBk.out.size; show rb < _; omega)]; exact ck⟩
                          have hd0 : Below wr.heap.size wr wr := Below.refl _ _
                          have hd1 : Below wr.heap.size wr wr.drew := hd0.drew
                          have HFK : Hid (y < N) := hid hfk
                          clear hek hck hwk hRk ck hfk hPk hy hlw hlo hfb hR
                          go_upto_region 28 with (fail)
                          go_region_held (fun u => u.cell? ⟨b, off + k * 7 + 4, none⟩ = some (.slice wa lw wc) ∧ u.cell? ⟨b, off + i * 7 + 2, none⟩ = some (.slice aa la ac)) ((refine HELD.out _ ?_; with_reducible assumption)) (first | (go_at_call 13; refine (KJ2.out _ ?hb4).out.mono ?_; (case hb4 => with_reducible assumption); rintro e w' ⟨rfl, nq, hw'⟩; have hbw : Below wr.heap.size wr w' := (by rw [hw']; exact below_draws hd1 nq); clear hw'))
                          obtain ⟨d6, d7⟩ := HC6.out w' hbw
                          have HB' : Hid (Below wq.heap.size wq w') := hid (HBk.out.trans (hbw.mono HBk.out.size))
                          clear hd0 hd1 HELD KJ2 hbw HC6
                          have HSAME : Hid ((!relB l k i || P k) = true → fr = freeJ (relB l) P i (k + 1)) := hid fun h => by
                            rw [freeJ_succ, h, Bool.and_true]
                            exact HFR.out
                          by_cases h0 : lo = 0
                          · subst h0
                            have SK := hid (HSAME.out (by rw [HR.out]; rfl))
                            clear HSAME
                            go_wp2
                            refine ⟨⟨k + 1, _, by omega, by go_num, rfl, SK, HB'⟩, by simp [intOf]; omega⟩
                          · have hz0' : (0 : Int) < (lo : Int) := by omega
                            have HL0 := ShutJ.mk h0
                            clear h0
                            cases fb with
                            | false =>
                              have SK := hid (HSAME.out (by rw [HR.out]; simp))
                              clear HSAME
                              go_wp2
                              refine ⟨⟨k + 1, _, by omega, by go_num, rfl, SK, HB'⟩, by simp [intOf]; omega⟩
                            | true =>
                              by_cases hy0 : y < 0
                              · clear HSAME
                                have HE : Hid (freeJ (relB l) P i (k + 1) = false) := hid (by
                                  rw [freeJ_succ, HR.out, HPK.out, decide_eq_true HL0.out, decide_eq_false (by omega)]
                                  simp)
                                go_wp2
                                refine ⟨⟨k + 1, _, by omega, by go_num, rfl, hid HE.out.symm, HB'⟩, by simp [intOf]; omega⟩
                              · have SK := hid (HSAME.out (by rw [HPK.out, decide_eq_true (by omega : (0 : Int) ≤ y)]; simp))
                                have hyN : ¬ (N : Int) ≤ y := by have := HFK.out; omega
                                clear HSAME
                                go_wp2
                                refine ⟨⟨k + 1, _, by omega, by go_num, rfl, SK, HB'⟩, by simp [intOf]; omega⟩
                        · obtain rfl : k = j := by omega
                          have hb5 : Below wo.heap.size wo wr := HBn.out.trans (HBk.out.mono hos)
                          have HB5 := hid hb5
                          have hrow : wr.ownsRow wo.heap.size 3 1 (.slice na m nc) m ys := own_keep HRn.out fun q hq => HBk.out.block q (HRn.out.lt q hq).2
                          have hos5 := hb5.size
                          have HROW := hid hrow
                          clear hb5
                          cases fr with
                          | true =>
                            have HC : Hid ((!P i && (List.range k).all fun a => !relB l a i || P a) = true) := hid (by
                              have h := HFR.out
                              unfold freeJ at h
                              rw [← h, HF.out]
                              rfl)
                            go_wp2_with (at_builtin; refine wpList_append_own_src rfl _ _ 38 rfl wo.heap.size 3 i3 _ 1 8 Tryz.underlying38 hi3 hy0 hy1 hy2 rfl (by decide) _ _ _ rfl (hrow.alloc _) _ 1 [.int .i64 i] rfl ?hs1 (by simp [Value.oneCell']) ?hm2 ?hm3 ?hm4 ?_; (case hs1 => exact .inr ⟨_, _, rfl, rfl, cells11_new _ _ _ _ rfl⟩); (case hm2 => unfold maxLen; omega); (case hm3 => omega); (case hm4 => simp; omega); intro v' w5 hown' hgrow2; have O5 := hid hown'; have G5 := hid hgrow2; clear hown' hgrow2)
                            refine ⟨⟨i + 1, v', by omega, by go_num, rfl, hid ?_, hid ?_⟩, by simp [intOf]; omega⟩
                            · rw [HS.out, if_pos HC.out, List.length_append, List.map_append, ← HM.out, ← HYS.out]
                              exact O5.out
                            · exact (HB5.out.alloc hos5 _).grown G5.out (by simp; omega) (fun q hq => (HROW.out.lt q hq).1)
                          | false =>
                            have HC : Hid ¬ ((!P i && (List.range k).all fun a => !relB l a i || P a) = true) := hid (by
                              have h := HFR.out
                              unfold freeJ at h
                              rw [← h, Bool.and_false]
                              decide)
                            go_wp2
                            refine ⟨⟨i + 1, _, by omega, by go_num, rfl, hid ?_, HB5⟩, by simp [intOf]; omega⟩
                            rw [HS.out, if_neg HC.out, List.append_nil, ← HM.out, ← HYS.out]
                            exact HROW.out
                  · obtain rfl : i = j := by omega
                    have hall := HRn.out
                    rw [nowK_all] at hall
                    have hls := left_laid i (relB l) P
                    have hleft := HI.out.left_
                    rw [← HP.out] at hleft
                    rw [← hleft] at hls
                    have hlen := HI.out.len
                    have hnum := HI.out.num
                    obtain ⟨na, nc, rfl⟩ := row_shape hall
                    obtain ⟨ts, hts⟩ : ∃ ts, ts = nowL i (relB l) P := ⟨_, rfl⟩
                    rw [← hts] at hall hls ⊢
                    have HTS := ShutJ.mk hts
                    clear hts HRn hleft
                    by_cases hnow : ts = []
                    · have hC : CC = ([], false) := by
                        have e := HTS.out
                        rw [hnow, HP.out] at e
                        rw [← HI.out.cuts]
                        obtain ⟨g', rfl⟩ : ∃ g', g = g' + 1 := ⟨g - 1, by have := HI.out.fuel; omega⟩
                        rw [cutsL, if_neg (by rw [← HI.out.left_]; omega), if_pos e.symm]
                      have hcr : (cutR l).2 = false := by rw [← HCR.out, hC]
                      have e : cutsE l = (10, none) := by unfold cutsE; rw [if_neg (fun x => x HCZ.out), if_neg (by rw [hcr]; decide)]
                      have e2 : cutsT l = [] := by unfold cutsT; rw [e, if_neg (by decide)]
                      have HE := ShutJ.mk e
                      have HE2 := ShutJ.mk e2
                      have hm0 : ts.length = 0 := by rw [hnow]; rfl
                      rw [hm0]
                      have hbw : Below (w.heap.size + 1) w1 wr := HI.out.below.trans (HBn.out.mono (by omega))
                      have HBW := hid hbw
                      have hsw2 : w.heap.size + 1 ≤ wr.heap.size := by have := hbw.size; omega
                      clear hnow hall hls hC hcr e e2 hm0 hbw
                      go_wp2_with fail
                      refine (bare_any _ 10).mono ?_
                      rintro r w2 ⟨rfl, hb⟩
                      have HB2 : Hid (Below (w.heap.size + 1) w1 w2) := hid (HBW.out.trans (hb.mono hsw2))
                      have X := hid (HX.out w2 HB2.out)
                      clear hb
                      go_wp2_with (refine wpList_store_k _ rfl (.tmp 3) (.tmp 137) 32 rfl w.heap.size 0 [.int .i64 10, .int .i64 (-1)] rfl rfl 2 rfl Tryz.sizeOf32 rfl _ ?hW X.out.1 X.out.2.1 ?_; case hW => rfl)
                      refine bodyPost_ret (ret_cuts _ _ w.heap.size _ _ _ rfl rfl (X.out.2.2 _ _)) rfl ⟨_, ?_, by rw [HE2.out]; exact tss_nil _, below_setCells (Nat.le_refl _) _ _ (HB1.out.trans (HB2.out.mono (by omega)))⟩
                      rw [HE.out]
                      rfl
                    · have hm0 : 0 < ts.length := List.length_pos_iff.2 hnow
                      have hra := RoundAt.of (B := rb + 1) hall (by omega) hnow
                      have HRA := hid hra
                      obtain ⟨g2, c2, cs2, hrv, hg2, hg2h, hg2c⟩ := hra
                      have HRV := ShutJ.mk hrv
                      injection hrv with hra1 _ hrc1
                      subst hra1 hrc1
                      have HC2 := hid hg2c
                      have HG2 := hid hg2h
                      obtain ⟨m, hm⟩ : ∃ m, m = ts.length := ⟨_, rfl⟩
                      have hcb : ((m : Int) == 0) = false := beq_eq_false_iff_ne.2 (by omega)
                      rw [← hm] at hm0 hls ⊢
                      have HM := ShutJ.mk hm
                      have hml : m ≤ left := by omega
                      have HLS := ShutJ.mk hls
                      have hr4 : RowI wr rb i (putF f N (ts.take 0)) := by
                        rw [List.take_zero, putF_nil]
                        exact HI.out.rnd.stay (HBn.out.block _ hrw)
                      have HR4 := hid hr4
                      have hg2l := lt_of_heap hg2h
                      obtain ⟨w4, hw4⟩ : ∃ w4 : World, w4 = wr := ⟨wr, rfl⟩
                      subst hw4
                      clear hls hall hnow hm hr4 hg2h hg2c hos
                      go_wp2
                      go_loopw [16] (fun x wr => ∃ t : Nat, t ≤ m ∧ x = .int .i64 t ∧ Hid (RowI wr rb i (putF f N (ts.take t))) ∧ Hid (OnlyB rb w4 wr)) (fun x _ => m - (intOf x).toNat)
                      case atStart => exact ⟨0, Nat.zero_le _, rfl, HR4, hid (OnlyB.of (Below.refl _ _))⟩
                      case round =>
                        obtain ⟨t, ht, rfl, HRt, HOt⟩ := hrel
                        by_cases hltt : t < m
                        · have htt : (t : Int) < (m : Int) := by omega
                          have hit : t < ts.length := by have := HM.out; omega
                          have hmem : ts.getD t 0 < i := nowL_getD HTS.out hit
                          have cx : wr.cell? ⟨g2, t, none⟩ = some (.int .i64 (ts.getD t 0 : Nat)) := by
                            have h1 := (HOt.out.2.2.2.2 g2 hg2l (by omega)).trans HG2.out
                            simp only [World.cell?, h1]
                            rw [HC2.out t hit]
                            simp [natV]
                          have htk : ts.take (t + 1) = ts.take t ++ [ts.getD t 0] := by
                            rw [List.take_succ_eq_append_getElem hit, List.getD_eq_getElem?_getD, List.getElem?_eq_getElem hit]
                            rfl
                          obtain ⟨a, ha⟩ : ∃ a, a = ts.getD t 0 := ⟨_, rfl⟩
                          rw [← ha] at hmem cx htk
                          have hai : (a : Int) < (i : Int) := by omega
                          have hset := HRt.out.set (b := a) (N : Int)
                          have e : putF f N (ts.take (t + 1)) = fun t' => if t' = a then (N : Int) else putF f N (ts.take t) t' := by rw [htk, putF_snoc]
                          rw [← e] at hset
                          have ca := HRt.out.cell hmem
                          have fa := HRt.out.free a
                          obtain ⟨xo, hxo⟩ : ∃ xo, xo = putF f N (ts.take t) a := ⟨_, rfl⟩
                          rw [← hxo] at ca
                          have HS := hid hset
                          clear ha htk hset e hxo hit
                          go_wp2
                          refine ⟨⟨t + 1, by omega, by go_num, HS, hid (HOt.out.trans only_setCell)⟩, by simp [intOf]; omega⟩
                        · obtain rfl : t = m := by omega
                          have hO3 : OnlyB rb wo wr := (OnlyB.of HBn.out).trans HOt.out
                          have hb3 : Below (w.heap.size + 1) w1 wr := hO3.below (by omega) HI.out.below (by omega)
                          have hrow : wr.ownsRow (rb + 1) 38 1 (.slice xa vs.length xc) vs.length vs := own_keep HI.out.row fun q hq => by
                            have := HI.out.row.lt q hq
                            exact hO3.2.2.2.2 q this.2 (by omega)
                          have HRO := hid hrow
                          have HO3 := hid hO3
                          have HB3 := hid hb3
                          have hsz3 : w.heap.size + 1 ≤ wr.heap.size := by have := hb3.size; omega
                          have hvb : rb + 1 ≤ wr.heap.size := by
                            have := HRt.out.lt
                            omega
                          have hsub : (left : Int) - (t : Int) = ((left - t : Nat) : Int) := by omega
                          have hN1 : N ≤ 1000 := by omega
                          clear hO3 hb3
                          go_wp2_with (at_builtin; refine wpList_append_own_src rfl _ _ 46 rfl (rb + 1) 38 i38 _ 1 24 Tryz.underlying46 hi8 hz0 hz1 hz2 rfl (by decide) _ _ _ rfl (hrow.alloc _) _ 1 [.slice (some ⟨g2, 0, none⟩) t nc] rfl ?hs1 (by simp [Value.oneCell']) ?hm2 ?hm3 ?hm4 ?_; (case hs1 => exact .inr ⟨_, _, rfl, rfl, cells11_new _ _ _ _ rfl⟩); (case hm2 => unfold maxLen; omega); (case hm3 => omega); (case hm4 => simp; omega); intro v' w5 hown' hgrow2; have O5 := hid hown'; have G5 := hid hgrow2; clear hown' hgrow2)
                          have hgb : ∀ q, (Value.slice xa vs.length xc).ownBlock = some q → rb + 1 ≤ q := fun q hq => (HRO.out.lt q hq).1
                          have hB5 : Below (w.heap.size + 1) w1 w5 := (HB3.out.alloc hsz3 _).grown G5.out (by simp; omega) (fun q hq => by have := hgb q hq; omega)
                          have hty := fun q hq => own_type (HRO.out.alloc (.cells #[.slice (some ⟨g2, 0, none⟩) t nc] 38)) (b := q) hq
                          obtain ⟨g', hg'⟩ : ∃ g', g = g' + 1 := ⟨g - 1, by have := HI.out.fuel; omega⟩
                          have htake : ts.take t = ts := List.take_of_length_le (by have := HM.out; omega)
                          have hP' : inP (putF f N ts) = laidL i (relB l) P := by
                            rw [HTS.out, HP.out]
                            exact inP_put i (relB l) f N
                          refine ⟨⟨left - t, N + 1, v', putF f N ts, tss ++ [ts], vs ++ [.slice (some ⟨g2, 0, none⟩) t nc], g', by go_num, rfl, rfl, by omega, hid ⟨?_, ?_, ?_, ?_, ?_, ?_, ?_, ?_, hB5, ?_, ?_⟩⟩, by simp [intOf]; omega⟩
                          · have h := HI.out.cuts
                            rw [hg', ← HP.out] at h
                            rw [hP']
                            exact cutsL_step h (by have := HI.out.left_; rw [HP.out]; omega) HTS.out (fun e => by have := HM.out; rw [e] at this; simp at this; omega)
                          · have := HI.out.fuel
                            omega
                          · rw [hP']
                            have := HLS.out
                            omega
                          · rw [List.length_append]
                            exact O5.out
                          · have hO4 : OnlyB rb wo (wr.alloc (.cells #[.slice (some ⟨g2, 0, none⟩) t nc] 38)) := HO3.out.trans (OnlyB.of (below_alloc _ _))
                            have hO5 : OnlyB rb w4 (wr.alloc (.cells #[.slice (some ⟨g2, 0, none⟩) t nc] 38)) := HOt.out.trans (OnlyB.of (below_alloc _ _))
                            have hr := HRA.out
                            rw [← HM.out] at hr
                            exact f2_snoc (f2_mono (fun _ _ h => (RoundAt.only h hO4 (by omega)).grown G5.out (fun q hq => hty q hq)) HI.out.rounds) ((RoundAt.only hr hO5 (by omega)).grown G5.out (fun q hq => hty q hq))
                          · have h1 := HRt.out
                            rw [htake] at h1
                            refine h1.stay ((G5.out.block rb (by simp; omega) fun e => ?_).trans (Below.heap_alloc _ _ _ h1.lt))
                            have := hgb _ e.symm
                            omega
                          · intro t' ht'
                            unfold putF
                            split
                            · omega
                            · exact HI.out.lo t' ht'
                          · intro t' ht'
                            unfold putF
                            split
                            · omega
                            · have := HI.out.hi t' ht'
                              omega
                          · simp
                            omega
                          · omega
              · obtain rfl : left = 0 := by omega
                obtain ⟨xa, xc, rfl⟩ := row_shape HI.out.row
                go_wp2_with fail
                refine (fine_any _).mono ?_
                rintro r w2 ⟨rfl, hb⟩
                have hb2 : Below (w.heap.size + 1) w1 w2 := HI.out.below.trans (hb.mono (by omega))
                have HB2 := hid hb2
                have HO2 : Hid (OnlyB w.heap.size wr w2) := hid (OnlyB.of hb)
                have X := hid (HX.out w2 hb2)
                have hC : CC = (tss, true) := by
                  rw [← HI.out.cuts]
                  obtain ⟨g', rfl⟩ : ∃ g', g = g' + 1 := ⟨g - 1, by have := HI.out.fuel; omega⟩
                  rw [cutsL, if_pos HI.out.left_.symm]
                have hcr : cutR l = (tss, true) := by rw [← HCR.out, hC]
                have e : cutsE l = (0, none) := by unfold cutsE; rw [if_neg (fun x => x HCZ.out), if_pos (by rw [hcr])]
                have e2 : cutsT l = tss := by unfold cutsT; rw [e, if_pos rfl, hcr]
                have HE := ShutJ.mk e
                have HE2 := ShutJ.mk e2
                clear hb hb2 hC hcr e e2
                go_wp2_with (refine wpList_store_k _ rfl (.tmp 3) (.tmp 160) 32 rfl w.heap.size 0 [.int .i64 0, .int .i64 (-1)] rfl rfl 2 rfl Tryz.sizeOf32 rfl _ ?hW X.out.1 X.out.2.1 ?_; case hW => rfl)
                refine bodyPost_ret (ret_cuts _ _ w.heap.size _ _ _ rfl rfl (X.out.2.2 _ _)) rfl ⟨.slice xa vs.length xc, ?_, ?_, below_setCells (Nat.le_refl _) _ _ (HB1.out.trans (HB2.out.mono (by omega)))⟩
                · rw [HE.out]
                  rfl
                · rw [HE2.out]
                  have hO : OnlyB w.heap.size wr (w2.setCells w.heap.size 0 [.int .i64 0, .int .i64 (-1)]) := HO2.out.trans (only_setCells _ _ _)
                  exact TssAt.of (own_keep HI.out.row fun q hq => by
                    have := HI.out.row.lt q hq
                    exact hO.2.2.2.2 q this.2 (by omega)) (f2_mono (fun _ _ h => RoundAt.only h hO (by omega)) HI.out.rounds)
end Go.Proofs.YtngjooemanapnaaGreatDoor
