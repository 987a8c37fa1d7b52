/- The reference's EventsFault. -/
import Derived.Test.YtngjooemanapnaaGreatDoorJJR1
import Derived.Deep.DeepCutAuto
import Derived.Deep.CutBlock
namespace Go.Proofs.YtngjooemanapnaaGreatDoor
open Go.RowKit Go.Sort Go.Maps
set_option maxRecDepth 100000
set_option linter.unusedSectionVars false
variable [Inhabited ComV] [DecidableEq D3] [Inhabited D3] [Inhabited Dd] [Inhabited Dn] [Inhabited OpV]

def EfRet (er : Nat × Option Nat) (w : World) (r : Ending) (w' : World) : Prop := r = .returned (.agg #[.int .i64 ((er.1 : Nat) : Int), .int .i64 (faultAt er.2)]) ∧ Below w.heap.size w w'
theorem whole_ofP (n : Int) (e : EvV) : wholeB n e = if ofPB n e = false then 3 else if e.c.ops = [] then 0 else (comErr e.c).1 := rfl
theorem chk_pos (zs : List Int) : chk zs = 0 ∨ 0 < chk zs := by
  rcases chk_cases zs with h | h | h <;> rw [h] <;> simp
theorem er_whole {n0 : Int} {l : List EvV} {er : Nat × Option Nat} (h : er = if (wholeE n0 l).1 ≠ 0 then wholeE n0 l else scan (besideB l) l.length) {k : Nat} (hk : k < l.length) (hz : ∀ j, j < k → wholeB n0 (l.getD j ev0) = 0) (hw : wholeB n0 (l.getD k ev0) ≠ 0) : er = (wholeB n0 (l.getD k ev0), some k) := by
  have e : wholeE n0 l = (wholeB n0 (l.getD k ev0), some k) := scan_some hk hz hw
  rw [h, e, if_pos hw]
set_option maxHeartbeats 8000000 in
theorem eventsFault_any (w : World) (l : List EvV) (v : Value) (hv : EvsAt w v l) (hl : l.length ≤ 1000) (hf : ∀ e ∈ l, EvFit e) (n0 : Int) : Calls Tryz.prog 9 #[.int .i64 n0, v] w (EfRet (checkE n0 l) w) := by
  have hg0 : ∀ o : Obj, (w.alloc o).heap[w.heap.size]? = some o := fun o => heap_new w o
  unfold checkE
  by_cases h1 : n0 < 1 ∨ 6 < n0
  · rw [if_pos h1]
    obtain ⟨va, vc, rfl, _⟩ := hv.shape
    obtain ⟨n, hn⟩ : ∃ n, n = l.length := ⟨_, rfl⟩
    rw [← hn]
    have HG := hid (hg0 (.cells #[.int .i64 0, .int .i64 0] 32))
    clear hv hf hl hn hg0
    rcases h1 with h1 | h1
    · go_enter Tryz.func9, Tryz.ntmps9
      go_wp2_with fail
      refine (bare_any _ 2).mono ?_
      rintro r w2 ⟨rfl, hb⟩
      have X := hid (box2 HG.out (hb.mono (by simp)))
      have B2 : Hid (Below w.heap.size w w2) := hid ((below_alloc _ _).trans (hb.mono (by simp)))
      clear hb
      go_wp2_with (refine wpList_store_k _ rfl (.tmp 4) (.tmp 16) 32 rfl w.heap.size 0 [.int .i64 2, .int .i64 (-1)] rfl rfl 2 rfl Tryz.sizeOf32 rfl _ ?hW X.out.1 X.out.2.1 ?_; case hW => rfl)
      refine bodyPost_ret (ret_flt Tryz.results9 _ _ w.heap.size _ _ rfl (X.out.2.2 _ _)) rfl ⟨rfl, below_setCells (Nat.le_refl _) _ _ B2.out⟩
    · have h2 : ¬ n0 < 1 := by omega
      go_enter Tryz.func9, Tryz.ntmps9
      go_wp2_with fail
      refine (bare_any _ 2).mono ?_
      rintro r w2 ⟨rfl, hb⟩
      have X := hid (box2 HG.out (hb.mono (by simp)))
      have B2 : Hid (Below w.heap.size w w2) := hid ((below_alloc _ _).trans (hb.mono (by simp)))
      clear hb
      go_wp2_with (refine wpList_store_k _ rfl (.tmp 4) (.tmp 16) 32 rfl w.heap.size 0 [.int .i64 2, .int .i64 (-1)] rfl rfl 2 rfl Tryz.sizeOf32 rfl _ ?hW X.out.1 X.out.2.1 ?_; case hW => rfl)
      refine bodyPost_ret (ret_flt Tryz.results9 _ _ w.heap.size _ _ rfl (X.out.2.2 _ _)) rfl ⟨rfl, below_setCells (Nat.le_refl _) _ _ B2.out⟩
  · rw [if_neg h1]
    obtain ⟨er, her⟩ : ∃ er, er = (if (wholeE n0 l).1 ≠ 0 then wholeE n0 l else scan (besideB l) l.length) := ⟨_, rfl⟩
    rw [← her]
    have HER := ShutJ.mk her
    have hn1 : ¬ n0 < 1 := by omega
    have hn6 : ¬ 6 < n0 := by omega
    obtain ⟨w1, hw1⟩ : ∃ w1, w1 = w.alloc (.cells #[.int .i64 0, .int .i64 0] 32) := ⟨_, rfl⟩
    have hg1 : w1.heap[w.heap.size]? = some (.cells #[.int .i64 0, .int .i64 0] 32 (0, 0)) := by rw [hw1]; exact heap_new _ _
    have hb1 : Below w.heap.size w w1 := by rw [hw1]; exact below_alloc _ _
    have hs1 : w1.heap.size = w.heap.size + 1 := by rw [hw1]; simp
    have KE := fun (hW : (wholeE n0 l).1 = 0) u (hu : Below w.heap.size w u) k hk => hid (eventErr_any w u hu l v hv hl hf n0 (wholeL_of hW) k hk)
    have hsh := hv.shape
    obtain ⟨ad, cap, rfl, _, hcap, hv'⟩ := hsh
    obtain ⟨n, hn⟩ : ∃ n, n = l.length := ⟨_, rfl⟩
    rw [← hn] at hl hv' hcap KE ⊢
    have HN := ShutJ.mk hn
    have HF := hid hf
    have HV := hid hv'
    have HB1 := hid hb1
    have HX : Hid (∀ u, Below (w.heap.size + 1) w1 u → (∀ j, j < 2 → (u.cell? ⟨w.heap.size, 0 + j, none⟩).isSome = true) ∧ (∀ j, j < 2 → u.frozen? ⟨w.heap.size, 0 + j, none⟩ = false) ∧ ∀ a b : Value, (u.setCells w.heap.size 0 [a, b]).cell? ⟨w.heap.size, 0, none⟩ = some a ∧ (u.setCells w.heap.size 0 [a, b]).cell? ⟨w.heap.size, 1, none⟩ = some b) := hid fun u hu => box2 hg1 hu
    clear hv hv' hf hn hg0 her h1 hg1 hb1
    go_enter Tryz.func9, Tryz.ntmps9
    go_wp2
    rw [← hw1]
    clear hw1
    go_loopw [5] (fun x wr => ∃ k : Nat, k ≤ n ∧ x = .int .i64 k ∧ Hid (∀ j, j < k → wholeB n0 (l.getD j ev0) = 0) ∧ Hid (Below (w.heap.size + 1) w1 wr)) (fun x _ => n - (intOf x).toNat)
    case atStart => exact ⟨0, Nat.zero_le _, rfl, hid fun _ h => absurd h (Nat.not_lt_zero _), Below.refl _ _⟩
    case round =>
      obtain ⟨k, hk, rfl, HZ, HB⟩ := hrel
      have hsz : w.heap.size + 1 ≤ wr.heap.size := by have := HB.out.size; omega
      have hwr : Below w.heap.size w wr := HB1.out.trans (HB.out.mono (by omega))
      by_cases hlt : k < n
      · have hk1 : (k : Int) < (n : Int) := by omega
        obtain ⟨b, off, rfl, hck⟩ := HV.out.resolve_left (fun h => by have := HN.out; rw [h] at this; simp at this; omega)
        obtain ⟨kv, kr, kw, ko, hke, hkr, hkc⟩ := hck k hlt
        have hfk := HF.out (l.getD k ev0) (getD_mem (by have := HN.out; omega))
        obtain ⟨ek, hek⟩ : ∃ ek, ek = l.getD k ev0 := ⟨_, rfl⟩
        rw [← hek] at hke hkr hkc hfk
        have HEK := ShutJ.mk hek
        have hcc : ∀ j u, (evCells ek kv kr kw ko)[j]? = some u → wr.cell? ⟨b, off + k * 7 + j, none⟩ = some u := fun j u hj => by
          have := hkc j u hj
          rw [hwr.cell (p := ⟨b, off + k * 7 + j, none⟩) (lt_of_cell this)]
          exact this
        obtain ⟨aa, ac, wa, wc, oa, oc, rfl, rfl, rfl⟩ := evAt_shape hke
        obtain ⟨ra, rn, rc, rfl⟩ : ∃ a n c, kr = .slice a n c := by obtain ⟨_, ⟨a, c, rfl, _⟩, _⟩ := hkr; exact ⟨_, _, _, rfl⟩
        have c0 : wr.cell? ⟨b, off + k * 7, none⟩ = some (.int .i64 ek.ses) := hcc 0 _ rfl
        have c1 : wr.cell? ⟨b, off + k * 7 + 1, none⟩ = some (.int .i64 ek.place) := hcc 1 _ rfl
        have c2 : wr.cell? ⟨b, off + k * 7 + 2, none⟩ = some (.slice aa ek.at_.length ac) := hcc 2 _ rfl
        have c3 : wr.cell? ⟨b, off + k * 7 + 3, none⟩ = some (.slice ra rn rc) := hcc 3 _ rfl
        have c4 : wr.cell? ⟨b, off + k * 7 + 4, none⟩ = some (.slice wa ek.c.when_.length wc) := hcc 4 _ rfl
        have c5 : wr.cell? ⟨b, off + k * 7 + 5, none⟩ = some (.int .i64 ek.c.place) := hcc 5 _ rfl
        have c6 : wr.cell? ⟨b, off + k * 7 + 6, none⟩ = some (.slice oa ek.c.ops.length oc) := hcc 6 _ rfl
        have HKE := hid hke
        have HFK := hid hfk
        have HWR := hid hwr
        clear hck hkc hcc hke hkr hfk hek hwr
        go_upto_region 7 with (fail)
        obtain ⟨wA, hwA⟩ : ∃ wA, wA = wr.alloc (.cells #[.int .i64 ek.ses, .int .i64 ek.place, .slice aa ek.at_.length ac, .slice ra rn rc, .slice wa ek.c.when_.length wc, .int .i64 ek.c.place, .slice oa ek.c.ops.length oc] 44) := ⟨_, rfl⟩
        rw [← hwA]
        have hbA : Below wr.heap.size wr wA := by rw [hwA]; exact below_alloc _ _
        have hxA : wA.heap[wr.heap.size]? = some (.cells #[.int .i64 ek.ses, .int .i64 ek.place, .slice aa ek.at_.length ac, .slice ra rn rc, .slice wa ek.c.when_.length wc, .int .i64 ek.c.place, .slice oa ek.c.ops.length oc] 44 (0, 0)) := by rw [hwA]; exact heap_new _ _
        have hwAw : Below w.heap.size w wA := HWR.out.trans (hbA.mono HWR.out.size)
        have KA := hid (vectorError wA (.slice aa ek.at_.length ac) ek.at_ (HKE.out.at_.mono hwAw (Nat.le_refl _)) HFK.out.at_)
        have KB := hid (vectorError wA (.slice wa ek.c.when_.length wc) ek.c.when_ (HKE.out.when_.mono hwAw (Nat.le_refl _)) HFK.out.com.1)
        have b1 : wA.cell? ⟨wr.heap.size, 1, none⟩ = some (.int .i64 ek.place) := (cell_of hxA).trans rfl
        have b2 : wA.cell? ⟨wr.heap.size, 2, none⟩ = some (.slice aa ek.at_.length ac) := (cell_of hxA).trans rfl
        have b4 : wA.cell? ⟨wr.heap.size, 4, none⟩ = some (.slice wa ek.c.when_.length wc) := (cell_of hxA).trans rfl
        have b5 : wA.cell? ⟨wr.heap.size, 5, none⟩ = some (.int .i64 ek.c.place) := (cell_of hxA).trans rfl
        have b6 : wA.cell? ⟨wr.heap.size, 6, none⟩ = some (.slice oa ek.c.ops.length oc) := (cell_of hxA).trans rfl
        have HBA : Hid (Below (w.heap.size + 1) w1 wA) := hid (HB.out.trans (hbA.mono hsz))
        have HXA := hid hxA
        obtain ⟨ob, hob⟩ : ∃ ob, ob = ofPB n0 ek := ⟨_, rfl⟩
        have HOB := ShutJ.mk hob
        clear c0 c1 c2 c3 c4 c5 c6 hwA hbA hxA hob
        go_cut [63] (fun x wx => x = .bool (!ob) ∧ wx = wA)
        case first =>
          rcases chk_pos ek.at_ with ca | ca
          · have HCA := ShutJ.mk ca
            rw [ca] at KA
            clear ca
            by_cases cb : (ek.at_.length : Int) = n0
            · have HCB := ShutJ.mk cb
              have bb : ((ek.at_.length : Int) != n0) = false := by rw [cb]; simp
              clear cb
              rcases chk_pos ek.c.when_ with cc | cc
              · have HCC := ShutJ.mk cc
                rw [cc] at KB
                clear cc
                by_cases cd : (ek.c.when_.length : Int) = n0
                · have HCD := ShutJ.mk cd
                  have bd : ((ek.c.when_.length : Int) != n0) = false := by rw [cd]; simp
                  clear cd
                  have ho1 : oneB n0 ek.at_ = true := by unfold oneB; rw [decide_eq_true HCB.out, decide_eq_true HCA.out]; rfl
                  have ho2 : oneB n0 ek.c.when_ = true := by unfold oneB; rw [decide_eq_true HCD.out, decide_eq_true HCC.out]; rfl
                  have HO1 := ShutJ.mk ho1
                  have HO2 := ShutJ.mk ho2
                  clear ho1 ho2
                  by_cases ce : ek.place < 0
                  · go_wp2_with fail
                    with_reducible refine KA.out.mono ?_
                    rintro r w' ⟨rfl, hw'⟩
                    rw [hw']
                    clear hw'
                    go_wp2_with fail
                    with_reducible refine KB.out.mono ?_
                    rintro r w' ⟨rfl, hw'⟩
                    rw [hw']
                    clear hw'
                    go_wp2_with fail
                    go_meet
                    exact ⟨by rw [HOB.out, ofPB, HO1.out, HO2.out, decide_eq_false (by omega : ¬ 0 ≤ ek.place)]; rfl, rfl⟩
                  · by_cases cf : n0 ≤ ek.place
                    · go_wp2_with fail
                      with_reducible refine KA.out.mono ?_
                      rintro r w' ⟨rfl, hw'⟩
                      rw [hw']
                      clear hw'
                      go_wp2_with fail
                      with_reducible refine KB.out.mono ?_
                      rintro r w' ⟨rfl, hw'⟩
                      rw [hw']
                      clear hw'
                      go_wp2_with fail
                      go_meet
                      exact ⟨by rw [HOB.out, ofPB, HO1.out, HO2.out, decide_eq_false (by omega : ¬ ek.place < n0), Bool.and_false]; rfl, rfl⟩
                    · go_wp2_with fail
                      with_reducible refine KA.out.mono ?_
                      rintro r w' ⟨rfl, hw'⟩
                      rw [hw']
                      clear hw'
                      go_wp2_with fail
                      with_reducible refine KB.out.mono ?_
                      rintro r w' ⟨rfl, hw'⟩
                      rw [hw']
                      clear hw'
                      go_wp2_with fail
                      go_meet
                      exact ⟨by rw [HOB.out, ofPB, HO1.out, HO2.out, decide_eq_true (by omega : 0 ≤ ek.place), decide_eq_true (by omega : ek.place < n0), decide_eq_false (by omega : ¬ ek.place < 0), decide_eq_false (by omega : ¬ n0 ≤ ek.place)]; rfl, rfl⟩
                · have bd : ((ek.c.when_.length : Int) != n0) = true := by simpa using cd
                  have HCD := ShutJ.mk cd
                  clear cd
                  go_wp2_with fail
                  with_reducible refine KA.out.mono ?_
                  rintro r w' ⟨rfl, hw'⟩
                  rw [hw']
                  clear hw'
                  go_wp2_with fail
                  with_reducible refine KB.out.mono ?_
                  rintro r w' ⟨rfl, hw'⟩
                  rw [hw']
                  clear hw'
                  go_wp2_with fail
                  go_meet
                  exact ⟨by rw [HOB.out, ofPB, oneB, oneB, decide_eq_false HCD.out]; simp, rfl⟩
              · have HCC := ShutJ.mk cc
                obtain ⟨x2, hx2⟩ : ∃ x2, x2 = chk ek.c.when_ := ⟨_, rfl⟩
                rw [← hx2] at KB cc
                clear hx2
                go_wp2_with fail
                with_reducible refine KA.out.mono ?_
                rintro r w' ⟨rfl, hw'⟩
                rw [hw']
                clear hw'
                go_wp2_with fail
                with_reducible refine KB.out.mono ?_
                rintro r w' ⟨rfl, hw'⟩
                rw [hw']
                clear hw'
                go_wp2_with fail
                go_meet
                exact ⟨by rw [HOB.out, ofPB, oneB, oneB, decide_eq_false (p := chk ek.c.when_ = 0) (by have := HCC.out; omega)]; simp, rfl⟩
            · have bb : ((ek.at_.length : Int) != n0) = true := by simpa using cb
              have HCB := ShutJ.mk cb
              clear cb
              go_wp2_with fail
              with_reducible refine KA.out.mono ?_
              rintro r w' ⟨rfl, hw'⟩
              rw [hw']
              clear hw'
              go_wp2_with fail
              go_meet
              exact ⟨by rw [HOB.out, ofPB, oneB, decide_eq_false HCB.out]; rfl, rfl⟩
          · have HCA := ShutJ.mk ca
            obtain ⟨x1, hx1⟩ : ∃ x1, x1 = chk ek.at_ := ⟨_, rfl⟩
            rw [← hx1] at KA ca
            clear hx1
            go_wp2_with fail
            with_reducible refine KA.out.mono ?_
            rintro r w' ⟨rfl, hw'⟩
            rw [hw']
            clear hw'
            go_wp2_with fail
            go_meet
            exact ⟨by rw [HOB.out, ofPB, oneB, decide_eq_false (p := chk ek.at_ = 0) (by have := HCA.out; omega), Bool.and_false]; rfl, rfl⟩
        case rest =>
          obtain ⟨rfl, rfl⟩ := hcut
          have X := hid (HX.out wc HBA.out)
          have hkl : k < l.length := by have := HN.out; omega
          have HKL := ShutJ.mk hkl
          clear hkl
          cases ob with
          | false =>
            go_wp2_with (refine wpList_store_k _ rfl (.tmp 4) (.tmp 65) 32 rfl w.heap.size 0 [.int .i64 3, .int .i64 k] rfl rfl 2 rfl Tryz.sizeOf32 rfl _ ?hW X.out.1 X.out.2.1 ?_; case hW => rfl)
            have hw3 : wholeB n0 (l.getD k ev0) = 3 := by rw [← HEK.out, whole_ofP, if_pos HOB.out.symm]
            have e := er_whole HER.out HKL.out HZ.out (by rw [hw3]; decide)
            rw [hw3] at e
            refine bodyPost_ret (ret_flt Tryz.results9 _ _ w.heap.size _ _ rfl (X.out.2.2 _ _)) rfl ⟨?_, below_setCells (Nat.le_refl _) _ _ (HB1.out.trans (HBA.out.mono (by omega)))⟩
            rw [e]
            rfl
          | true =>
            have hw0 : wholeB n0 (l.getD k ev0) = if ek.c.ops = [] then 0 else (comErr ek.c).1 := by rw [← HEK.out, whole_ofP, if_neg (by rw [← HOB.out]; decide)]
            have HW0 := ShutJ.mk hw0
            clear hw0
            by_cases ho : ek.c.ops = []
            · have h0 : ek.c.ops.length = 0 := by rw [ho]; rfl
              obtain ⟨le, hle⟩ : ∃ le, le = ek.c.ops.length := ⟨_, rfl⟩
              rw [← hle] at b6 h0
              subst h0
              have HO := ShutJ.mk ho
              clear ho hle
              go_wp2
              go_roundw
              case rel =>
                refine ⟨k + 1, by omega, by go_num, hid fun j hj => ?_, HBA⟩
                rcases Nat.lt_succ_iff_lt_or_eq.1 hj with h | rfl
                · exact HZ.out j h
                · rw [HW0.out, if_pos HO.out]
              case measure => simp [intOf]; omega
            · have hpos : 0 < ek.c.ops.length := List.length_pos_iff.2 ho
              have hwAw2 : Below w.heap.size w wc := HB1.out.trans (HBA.out.mono (by omega))
              have KC := hid (rCommitFault wc ek.c _ _ (HKE.out.when_.mono hwAw2 (Nat.le_refl _)) (HKE.out.ops.mono hwAw2 (Nat.le_refl _)) HFK.out.com.1 HFK.out.com.2.1 HFK.out.com.2.2)
              obtain ⟨ce, hce⟩ : ∃ ce, ce = comErr ek.c := ⟨_, rfl⟩
              rw [← hce] at KC
              have HCE := ShutJ.mk hce
              obtain ⟨le, hle⟩ : ∃ le, le = ek.c.ops.length := ⟨_, rfl⟩
              rw [← hle] at b6 KC hpos
              have hpz : (0 : Int) < (le : Int) := by omega
              have HO := ShutJ.mk ho
              clear ho hle hce
              go_wp2_with fail
              with_reducible refine KC.out.mono ?_
              rintro r w4 ⟨rfl, hb4⟩
              have HB4 : Hid (Below (w.heap.size + 1) w1 w4) := hid (HBA.out.trans (hb4.mono (by have := HBA.out.size; omega)))
              obtain ⟨c1, c2⟩ := ce
              simp only
              have HB5 : ∀ o, Hid (Below (w.heap.size + 1) w1 (w4.alloc o)) := fun o => hid (HB4.out.alloc (by have := HB4.out.size; omega) o)
              have X5 := fun o => hid (HX.out _ (HB5 o).out)
              clear hb4 KC b1 b2 b4 b5 b6
              by_cases hc0 : c1 = 0
              · subst hc0
                go_wp2
                go_roundw
                case rel =>
                  refine ⟨k + 1, by omega, by go_num, hid fun j hj => ?_, HB5 _⟩
                  rcases Nat.lt_succ_iff_lt_or_eq.1 hj with h | rfl
                  · exact HZ.out j h
                  · rw [HW0.out, if_neg HO.out, ← HCE.out]
                case measure => simp [intOf]; omega
              · have hcp : (0 : Int) < (c1 : Int) := by omega
                have HC0 := ShutJ.mk hc0
                clear hc0
                go_wp2_with (refine wpList_store_k _ rfl (.tmp 4) (.tmp 80) 32 rfl w.heap.size 0 [.int .i64 c1, .int .i64 k] rfl rfl 2 rfl Tryz.sizeOf32 rfl _ ?hW (X5 ?oo).out.1 (X5 ?oo).out.2.1 ?_; case hW => rfl)
                have hw3 : wholeB n0 (l.getD k ev0) = c1 := by rw [HW0.out, if_neg HO.out, ← HCE.out]
                have e := er_whole HER.out HKL.out HZ.out (by rw [hw3]; exact HC0.out)
                rw [hw3] at e
                refine bodyPost_ret (ret_flt Tryz.results9 _ _ w.heap.size _ _ rfl ((X5 _).out.2.2 _ _)) rfl ⟨?_, below_setCells (Nat.le_refl _) _ _ (HB1.out.trans ((HB5 _).out.mono (by omega)))⟩
                rw [e]
                rfl
      · obtain rfl : k = n := by omega
        have hWz : (wholeE n0 l).1 = 0 := by
          unfold wholeE
          rw [scan_none (fun j hj => HZ.out j (by have := HN.out; omega))]
        have K9 := KE hWz
        have HWZ := ShutJ.mk hWz
        clear hWz KE
        obtain ⟨ws, hws⟩ : ∃ ws : World, ws = wr := ⟨wr, rfl⟩
        subst hws
        go_wp2
        go_loopw [8] (fun x wr => ∃ j : Nat, j ≤ k ∧ x = .int .i64 j ∧ Hid (∀ t, t < j → besideB l t = 0) ∧ Hid (Below (w.heap.size + 1) w1 wr)) (fun x _ => k - (intOf x).toNat)
        case atStart => exact ⟨0, Nat.zero_le _, rfl, hid fun _ h => absurd h (Nat.not_lt_zero _), HB⟩
        case round =>
          obtain ⟨j, hj, rfl, HT, HBj⟩ := hrel
          have hszj : w.heap.size + 1 ≤ wr.heap.size := by have := HBj.out.size; omega
          have hwrj : Below w.heap.size w wr := HB1.out.trans (HBj.out.mono (by omega))
          by_cases hlt : j < k
          · have hj1 : (j : Int) < (k : Int) := by omega
            have KC := hid ((K9 wr hwrj j hlt).out)
            obtain ⟨eb, heb⟩ : ∃ eb, eb = besideB l j := ⟨_, rfl⟩
            rw [← heb] at KC
            have HEB := ShutJ.mk heb
            clear heb
            go_wp2_with fail
            with_reducible refine KC.out.mono ?_
            rintro r w4 ⟨rfl, hb4⟩
            have HB4 : Hid (Below (w.heap.size + 1) w1 w4) := hid (HBj.out.trans (hb4.mono hszj))
            have X4 := hid (HX.out w4 HB4.out)
            clear hb4 KC
            by_cases he0 : eb = 0
            · subst he0
              go_wp2
              go_roundw
              case rel =>
                refine ⟨j + 1, by omega, by go_num, hid fun t ht => ?_, HB4⟩
                rcases Nat.lt_succ_iff_lt_or_eq.1 ht with h | rfl
                · exact HT.out t h
                · exact HEB.out.symm
              case measure => simp [intOf]; omega
            · have hep : (0 : Int) < (eb : Int) := by omega
              have HE0 := ShutJ.mk he0
              clear he0
              go_wp2_with (refine wpList_store_k _ rfl (.tmp 4) (.tmp 94) 32 rfl w.heap.size 0 [.int .i64 eb, .int .i64 j] rfl rfl 2 rfl Tryz.sizeOf32 rfl _ ?hW X4.out.1 X4.out.2.1 ?_; case hW => rfl)
              have e : er = (eb, some j) := by
                rw [HER.out, if_neg (fun h => h HWZ.out), scan_some (i := j) (by have := HN.out; omega) HT.out (by rw [← HEB.out]; exact HE0.out), ← HEB.out]
              refine bodyPost_ret (ret_flt Tryz.results9 _ _ w.heap.size _ _ rfl (X4.out.2.2 _ _)) rfl ⟨?_, below_setCells (Nat.le_refl _) _ _ (HB1.out.trans (HB4.out.mono (by omega)))⟩
              rw [e]
              rfl
          · obtain rfl : j = k := by omega
            go_wp2_with fail
            with_reducible refine (fine_any wr).mono ?_
            rintro r w4 ⟨rfl, hb4⟩
            have HB4 : Hid (Below (w.heap.size + 1) w1 w4) := hid (HBj.out.trans (hb4.mono hszj))
            have X4 := hid (HX.out w4 HB4.out)
            clear hb4
            go_wp2_with (refine wpList_store_k _ rfl (.tmp 4) (.tmp 95) 32 rfl w.heap.size 0 [.int .i64 0, .int .i64 (-1)] rfl rfl 2 rfl Tryz.sizeOf32 rfl _ ?hW X4.out.1 X4.out.2.1 ?_; case hW => rfl)
            have e : er = (0, none) := by
              rw [HER.out, if_neg (fun h => h HWZ.out), scan_none (fun t ht => HT.out t (by have := HN.out; omega))]
            refine bodyPost_ret (ret_flt Tryz.results9 _ _ w.heap.size _ _ rfl (X4.out.2.2 _ _)) rfl ⟨?_, below_setCells (Nat.le_refl _) _ _ (HB1.out.trans (HB4.out.mono (by omega)))⟩
            rw [e]
            rfl
end Go.Proofs.YtngjooemanapnaaGreatDoor
