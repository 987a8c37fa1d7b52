/- standing by its contract; Contracts of Go's library at this program's numbers, by the kit's own layings. -/
import Derived.Test.YtefpnojanldkeaaGreatDoorJVStandM
import Derived.Test.YtefpnojanldkeaaGreatDoorJVMap
import Derived.Test.YtefpnojanldkeaaGreatDoorJVOp
import Derived.Test.YtefpnojanldkeaaGreatDoorJVOnceM
import Derived.Test.YtefpnojanldkeaaGreatDoorJVVec
import Derived.Test.YtefpnojanldkeaaGreatDoorJVRow
import Derived.Test.YtefpnojanldkeaaGreatDoorProg
import Derived.Shelf.Sort.Plain
import Derived.Shelf.Slices.CompactS
import Derived.Shelf.Slices.In.SortNone
namespace Go.Proofs.YtefpnojanldkeaaGreatDoor
open Go.RowKit Go.Sort Go.Maps
set_option maxRecDepth 100000
set_option linter.unusedSectionVars false
variable [Inhabited ComV] [DecidableEq D3] [Inhabited D3] [Inhabited Dd] [Inhabited Dn] [Inhabited OpV]

/-- The dots of an op, and those that it names, are as they should be. -/
def DotsWf (x : Dd) : Prop := wf3 x.dot ∧ (∀ d ∈ x.ds, wf3 d) ∧ x.ds.length = x.dl ∧ x.ds.length ≤ 1000
/-- What standing hands back. -/
def StandRet (xs : List Dd) (w : World) (e : Ending) (w' : World) : Prop :=
  ∃ v, e = .returned v ∧ w'.ownsRow (w.heap.size + 1) 148 11 v (xs.filter fun x => (finalMap (xs.map Dd.abs) x.dot).isSome).length ((xs.filter fun x => (finalMap (xs.map Dd.abs) x.dot).isSome).flatMap Dd.enc) ∧ Below w.heap.size w w'
theorem dots_at {w : World} {dp : Option Addr} {dl dc : Nat} {ds : List D3} (h : DotsAt w (.slice dp dl dc) ds) {j : Nat} (hj : j < ds.length) : ∃ b off, dp = some ⟨b, off, none⟩ ∧ w.cell? ⟨b, off + j * 3, none⟩ = some (.int .i64 ds[j]!.p) ∧ w.cell? ⟨b, off + j * 3 + 1, none⟩ = some (.int .i64 ds[j]!.t) ∧ w.cell? ⟨b, off + j * 3 + 2, none⟩ = some (.int .i64 ds[j]!.a) := by
  obtain ⟨ad, cap, he, _, _, h⟩ := h
  cases he
  rcases h with h | ⟨b, off, rfl, h⟩
  · have : ds = [] := by simpa using h
    rw [this] at hj
    simp at hj
  · have hc := (h j (D3.cells ds[j]!) (by rw [List.getElem?_map, List.getElem?_eq_getElem hj, getElem!_pos ds j hj]; rfl)).2
    exact ⟨b, off, rfl, hc 0 _ rfl, hc 1 _ rfl, hc 2 _ rfl⟩
theorem cells11 (w : World) (x1 : Int) (x2 : ByteArray) (x3 : Int) (x4 : ByteArray) (x5 : Int) (x6 : Bool) (x7 : Value) (x8 x9 x10 x11 : Int) (t : TypeId) (cs : Array Value) (h : cs = #[.int .i64 x1, .string x2, .int .i64 x3, .string x4, .int .i64 x5, .bool x6, x7, .int .i64 x8, .int .i64 x9, .int .i64 x10, .int .i64 x11]) :
    (w.alloc (.cells cs t)).cell? ⟨w.heap.size, 3, none⟩ = some (.string x4) ∧ (w.alloc (.cells cs t)).cell? ⟨w.heap.size, 6, none⟩ = some x7 := by
  subst h
  refine ⟨?_, ?_⟩ <;> (rw [World.cell?_alloc_at _ _ _ _ rfl]; rfl)
set_option maxHeartbeats 8000000 in
theorem standing_n (w : World) (g m cap : Nat) (xs : List Dd) (hm : xs.length = m) (hl : m ≤ 100000) (hg : g < w.heap.size) (hH : HoldsK Dd.enc 11 w g 0 xs.toArray) (hgd : ∀ x ∈ xs, GoodD w x) (hwf : ∀ x ∈ xs, DotsWf x) :
    Calls Tryz.prog 86 #[.slice (some ⟨g, 0, none⟩) m cap] w fun e w' => StandRet xs w e w' := by
  have hmm := run_makeMap_room Tryz.underlying184 m
  obtain ⟨i0, hi, hz0, hz1, hz2⟩ := info_parts Tryz.info148
  have HH := hid hH
  have HM := hid hm
  have HG := hid hgd
  have HWF := hid hwf
  have hat : Hid (∀ k, k < m → xs[k]! ∈ xs) := fun k hk => by rw [getElem!_pos xs k (by have := HM.out; omega)]; exact List.getElem_mem _
  clear hH hm hgd hwf
  go_enter Tryz.func86, Tryz.ntmps86
  go_wp2
  go_loopw [22] (fun i wr => ∃ k : Nat, k ≤ m ∧ i = .int .i64 k ∧ Hid (StInv xs w wr (((xs.map Dd.abs).take k).foldl addStep fun _ => none) k)) (fun i _ => m - (intOf i).toNat)
  case atStart => exact ⟨0, Nat.zero_le _, rfl, StInv.start w⟩
  case round =>
    obtain ⟨k, hk, rfl, HI⟩ := hrel
    have hsz := HI.out.size
    by_cases hlt : k < m
    · obtain ⟨u, hu⟩ : ∃ u, u = xs[k]! := ⟨_, rfl⟩
      obtain ⟨c0, c1, c2, c3, c4, c5, c6, c7, c8, c9, c10⟩ := holdsK_cells (holdsK_below HH.out HI.out.below hg) (j := k) (u := u) (by have := HM.out; simp; omega) (by rw [hu]; have := HM.out; rw [getElem!_pos xs.toArray k (by simp; omega), getElem!_pos xs k (by omega)]; simp)
      have hwu := HWF.out u (by rw [hu]; exact hat.out k hlt)
      have hstep : ((xs.map Dd.abs).take (k + 1)).foldl addStep (fun _ => none) = addStep (((xs.map Dd.abs).take k).foldl addStep fun _ => none) u.abs := by
        rw [foldl_take_succ _ _ _ (by have := HM.out; simp; omega), map_get_abs xs (by have := HM.out; omega), hu]
      have HST := hid hstep
      have HU := hid hu
      clear hu hstep
      obtain ⟨x1, x2, x3, x4, x5, x6, dp, dl, dc, ⟨x8, x9, x10⟩, x11, ds⟩ := u
      simp only at c0 c1 c2 c3 c4 c5 c6 c7 c8 c9 c10
      have hkey := key_dot ⟨x8, x9, x10⟩ hwu.1
      obtain ⟨D, I, hown, hD, hT⟩ := HI.out.map
      have his := hown.isMap
      have HD := hid hD
      have HTX := hid hT
      clear hD hT
      cases x6 with
      | true =>
        go_wp2
        go_roundw
        case rel =>
          refine ⟨k + 1, by omega, by go_num, ?_⟩
          rw [HST.out]
          exact (HI.out.alloc _).mono (Nat.le_succ _)
        case measure => simp [intOf]; omega
      | false =>
        go_wp2_with (at_mapUpdate; refine wpList_mapUpdate_own _ rfl _ _ _ 184 rfl 90 3 keyed65 Tryz.underlying184 (plainElem Tryz.prog 3) w.heap.size k _ rfl (hown.alloc _) ?hmx _ _ _ rfl rfl hkey _ [] (idxE_mk k (by omega)) ?_; (case hmx => unfold maxLen; omega); intro w1 hown1 hgrow1)
        go_roundw
        case rel =>
          refine ⟨k + 1, by omega, by go_num, ?_⟩
          rw [HST.out]
          exact (HI.out.alloc _).turned hgrow1 hown1 (HD.out.put his hwu.1 k) (HTX.out.put ⟨x8, x9, x10⟩ (by have := HM.out; omega) (congrArg Dd.text HU.out.symm))
        case measure => simp [intOf]; omega
    · have hkm : m = k := by omega
      subst hkm
      have ht : (xs.map Dd.abs).take m = xs.map Dd.abs := List.take_of_length_le (by have := HM.out; simp; omega)
      rw [ht] at HI
      obtain ⟨M0, hM0⟩ : ∃ M0, M0 = (xs.map Dd.abs).foldl addStep fun _ => none := ⟨_, rfl⟩
      rw [← hM0] at HI
      have HM0 := hid hM0
      obtain ⟨wo, hwo⟩ : ∃ wo : World, wo = wr := ⟨wr, rfl⟩
      subst hwo
      clear hM0 ht hlt hk hsz
      go_wp2
      go_loopw [38] (fun i wr => ∃ k : Nat, k ≤ m ∧ i = .int .i64 k ∧ Hid (StInv xs w wr (((xs.map Dd.abs).take k).foldl remStep M0) m)) (fun i _ => m - (intOf i).toNat)
      case atStart => exact ⟨0, Nat.zero_le _, rfl, HI.out⟩
      case round =>
        obtain ⟨k, hk, rfl, HJ⟩ := hrel
        have hsz := HJ.out.size
        by_cases hlt : k < m
        · obtain ⟨u, hu⟩ : ∃ u, u = xs[k]! := ⟨_, rfl⟩
          obtain ⟨c0, c1, c2, c3, c4, c5, c6, c7, c8, c9, c10⟩ := holdsK_cells (holdsK_below HH.out HJ.out.below hg) (j := k) (u := u) (by have := HM.out; simp; omega) (by rw [hu]; have := HM.out; rw [getElem!_pos xs.toArray k (by simp; omega), getElem!_pos xs k (by omega)]; simp)
          have hwu := HWF.out u (by rw [hu]; exact hat.out k hlt)
          have hgu := HG.out u (by rw [hu]; exact hat.out k hlt)
          have hstep : ((xs.map Dd.abs).take (k + 1)).foldl remStep M0 = remStep (((xs.map Dd.abs).take k).foldl remStep M0) u.abs := by
            rw [foldl_take_succ _ _ _ (by have := HM.out; simp; omega), map_get_abs xs (by have := HM.out; omega), hu]
          have HST := hid hstep
          have HU := hid hu
          clear hu hstep
          obtain ⟨x1, x2, x3, x4, x5, x6, dp, dl, dc, ⟨x8, x9, x10⟩, x11, ds⟩ := u
          simp only at c0 c1 c2 c3 c4 c5 c6 c7 c8 c9 c10
          have hdl : ds.length = dl := hwu.2.2.1
          have hdm : dl ≤ 1000 := by rw [← hdl]; exact hwu.2.2.2
          have HDW : Hid (∀ d ∈ ds, wf3 d) := hwu.2.1
          have HGU : Hid (DotsAt w (.slice dp dl dc) ds) := hgu
          have HDL := hid hdl
          obtain ⟨Mk, hMk⟩ : ∃ Mk, Mk = ((xs.map Dd.abs).take k).foldl remStep M0 := ⟨_, rfl⟩
          rw [← hMk] at HJ HST
          obtain ⟨wb, hwb⟩ : ∃ wb : World, wb = wr := ⟨wr, rfl⟩
          subst hwb
          clear hwu hgu hdl hMk
          go_wp2
          obtain ⟨w1, hw1⟩ : ∃ w1, w1 = wb.alloc (.cells #[.int .i64 x1, .string x2, .int .i64 x3, .string x4, .int .i64 x5, .bool x6, .slice dp dl dc, .int .i64 x8, .int .i64 x9, .int .i64 x10, .int .i64 x11] 148) := ⟨_, rfl⟩
          have T1 : Hid (w1.cell? ⟨wb.heap.size, 3, none⟩ = some (.string x4)) := by rw [hw1]; exact (cells11 wb x1 x2 x3 x4 x5 x6 (.slice dp dl dc) x8 x9 x10 x11 148 _ rfl).1
          have S1 : Hid (wb.heap.size + 1 ≤ w1.heap.size) := hid (by rw [hw1]; simp)
          have I1 : Hid (StInv xs w w1 Mk m) := by rw [hw1]; exact HJ.out.alloc _
          rw [← hw1]
          clear hw1 c0 c1 c2 c3 c4 c5 c6 c7 c8 c9 c10
          go_loopw [46] (fun i wj => ∃ j : Nat, j ≤ dl ∧ i = .int .i64 j ∧ Hid (StInv xs w wj ((ds.take j).foldl (delStep x4) Mk) m) ∧ Hid (wj.cell? ⟨wb.heap.size, 3, none⟩ = some (.string x4)) ∧ Hid (wb.heap.size + 1 ≤ wj.heap.size)) (fun i _ => dl - (intOf i).toNat)
          case atStart => exact ⟨0, Nat.zero_le _, rfl, I1.out, T1.out, S1.out⟩
          case round =>
            obtain ⟨j, hj, rfl, JI, JT, JS⟩ := hrel
            by_cases hjl : j < dl
            · have hjd : j < ds.length := by have := HDL.out; omega
              obtain ⟨bd, od, rfl, q0, q1, q2⟩ := dots_at HGU.out hjd
              have up : ∀ {a : Addr} {v : Value}, w.cell? a = some v → wr.cell? a = some v := fun {a v} h => by rw [JI.out.below.cell (lt_of_cell h)]; exact h
              have r0 := up q0
              have r1 := up q1
              have r2 := up q2
              have hwd := HDW.out ds[j]! (by rw [getElem!_pos ds j hjd]; exact List.getElem_mem _)
              have hfold : (ds.take (j + 1)).foldl (delStep x4) Mk = delStep x4 ((ds.take j).foldl (delStep x4) Mk) ds[j]! := foldl_take_succ _ _ _ hjd
              obtain ⟨Mj, hMj⟩ : ∃ Mj, Mj = (ds.take j).foldl (delStep x4) Mk := ⟨_, rfl⟩
              rw [← hMj] at hfold JI
              obtain ⟨d, hd⟩ : ∃ d, d = ds[j]! := ⟨_, rfl⟩
              rw [← hd] at r0 r1 r2 hwd hfold
              obtain ⟨d1, d2, d3⟩ := d
              simp only at r0 r1 r2
              have hkey := key_dot ⟨d1, d2, d3⟩ hwd
              simp only at hkey
              have HF := hid hfold
              clear q0 q1 q2 up hMj hd hfold
              obtain ⟨wq, hwq⟩ : ∃ wq, wq = wr.alloc (.cells #[.int .i64 d1, .int .i64 d2, .int .i64 d3] 90) := ⟨_, rfl⟩
              have IQ : StInv xs w wq Mj m := by rw [hwq]; exact JI.out.alloc _
              obtain ⟨D, I, hown, hD, hT⟩ := IQ.map
              have hdD := hD _ hwd
              have hdT := hT ⟨d1, d2, d3⟩
              have t0 : wq.cell? ⟨wr.heap.size, 0, none⟩ = some (.int .i64 d1) := by rw [hwq]; simp
              have t1 : wq.cell? ⟨wr.heap.size, 1, none⟩ = some (.int .i64 d2) := by rw [hwq]; simp
              have t2 : wq.cell? ⟨wr.heap.size, 2, none⟩ = some (.int .i64 d3) := by rw [hwq]; simp
              have t3 : wq.cell? ⟨wb.heap.size, 3, none⟩ = some (.string x4) := by rw [hwq]; exact cell_alloc JT.out _
              have hsq : wb.heap.size + 1 ≤ wq.heap.size := by rw [hwq]; have := JS.out; simp; omega
              have hwbn : wb.heap.size ≠ w.heap.size := by omega
              have HIQ := hid IQ
              have HDD := hid hD
              have HTT := hid hT
              have HSQ := hid hsq
              have hbq := IQ.below
              clear IQ hD hT hsq
              go_upto_region 14 with (fail)
              rw [← hwq]
              clear hwq r0 r1 r2
              cases hI : I ⟨d1, d2, d3⟩ with
              | none =>
                rw [hI] at hdD hdT
                have hdh : Maps.has D (klD ⟨d1, d2, d3⟩) = false := hdD.1
                have HN : Hid (Mj ⟨d1, d2, d3⟩ = none) := hdT.1
                clear hdD hdT hI hbq
                go_wp2_with (at_lookup; refine wpList_lookup_own_ok_int _ rfl _ _ 184 rfl 90 3 .i64 keyed65 Tryz.underlying184 Tryz.underlying3 (Tryz.zero3 _) w.heap.size m D rfl hown _ _ rfl hkey ?_; intro c _ _)
                go_quiet (fail)
                go_wp2
                refine ⟨⟨j + 1, by omega, by go_num, ?_, t3, HSQ.out⟩, by simp [intOf]; omega⟩
                rw [HF.out, delStep_none HN.out]
                exact HIQ.out.draw _
              | some i =>
                rw [hI] at hdD hdT
                have hdh : Maps.has D (klD ⟨d1, d2, d3⟩) = true := hdD.1
                have hdv : D.atKey (klD ⟨d1, d2, d3⟩) (.lit (.int .i64 0)) = .lit (.int .i64 (i : Int)) := hdD.2
                have hix : i < m := by rw [← HM.out]; exact hdT.2 i rfl
                obtain ⟨y, hy⟩ : ∃ y, y = xs[i]! := ⟨_, rfl⟩
                obtain ⟨_, _, _, e3, _⟩ := holdsK_cells (holdsK_below HH.out hbq hg) (j := i) (u := y) (by have := HM.out; simp; omega) (by rw [hy]; have := HM.out; rw [getElem!_pos xs.toArray i (by simp; omega), getElem!_pos xs i (by omega)]; simp)
                have HN : Hid (Mj ⟨d1, d2, d3⟩ = some y.text) := by rw [hy]; exact hdT.1
                obtain ⟨y4, hy4⟩ : ∃ y4, y4 = y.text := ⟨_, rfl⟩
                rw [← hy4] at e3 HN
                clear hdD hdT hI hbq hy hy4
                by_cases he : y4 = x4
                · subst he
                  have heq : (y4.toList == y4.toList) = true := by simp
                  go_wp2_with (at_lookup; refine wpList_lookup_own_ok_int _ rfl _ _ 184 rfl 90 3 .i64 keyed65 Tryz.underlying184 Tryz.underlying3 (Tryz.zero3 _) w.heap.size m D rfl hown _ _ rfl hkey ?_; intro c hc _; rw [hdv] at hc; obtain rfl : (i : Int) = c := by injection hc with hc; injection hc)
                  go_quiet (fail)
                  go_wp2_with (at_delete; refine wpList_delete_own _ rfl _ _ 184 90 rfl 3 keyed65 Tryz.underlying184 (plainElem Tryz.prog 3) w.heap.size m D rfl hown _ _ rfl hkey ?_; intro w2 hown2 hturn2)
                  have hg2 := hturn2.grown
                  have hst : StInv xs w w2 (upd Mj ⟨d1, d2, d3⟩ none) m := (HIQ.out.draw _).turned hg2 hown2 (HDD.out.del hwd) (HTT.out.del _)
                  refine ⟨⟨j + 1, by omega, by go_num, ?_, hg2.cell (w := wq.drewN _) t3 (fun e => hwbn (Option.some.inj e)), Nat.le_trans HSQ.out hg2.size⟩, by simp [intOf]; omega⟩
                  rw [HF.out]
                  unfold delStep
                  rw [if_pos (by rw [HN.out]; rfl)]
                  exact hst
                · have hne : (y4.toList == x4.toList) = false := beq_eq_false_iff_ne.2 (ne_toList he)
                  go_wp2_with (at_lookup; refine wpList_lookup_own_ok_int _ rfl _ _ 184 rfl 90 3 .i64 keyed65 Tryz.underlying184 Tryz.underlying3 (Tryz.zero3 _) w.heap.size m D rfl hown _ _ rfl hkey ?_; intro c hc _; rw [hdv] at hc; obtain rfl : (i : Int) = c := by injection hc with hc; injection hc)
                  go_quiet (fail)
                  go_wp2
                  refine ⟨⟨j + 1, by omega, by go_num, ?_, t3, HSQ.out⟩, by simp [intOf]; omega⟩
                  rw [HF.out]
                  unfold delStep
                  rw [if_neg (by rw [HN.out]; exact he)]
                  exact HIQ.out.draw _
            · have hjm : dl = j := by omega
              subst hjm
              go_wp2
              refine ⟨⟨k + 1, by omega, by go_num, ?_⟩, by simp [intOf]; omega⟩
              rw [HST.out]
              have := JI.out
              rw [List.take_of_length_le (by have := HDL.out; omega)] at this
              exact this
        · have hkm : m = k := by omega
          subst hkm
          have ht : (xs.map Dd.abs).take m = xs.map Dd.abs := List.take_of_length_le (by have := HM.out; simp; omega)
          rw [ht, HM0.out] at HJ
          have HJ2 : Hid (StInv xs w wr (finalMap (xs.map Dd.abs)) m) := HJ
          obtain ⟨Mf, hMf⟩ : ∃ Mf, Mf = finalMap (xs.map Dd.abs) := ⟨_, rfl⟩
          rw [← hMf] at HJ2
          have HMF := hid hMf
          obtain ⟨wb, hwb⟩ : ∃ wb : World, wb = wr := ⟨wr, rfl⟩
          subst hwb
          clear hMf ht hlt hk hsz HJ
          go_wp2
          go_loopw [12, 75] (fun v i wr => ∃ k : Nat, k ≤ m ∧ i = .int .i64 k ∧ Hid (StInv xs w wr Mf m) ∧ Hid (wr.ownsRow (w.heap.size + 1) 148 11 v ((xs.take k).filter fun x => (Mf x.dot).isSome).length (((xs.take k).filter fun x => (Mf x.dot).isSome).flatMap Dd.enc))) (fun _ i _ => m - (intOf i).toNat)
          case atStart => exact ⟨0, Nat.zero_le _, rfl, HJ2.out, World.ownsRow_nil _ _ _ _⟩
          case round =>
            obtain ⟨k, hk, rfl, HK, HR⟩ := hrel
            have hsz := HK.out.size
            by_cases hlt : k < m
            · obtain ⟨u, hu⟩ : ∃ u, u = xs[k]! := ⟨_, rfl⟩
              obtain ⟨c0, c1, c2, c3, c4, c5, c6, c7, c8, c9, c10⟩ := holdsK_cells (holdsK_below HH.out HK.out.below hg) (j := k) (u := u) (by have := HM.out; simp; omega) (by rw [hu]; have := HM.out; rw [getElem!_pos xs.toArray k (by simp; omega), getElem!_pos xs k (by omega)]; simp)
              have hwu := HWF.out u (by rw [hu]; exact hat.out k hlt)
              have hfil : (xs.take (k + 1)).filter (fun x => (Mf x.dot).isSome) = (xs.take k).filter (fun x => (Mf x.dot).isSome) ++ (if (Mf u.dot).isSome = true then [u] else []) := by
                rw [List.take_succ_eq_append_getElem (by have := HM.out; omega), List.filter_append, hu, getElem!_pos xs k (by have := HM.out; omega)]
                congr 1
                simp [List.filter_cons]
              have hfl : ((xs.take k).filter (fun x => (Mf x.dot).isSome)).length ≤ m := Nat.le_trans (List.length_filter_le _ _) (by simp; omega)
              have HF := hid hfil
              clear hu hfil
              obtain ⟨x1, x2, x3, x4, x5, x6, dp, dl, dc, ⟨x8, x9, x10⟩, x11, ds⟩ := u
              simp only at c0 c1 c2 c3 c4 c5 c6 c7 c8 c9 c10
              have hkey := key_dot ⟨x8, x9, x10⟩ hwu.1
              simp only at hkey
              obtain ⟨D, I, hown, hD, hT⟩ := HK.out.map
              have hdD := (hD _ hwu.1).1
              have hdI : (I ⟨x8, x9, x10⟩).isSome = (Mf ⟨x8, x9, x10⟩).isSome := by rw [(hT ⟨x8, x9, x10⟩).1]; cases I ⟨x8, x9, x10⟩ <;> rfl
              rw [hdI] at hdD
              clear hdI hT
              have hrow := HR.out
              obtain ⟨fs, hfs⟩ : ∃ fs, fs = (xs.take k).filter fun x => (Mf x.dot).isSome := ⟨_, rfl⟩
              rw [← hfs] at hrow HF hfl
              clear hfs hD hwu HR
              cases hb : (Mf ⟨x8, x9, x10⟩).isSome with
              | false =>
                rw [hb] at hdD
                go_wp2_with (at_lookup; refine wpList_lookup_own_ok_int _ rfl _ _ 184 rfl 90 3 .i64 keyed65 Tryz.underlying184 Tryz.underlying3 (Tryz.zero3 _) w.heap.size m D rfl (hown.alloc _) _ _ rfl hkey ?_; intro c _ _)
                refine ⟨⟨k + 1, by omega, by go_num, HK.out.alloc _, ?_⟩, by simp [intOf]; omega⟩
                rw [HF.out]
                simp only [hb, Bool.false_eq_true, if_false, List.append_nil]
                exact hrow.alloc _
              | true =>
                rw [hb] at hdD
                go_wp2_with (first
                  | (at_lookup; refine wpList_lookup_own_ok_int _ rfl _ _ 184 rfl 90 3 .i64 keyed65 Tryz.underlying184 Tryz.underlying3 (Tryz.zero3 _) w.heap.size m D rfl (hown.alloc _) _ _ rfl hkey ?_; intro c _ _)
                  | (at_builtin; refine wpList_append_own _ rfl _ _ 144 rfl (w.heap.size + 1) 148 i0 _ 11 120 Tryz.underlying144 hi hz0 hz1 hz2 rfl (by decide) _ _ _ rfl ((hrow.alloc _).alloc _) ⟨wr.heap.size + 1, 0, none⟩ 1 1 [.int .i64 x1, .string x2, .int .i64 x3, .string x4, .int .i64 x5, .bool x6, .slice dp dl dc, .int .i64 x8, .int .i64 x9, .int .i64 x10, .int .i64 x11] rfl rfl (cells11_new _ _ _ _ (by simp)) ?ho1 ?ho2 ?ho3 ?ho4 ?_; (case ho1 => exact Dd.enc_one ⟨x1, x2, x3, x4, x5, x6, dp, dl, dc, ⟨x8, x9, x10⟩, x11, ds⟩); (case ho2 => unfold maxLen; omega); (case ho3 => omega); (case ho4 => simp; omega); intro v' w2 hown' hgrow2 hnil2)
                  | go_in)
                refine ⟨⟨k + 1, by omega, by go_num, ((HK.out.alloc _).alloc _).beside hgrow2 (fun j hj => (hrow.lt j hj).1), ?_⟩, by simp [intOf]; omega⟩
                rw [HF.out]
                simp only [hb, if_true, List.length_append, List.length_singleton, List.flatMap_append, List.flatMap_singleton]
                exact hown'
            · have hkm : m = k := by omega
              subst hkm
              go_wp2
              go_ret
              have := HR.out
              rw [List.take_of_length_le (by have := HM.out; omega), HMF.out] at this
              exact ⟨_, rfl, this, HK.out.below⟩
end Go.Proofs.YtefpnojanldkeaaGreatDoor
namespace Go.Proofs
open Go.Shelf
def Tryz.lays190_ren : Go.Shelf.Ren := ⟨fun | 190 => 113 | 125 => 122 | 258 => 124 | 128 => 134 | 129 => 135 | 302 => 136 | 303 => 137 | 304 => 138 | 305 => 139 | 306 => 140 | 307 => 141 | 308 => 142 | 309 => 143 | 310 => 144 | 333 => 150 | 329 => 146 | 330 => 147 | 334 => 151 | 335 => 152 | 336 => 153 | 344 => 155 | n => n, fun | 31 => 22 | 9 => 9 | 3 => 3 | 46 => 202 | 0 => 0 | 51 => 171 | 53 => 220 | 4 => 4 | 183 => 213 | 182 => 212 | 131 => 185 | 5 => 5 | 218 => 227 | 222 => 231 | 228 => 235 | 229 => 93 | n => n, fun | n => n⟩
theorem Tryz.lays190 : Go.Proofs.Lays.n190 Tryz.prog Tryz.lays190_ren := {
  mixed := by kernel_rfl
  f125 := Tryz.func122.trans (congrArg some (by kernel_rfl))
  f128 := Tryz.func134.trans (congrArg some (by kernel_rfl))
  f129 := Tryz.func135.trans (congrArg some (by kernel_rfl))
  f190 := Tryz.func113.trans (congrArg some (by kernel_rfl))
  f258 := Tryz.func124.trans (congrArg some (by kernel_rfl))
  f302 := Tryz.func136.trans (congrArg some (by kernel_rfl))
  f303 := Tryz.func137.trans (congrArg some (by kernel_rfl))
  f304 := Tryz.func138.trans (congrArg some (by kernel_rfl))
  f305 := Tryz.func139.trans (congrArg some (by kernel_rfl))
  f306 := Tryz.func140.trans (congrArg some (by kernel_rfl))
  f307 := Tryz.func141.trans (congrArg some (by kernel_rfl))
  f308 := Tryz.func142.trans (congrArg some (by kernel_rfl))
  f309 := Tryz.func143.trans (congrArg some (by kernel_rfl))
  f310 := Tryz.func144.trans (congrArg some (by kernel_rfl))
  f329 := Tryz.func146.trans (congrArg some (by kernel_rfl))
  f330 := Tryz.func147.trans (congrArg some (by kernel_rfl))
  f333 := Tryz.func150.trans (congrArg some (by kernel_rfl))
  f334 := Tryz.func151.trans (congrArg some (by kernel_rfl))
  f335 := Tryz.func152.trans (congrArg some (by kernel_rfl))
  f336 := Tryz.func153.trans (congrArg some (by kernel_rfl))
  f344 := Tryz.func155.trans (congrArg some (by kernel_rfl))
  t0 := Tryz.underlying0
  a0 := Tryz.isAgg0
  z0 := Tryz.sizeOf0
  v0 := Tryz.zeroValue0
  t3 := Tryz.underlying3
  a3 := Tryz.isAgg3
  z3 := Tryz.sizeOf3
  v3 := Tryz.zeroValue3
  t4 := Tryz.underlying4
  a4 := Tryz.isAgg4
  z4 := Tryz.sizeOf4
  v4 := Tryz.zeroValue4
  t5 := Tryz.underlying5
  a5 := Tryz.isAgg5
  z5 := Tryz.sizeOf5
  v5 := Tryz.zeroValue5
  t9 := Tryz.underlying9
  a9 := Tryz.isAgg9
  z9 := Tryz.sizeOf9
  v9 := Tryz.zeroValue9
  t31 := Tryz.underlying22
  a31 := Tryz.isAgg22
  z31 := Tryz.sizeOf22
  v31 := Tryz.zeroValue22
  t46 := Tryz.underlying202
  a46 := Tryz.isAgg202
  z46 := Tryz.sizeOf202
  v46 := Tryz.zeroValue202
  t51 := Tryz.underlying171
  a51 := Tryz.isAgg171
  z51 := Tryz.sizeOf171
  v51 := Tryz.zeroValue171
  t53 := Tryz.underlying220
  a53 := Tryz.isAgg220
  z53 := Tryz.sizeOf220
  v53 := Tryz.zeroValue220
  t131 := Tryz.underlying185
  a131 := Tryz.isAgg185
  z131 := Tryz.sizeOf185
  v131 := Tryz.zeroValue185
  t182 := Tryz.underlying212
  a182 := Tryz.isAgg212
  z182 := Tryz.sizeOf212
  v182 := Tryz.zeroValue212
  t183 := Tryz.underlying213
  a183 := Tryz.isAgg213
  z183 := Tryz.sizeOf213
  v183 := Tryz.zeroValue213
  t218 := Tryz.underlying227
  a218 := Tryz.isAgg227
  z218 := Tryz.sizeOf227
  v218 := Tryz.zeroValue227
  t222 := Tryz.underlying231
  a222 := Tryz.isAgg231
  z222 := Tryz.sizeOf231
  v222 := Tryz.zeroValue231
  t228 := Tryz.underlying235
  a228 := Tryz.isAgg235
  z228 := Tryz.sizeOf235
  v228 := Tryz.zeroValue235
  t229 := Tryz.underlying93
  a229 := Tryz.isAgg93
  z229 := Tryz.sizeOf93
  v229 := Tryz.zeroValue93 }
open Go.Sort Go.RowKit in
theorem Tryz.slices_Sort_string (blk off cap : Nat) (ss : List (List UInt8)) (w : World) (hH : Holds encStr w blk off ss.toArray) (hblk : blk < w.heap.size) (hsz : ss.length < 4611686018427387904) :
    Calls Tryz.prog 113 #[.slice (some ⟨blk, off, none⟩) ss.length cap] w fun e w' =>
      e = .returned (.tuple #[]) ∧ ∃ n os, w' = grow (putRow encStr (Sort.ahead w n) blk off (ss.mergeSort fun x y => decide (x ≤ y)).toArray) os := Any.slices_Sort_string Tryz.lays190 blk off cap ss w hH hblk hsz
def Tryz.lays194_ren : Go.Shelf.Ren := ⟨fun | 194 => 114 | n => n, fun | 31 => 22 | 9 => 9 | 3 => 3 | 4 => 4 | 0 => 0 | n => n, fun | n => n⟩
theorem Tryz.lays194 : Go.Proofs.Lays.n194 Tryz.prog Tryz.lays194_ren := {
  mixed := by kernel_rfl
  f194 := Tryz.func114.trans (congrArg some (by kernel_rfl))
  t0 := Tryz.underlying0
  a0 := Tryz.isAgg0
  z0 := Tryz.sizeOf0
  v0 := Tryz.zeroValue0
  t3 := Tryz.underlying3
  a3 := Tryz.isAgg3
  z3 := Tryz.sizeOf3
  v3 := Tryz.zeroValue3
  t4 := Tryz.underlying4
  a4 := Tryz.isAgg4
  z4 := Tryz.sizeOf4
  v4 := Tryz.zeroValue4
  t9 := Tryz.underlying9
  a9 := Tryz.isAgg9
  z9 := Tryz.sizeOf9
  v9 := Tryz.zeroValue9
  t31 := Tryz.underlying22
  a31 := Tryz.isAgg22
  z31 := Tryz.sizeOf22
  v31 := Tryz.zeroValue22 }
open Go.RowKit Go.Lib Go.Sort in
theorem Tryz.slices_Compact_string (blk off cap : Nat) (zs : List (List UInt8)) (w : World) (hH : Holds encStr w blk off zs.toArray) (hsz : zs.length ≤ 9223372036854775807) (hcap : zs.length ≤ cap) :
    Calls Tryz.prog 114 #[.slice (some ⟨blk, off, none⟩) zs.length cap] w fun e w' => e = .returned (.slice (some ⟨blk, off, none⟩) (Lib.compact zs).length cap) ∧ ∃ q, w' = putRow encStr (Sort.ahead w q) blk off (Lib.compact zs ++ List.replicate (zs.length - (Lib.compact zs).length) []).toArray := Any.slices_Compact_string Tryz.lays194 blk off cap zs w hH hsz hcap
open Go.RowKit Go.Lib Go.Sort in
theorem Tryz.slices_Compact_string_empty (a : Option Addr) (cap : Nat) (w : World) :
    Calls Tryz.prog 114 #[.slice a 0 cap] w fun e w' => e = .returned (.slice a 0 cap) ∧ w' = w := Any.slices_Compact_string_empty Tryz.lays194 a cap w
open Go.RowKit Go.Sort in
theorem Tryz.slices_Sort_string_none (p : Option Addr) (cap : Nat) (w : World) :
    Calls Tryz.prog 113 #[.slice p 0 cap] w fun e w' => e = .returned (.tuple #[]) ∧ w' = w := Any.slices_Sort_string_none Tryz.lays190 p cap w
end Go.Proofs
