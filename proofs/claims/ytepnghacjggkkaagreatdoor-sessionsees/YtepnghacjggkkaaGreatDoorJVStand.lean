/- standing by its contract. -/
import Derived.Test.YtepnghacjggkkaaGreatDoorJVOnce
import Derived.Test.YtepnghacjggkkaaGreatDoorJVLayT
import Derived.Ground.SlsfProg
import Derived.Shelf.SlGeneric
import Derived.Shelf.SlicesE.DeleteFunc
import Derived.Test.YtepnghacjggkkaaGreatDoorProg
namespace Go.Proofs.YtepnghacjggkkaaGreatDoor
open Go.RowKit Go.Sort Go.Maps
set_option maxRecDepth 100000
set_option linter.unusedSectionVars false
variable [Inhabited ComV] [DecidableEq D3] [Inhabited D3] [Inhabited Dd] [Inhabited Dn] [Inhabited OpV]

def DotsWf (x : Dd) : Prop := wf3 x.dot ∧ (∀ d ∈ x.ds, wf3 d) ∧ x.ds.length = x.dl ∧ x.ds.length ≤ 1000
def StandRet (xs : List Dd) (w : World) (e : Ending) (w' : World) : Prop :=
  ∃ v, e = .returned v ∧ w'.ownsRow (w.heap.size + 1) 214 11 v (xs.filter fun x => (finalMap (xs.map Dd.abs) x.dot).isSome).length ((xs.filter fun x => (finalMap (xs.map Dd.abs) x.dot).isSome).flatMap Dd.enc) ∧ Below w.heap.size w w'
theorem dots_at {w : World} {dp : Option Addr} {dl dc : Nat} {ds : List D3} (h : DotsAt w (.slice dp dl dc) ds) {j : Nat} (hj : j < ds.length) : ∃ b off, dp = some ⟨b, off, none⟩ ∧ w.cell? ⟨b, off + j * 3, none⟩ = some (.int .i64 ds[j]!.p) ∧ w.cell? ⟨b, off + j * 3 + 1, none⟩ = some (.int .i64 ds[j]!.t) ∧ w.cell? ⟨b, off + j * 3 + 2, none⟩ = some (.int .i64 ds[j]!.a) := by
  obtain ⟨ad, cap, he, _, _, h⟩ := h
  cases he
  rcases h with h | ⟨b, off, rfl, h⟩
  · have : ds = [] := by simpa using h
    rw [this] at hj
    simp at hj
  · have hc := (h j (D3.cells ds[j]!) (by rw [List.getElem?_map, List.getElem?_eq_getElem hj, getElem!_pos ds j hj]; rfl)).2
    exact ⟨b, off, rfl, hc 0 _ rfl, hc 1 _ rfl, hc 2 _ rfl⟩
theorem cells11 (w : World) (x1 : Int) (x2 : ByteArray) (x3 : Int) (x4 : ByteArray) (x5 : Int) (x6 : Bool) (x7 : Value) (x8 x9 x10 x11 : Int) (t : TypeId) (cs : Array Value) (h : cs = #[.int .i64 x1, .string x2, .int .i64 x3, .string x4, .int .i64 x5, .bool x6, x7, .int .i64 x8, .int .i64 x9, .int .i64 x10, .int .i64 x11]) :
    (w.alloc (.cells cs t)).cell? ⟨w.heap.size, 3, none⟩ = some (.string x4) ∧ (w.alloc (.cells cs t)).cell? ⟨w.heap.size, 6, none⟩ = some x7 := by
  subst h
  refine ⟨?_, ?_⟩ <;> (rw [World.cell?_alloc_at _ _ _ _ rfl]; rfl)
set_option maxHeartbeats 8000000 in
theorem standing_n (w : World) (g m cap : Nat) (xs : List Dd) (hm : xs.length = m) (hl : m ≤ 100000) (hg : g < w.heap.size) (hH : HoldsK Dd.enc 11 w g 0 xs.toArray) (hgd : ∀ x ∈ xs, GoodD w x) (hwf : ∀ x ∈ xs, DotsWf x) :
    Calls Tryz.prog 122 #[.slice (some ⟨g, 0, none⟩) m cap] w fun e w' => StandRet xs w e w' := by
  have hmm := run_makeMap_room Tryz.underlying242 m
  obtain ⟨i0, hi, hz0, hz1, hz2⟩ := info_parts Tryz.info214
  have HH := hid hH
  have HM := hid hm
  have HG := hid hgd
  have HWF := hid hwf
  have hat : Hid (∀ k, k < m → xs[k]! ∈ xs) := fun k hk => by rw [getElem!_pos xs k (by have := HM.out; omega)]; exact List.getElem_mem _
  clear hH hm hgd hwf
  go_enter Tryz.func122, Tryz.ntmps122
  go_wp2
  go_loopw [22] (fun i wr => ∃ k : Nat, k ≤ m ∧ i = .int .i64 k ∧ Hid (StInv xs w wr (((xs.map Dd.abs).take k).foldl addStep fun _ => none) k)) (fun i _ => m - (intOf i).toNat)
  case atStart => exact ⟨0, Nat.zero_le _, rfl, StInv.start w⟩
  case round =>
    obtain ⟨k, hk, rfl, HI⟩ := hrel
    have hsz := HI.out.size
    by_cases hlt : k < m
    · obtain ⟨u, hu⟩ : ∃ u, u = xs[k]! := ⟨_, rfl⟩
      obtain ⟨c0, c1, c2, c3, c4, c5, c6, c7, c8, c9, c10⟩ := holdsK_cells (holdsK_below HH.out HI.out.below hg) (j := k) (u := u) (by have := HM.out; simp; omega) (by rw [hu]; have := HM.out; rw [getElem!_pos xs.toArray k (by simp; omega), getElem!_pos xs k (by omega)]; simp)
      have hwu := HWF.out u (by rw [hu]; exact hat.out k hlt)
      have hstep : ((xs.map Dd.abs).take (k + 1)).foldl addStep (fun _ => none) = addStep (((xs.map Dd.abs).take k).foldl addStep fun _ => none) u.abs := by
        rw [foldl_take_succ _ _ _ (by have := HM.out; simp; omega), map_get_abs xs (by have := HM.out; omega), hu]
      have HST := hid hstep
      have HU := hid hu
      clear hu hstep
      obtain ⟨x1, x2, x3, x4, x5, x6, dp, dl, dc, ⟨x8, x9, x10⟩, x11, ds⟩ := u
      simp only at c0 c1 c2 c3 c4 c5 c6 c7 c8 c9 c10
      have hkey := key_dot ⟨x8, x9, x10⟩ hwu.1
      obtain ⟨D, I, hown, hD, hT⟩ := HI.out.map
      have his := hown.isMap
      have HD := hid hD
      have HTX := hid hT
      clear hD hT
      cases x6 with
      | true =>
        go_wp2
        go_roundw
        case rel =>
          refine ⟨k + 1, by omega, by go_num, ?_⟩
          rw [HST.out]
          exact (HI.out.alloc _).mono (Nat.le_succ _)
        case measure => simp [intOf]; omega
      | false =>
        go_wp2_with (at_mapUpdate; refine wpList_mapUpdate_own _ rfl _ _ _ 242 rfl 175 3 keyed65 Tryz.underlying242 (plainElem Tryz.prog 3) w.heap.size k _ rfl (hown.alloc _) ?hmx _ _ _ rfl rfl hkey _ [] (idxE_mk k (by omega)) ?_; (case hmx => unfold maxLen; omega); intro w1 hown1 hgrow1)
        go_roundw
        case rel =>
          refine ⟨k + 1, by omega, by go_num, ?_⟩
          rw [HST.out]
          exact (HI.out.alloc _).turned hgrow1 hown1 (HD.out.put his hwu.1 k) (HTX.out.put ⟨x8, x9, x10⟩ (by have := HM.out; omega) (congrArg Dd.text HU.out.symm))
        case measure => simp [intOf]; omega
    · have hkm : m = k := by omega
      subst hkm
      have ht : (xs.map Dd.abs).take m = xs.map Dd.abs := List.take_of_length_le (by have := HM.out; simp; omega)
      rw [ht] at HI
      obtain ⟨M0, hM0⟩ : ∃ M0, M0 = (xs.map Dd.abs).foldl addStep fun _ => none := ⟨_, rfl⟩
      rw [← hM0] at HI
      have HM0 := hid hM0
      obtain ⟨wo, hwo⟩ : ∃ wo : World, wo = wr := ⟨wr, rfl⟩
      subst hwo
      clear hM0 ht hlt hk hsz
      go_wp2
      go_loopw [38] (fun i wr => ∃ k : Nat, k ≤ m ∧ i = .int .i64 k ∧ Hid (StInv xs w wr (((xs.map Dd.abs).take k).foldl remStep M0) m)) (fun i _ => m - (intOf i).toNat)
      case atStart => exact ⟨0, Nat.zero_le _, rfl, HI.out⟩
      case round =>
        obtain ⟨k, hk, rfl, HJ⟩ := hrel
        have hsz := HJ.out.size
        by_cases hlt : k < m
        · obtain ⟨u, hu⟩ : ∃ u, u = xs[k]! := ⟨_, rfl⟩
          obtain ⟨c0, c1, c2, c3, c4, c5, c6, c7, c8, c9, c10⟩ := holdsK_cells (holdsK_below HH.out HJ.out.below hg) (j := k) (u := u) (by have := HM.out; simp; omega) (by rw [hu]; have := HM.out; rw [getElem!_pos xs.toArray k (by simp; omega), getElem!_pos xs k (by omega)]; simp)
          have hwu := HWF.out u (by rw [hu]; exact hat.out k hlt)
          have hgu := HG.out u (by rw [hu]; exact hat.out k hlt)
          have hstep : ((xs.map Dd.abs).take (k + 1)).foldl remStep M0 = remStep (((xs.map Dd.abs).take k).foldl remStep M0) u.abs := by
            rw [foldl_take_succ _ _ _ (by have := HM.out; simp; omega), map_get_abs xs (by have := HM.out; omega), hu]
          have HST := hid hstep
          have HU := hid hu
          clear hu hstep
          obtain ⟨x1, x2, x3, x4, x5, x6, dp, dl, dc, ⟨x8, x9, x10⟩, x11, ds⟩ := u
          simp only at c0 c1 c2 c3 c4 c5 c6 c7 c8 c9 c10
          have hdl : ds.length = dl := hwu.2.2.1
          have hdm : dl ≤ 1000 := by rw [← hdl]; exact hwu.2.2.2
          have HDW : Hid (∀ d ∈ ds, wf3 d) := hwu.2.1
          have HGU : Hid (DotsAt w (.slice dp dl dc) ds) := hgu
          have HDL := hid hdl
          obtain ⟨Mk, hMk⟩ : ∃ Mk, Mk = ((xs.map Dd.abs).take k).foldl remStep M0 := ⟨_, rfl⟩
          rw [← hMk] at HJ HST
          obtain ⟨wb, hwb⟩ : ∃ wb : World, wb = wr := ⟨wr, rfl⟩
          subst hwb
          clear hwu hgu hdl hMk
          go_wp2
          obtain ⟨w1, hw1⟩ : ∃ w1, w1 = wb.alloc (.cells #[.int .i64 x1, .string x2, .int .i64 x3, .string x4, .int .i64 x5, .bool x6, .slice dp dl dc, .int .i64 x8, .int .i64 x9, .int .i64 x10, .int .i64 x11] 214) := ⟨_, rfl⟩
          have T1 : Hid (w1.cell? ⟨wb.heap.size, 3, none⟩ = some (.string x4)) := by rw [hw1]; exact (cells11 wb x1 x2 x3 x4 x5 x6 (.slice dp dl dc) x8 x9 x10 x11 214 _ rfl).1
          have S1 : Hid (wb.heap.size + 1 ≤ w1.heap.size) := hid (by rw [hw1]; simp)
          have I1 : Hid (StInv xs w w1 Mk m) := by rw [hw1]; exact HJ.out.alloc _
          rw [← hw1]
          clear hw1 c0 c1 c2 c3 c4 c5 c6 c7 c8 c9 c10
          go_loopw [46] (fun i wj => ∃ j : Nat, j ≤ dl ∧ i = .int .i64 j ∧ Hid (StInv xs w wj ((ds.take j).foldl (delStep x4) Mk) m) ∧ Hid (wj.cell? ⟨wb.heap.size, 3, none⟩ = some (.string x4)) ∧ Hid (wb.heap.size + 1 ≤ wj.heap.size)) (fun i _ => dl - (intOf i).toNat)
          case atStart => exact ⟨0, Nat.zero_le _, rfl, I1.out, T1.out, S1.out⟩
          case round =>
            obtain ⟨j, hj, rfl, JI, JT, JS⟩ := hrel
            by_cases hjl : j < dl
            · have hjd : j < ds.length := by have := HDL.out; omega
              obtain ⟨bd, od, rfl, q0, q1, q2⟩ := dots_at HGU.out hjd
              have up : ∀ {a : Addr} {v : Value}, w.cell? a = some v → wr.cell? a = some v := fun {a v} h => by rw [JI.out.below.cell (lt_of_cell h)]; exact h
              have r0 := up q0
              have r1 := up q1
              have r2 := up q2
              have hwd := HDW.out ds[j]! (by rw [getElem!_pos ds j hjd]; exact List.getElem_mem _)
              have hfold : (ds.take (j + 1)).foldl (delStep x4) Mk = delStep x4 ((ds.take j).foldl (delStep x4) Mk) ds[j]! := foldl_take_succ _ _ _ hjd
              obtain ⟨Mj, hMj⟩ : ∃ Mj, Mj = (ds.take j).foldl (delStep x4) Mk := ⟨_, rfl⟩
              rw [← hMj] at hfold JI
              obtain ⟨d, hd⟩ : ∃ d, d = ds[j]! := ⟨_, rfl⟩
              rw [← hd] at r0 r1 r2 hwd hfold
              obtain ⟨d1, d2, d3⟩ := d
              simp only at r0 r1 r2
              have hkey := key_dot ⟨d1, d2, d3⟩ hwd
              simp only at hkey
              have HF := hid hfold
              clear q0 q1 q2 up hMj hd hfold
              obtain ⟨wq, hwq⟩ : ∃ wq, wq = wr.alloc (.cells #[.int .i64 d1, .int .i64 d2, .int .i64 d3] 175) := ⟨_, rfl⟩
              have IQ : StInv xs w wq Mj m := by rw [hwq]; exact JI.out.alloc _
              obtain ⟨D, I, hown, hD, hT⟩ := IQ.map
              have hdD := hD _ hwd
              have hdT := hT ⟨d1, d2, d3⟩
              have t0 : wq.cell? ⟨wr.heap.size, 0, none⟩ = some (.int .i64 d1) := by rw [hwq]; simp
              have t1 : wq.cell? ⟨wr.heap.size, 1, none⟩ = some (.int .i64 d2) := by rw [hwq]; simp
              have t2 : wq.cell? ⟨wr.heap.size, 2, none⟩ = some (.int .i64 d3) := by rw [hwq]; simp
              have t3 : wq.cell? ⟨wb.heap.size, 3, none⟩ = some (.string x4) := by rw [hwq]; exact cell_alloc JT.out _
              have hsq : wb.heap.size + 1 ≤ wq.heap.size := by rw [hwq]; have := JS.out; simp; omega
              have hwbn : wb.heap.size ≠ w.heap.size := by omega
              have HIQ := hid IQ
              have HDD := hid hD
              have HTT := hid hT
              have HSQ := hid hsq
              have hbq := IQ.below
              clear IQ hD hT hsq
              go_upto_region 14 with (fail)
              rw [← hwq]
              clear hwq r0 r1 r2
              cases hI : I ⟨d1, d2, d3⟩ with
              | none =>
                rw [hI] at hdD hdT
                have hdh : Maps.has D (klD ⟨d1, d2, d3⟩) = false := hdD.1
                have HN : Hid (Mj ⟨d1, d2, d3⟩ = none) := hdT.1
                clear hdD hdT hI hbq
                go_wp2_with (at_lookup; refine wpList_lookup_own_ok_int _ rfl _ _ 242 rfl 175 3 .i64 keyed65 Tryz.underlying242 Tryz.underlying3 (Tryz.zero3 _) w.heap.size m D rfl hown _ _ rfl hkey ?_; intro c _ _)
                go_quiet (fail)
                go_wp2
                refine ⟨⟨j + 1, by omega, by go_num, ?_, t3, HSQ.out⟩, by simp [intOf]; omega⟩
                rw [HF.out, delStep_none HN.out]
                exact HIQ.out.draw _
              | some i =>
                rw [hI] at hdD hdT
                have hdh : Maps.has D (klD ⟨d1, d2, d3⟩) = true := hdD.1
                have hdv : D.atKey (klD ⟨d1, d2, d3⟩) (.lit (.int .i64 0)) = .lit (.int .i64 (i : Int)) := hdD.2
                have hix : i < m := by rw [← HM.out]; exact hdT.2 i rfl
                obtain ⟨y, hy⟩ : ∃ y, y = xs[i]! := ⟨_, rfl⟩
                obtain ⟨_, _, _, e3, _⟩ := holdsK_cells (holdsK_below HH.out hbq hg) (j := i) (u := y) (by have := HM.out; simp; omega) (by rw [hy]; have := HM.out; rw [getElem!_pos xs.toArray i (by simp; omega), getElem!_pos xs i (by omega)]; simp)
                have HN : Hid (Mj ⟨d1, d2, d3⟩ = some y.text) := by rw [hy]; exact hdT.1
                obtain ⟨y4, hy4⟩ : ∃ y4, y4 = y.text := ⟨_, rfl⟩
                rw [← hy4] at e3 HN
                clear hdD hdT hI hbq hy hy4
                by_cases he : y4 = x4
                · subst he
                  have heq : (y4.toList == y4.toList) = true := by simp
                  go_wp2_with (at_lookup; refine wpList_lookup_own_ok_int _ rfl _ _ 242 rfl 175 3 .i64 keyed65 Tryz.underlying242 Tryz.underlying3 (Tryz.zero3 _) w.heap.size m D rfl hown _ _ rfl hkey ?_; intro c hc _; rw [hdv] at hc; obtain rfl : (i : Int) = c := by injection hc with hc; injection hc)
                  go_quiet (fail)
                  go_wp2_with (at_delete; refine wpList_delete_own _ rfl _ _ 242 175 rfl 3 keyed65 Tryz.underlying242 (plainElem Tryz.prog 3) w.heap.size m D rfl hown _ _ rfl hkey ?_; intro w2 hown2 hturn2)
                  have hg2 := hturn2.grown
                  have hst : StInv xs w w2 (upd Mj ⟨d1, d2, d3⟩ none) m := (HIQ.out.draw _).turned hg2 hown2 (HDD.out.del hwd) (HTT.out.del _)
                  refine ⟨⟨j + 1, by omega, by go_num, ?_, hg2.cell (w := wq.drewN _) t3 (fun e => hwbn (Option.some.inj e)), Nat.le_trans HSQ.out hg2.size⟩, by simp [intOf]; omega⟩
                  rw [HF.out]
                  unfold delStep
                  rw [if_pos (by rw [HN.out]; rfl)]
                  exact hst
                · have hne : (y4.toList == x4.toList) = false := beq_eq_false_iff_ne.2 (ne_toList he)
                  go_wp2_with (at_lookup; refine wpList_lookup_own_ok_int _ rfl _ _ 242 rfl 175 3 .i64 keyed65 Tryz.underlying242 Tryz.underlying3 (Tryz.zero3 _) w.heap.size m D rfl hown _ _ rfl hkey ?_; intro c hc _; rw [hdv] at hc; obtain rfl : (i : Int) = c := by injection hc with hc; injection hc)
                  go_quiet (fail)
                  go_wp2
                  refine ⟨⟨j + 1, by omega, by go_num, ?_, t3, HSQ.out⟩, by simp [intOf]; omega⟩
                  rw [HF.out]
                  unfold delStep
                  rw [if_neg (by rw [HN.out]; exact he)]
                  exact HIQ.out.draw _
            · have hjm : dl = j := by omega
              subst hjm
              go_wp2
              refine ⟨⟨k + 1, by omega, by go_num, ?_⟩, by simp [intOf]; omega⟩
              rw [HST.out]
              have := JI.out
              rw [List.take_of_length_le (by have := HDL.out; omega)] at this
              exact this
        · have hkm : m = k := by omega
          subst hkm
          have ht : (xs.map Dd.abs).take m = xs.map Dd.abs := List.take_of_length_le (by have := HM.out; simp; omega)
          rw [ht, HM0.out] at HJ
          have HJ2 : Hid (StInv xs w wr (finalMap (xs.map Dd.abs)) m) := HJ
          obtain ⟨Mf, hMf⟩ : ∃ Mf, Mf = finalMap (xs.map Dd.abs) := ⟨_, rfl⟩
          rw [← hMf] at HJ2
          have HMF := hid hMf
          obtain ⟨wb, hwb⟩ : ∃ wb : World, wb = wr := ⟨wr, rfl⟩
          subst hwb
          clear hMf ht hlt hk hsz HJ
          go_wp2
          go_loopw [12, 75] (fun v i wr => ∃ k : Nat, k ≤ m ∧ i = .int .i64 k ∧ Hid (StInv xs w wr Mf m) ∧ Hid (wr.ownsRow (w.heap.size + 1) 214 11 v ((xs.take k).filter fun x => (Mf x.dot).isSome).length (((xs.take k).filter fun x => (Mf x.dot).isSome).flatMap Dd.enc))) (fun _ i _ => m - (intOf i).toNat)
          case atStart => exact ⟨0, Nat.zero_le _, rfl, HJ2.out, World.ownsRow_nil _ _ _ _⟩
          case round =>
            obtain ⟨k, hk, rfl, HK, HR⟩ := hrel
            have hsz := HK.out.size
            by_cases hlt : k < m
            · obtain ⟨u, hu⟩ : ∃ u, u = xs[k]! := ⟨_, rfl⟩
              obtain ⟨c0, c1, c2, c3, c4, c5, c6, c7, c8, c9, c10⟩ := holdsK_cells (holdsK_below HH.out HK.out.below hg) (j := k) (u := u) (by have := HM.out; simp; omega) (by rw [hu]; have := HM.out; rw [getElem!_pos xs.toArray k (by simp; omega), getElem!_pos xs k (by omega)]; simp)
              have hwu := HWF.out u (by rw [hu]; exact hat.out k hlt)
              have hfil : (xs.take (k + 1)).filter (fun x => (Mf x.dot).isSome) = (xs.take k).filter (fun x => (Mf x.dot).isSome) ++ (if (Mf u.dot).isSome = true then [u] else []) := by
                rw [List.take_succ_eq_append_getElem (by have := HM.out; omega), List.filter_append, hu, getElem!_pos xs k (by have := HM.out; omega)]
                congr 1
                simp [List.filter_cons]
              have hfl : ((xs.take k).filter (fun x => (Mf x.dot).isSome)).length ≤ m := Nat.le_trans (List.length_filter_le _ _) (by simp; omega)
              have HF := hid hfil
              clear hu hfil
              obtain ⟨x1, x2, x3, x4, x5, x6, dp, dl, dc, ⟨x8, x9, x10⟩, x11, ds⟩ := u
              simp only at c0 c1 c2 c3 c4 c5 c6 c7 c8 c9 c10
              have hkey := key_dot ⟨x8, x9, x10⟩ hwu.1
              simp only at hkey
              obtain ⟨D, I, hown, hD, hT⟩ := HK.out.map
              have hdD := (hD _ hwu.1).1
              have hdI : (I ⟨x8, x9, x10⟩).isSome = (Mf ⟨x8, x9, x10⟩).isSome := by rw [(hT ⟨x8, x9, x10⟩).1]; cases I ⟨x8, x9, x10⟩ <;> rfl
              rw [hdI] at hdD
              clear hdI hT
              have hrow := HR.out
              obtain ⟨fs, hfs⟩ : ∃ fs, fs = (xs.take k).filter fun x => (Mf x.dot).isSome := ⟨_, rfl⟩
              rw [← hfs] at hrow HF hfl
              clear hfs hD hwu HR
              cases hb : (Mf ⟨x8, x9, x10⟩).isSome with
              | false =>
                rw [hb] at hdD
                go_wp2_with (at_lookup; refine wpList_lookup_own_ok_int _ rfl _ _ 242 rfl 175 3 .i64 keyed65 Tryz.underlying242 Tryz.underlying3 (Tryz.zero3 _) w.heap.size m D rfl (hown.alloc _) _ _ rfl hkey ?_; intro c _ _)
                refine ⟨⟨k + 1, by omega, by go_num, HK.out.alloc _, ?_⟩, by simp [intOf]; omega⟩
                rw [HF.out]
                simp only [hb, Bool.false_eq_true, if_false, List.append_nil]
                exact hrow.alloc _
              | true =>
                rw [hb] at hdD
                go_wp2_with (first
                  | (at_lookup; refine wpList_lookup_own_ok_int _ rfl _ _ 242 rfl 175 3 .i64 keyed65 Tryz.underlying242 Tryz.underlying3 (Tryz.zero3 _) w.heap.size m D rfl (hown.alloc _) _ _ rfl hkey ?_; intro c _ _)
                  | (at_builtin; refine wpList_append_own _ rfl _ _ 210 rfl (w.heap.size + 1) 214 i0 _ 11 120 Tryz.underlying210 hi hz0 hz1 hz2 rfl (by decide) _ _ _ rfl ((hrow.alloc _).alloc _) ⟨wr.heap.size + 1, 0, none⟩ 1 1 [.int .i64 x1, .string x2, .int .i64 x3, .string x4, .int .i64 x5, .bool x6, .slice dp dl dc, .int .i64 x8, .int .i64 x9, .int .i64 x10, .int .i64 x11] rfl rfl (cells11_new _ _ _ _ (by simp)) ?ho1 ?ho2 ?ho3 ?ho4 ?_; (case ho1 => exact Dd.enc_one ⟨x1, x2, x3, x4, x5, x6, dp, dl, dc, ⟨x8, x9, x10⟩, x11, ds⟩); (case ho2 => unfold maxLen; omega); (case ho3 => omega); (case ho4 => simp; omega); intro v' w2 hown' hgrow2 hnil2)
                  | go_in)
                refine ⟨⟨k + 1, by omega, by go_num, ((HK.out.alloc _).alloc _).beside hgrow2 (fun j hj => (hrow.lt j hj).1), ?_⟩, by simp [intOf]; omega⟩
                rw [HF.out]
                simp only [hb, if_true, List.length_append, List.length_singleton, List.flatMap_append, List.flatMap_singleton]
                exact hown'
            · have hkm : m = k := by omega
              subst hkm
              go_wp2
              go_ret
              have := HR.out
              rw [List.take_of_length_le (by have := HM.out; omega), HMF.out] at this
              exact ⟨_, rfl, this, HK.out.below⟩
end Go.Proofs.YtepnghacjggkkaaGreatDoor
