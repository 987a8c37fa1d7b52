/- The ops of a transaction on a key, whatever they are; dotsOf: all dots that ops name; stands: does a text of the place stand?. -/
import Derived.Test.YtepnghacjggkkaaGreatDoorGYC
import Derived.Test.YtepnghacjggkkaaGreatDoorGVStand
import Derived.Test.YtepnghacjggkkaaGreatDoorGWState
import Derived.Deep.RegionHeld
namespace Go.Proofs.YtepnghacjggkkaaGreatDoor
open Go.RowKit Go.Sort Go.Maps
set_option maxRecDepth 100000
set_option linter.unusedSectionVars false
variable [Inhabited ComV] [DecidableEq D3] [Inhabited D3] [Inhabited Dd] [Inhabited Dn] [Inhabited OpV]

def Dd.op (x : Dd) : OpV := ⟨x.at_, x.key, x.kind, x.text, x.n, x.rem, x.ds⟩
theorem ops_raw {w : World} : ∀ {rows : List (List Value)} {os : List OpV}, F2 (OpRow w) rows os → ∃ xs : List Dd, xs.map Dd.enc7 = rows ∧ xs.map Dd.op = os ∧ ∀ x ∈ xs, GoodD w x
  | [], [], _ => ⟨[], rfl, rfl, fun _ h => by simp at h⟩
  | r :: rs, o :: os, ⟨⟨dv, h1, h2⟩, h⟩ => by
    obtain ⟨xs, e1, e2, h3⟩ := ops_raw h
    obtain ⟨dp, dc, rfl⟩ := h2.len
    refine ⟨⟨o.at_, o.key, o.kind, o.text, o.n, o.rem, dp, o.dots.length, dc, default, 0, o.dots⟩ :: xs, ?_, ?_, fun x hx => ?_⟩
    · rw [List.map_cons, e1, h1]; rfl
    · rw [List.map_cons, e2]; rfl
    · rcases List.mem_cons.1 hx with rfl | hx
      · exact h2
      · exact h3 x hx
theorem ops_cells {w : World} {v : Value} {os : List OpV} (h : OpsAt w v os) : ∃ (xs : List Dd) (ad : Option Addr) (cap : Nat), xs.map Dd.op = os ∧ (∀ x ∈ xs, GoodD w x) ∧ v = .slice ad os.length cap ∧ (os = [] ∨ ∃ b off, ad = some ⟨b, off, none⟩ ∧ ∀ j, j < xs.length → ∀ i u, (xs[j]!.enc7)[i]? = some u → w.cell? ⟨b, off + j * 7 + i, none⟩ = some u) := by
  obtain ⟨rows, ⟨ad, cap, rfl, h1, h2, h3⟩, hf⟩ := h
  obtain ⟨xs, e1, e2, h4⟩ := ops_raw hf
  have hl := f2_len hf
  refine ⟨xs, ad, cap, e2, h4, by rw [hl], ?_⟩
  rcases h3 with rfl | ⟨b, off, rfl, h3⟩
  · exact .inl (List.eq_nil_of_length_eq_zero hl.symm)
  · refine .inr ⟨b, off, rfl, fun j hj i u hu => ?_⟩
    refine (h3 j (xs[j]!.enc7) ?_).2 i u hu
    rw [← e1, List.getElem?_map, List.getElem?_eq_getElem hj, getElem!_pos xs j hj]
    rfl
theorem rowO_of_owns {w : World} {base : Nat} {v : Value} {xs : List Dd} (h : w.ownsRow base 97 7 v xs.length (xs.flatMap Dd.enc7)) : RowO w base v xs := by
  have hflat : ∀ (xs : List Dd) (j i : Nat), j < xs.length → i < 7 → (xs.flatMap Dd.enc7)[j * 7 + i]? = some (xs[j]!.enc7[i]!) := by
    intro xs
    induction xs with
    | nil => intro j i hj; simp at hj
    | cons x r ih =>
      intro j i hj hi
      rw [List.flatMap_cons]
      cases j with
      | zero =>
        rw [List.getElem?_append_left (by rw [Dd.enc7_length]; omega), Nat.zero_mul, Nat.zero_add, List.getElem?_eq_getElem (by rw [Dd.enc7_length]; exact hi)]
        show some _ = some (x.enc7[i]!)
        rw [getElem!_pos x.enc7 i (by rw [Dd.enc7_length]; exact hi)]
      | succ j =>
        rw [List.getElem?_append_right (by rw [Dd.enc7_length]; omega), Dd.enc7_length, show (j + 1) * 7 + i - 7 = j * 7 + i by omega, ih j i (by simpa using hj) hi]
        simp
  obtain ⟨_, h2⟩ := h
  rcases h2 with ⟨rfl, h0⟩ | ⟨g, cap, cur, rfl, hb, hh, hn, hm, hs, ht⟩
  · exact .inl ⟨rfl, List.eq_nil_of_length_eq_zero h0⟩
  · refine .inr ⟨g, cap, rfl, hb, (Array.getElem?_eq_some_iff.1 hh).1, hn, ?_⟩
    rw [holdsO_iff]
    intro j hj i hi
    have hj' : j < xs.length := by simpa using hj
    have e := hflat xs j i hj' hi
    rw [← ht, List.getElem?_take, if_pos (by omega), Array.getElem?_toList] at e
    refine ⟨?_, ?_⟩
    · simp only [World.cell?, hh]
      rw [e]
      simp
    · simp only [World.frozen?, hh]
      simp
theorem Dd.enc7_one (x : Dd) : ∀ v ∈ x.enc7, v.oneCell' = true := fun v hv => by
  simp only [Dd.enc7, List.mem_cons, List.not_mem_nil, or_false] at hv
  rcases hv with rfl | rfl | rfl | rfl | rfl | rfl | rfl <;> rfl
def OnRet (key : ByteArray) (os : List OpV) (wq w : World) (e : Ending) (w' : World) : Prop := ∃ v xs, e = .returned v ∧ RowO w' w.heap.size v xs ∧ xs.map Dd.op = os.filter (fun o => decide (o.key = key)) ∧ (∀ x ∈ xs, GoodD wq x) ∧ Below w.heap.size w w'
set_option maxHeartbeats 4000000 in
theorem opsOn_any (wq w : World) (hq : Below wq.heap.size wq w) (xb pb : Nat) (av ov : Value) (key : ByteArray) (os : List OpV) (h : TraBox w xb pb av ov) (ho : OpsAt wq ov os) (hl : os.length ≤ 12) : Calls Tryz.prog 53 #[.pointer (some ⟨xb, 0, none⟩), .string key] w (OnRet key os wq w) := by
  obtain ⟨xs, ad, cap, e1, hG, rfl, hc⟩ := ops_cells ho
  by_cases h0 : os = []
  · subst h0
    have t2 : w.cell? ⟨xb, 2, none⟩ = some (.slice ad 0 cap) := (cell_of h).trans rfl
    clear h hc ho hG e1 hq
    go_enter Tryz.func53, Tryz.ntmps53
    go_wp2
    refine wp_loop_rounds 1 ?_
    rw [rounds_succ]
    go_wp2
    go_ret
    exact ⟨_, [], rfl, .inl ⟨rfl, rfl⟩, rfl, fun _ h => by simp at h, Below.refl _ _⟩
  obtain ⟨b, off, rfl, hc2⟩ := hc.resolve_left h0
  have hxl : xs.length = os.length := by rw [← e1, List.length_map]
  obtain ⟨m, hm⟩ : ∃ m, m = os.length := ⟨_, rfl⟩
  rw [← hm] at h hl hxl
  have t2 : w.cell? ⟨xb, 2, none⟩ = some (.slice (some ⟨b, off, none⟩) m cap) := (cell_of h).trans rfl
  have HM := hid hm
  have HX := hid hxl
  have HC : Hid (∀ j, j < xs.length → ∀ i u, (xs[j]!.enc7)[i]? = some u → w.cell? ⟨b, off + j * 7 + i, none⟩ = some u) := (show ∀ j, _ → _ from fun j hj i u hu => by rw [hq.cell (p := ⟨b, off + j * 7 + i, none⟩) (lt_of_cell (hc2 j hj i u hu))]; exact hc2 j hj i u hu)
  have HG := hid hG
  have HE := hid e1
  obtain ⟨i0, hi, hz0, hz1, hz2⟩ := info_parts Tryz.info97
  clear h hm hc hc2 ho hG e1 hxl hq
  go_enter Tryz.func53, Tryz.ntmps53
  go_wp2
  go_loopw [5, 13] (fun v i wr => ∃ k : Nat, k ≤ m ∧ i = .int .i64 k ∧ Hid (Below w.heap.size w wr) ∧ Hid (wr.ownsRow w.heap.size 97 7 v ((xs.take k).filter fun x => decide (x.key = key)).length (((xs.take k).filter fun x => decide (x.key = key)).flatMap Dd.enc7))) (fun _ i _ => m - (intOf i).toNat)
  case atStart => exact ⟨0, Nat.zero_le _, rfl, Below.refl _ _, World.ownsRow_nil _ _ _ _⟩
  case round =>
    obtain ⟨k, hk, rfl, HB, HR⟩ := hrel
    have hsz := HB.out.size
    by_cases hlt : k < m
    · obtain ⟨u, hu⟩ : ∃ u, u = xs[k]! := ⟨_, rfl⟩
      have hkx : k < xs.length := by have := HX.out; omega
      have hcell : ∀ i c, (u.enc7)[i]? = some c → wr.cell? ⟨b, off + k * 7 + i, none⟩ = some c := fun i c hi => by
        have := HC.out k hkx i c (by rw [← hu]; exact hi)
        rw [HB.out.cell (p := ⟨b, off + k * 7 + i, none⟩) (lt_of_cell this)]
        exact this
      have hfil : (xs.take (k + 1)).filter (fun x => decide (x.key = key)) = (xs.take k).filter (fun x => decide (x.key = key)) ++ (if u.key = key then [u] else []) := by
        rw [List.take_succ_eq_append_getElem hkx, List.filter_append, hu, getElem!_pos xs k hkx]
        congr 1
        simp only [List.filter_cons, List.filter_nil]
        by_cases e : xs[k].key = key <;> simp [e]
      have HF := hid hfil
      have hrow := HR.out
      obtain ⟨ys, hys⟩ : ∃ ys, ys = (xs.take k).filter (fun x => decide (x.key = key)) := ⟨_, rfl⟩
      have hyl : ys.length ≤ 12 := by rw [hys]; exact Nat.le_trans (List.length_filter_le _ _) (by simp; omega)
      rw [← hys] at hrow HF
      clear hu hfil hys HR
      obtain ⟨x1, x2, x3, x4, x5, x6, dp, dl, dc, x8, x9, ds⟩ := u
      have c0 : wr.cell? ⟨b, off + k * 7, none⟩ = some (.int .i64 x1) := hcell 0 _ rfl
      have c1 : wr.cell? ⟨b, off + k * 7 + 1, none⟩ = some (.string x2) := hcell 1 _ rfl
      have c2 : wr.cell? ⟨b, off + k * 7 + 2, none⟩ = some (.int .i64 x3) := hcell 2 _ rfl
      have c3 : wr.cell? ⟨b, off + k * 7 + 3, none⟩ = some (.string x4) := hcell 3 _ rfl
      have c4 : wr.cell? ⟨b, off + k * 7 + 4, none⟩ = some (.int .i64 x5) := hcell 4 _ rfl
      have c5 : wr.cell? ⟨b, off + k * 7 + 5, none⟩ = some (.bool x6) := hcell 5 _ rfl
      have c6 : wr.cell? ⟨b, off + k * 7 + 6, none⟩ = some (.slice dp dl dc) := hcell 6 _ rfl
      clear hcell
      by_cases he : x2 = key
      · subst he
        go_wp2_with (at_builtin; refine wpList_append_own_srcS rfl _ _ 45 rfl w.heap.size 97 i0 _ 7 88 Tryz.underlying45 hi hz0 hz1 hz2 rfl (by decide) _ _ _ rfl ((hrow.alloc _).alloc _) _ 1 [.int .i64 x1, .string x2, .int .i64 x3, .string x4, .int .i64 x5, .bool x6, .slice dp dl dc] rfl ?hs1 (by simp [Value.oneCell']) ?hm2 ?hm3 ?hm4 ?_; (case hs1 => exact .inr ⟨_, _, rfl, rfl, cells11_new _ _ _ _ (by simp)⟩); (case hm2 => unfold maxLen; omega); (case hm3 => omega); (case hm4 => simp; omega); intro v' w5 hown' hgrow2 hnil2)
        refine ⟨⟨k + 1, by omega, by go_num, ?_, ?_⟩, by simp [intOf]; omega⟩
        · exact ((HB.out.alloc hsz _).alloc (by simp; omega) _).grown hgrow2 (by simp; omega) (fun j hj => (hrow.lt j hj).1)
        · rw [HF.out]
          simp only [if_true, List.length_append, List.length_singleton, List.flatMap_append, List.flatMap_singleton]
          exact hown'
      · have hne : (x2.toList == key.toList) = false := beq_eq_false_iff_ne.2 (ne_toList he)
        go_wp2
        refine ⟨⟨k + 1, by omega, by go_num, HB.out.alloc hsz _, ?_⟩, by simp [intOf]; omega⟩
        rw [HF.out]
        simp only [he, if_false, List.append_nil]
        exact hrow.alloc _
    · have hkm : m = k := by omega
      subst hkm
      have hrow := HR.out
      rw [List.take_of_length_le (by have := HX.out; omega)] at hrow
      have HRW := hid hrow
      obtain ⟨a5, c5, rfl⟩ := row_shape hrow
      clear hrow HR
      go_wp2
      go_ret
      refine ⟨_, _, rfl, rowO_of_owns HRW.out, ?_, fun x hx => HG.out x (List.mem_filter.1 hx).1, HB.out⟩
      rw [← HE.out, List.filter_map]
      rfl
end Go.Proofs.YtepnghacjggkkaaGreatDoor
namespace Go.Proofs.YtepnghacjggkkaaGreatDoor
open Go.RowKit Go.Sort Go.Maps
set_option maxRecDepth 100000
set_option linter.unusedSectionVars false
variable [Inhabited ComV] [DecidableEq D3] [Inhabited D3] [Inhabited Dd] [Inhabited Dn] [Inhabited OpV]

def GoneAt (w : World) (mb : Nat) (l : List D3) : Prop := ∃ (n : Nat) (D : DataW Unit), w.ownsMap Tryz.prog 175 unitElem mb n D ∧ ∀ d, wf3 d → Maps.has D (klD d) = decide (d ∈ l)
structure DoI (w wr : World) (l : List D3) (n : Nat) : Prop where
  map : ∃ D : DataW Unit, wr.ownsMap Tryz.prog 175 unitElem w.heap.size n D ∧ ∀ d, wf3 d → Maps.has D (klD d) = decide (d ∈ l)
  below : Below w.heap.size w wr
  size : w.heap.size + 1 ≤ wr.heap.size
theorem DoI.start (w : World) : DoI w (w.alloc (.map #[] 0)) [] 0 where
  map := ⟨.map [], World.ownsMap_made _ _ _ _, fun _ _ => rfl⟩
  below := below_alloc _ _
  size := by simp
theorem DoI.alloc {w wr : World} {l : List D3} {n : Nat} (h : DoI w wr l n) (o : Obj) : DoI w (wr.alloc o) l n where
  map := let ⟨D, h1, h2⟩ := h.map; ⟨D, h1.alloc o, h2⟩
  below := h.below.alloc (by have := h.size; omega) o
  size := by have := h.size; simp; omega
theorem DoI.mono {w wr : World} {l : List D3} {n n' : Nat} (h : DoI w wr l n) (hn : n ≤ n') : DoI w wr l n' where
  map := let ⟨D, h1, h2⟩ := h.map; ⟨D, h1.mono hn, h2⟩
  below := h.below
  size := h.size
theorem DoI.put {w wr w1 : World} {l : List D3} {n : Nat} (h : DoI w wr l n) {D : DataW Unit} (hD : ∀ d, wf3 d → Maps.has D (klD d) = decide (d ∈ l)) (hi : IsMap D) {d : D3} (hd : wf3 d) (hg : wr.grownBy w1 (some w.heap.size)) (hm : w1.ownsMap Tryz.prog 175 unitElem w.heap.size (n + 1) (D.put (klD d) (.agg []))) : DoI w w1 (l ++ [d]) (n + 1) where
  map := ⟨_, hm, fun e he => by
    by_cases q : d = e
    · subst q
      rw [has_put_same hi (klD_key _)]
      simp
    · rw [has_put_other (fun x => q (klD_inj he hd x).symm), hD e he]
      simp only [decide_eq_decide, List.mem_append, List.mem_singleton]
      exact ⟨.inl, fun x => x.resolve_right fun y => q y.symm⟩⟩
  below := h.below.grown hg (by have := h.size; omega) (fun j hj => by cases hj; exact Nat.le_refl _)
  size := Nat.le_trans h.size hg.size
set_option maxHeartbeats 8000000 in
theorem dotsOf_any (w : World) (g m cap : Nat) (xs : List Dd) (hm : xs.length = m) (hl : m ≤ 12) (hg : g < w.heap.size) (hH : HoldsK Dd.enc7 7 w g 0 xs.toArray) (hgd : ∀ x ∈ xs, GoodD w x) (hwf : ∀ x ∈ xs, (∀ d ∈ x.ds, wf3 d) ∧ x.ds.length ≤ 60) :
    Calls Tryz.prog 81 #[.slice (some ⟨g, 0, none⟩) m cap] w fun e w' => e = .returned (.map (some w.heap.size)) ∧ GoneAt w' w.heap.size (xs.flatMap Dd.ds) ∧ Below w.heap.size w w' := by
  have HH := hid hH
  have HM := hid hm
  have HG := hid hgd
  have HWF := hid hwf
  have hat : Hid (∀ k, k < m → xs[k]! ∈ xs) := fun k hk => by rw [getElem!_pos xs k (by have := HM.out; omega)]; exact List.getElem_mem _
  clear hH hm hgd hwf
  have hmm : ∀ W, (Instr.makeMap 131 none).run Tryz.prog W = .ok (.map (some W.heap.size)) (W.alloc (.map #[] 0)) := fun W => by simp [Instr.makeMap]
  go_enter Tryz.func81, Tryz.ntmps81
  go_wp2
  go_loopw [11] (fun i wr => ∃ k : Nat, k ≤ m ∧ i = .int .i64 k ∧ Hid (DoI w wr ((xs.take k).flatMap Dd.ds) (100 * k))) (fun i _ => m - (intOf i).toNat)
  case atStart => exact ⟨0, Nat.zero_le _, rfl, DoI.start w⟩
  case round =>
    obtain ⟨k, hk, rfl, HI⟩ := hrel
    have hsz := HI.out.size
    by_cases hlt : k < m
    · obtain ⟨u, hu⟩ : ∃ u, u = xs[k]! := ⟨_, rfl⟩
      obtain ⟨c0, c1, c2, c3, c4, c5, c6⟩ := holdsO_cells (holdsO_below HH.out HI.out.below hg) (j := k) (u := u) (by have := HM.out; simp; omega) (by rw [hu]; have := HM.out; rw [getElem!_pos xs.toArray k (by simp; omega), getElem!_pos xs k (by omega)]; simp)
      have hwu := HWF.out u (by rw [hu]; exact hat.out k hlt)
      have hgu := HG.out u (by rw [hu]; exact hat.out k hlt)
      have hstep : (xs.take (k + 1)).flatMap Dd.ds = (xs.take k).flatMap Dd.ds ++ u.ds := by
        rw [List.take_succ_eq_append_getElem (by have := HM.out; omega), List.flatMap_append, hu, getElem!_pos xs k (by have := HM.out; omega)]
        simp
      have HST := hid hstep
      clear hu hstep
      obtain ⟨x1, x2, x3, x4, x5, x6, dp, dl, dc, x8, x11, ds⟩ := u
      simp only at c0 c1 c2 c3 c4 c5 c6
      have hdl : ds.length = dl := GoodD.len hgu
      have hdm : dl ≤ 60 := by rw [← hdl]; exact hwu.2
      have HDW : Hid (∀ d ∈ ds, wf3 d) := hwu.1
      have HGU : Hid (DotsAt w (.slice dp dl dc) ds) := hgu
      have HDL := hid hdl
      obtain ⟨acc, hacc⟩ : ∃ acc, acc = (xs.take k).flatMap Dd.ds := ⟨_, rfl⟩
      rw [← hacc] at HI HST
      obtain ⟨wb, hwb⟩ : ∃ wb : World, wb = wr := ⟨wr, rfl⟩
      subst hwb
      clear hwu hgu hdl hacc
      go_wp2
      obtain ⟨w1, hw1⟩ : ∃ w1, w1 = wb.alloc (.cells #[.int .i64 x1, .string x2, .int .i64 x3, .string x4, .int .i64 x5, .bool x6, .slice dp dl dc] 97) := ⟨_, rfl⟩
      have I1 : Hid (DoI w w1 acc (100 * k)) := by rw [hw1]; exact HI.out.alloc _
      rw [← hw1]
      clear hw1 c0 c1 c2 c3 c4 c5 c6
      go_loopw [18] (fun i wj => ∃ j : Nat, j ≤ dl ∧ i = .int .i64 j ∧ Hid (DoI w wj (acc ++ ds.take j) (100 * k + j))) (fun i _ => dl - (intOf i).toNat)
      case atStart => exact ⟨0, Nat.zero_le _, rfl, hid (p := DoI w w1 (acc ++ ds.take 0) (100 * k + 0)) (by simpa using I1.out)⟩
      case round =>
        obtain ⟨j, hj, rfl, JI⟩ := hrel
        by_cases hjl : j < dl
        · have hjd : j < ds.length := by have := HDL.out; omega
          obtain ⟨bd, od, rfl, q0, q1, q2⟩ := dots_at HGU.out hjd
          have up : ∀ {a : Addr} {v : Value}, w.cell? a = some v → wr.cell? a = some v := fun {a v} h => by rw [JI.out.below.cell (lt_of_cell h)]; exact h
          have r0 := up q0
          have r1 := up q1
          have r2 := up q2
          have hwd := HDW.out ds[j]! (by rw [getElem!_pos ds j hjd]; exact List.getElem_mem _)
          have hfold : acc ++ ds.take (j + 1) = (acc ++ ds.take j) ++ [ds[j]!] := by rw [List.take_succ_eq_append_getElem hjd, getElem!_pos ds j hjd, List.append_assoc]
          obtain ⟨Mj, hMj⟩ : ∃ Mj, Mj = acc ++ ds.take j := ⟨_, rfl⟩
          rw [← hMj] at hfold JI
          obtain ⟨d, hd⟩ : ∃ d, d = ds[j]! := ⟨_, rfl⟩
          rw [← hd] at r0 r1 r2 hwd hfold
          obtain ⟨d1, d2, d3⟩ := d
          simp only at r0 r1 r2
          have hkey := key_dot ⟨d1, d2, d3⟩ hwd
          simp only at hkey
          have HF := hid hfold
          have HWD := hid hwd
          clear q0 q1 q2 up hMj hd hfold hwd
          obtain ⟨D, hown, hD⟩ := JI.out.map
          have his := hown.isMap
          have HD := hid hD
          clear hD
          go_wp2_with (at_mapUpdate; refine wpList_mapUpdate_own _ rfl _ _ _ 131 rfl 175 172 keyed65 Tryz.underlying131 (unitElem (H := Unit)) w.heap.size (100 * k + j) _ rfl (hown.alloc _) ?hmx _ _ _ rfl rfl hkey _ [] unitElem_mk ?_; (case hmx => unfold maxLen; omega); intro w2 hown2 hgrow2)
          refine ⟨⟨j + 1, by omega, by go_num, ?_⟩, by simp [intOf]; omega⟩
          rw [HF.out]
          exact (JI.out.alloc _).put HD.out his HWD.out hgrow2 hown2
        · have hjm : dl = j := by omega
          subst hjm
          rw [List.take_of_length_le (by have := HDL.out; omega), ← HST.out] at JI
          go_wp2
          refine ⟨⟨k + 1, by omega, by go_num, ?_⟩, by simp [intOf]; omega⟩
          exact JI.out.mono (by omega)
    · have hkm : m = k := by omega
      subst hkm
      rw [List.take_of_length_le (by have := HM.out; omega)] at HI
      go_wp2
      go_ret
      obtain ⟨D, h1, h2⟩ := HI.out.map
      exact ⟨rfl, ⟨_, D, h1, h2⟩, HI.out.below⟩
end Go.Proofs.YtepnghacjggkkaaGreatDoor
namespace Go.Proofs.YtepnghacjggkkaaGreatDoor
open Go.RowKit Go.Sort Go.Maps
set_option maxRecDepth 100000
set_option linter.unusedSectionVars false
variable [Inhabited ComV] [DecidableEq D3] [Inhabited D3] [Inhabited Dd] [Inhabited Dn] [Inhabited OpV]

theorem stands1_any (W : World) (x : Dd) (B : Nat) (text : ByteArray) (hc : W.cell? ⟨B, 0, none⟩ = some (.string text)) :
    Calls Tryz.prog 103 #[.agg x.enc7.toArray, .pointer (some ⟨B, 0, none⟩)] W fun e w' => e = .returned (.bool (x.rem && decide (x.text = text))) ∧ w' = W.alloc (.cells x.enc7.toArray 97) := by
  obtain ⟨x1, x2, x3, x4, x5, x6, xp, xl, xc, x8, x11, _⟩ := x
  have hB : B < W.heap.size := lt_of_cell hc
  have hne : B ≠ W.heap.size := by omega
  show Calls Tryz.prog 103 #[.agg #[.int .i64 x1, .string x2, .int .i64 x3, .string x4, .int .i64 x5, .bool x6, .slice xp xl xc], .pointer (some ⟨B, 0, none⟩)] W
    fun e w' => e = .returned (.bool (x6 && decide (x4 = text))) ∧ w' = W.alloc (.cells #[.int .i64 x1, .string x2, .int .i64 x3, .string x4, .int .i64 x5, .bool x6, .slice xp xl xc] 97)
  cases x6 with
  | false =>
    go_enter Tryz.func103, Tryz.ntmps103
    go_wp2
    go_ret
    exact ⟨ret_bool (by simp), rfl⟩
  | true =>
    by_cases h : x4 = text
    · subst h
      go_enter Tryz.func103, Tryz.ntmps103
      go_wp2
      go_ret
      exact ⟨ret_bool (by simp), rfl⟩
    · have hb := ne_toList h
      go_enter Tryz.func103, Tryz.ntmps103
      go_wp2
      go_ret
      exact ⟨ret_bool (by rw [decide_eq_false h]; simp [hb]), rfl⟩
theorem GoneAt.below {w w' : World} {mb B : Nat} {l : List D3} (h : GoneAt w mb l) (hb : Below B w w') (hB : mb < B) : GoneAt w' mb l := by
  obtain ⟨n, D, ⟨es, clock, q1, F, hs, hD⟩, h2⟩ := h
  exact ⟨n, D, ⟨es, clock, (hb.block _ hB).trans q1, F, hs, hD⟩, h2⟩
set_option maxHeartbeats 1000000 in
theorem stands2_any (W : World) (d : D3) (B mb : Nat) (l : List D3) (hc : W.cell? ⟨B, 0, none⟩ = some (.map (some mb))) (hG : GoneAt W mb l) (hd : wf3 d) :
    Calls Tryz.prog 105 #[.agg #[.int .i64 d.p, .int .i64 d.t, .int .i64 d.a], .pointer (some ⟨B, 0, none⟩)] W fun e w' => e = .returned (.bool (!decide (d ∈ l))) ∧ Below W.heap.size W w' := by
  have hB : B < W.heap.size := lt_of_cell hc
  have hne : B ≠ W.heap.size := by omega
  obtain ⟨n, D, hown, hD⟩ := hG
  have hkey := key_dot d hd
  have hh := hD d hd
  obtain ⟨q, hq⟩ : ∃ q, q = decide (d ∈ l) := ⟨_, rfl⟩
  rw [← hq] at hh ⊢
  have HH := hid hh
  clear hD hd hq hh
  obtain ⟨x1, x2, x3⟩ := d
  simp only at hkey
  go_enter Tryz.func105, Tryz.ntmps105
  go_wp2_with (at_lookup; refine wpList_lookup_own_unit _ rfl _ _ 131 rfl 175 172 keyed65 Tryz.underlying131 (zero136 _) mb _ D rfl (hown.alloc _) _ _ rfl hkey ?_; rw [HH.out])
  go_ret
  exact ⟨rfl, (below_alloc _ _).trans ((below_alloc _ _).mono (by simp))⟩
def DotsK (text : ByteArray) (ds : List Dn) (W : World) (e : Ending) (w' : World) : Prop := ∃ v out, e = .returned (.tuple #[v, .nilIface]) ∧ IsDots text ds out ∧ (∀ d ∈ out, wf3 d) ∧ out.length ≤ 100000 ∧ DotsAt w' v out ∧ Below W.heap.size W w' ∧ ∀ g o n c, v = .slice (some ⟨g, o, none⟩) n c → W.heap.size ≤ g
theorem wf_sub : ∀ {ds : List D3}, (∀ d ∈ ds, wf3 d) → ∃ zs : List { d : D3 // wf3 d }, zs.map (·.1) = ds
  | [], _ => ⟨[], rfl⟩
  | d :: ds, h => by
    obtain ⟨zs, e⟩ := wf_sub (ds := ds) fun x hx => h x (by simp [hx])
    exact ⟨⟨d, h d (by simp)⟩ :: zs, by rw [List.map_cons, e]⟩
theorem notNamed_any (w : World) (B mb : Nat) (l : List D3) (hc : w.cell? ⟨B, 0, none⟩ = some (.map (some mb))) (hG : GoneAt w mb l) (v : Value) (ds : List D3) (hd : DotsAt w v ds) (hw : ∀ d ∈ ds, wf3 d) (hl : ds.length ≤ 100000) :
    Calls Tryz.prog 104 #[v, .func (.func 105) #[] #[.pointer (some ⟨B, 0, none⟩)]] w fun e w' => e = .returned (.bool (ds.any fun d => !decide (d ∈ l))) ∧ Below w.heap.size w w' := by
  have hmb : mb < w.heap.size := by
    obtain ⟨n, D, ⟨es, clock, q1, _⟩, _⟩ := hG
    exact lt_of_heap q1
  obtain ⟨ad, cap, rfl, hn, hcap, h⟩ := hd
  by_cases h0 : ds = []
  · subst h0
    refine (containsDots_none w ad cap _).mono ?_
    rintro e w' ⟨rfl, rfl⟩
    exact ⟨rfl, Below.refl _ _⟩
  · rcases h with h | ⟨b, off, rfl, h⟩
    · exact absurd (by simpa using h) h0
    · have hcell : ∀ j, j < ds.length → ∀ i u, (D3.cells ds[j]!)[i]? = some u → w.cell? ⟨b, off + j * 3 + i, none⟩ = some u := fun j hj i u hu => by
        refine (h j (D3.cells ds[j]!) ?_).2 i u hu
        rw [List.getElem?_map, List.getElem?_eq_getElem hj, getElem!_pos ds j hj]
        rfl
      have hb : b < w.heap.size := lt_of_cell (hcell 0 (by have := List.length_pos_iff.2 h0; omega) 0 _ rfl)
      have hB : B < w.heap.size := lt_of_cell hc
      obtain ⟨zs, hz⟩ := wf_sub hw
      have hzl : zs.length = ds.length := by rw [← hz, List.length_map]
      haveI : Inhabited { d : D3 // wf3 d } := ⟨zs[0]'(by have := List.length_pos_iff.2 h0; omega)⟩
      have hcon := AnyQ.slices_ContainsFunc Tryz.hasDot 3 Tryz.isAgg175 Tryz.sizeOf175 (fun d : { d : D3 // wf3 d } => D3.cells d.1) (fun _ => rfl) (fun d => !decide (d.1 ∈ l)) 105 #[.pointer (some ⟨B, 0, none⟩)] (enters_of Tryz.func105 (by kernel_rfl) rfl) b off ds.length cap zs w
        (fun W x hW => (stands2_any W x.1 B mb l (by rw [hW.cell (p := ⟨B, 0, none⟩) hB]; exact hc) (hG.below hW hmb) x.2).mono fun _ _ ⟨he, hw⟩ => ⟨he, hW.trans (hw.mono hW.size)⟩) (by omega) (by omega) hb (fun j hj i u hu => by
          refine hcell j (by omega) i u ?_
          have e : ds[j]! = (zs[j]!).1 := by
            rw [getElem!_pos ds j (by omega), getElem!_pos zs j hj]
            simp only [← hz, List.getElem_map]
          rw [e]
          exact hu)
      change Calls Tryz.prog 104 _ _ _ at hcon
      rw [List.take_of_length_le (by omega)] at hcon
      simp only [List.length_map]
      refine hcon.mono ?_
      rintro e w' ⟨rfl, hw⟩
      exact ⟨ret_bool (by rw [← hz, List.any_map]; rfl), hw⟩
theorem rowO_cells {w : World} {g : Nat} {xs : List Dd} (hH : HoldsK Dd.enc7 7 w g 0 xs.toArray) : ∀ j, j < xs.length → ∀ i u, (xs[j]!.enc7)[i]? = some u → w.cell? ⟨g, 0 + j * 7 + i, none⟩ = some u := fun j hj i u hu => by
  have hi : i < 7 := by have := (List.getElem?_eq_some_iff.1 hu).1; rw [Dd.enc7_length] at this; exact this
  have := (holdsO_iff.1 hH j (by simpa using hj) i hi).1
  rw [Nat.zero_add, this, getElem!_pos xs.toArray j (by simpa using hj)]
  rw [getElem!_pos xs j hj] at hu
  rw [List.getElem!_eq_getElem?_getD]
  simp only [List.getElem_toArray]
  rw [hu]
  rfl
theorem removes_any (w : World) (B g m cap : Nat) (text : ByteArray) (xs : List Dd) (hm : xs.length = m) (hc : w.cell? ⟨B, 0, none⟩ = some (.string text)) (hg : g < w.heap.size) (hl : m ≤ 12) (hH : HoldsK Dd.enc7 7 w g 0 xs.toArray) :
    Calls Tryz.prog 102 #[.slice (some ⟨g, 0, none⟩) m cap, .func (.func 103) #[] #[.pointer (some ⟨B, 0, none⟩)]] w fun e w' => e = .returned (.bool (xs.any fun x => x.rem && decide (x.text = text))) ∧ Below w.heap.size w w' := by
  have hB : B < w.heap.size := lt_of_cell hc
  have hcon := AnyQ.slices_ContainsFunc Tryz.hasOp 7 Tryz.isAgg97 Tryz.sizeOf97 Dd.enc7 (fun _ => rfl) (fun x => x.rem && decide (x.text = text)) 103 #[.pointer (some ⟨B, 0, none⟩)] (enters_of Tryz.func103 (by kernel_rfl) rfl) g 0 m cap xs w
    (fun W x hW => (stands1_any W x B text (by rw [hW.cell (p := ⟨B, 0, none⟩) hB]; exact hc)).mono fun _ _ ⟨he, hw⟩ => ⟨he, by rw [hw]; exact hW.alloc hW.size _⟩) (by omega) (by omega) hg (rowO_cells hH)
  change Calls Tryz.prog 102 _ _ _ at hcon
  rw [List.take_of_length_le (by omega)] at hcon
  exact hcon
theorem gone_flat (xs : List Dd) (d : D3) : decide (d ∈ xs.flatMap Dd.ds) = goneB (xs.map Dd.op) d := by
  unfold goneB
  rw [List.any_map, Bool.eq_iff_iff, decide_eq_true_eq, List.any_eq_true, List.mem_flatMap]
  constructor
  · rintro ⟨x, h1, h2⟩
    exact ⟨x, h1, decide_eq_true h2⟩
  · rintro ⟨x, h1, h2⟩
    exact ⟨x, h1, of_decide_eq_true h2⟩
set_option maxHeartbeats 4000000 in
theorem stands_any (w : World) (xb pb : Nat) (aa : Option Addr) (an ac : Nat) (ov : Value) (key text : ByteArray) (g m cap mb : Nat) (xs : List Dd) (ds : List Dn) (h : TraBox w xb pb (.slice aa an ac) ov) (hm : xs.length = m) (hl : m ≤ 12) (hg : g < w.heap.size) (hH : HoldsK Dd.enc7 7 w g 0 xs.toArray) (hG : GoneAt w mb (xs.flatMap Dd.ds)) (h3 : ds ≠ [] ∧ ds[0]!.o.kind = 3)
    (K86 : ∀ W, Below w.heap.size w W → Calls Tryz.prog 86 #[.pointer (some ⟨pb, 0, none⟩), .string key, .string text, .slice aa an ac] W (DotsK text ds W)) :
    Calls Tryz.prog 82 #[.pointer (some ⟨xb, 0, none⟩), .string key, .string text, .slice (some ⟨g, 0, none⟩) m cap, .map (some mb)] w fun e w' => e = .returned (.tuple #[.bool (standB ds (xs.map Dd.op) text), .nilIface]) ∧ Below w.heap.size w w' := by
  have hmb : mb < w.heap.size := by
    obtain ⟨n, D, ⟨es, clock, q1, _⟩, _⟩ := hG
    exact lt_of_heap q1
  obtain ⟨w0, hw0⟩ : ∃ w0, w0 = (w.alloc (.cells #[.string text] 9)).alloc (.cells #[.map (some mb)] 131) := ⟨_, rfl⟩
  have b0 : Below w.heap.size w w0 := by rw [hw0]; exact (below_alloc _ _).trans ((below_alloc _ _).mono (by simp))
  have e0 : w0.heap[w.heap.size]? = some (.cells #[.string text] 9 (0, 0)) := by rw [hw0]; exact heap_old (heap_new _ _) _
  have e1 : w0.heap[w.heap.size + 1]? = some (.cells #[.map (some mb)] 131 (0, 0)) := by rw [hw0]; exact heap_new2 _ _ _
  have f0 : w0.cell? ⟨w.heap.size, 0, none⟩ = some (.string text) := (cell_of e0).trans rfl
  have f1 : w0.cell? ⟨w.heap.size + 1, 0, none⟩ = some (.map (some mb)) := (cell_of e1).trans rfl
  have tb : TraBox w0 xb pb (.slice aa an ac) ov := (b0.block _ (lt_of_heap h)).trans h
  have t0 : w0.cell? ⟨xb, 0, none⟩ = some (.pointer (some ⟨pb, 0, none⟩)) := (cell_of tb).trans rfl
  have t1 : w0.cell? ⟨xb, 1, none⟩ = some (.slice aa an ac) := (cell_of tb).trans rfl
  have K102 := hid (removes_any w0 w.heap.size g m cap text xs hm f0 (Nat.lt_of_lt_of_le hg b0.size) hl (holdsO_below hH b0 hg))
  have HK := hid (fun W (hW : Below w0.heap.size w0 W) => K86 W (b0.trans (hW.mono b0.size)))
  have HG := hid (fun W (hW : Below w0.heap.size w0 W) => hG.below (b0.trans (hW.mono b0.size)) hmb)
  have B0 := hid b0
  have H3 := hid h3
  obtain ⟨q, hq⟩ : ∃ q, q = xs.any fun x => x.rem && decide (x.text = text) := ⟨_, rfl⟩
  rw [← hq] at K102
  have HQ : Hid (((xs.map Dd.op).any fun o => o.rem && decide (o.text = text)) = q) := (show _ = _ from by rw [hq, List.any_map]; rfl)
  clear h hm hH hG K86 b0 e0 e1 tb hq h3
  go_enter Tryz.func82, Tryz.ntmps82
  go_upto_region 1 with (fail)
  rw [← hw0]
  clear hw0
  cases q with
  | false =>
    go_wp2_with (go_at_call 102; refine K102.out.mono ?_; rintro e w1 ⟨rfl, hb1⟩; have B1 := hid hb1; clear hb1)
    go_ret2
    refine ⟨?_, B0.out.trans (B1.out.mono B0.out.size)⟩
    unfold standB
    rw [HQ.out]
    rfl
  | true =>
    go_upto_region 3 with (go_at_call 102; refine K102.out.mono ?_; rintro e w1 ⟨rfl, hb1⟩; have B1 := hid hb1; have g0 := (hb1.cell (p := ⟨w.heap.size, 0, none⟩) (lt_of_cell f0)).trans f0; have g1 := (hb1.cell (p := ⟨w.heap.size + 1, 0, none⟩) (lt_of_cell f1)).trans f1; have s0 := (hb1.cell (p := ⟨xb, 0, none⟩) (lt_of_cell t0)).trans t0; have s1 := (hb1.cell (p := ⟨xb, 1, none⟩) (lt_of_cell t1)).trans t1; clear hb1)
    have BD : Hid (Below w0.heap.size w0 w1.drew) := (show Below _ _ _ from B1.out.drew)
    clear t0 t1 f0 f1 K102
    go_region_held (fun u => u.cell? ⟨xb, 0, none⟩ = some (.pointer (some ⟨pb, 0, none⟩)) ∧ u.cell? ⟨xb, 1, none⟩ = some (.slice aa an ac) ∧ u.cell? ⟨w.heap.size, 0, none⟩ = some (.string text)) (first | go_keep | exact ⟨s0, s1, g0⟩ | exact ⟨r0, r1, r2⟩) ((go_at_call 86; (with_reducible refine (HK.out w1.drew ?hb).mono ?_); (case hb => exact BD.out); rintro e w6 ⟨v6, out, rfl, hI, hwf, hol, hda, hb6, _⟩; obtain ⟨dp, dc, hdv⟩ := hda.len; subst hdv; have r0 := (hb6.cell (p := ⟨xb, 0, none⟩) (lt_of_cell (show w1.drew.cell? ⟨xb, 0, none⟩ = _ from s0))).trans s0; have r1 := (hb6.cell (p := ⟨xb, 1, none⟩) (lt_of_cell (show w1.drew.cell? ⟨xb, 1, none⟩ = _ from s1))).trans s1; have r2 := (hb6.cell (p := ⟨w.heap.size, 0, none⟩) (lt_of_cell (show w1.drew.cell? ⟨w.heap.size, 0, none⟩ = _ from g0))).trans g0; have r3 := (hb6.cell (p := ⟨w.heap.size + 1, 0, none⟩) (lt_of_cell (show w1.drew.cell? ⟨w.heap.size + 1, 0, none⟩ = _ from g1))).trans g1; have HB6 := hid (BD.out.trans (hb6.mono BD.out.size)); have HI := hid hI; have HWF := hid hwf; have HOL := hid hol; have HDA := hid hda; clear hb6 hI hwf hol hda))
    have K104 := hid (notNamed_any w6 (w.heap.size + 1) mb _ r3 (HG.out w6 HB6.out) _ out HDA.out HWF.out HOL.out)
    obtain ⟨q4, hq4⟩ : ∃ q4, q4 = out.any fun d => !decide (d ∈ xs.flatMap Dd.ds) := ⟨_, rfl⟩
    rw [← hq4] at K104
    have HQ4 := hid hq4
    clear HK HG BD s0 s1 g0 g1 r0 r1 r2 hq4
    go_wp2_with (go_at_call 104; refine K104.out.mono ?_; rintro e w7 ⟨rfl, hb7⟩; have B7 := hid hb7; clear hb7)
    go_ret2
    refine ⟨?_, B0.out.trans ((HB6.out.trans (B7.out.mono HB6.out.size)).mono B0.out.size)⟩
    have fin : q4 = standB ds (xs.map Dd.op) text := ?_
    · rw [← fin]; rfl
    rw [HQ4.out]
    unfold standB
    rw [HQ.out]
    rcases HI.out with ⟨q1, _⟩ | ⟨_, hp, _⟩
    · rcases q1 with q1 | q1
      · exact absurd q1 H3.out.1
      · exact absurd H3.out.2 q1
    · have e : (out.any fun d => !decide (d ∈ xs.flatMap Dd.ds)) = (dotsUp text ds).any fun d => !goneB (xs.map Dd.op) d := by
        rw [hp.any_eq]
        congr 1
        funext d
        rw [gone_flat]
      rw [e]
      rfl
end Go.Proofs.YtepnghacjggkkaaGreatDoor
