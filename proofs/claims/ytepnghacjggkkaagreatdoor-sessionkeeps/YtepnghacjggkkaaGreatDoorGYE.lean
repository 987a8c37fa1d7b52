/- texts: those of the place that stand, and those that ops of one's own put; Ops of another kind are left out: of one op of the kind none; What a transaction reads: the place's value, and what its own ops make of it. -/
import Derived.Test.YtepnghacjggkkaaGreatDoorGKH
import Derived.Test.YtepnghacjggkkaaGreatDoorGKM
import Derived.Test.YtepnghacjggkkaaGreatDoorGYC
import Derived.Deep.RegionHeld
import Derived.Deep.DeepCutAuto
import Derived.Deep.CutBlock
namespace Go.Proofs.YtepnghacjggkkaaGreatDoor
open Go.RowKit Go.Sort Go.Maps
set_option maxRecDepth 100000
set_option linter.unusedSectionVars false
variable [Inhabited ComV] [DecidableEq D3] [Inhabited D3] [Inhabited Dd] [Inhabited Dn] [Inhabited OpV]

theorem enc_bytes (s : List UInt8) : encStr s = .string (bytesOf s) := rfl
def TxRet (ts : List ByteArray) (w : World) (e : Ending) (w' : World) : Prop := ∃ v, e = .returned (.tuple #[v, .nilIface]) ∧ StrsAt w' v (setA ts) ∧ Below w.heap.size w w'
set_option maxHeartbeats 8000000 in
theorem textsT_any (w : World) (xb pb : Nat) (aa : Option Addr) (an ac : Nat) (ov : Value) (key : ByteArray) (sv : Value) (ss : List (List UInt8)) (g m cap : Nat) (xs : List Dd) (ds : List Dn) (h : TraBox w xb pb (.slice aa an ac) ov) (hs : StrsAt w sv ss) (hsl : ss.length ≤ 100000) (hm : xs.length = m) (hl : m ≤ 12) (hg : g < w.heap.size) (hH : HoldsK Dd.enc7 7 w g 0 xs.toArray) (hgd : ∀ x ∈ xs, GoodD w x) (hwf : ∀ x ∈ xs, (∀ d ∈ x.ds, wf3 d) ∧ x.ds.length ≤ 60) (h3 : ss ≠ [] → ds ≠ [] ∧ ds[0]!.o.kind = 3)
    (K86 : ∀ text W, Below w.heap.size w W → Calls Tryz.prog 86 #[.pointer (some ⟨pb, 0, none⟩), .string key, .string text, .slice aa an ac] W (DotsK text ds W)) :
    Calls Tryz.prog 56 #[.pointer (some ⟨xb, 0, none⟩), .string key, sv, .slice (some ⟨g, 0, none⟩) m cap] w (TxRet (ownTexts ds ss (xs.map Dd.op)) w) := by
  obtain ⟨sa, sc, rfl, hsc⟩ := hs
  obtain ⟨n, hn⟩ : ∃ n, n = ss.length := ⟨_, rfl⟩
  rw [← hn]
  have K81 := hid (dotsOf_any w g m cap xs hm hl hg hH hgd hwf)
  obtain ⟨i0, hi, hz0, hz1, hz2⟩ := info_parts Tryz.info9
  have HN := hid hn
  have HS := hid hsc
  have HM := hid hm
  have HT := hid h
  have HH := hid hH
  have HK := hid K86
  have H3 := hid h3
  have hnl : n ≤ 100000 := by omega
  have hxb : xb < w.heap.size := lt_of_heap h
  obtain ⟨own, hown⟩ : ∃ own, own = xs.map Dd.op := ⟨_, rfl⟩
  rw [← hown]
  have HO := hid hown
  obtain ⟨ls, hls⟩ : ∃ ls, ls = xs.flatMap Dd.ds := ⟨_, rfl⟩
  rw [← hls] at K81
  have HLS := hid hls
  clear h hn hsc hm hH hgd hwf K86 h3 hown hls hsl
  go_enter Tryz.func56, Tryz.ntmps56
  go_wp2_with (go_at_call 81; refine K81.out.mono ?_; rintro e w1 ⟨rfl, hg1, hb1⟩; have G1 := hid hg1; have B1 := hid hb1; clear hg1 hb1)
  have hs1 : w.heap.size < w1.heap.size := by
    obtain ⟨_, _, ⟨es, clock, q1, _⟩, _⟩ := G1.out
    exact lt_of_heap q1
  go_loopw [11, 22] (fun v i wr => ∃ k : Nat, k ≤ n ∧ i = .int .i64 k ∧ Hid (Below w1.heap.size w1 wr) ∧ Hid (wr.ownsRow w1.heap.size 9 1 v (((ss.take k).map bytesOf).filter (standB ds own)).length ((((ss.take k).map bytesOf).filter (standB ds own)).map Value.string))) (fun _ i _ => n - (intOf i).toNat)
  case atStart => exact ⟨0, Nat.zero_le _, rfl, Below.refl _ _, World.ownsRow_nil _ _ _ _⟩
  case round =>
    obtain ⟨k, hk, rfl, HB, HR⟩ := hrel
    have hsz := HB.out.size
    by_cases hlt : k < n
    · have hkl : k < ss.length := by have := HN.out; omega
      obtain ⟨s, hs⟩ : ∃ s, s = ss[k]! := ⟨_, rfl⟩
      have hne : ss ≠ [] := fun e => by rw [e] at hkl; simp at hkl
      obtain ⟨b, hsa, hcs⟩ := HS.out.resolve_left hne
      subst hsa
      have hbw : Below w.heap.size w wr := B1.out.trans (HB.out.mono B1.out.size)
      have hcw := hcs k hkl
      have hc : wr.cell? ⟨b, k, none⟩ = some (.string (bytesOf s)) := by
        rw [← enc_bytes, hs, hbw.cell (p := ⟨b, k, none⟩) (lt_of_cell hcw)]
        exact hcw
      obtain ⟨t, ht⟩ : ∃ t, t = bytesOf s := ⟨_, rfl⟩
      rw [← ht] at hc
      have hstep : ((ss.take (k + 1)).map bytesOf).filter (standB ds own) = ((ss.take k).map bytesOf).filter (standB ds own) ++ (if standB ds own t = true then [t] else []) := by
        rw [List.take_succ_eq_append_getElem hkl, List.map_append, List.filter_append, ht, hs, getElem!_pos ss k hkl]
        congr 1
        simp only [List.map_cons, List.map_nil, List.filter_cons, List.filter_nil]
      have HST := hid hstep
      have K82 := hid (stands_any wr xb pb aa an ac ov key t g m cap w.heap.size xs ds ((hbw.block _ hxb).trans HT.out) HM.out hl (Nat.lt_of_lt_of_le hg hbw.size) (holdsO_below HH.out hbw hg) (by rw [← HLS.out]; exact G1.out.below HB.out hs1) (H3.out hne) (fun W hW => HK.out t W (hbw.trans (hW.mono hbw.size))))
      rw [← HO.out] at K82
      have hrow := HR.out
      obtain ⟨ys, hys⟩ : ∃ ys, ys = ((ss.take k).map bytesOf).filter (standB ds own) := ⟨_, rfl⟩
      have hyl : ys.length ≤ n := by rw [hys]; exact Nat.le_trans (List.length_filter_le _ _) (by simp; omega)
      rw [← hys] at hrow HST
      obtain ⟨q, hq⟩ : ∃ q, q = standB ds own t := ⟨_, rfl⟩
      rw [← hq] at K82 HST
      have HBW := hid hbw
      clear hs hcs hcw hstep ht hys hq HR hbw
      cases q with
      | true =>
        go_wp2_with (first
          | (go_at_call 82; refine K82.out.mono ?_; rintro e w6 ⟨rfl, hb6⟩; have hrow6 := owns_below hrow (fun b _ hc => hb6.block b (lt_of_heap hc)); have hz6 : w1.heap.size ≤ w6.heap.size := Nat.le_trans hsz hb6.size; have HB6 := hid (HB.out.trans (hb6.mono hsz)); clear hb6)
          | (at_builtin; refine wpList_append_own _ rfl _ _ 39 rfl w1.heap.size 9 i0 _ 1 16 Tryz.underlying39 hi hz0 hz1 hz2 rfl (by decide) _ _ _ rfl (hrow6.alloc _) ⟨w6.heap.size, 0, none⟩ 1 1 [.string t] rfl rfl (cells11_new _ _ _ _ rfl) ?ho1 ?ho2 ?ho3 ?ho4 ?_; (case ho1 => intro u hu; rw [List.mem_singleton.1 hu]; rfl); (case ho2 => unfold maxLen; omega); (case ho3 => omega); (case ho4 => simp; omega); intro v' w7 hown' hgrow2 hnil2))
        refine ⟨⟨k + 1, by omega, by go_num, ?_, ?_⟩, by simp [intOf]; omega⟩
        · exact (HB6.out.alloc hz6 _).grown hgrow2 (by simp; omega) (fun j hj => (hrow6.lt j hj).1)
        · rw [HST.out]
          simp only [if_true, List.length_append, List.length_singleton, List.map_append, List.map_cons, List.map_nil]
          exact hown'
      | false =>
        go_wp2_with (go_at_call 82; refine K82.out.mono ?_; rintro e w6 ⟨rfl, hb6⟩; have hrow6 := owns_below hrow (fun b _ hc => hb6.block b (lt_of_heap hc)); have HB6 := hid (HB.out.trans (hb6.mono hsz)); clear hb6)
        refine ⟨⟨k + 1, by omega, by go_num, HB6.out, ?_⟩, by simp [intOf]; omega⟩
        rw [HST.out]
        simp only [Bool.false_eq_true, if_false, List.append_nil]
        exact hrow6
    · have hkm : n = k := by omega
      subst hkm
      have hrow0 := HR.out
      rw [List.take_of_length_le (by have := HN.out; omega)] at hrow0
      obtain ⟨t0, ht0⟩ : ∃ t0, t0 = (ss.map bytesOf).filter (standB ds own) := ⟨_, rfl⟩
      rw [← ht0] at hrow0
      have ht0l : t0.length ≤ n := by rw [ht0]; exact Nat.le_trans (List.length_filter_le _ _) (by have := HN.out; simp; omega)
      have HT0 := hid ht0
      have HR0 := hid hrow0
      obtain ⟨w2, hw2⟩ : ∃ w2 : World, w2 = wr := ⟨wr, rfl⟩
      subst hw2
      have HB2 : Hid (Below w.heap.size w w2) := (show Below _ _ _ from B1.out.trans (HB.out.mono B1.out.size))
      have hz2' : w1.heap.size ≤ w2.heap.size := HB.out.size
      clear HR ht0 hrow0 HK H3 G1 K81 hlt hk HS
      go_wp2
      go_loopw [11, 46] (fun v i wr => ∃ k : Nat, k ≤ m ∧ i = .int .i64 k ∧ Hid (Below w1.heap.size w1 wr) ∧ Hid (wr.ownsRow w1.heap.size 9 1 v (t0 ++ ((xs.take k).filter fun x => !x.rem).map Dd.text).length ((t0 ++ ((xs.take k).filter fun x => !x.rem).map Dd.text).map Value.string))) (fun _ i _ => m - (intOf i).toNat)
      case atStart => exact ⟨0, Nat.zero_le _, rfl, HB.out, hid (p := World.ownsRow _ _ _ _ _ _ _) (by simpa using HR0.out)⟩
      case round =>
        obtain ⟨k, hk, rfl, HC, HR⟩ := hrel
        have hsz := HC.out.size
        by_cases hlt : k < m
        · obtain ⟨u, hu⟩ : ∃ u, u = xs[k]! := ⟨_, rfl⟩
          have hbw : Below w.heap.size w wr := B1.out.trans (HC.out.mono B1.out.size)
          obtain ⟨c0, c1, c2, c3, c4, c5, c6⟩ := holdsO_cells (holdsO_below HH.out hbw hg) (j := k) (u := u) (by have := HM.out; simp; omega) (by rw [hu]; have := HM.out; rw [getElem!_pos xs.toArray k (by simp; omega), getElem!_pos xs k (by omega)]; simp)
          have hstep : t0 ++ ((xs.take (k + 1)).filter fun x => !x.rem).map Dd.text = (t0 ++ ((xs.take k).filter fun x => !x.rem).map Dd.text) ++ (if u.rem = true then [] else [u.text]) := by
            have hkx : k < xs.length := by have := HM.out; omega
            rw [List.take_succ_eq_append_getElem hkx, List.filter_append, List.map_append, hu, getElem!_pos xs k hkx, List.append_assoc]
            congr 2
            simp only [List.filter_cons, List.filter_nil]
            cases xs[k].rem <;> simp
          have HST := hid hstep
          have hrow := HR.out
          obtain ⟨ys, hys⟩ : ∃ ys, ys = t0 ++ ((xs.take k).filter fun x => !x.rem).map Dd.text := ⟨_, rfl⟩
          have hyl : ys.length ≤ 100012 := by
            rw [hys, List.length_append, List.length_map]
            have := List.length_filter_le (fun x : Dd => !x.rem) (xs.take k)
            simp at this ⊢
            omega
          rw [← hys] at hrow HST
          clear hu hstep hys HR hbw
          obtain ⟨x1, x2, x3, x4, x5, x6, dp, dl, dc, x8, x11, dss⟩ := u
          simp only at c0 c1 c2 c3 c4 c5 c6 HST
          cases x6 with
          | false =>
            go_wp2_with (at_builtin; refine wpList_append_own _ rfl _ _ 39 rfl w1.heap.size 9 i0 _ 1 16 Tryz.underlying39 hi hz0 hz1 hz2 rfl (by decide) _ _ _ rfl ((hrow.alloc _).alloc _) ⟨wr.heap.size + 1, 0, none⟩ 1 1 [.string x4] rfl rfl (cells11_new _ _ _ _ (by simp)) ?ho1 ?ho2 ?ho3 ?ho4 ?_; (case ho1 => intro u hu; rw [List.mem_singleton.1 hu]; rfl); (case ho2 => unfold maxLen; omega); (case ho3 => omega); (case ho4 => simp; omega); intro v' w7 hown' hgrow2 hnil2)
            refine ⟨⟨k + 1, by omega, by go_num, ?_, ?_⟩, by simp [intOf]; omega⟩
            · exact ((HC.out.alloc hsz _).alloc (by simp; omega) _).grown hgrow2 (by simp; omega) (fun j hj => (hrow.lt j hj).1)
            · rw [HST.out]
              simp only [Bool.false_eq_true, if_false, List.length_append, List.length_singleton, List.map_append, List.map_cons, List.map_nil]
              exact hown'
          | true =>
            go_wp2
            refine ⟨⟨k + 1, by omega, by go_num, HC.out.alloc hsz _, ?_⟩, by simp [intOf]; omega⟩
            rw [HST.out]
            simp only [if_true, List.append_nil]
            exact hrow.alloc _
        · have hkm : m = k := by omega
          subst hkm
          have hrow := HR.out
          rw [List.take_of_length_le (by have := HM.out; omega)] at hrow
          obtain ⟨ts, hts⟩ : ∃ ts, ts = t0 ++ (xs.filter fun x => !x.rem).map Dd.text := ⟨_, rfl⟩
          have htx : ts = ownTexts ds ss own := by
            have e : ((xs.map Dd.op).filter fun o => !o.rem).map (·.text) = (xs.filter fun x => !x.rem).map Dd.text := by
              rw [List.filter_map, List.map_map]
              rfl
            rw [hts, HT0.out, HO.out]
            unfold ownTexts
            rw [e]
          have htl : ts.length ≤ 100012 := by
            rw [hts, List.length_append, List.length_map]
            have := List.length_filter_le (fun x : Dd => !x.rem) xs
            have := HM.out
            omega
          rw [← hts] at hrow
          have HTX := hid htx
          clear hts htx HR
          have HBW : Hid (Below w.heap.size w wr) := (show Below _ _ _ from B1.out.trans (HC.out.mono B1.out.size))
          by_cases h0 : ts = []
          · subst h0
            obtain ⟨a9, c9, rfl⟩ := row_shape hrow
            clear hrow
            go_wp2_with (first | (go_at_call 83; refine (Tryz.slices_Sort_string_none _ _ _).mono ?_; rintro e w' ⟨rfl, rfl⟩) | (go_at_call 84; refine (Tryz.slices_Compact_string_empty _ _ _).mono ?_; rintro e w' ⟨rfl, rfl⟩))
            go_ret2
            exact ⟨_, rfl, by rw [← HTX.out]; exact ⟨a9, c9, by rw [setA_nil]; rfl, .inl setA_nil⟩, HBW.out⟩
          · have hv : ∃ g' n' c', u11 = .slice (some ⟨g', 0, none⟩) n' c' := by
              obtain ⟨_, h2⟩ := hrow
              rcases h2 with ⟨_, h⟩ | ⟨g', cap', cur, he, _⟩
              · exact absurd (List.eq_nil_of_length_eq_zero h) h0
              · exact ⟨g', _, cap', he⟩
            obtain ⟨g', n', c', rfl⟩ := hv
            obtain ⟨hHs, hBg, hgl, hn, hcp⟩ := holdsS_of_owns hrow
            obtain ⟨ml, hml⟩ : ∃ ml, ml = ts.length := ⟨_, rfl⟩
            rw [← hml] at hn hcp htl
            subst hn
            obtain ⟨sq, hss⟩ : ∃ sq, sq = (ts.map (·.data.toList)).mergeSort fun x y => decide (x ≤ y) := ⟨_, rfl⟩
            have hsl : sq.length = n' := by rw [hss, List.length_mergeSort]; simp; omega
            have K62 := Tryz.slices_Sort_string g' 0 c' (ts.map (·.data.toList)) wr hHs hgl (by simp; omega)
            rw [← hss, List.length_map, ← hml] at K62
            have HSS := hid hss
            have HHS := hid hHs
            have HSL := hid hsl
            have HML := hid hml
            have hB0 : w.heap.size ≤ g' := by omega
            clear hss hHs hrow hsl hml h0
            go_wp2_with fail
            refine K62.mono ?_
            rintro e w3 ⟨rfl, n3, os, hw3⟩
            have hH3 : Holds encStr w3 g' 0 sq.toArray := by
              rw [hw3]
              refine holds_grow _ _ _ _ _ _ (by unfold putRow mapBlock; simp [Sort.ahead]; omega) ?_
              exact holds_putRow encStr _ g' 0 _ _ (holds_ahead encStr wr n3 g' 0 _ HHS.out) (by have := HSL.out; have := HML.out; simp; omega)
            have hb3 : Below w.heap.size wr w3 := by rw [hw3]; exact below_putRowS wr g' n3 _ os hB0 hgl
            have hg3 : g' < w3.heap.size := Nat.lt_of_lt_of_le hgl hb3.size
            have K63 := Tryz.slices_Compact_string g' 0 c' sq w3 hH3 (by have := HSL.out; omega) (by have := HSL.out; omega)
            rw [HSL.out] at K63
            have HB3 := hid hb3
            have HH3 := hid hH3
            clear K62 hw3 hb3 hH3
            go_wp2_with fail
            refine K63.mono ?_
            rintro e w4 ⟨rfl, q, hw4⟩
            have hb4 : Below w.heap.size w3 w4 := by
              have := below_putRowS (B := w.heap.size) w3 g' q (Lib.compact sq ++ List.replicate (n' - (Lib.compact sq).length) []).toArray #[] hB0 hg3
              rw [grow_empty] at this
              rw [hw4]
              exact this
            have hcl : (Lib.compact sq).length ≤ sq.length := compact_le sq
            have hH4 : Holds encStr w4 g' 0 (Lib.compact sq ++ List.replicate (n' - (Lib.compact sq).length) []).toArray := by
              rw [hw4]
              exact holds_putRow encStr _ g' 0 _ _ (holds_ahead encStr w3 q g' 0 _ HH3.out) (by have := HSL.out; simp; omega)
            have hfin : StrsAt w4 (.slice (some ⟨g', 0, none⟩) (Lib.compact sq).length c') (setA ts) := by
              unfold setA
              rw [← HSS.out]
              refine ⟨_, c', rfl, .inr ⟨g', rfl, fun t ht => ?_⟩⟩
              have := (hH4 t (by simp; omega)).1
              rw [Nat.zero_add] at this
              rw [this]
              congr 2
              rw [getElem!_pos _ t (by simp; omega), getElem!_pos _ t ht]
              simp [List.getElem_append_left, ht]
            have HF := hid hfin
            have HB4 := hid hb4
            clear hw4 hb4 hH4 hfin K63
            go_wp2
            go_ret2
            exact ⟨_, rfl, by rw [← HTX.out]; exact HF.out, (HBW.out.trans HB3.out).trans HB4.out⟩
end Go.Proofs.YtepnghacjggkkaaGreatDoor
namespace Go.Proofs.YtepnghacjggkkaaGreatDoor
open Go.RowKit Go.Maps
set_option maxRecDepth 100000
set_option linter.unusedSectionVars false
variable [Inhabited ComV] [DecidableEq D3] [Inhabited D3] [Inhabited Dd] [Inhabited Dn] [Inhabited OpV]

set_option maxHeartbeats 2000000 in
theorem sameKind (w : World) (vb : Nat) (y1 : Int) (y2 : ByteArray) (y3 : Int) (y4 : ByteArray) (y5 : Int) (y6 : Bool) (dv : Value) (hd : ∃ a n c, dv = .slice a n c) (h : w.cell? ⟨vb, 0, none⟩ = some (.int .i64 y3)) : Calls Tryz.prog 55 #[.agg #[.int .i64 y1, .string y2, .int .i64 y3, .string y4, .int .i64 y5, .bool y6, dv], .pointer (some ⟨vb, 0, none⟩)] w fun e w' => e = .returned (.bool false) ∧ Below w.heap.size w w' := by
  obtain ⟨da, dn, dc, rfl⟩ := hd
  have hn : vb ≠ w.heap.size := Nat.ne_of_lt (lt_of_cell h)
  have h1 := fun o => cell_alloc h o
  go_enter Tryz.func55, Tryz.ntmps55
  go_wp2
  go_ret
  exact ⟨by simp, below_alloc _ _⟩
set_option maxHeartbeats 2000000 in
theorem indexFunc_keep (w : World) (vb ob oc : Nat) (y1 : Int) (y2 : ByteArray) (y3 : Int) (y4 : ByteArray) (y5 : Int) (y6 : Bool) (da : Option Addr) (dn dc : Nat) (ho : ∀ j u, [Value.int .i64 y1, .string y2, .int .i64 y3, .string y4, .int .i64 y5, .bool y6, .slice da dn dc][j]? = some u → w.cell? ⟨ob, j, none⟩ = some u) (h : w.cell? ⟨vb, 0, none⟩ = some (.int .i64 y3)) : Calls Tryz.prog 80 #[.slice (some ⟨ob, 0, none⟩) 1 oc, .func (.func 55) #[] #[.pointer (some ⟨vb, 0, none⟩)]] w fun e w' => e = .returned (.int .i64 (-1)) ∧ Below w.heap.size w w' := by
  have q0 : w.cell? ⟨ob, 0, none⟩ = some (.int .i64 y1) := ho 0 _ rfl
  have q1 := ho 1 _ rfl
  have q2 := ho 2 _ rfl
  have q3 := ho 3 _ rfl
  have q4 := ho 4 _ rfl
  have q5 := ho 5 _ rfl
  have q6 := ho 6 _ rfl
  have K := hid (sameKind w vb y1 y2 y3 y4 y5 y6 (.slice da dn dc) ⟨_, _, _, rfl⟩ h)
  clear ho h
  go_enter Tryz.func80, Tryz.ntmps80
  go_wp2
  refine wp_loop_rounds 2 ?_
  rw [rounds_succ]
  go_wp2_with (go_at_call 55; refine K.out.mono ?_; rintro e w1 ⟨rfl, hb1⟩)
  rw [rounds_succ]
  go_wp2
  go_ret
  exact ⟨rfl, hb1⟩
set_option maxHeartbeats 2000000 in
theorem deleteFunc_keep (w : World) (vb ob oc : Nat) (y1 : Int) (y2 : ByteArray) (y3 : Int) (y4 : ByteArray) (y5 : Int) (y6 : Bool) (da : Option Addr) (dn dc : Nat) (ho : ∀ j u, [Value.int .i64 y1, .string y2, .int .i64 y3, .string y4, .int .i64 y5, .bool y6, .slice da dn dc][j]? = some u → w.cell? ⟨ob, j, none⟩ = some u) (h : w.cell? ⟨vb, 0, none⟩ = some (.int .i64 y3)) : Calls Tryz.prog 54 #[.slice (some ⟨ob, 0, none⟩) 1 oc, .func (.func 55) #[] #[.pointer (some ⟨vb, 0, none⟩)]] w fun e w' => e = .returned (.slice (some ⟨ob, 0, none⟩) 1 oc) ∧ Below w.heap.size w w' := by
  have K := hid (indexFunc_keep w vb ob oc y1 y2 y3 y4 y5 y6 da dn dc ho h)
  clear ho h
  go_enter Tryz.func54, Tryz.ntmps54
  go_wp2_with (go_at_call 80; refine K.out.mono ?_; rintro e w1 ⟨rfl, hb1⟩)
  go_ret
  exact ⟨rfl, hb1⟩
set_option maxHeartbeats 2000000 in
theorem deleteFunc_nil (w : World) (fv : Value) : Calls Tryz.prog 54 #[.slice none 0 0, fv] w fun e w' => e = .returned (.slice none 0 0) ∧ w' = w := by
  have K : Hid (Calls Tryz.prog 80 #[.slice none 0 0, fv] w fun e w' => e = .returned (.int .i64 (-1)) ∧ w' = w) := (show Calls _ _ _ _ _ from by
    go_enter Tryz.func80, Tryz.ntmps80
    go_wp2
    refine wp_loop_rounds 1 ?_
    rw [rounds_succ]
    go_wp2
    go_ret
    exact ⟨rfl, rfl⟩)
  go_enter Tryz.func54, Tryz.ntmps54
  go_wp2_with (go_at_call 80; refine K.out.mono ?_; rintro e w1 ⟨rfl, hw1⟩; rw [hw1]; clear hw1)
  go_ret
  exact ⟨rfl, rfl⟩
end Go.Proofs.YtepnghacjggkkaaGreatDoor
namespace Go.Proofs.YtepnghacjggkkaaGreatDoor
open Go.RowKit Go.Maps
set_option maxRecDepth 100000
set_option linter.unusedSectionVars false
variable [Inhabited ComV] [DecidableEq D3] [Inhabited D3] [Inhabited Dd] [Inhabited Dn] [Inhabited OpV]

theorem fill4 {w : World} {g : Nat} {a b c d : Value} {t : TypeId} (h : w.heap[g]? = some (.cells #[a, b, c, d] t (0, 0))) (v0 v1 v2 v3 : Value) :
    ((((w.setCell ⟨g, 0, none⟩ v0).setCell ⟨g, 1, none⟩ v1).setCell ⟨g, 2, none⟩ v2).setCell ⟨g, 3, none⟩ v3).heap[g]? = some (.cells #[v0, v1, v2, v3] t (0, 0)) ∧
    ∀ (B : Nat) (w0 : World), Below B w0 w → B ≤ g → Below B w0 ((((w.setCell ⟨g, 0, none⟩ v0).setCell ⟨g, 1, none⟩ v1).setCell ⟨g, 2, none⟩ v2).setCell ⟨g, 3, none⟩ v3) := by
  refine ⟨?_, fun B w0 hb hB => (((hb.setCell hB _).setCell hB _).setCell hB _).setCell hB _⟩
  rw [heap_set (heap_set (heap_set (heap_set h v0) v1) v2) v3]
  rfl
theorem keep4 {w : World} {g ab j : Nat} {v0 v1 v2 v3 x : Value} (hne : ab ≠ g) (h1 : w.cell? ⟨ab, j, none⟩ = some x) :
    ((((w.setCell ⟨g, 0, none⟩ v0).setCell ⟨g, 1, none⟩ v1).setCell ⟨g, 2, none⟩ v2).setCell ⟨g, 3, none⟩ v3).cell? ⟨ab, j, none⟩ = some x := by
  have h : ((((w.setCell ⟨g, 0, none⟩ v0).setCell ⟨g, 1, none⟩ v1).setCell ⟨g, 2, none⟩ v2).setCell ⟨g, 3, none⟩ v3).heap[ab]? = w.heap[ab]? := by
    rw [Below.heap_setCell _ _ _ _ hne, Below.heap_setCell _ _ _ _ hne, Below.heap_setCell _ _ _ _ hne, Below.heap_setCell _ _ _ _ hne]
  exact (World.cell?_of_block (a := ⟨ab, j, none⟩) h).trans h1
def ReadRet (k0 n0 : Int) (Q : ByteArray → Prop) (w : World) (e : Ending) (w' : World) : Prop := ∃ (t0 : ByteArray) (sa : Option Addr) (sn sc : Nat), Q t0 ∧ e = .returned (.tuple #[.agg #[.int .i64 k0, .string t0, .int .i64 n0, .slice sa sn sc], .nilIface]) ∧ Below w.heap.size w w'
set_option maxHeartbeats 8000000 in
theorem value_none (w : World) (xb pb : Nat) (aa : Option Addr) (an ac : Nat) (key : ByteArray) (k0 : Int) (n0 : Int) (Q : ByteArray → Prop) (h : TraBox w xb pb (.slice aa an ac) (.slice none 0 0)) (K52 : ∀ W, Below w.heap.size w W → Calls Tryz.prog 52 #[.pointer (some ⟨pb, 0, none⟩), .string key, .slice aa an ac] W (ReadRet k0 n0 Q W)) : Calls Tryz.prog 33 #[.pointer (some ⟨xb, 0, none⟩), .string key] w (ReadRet k0 n0 Q w) := by
  obtain ⟨w0, hw0⟩ : ∃ w0, w0 = w.alloc (.cells #[.int .i64 0, .string ⟨#[]⟩, .int .i64 0, .slice none 0 0] 41) := ⟨_, rfl⟩
  have b0 : Below w.heap.size w w0 := by rw [hw0]; exact below_alloc _ _
  have r0 : w0.heap[w.heap.size]? = some (.cells #[.int .i64 0, .string ⟨#[]⟩, .int .i64 0, .slice none 0 0] 41 (0, 0)) := by rw [hw0]; exact heap_new _ _
  have tb : TraBox w0 xb pb (.slice aa an ac) (.slice none 0 0) := (b0.block _ (lt_of_heap h)).trans h
  have t0' : w0.cell? ⟨xb, 0, none⟩ = some (.pointer (some ⟨pb, 0, none⟩)) := (cell_of tb).trans rfl
  have t1' : w0.cell? ⟨xb, 1, none⟩ = some (.slice aa an ac) := (cell_of tb).trans rfl
  have TB := hid tb
  have R0 := hid r0
  have B0 := hid b0
  have hx0 : xb < w0.heap.size := lt_of_heap tb
  have hxr : xb ≠ w0.heap.size := by omega
  have HK : Hid (∀ W, Below w0.heap.size w0 W → Calls Tryz.prog 52 #[.pointer (some ⟨pb, 0, none⟩), .string key, .slice aa an ac] W (ReadRet k0 n0 Q W)) := (show ∀ W, _ → _ from fun W hW => K52 W (b0.trans (hW.mono b0.size)))
  have hwr : w.heap.size < w0.heap.size := lt_of_heap r0
  have BD : Hid (Below w0.heap.size w0 w0.drew) := (show Below _ _ _ from (Below.refl w0.heap.size w0).drew)
  have BA : Hid (Below w0.heap.size w0 (w0.alloc (.cells #[.int .i64 0, .string ⟨#[]⟩, .int .i64 0, .slice none 0 0] 41)).drew) := (show Below _ _ _ from (below_alloc w0 _).drew)
  have HA0 : Hid (w0.heap.size < (w0.alloc (.cells #[.int .i64 0, .string ⟨#[]⟩, .int .i64 0, .slice none 0 0] 41)).drew.heap.size) := (show _ < _ from lt_of_heap (heap_new w0 _))
  have HA1 : Hid ((w0.alloc (.cells #[.int .i64 0, .string ⟨#[]⟩, .int .i64 0, .slice none 0 0] 41)).drew.heap[w0.heap.size]? = some (.cells #[.int .i64 0, .string ⟨#[]⟩, .int .i64 0, .slice none 0 0] 41 (0, 0))) := (show _ = _ from heap_new w0 _)
  clear h K52 tb r0 b0
  go_enter Tryz.func33, Tryz.ntmps33
  go_upto_region 1 with (fail)
  rw [← hw0]
  clear hw0
  go_cut [6, 7] (fun vp er wx => ∃ (vb : Nat) (t0 : ByteArray) (sa : Option Addr) (sn sc : Nat), vp = .pointer (some ⟨vb, 0, none⟩) ∧ er = .nilIface ∧ w0.heap.size ≤ vb ∧ Hid (Q t0) ∧ Hid (wx.heap[vb]? = some (.cells #[.int .i64 k0, .string t0, .int .i64 n0, .slice sa sn sc] 41 (0, 0))) ∧ Hid (Below w0.heap.size w0 wx))
  case first =>
    go_region_held (fun u => u.cell? ⟨xb, 0, none⟩ = some (.pointer (some ⟨pb, 0, none⟩)) ∧ u.cell? ⟨xb, 1, none⟩ = some (.slice aa an ac)) (first | (refine ⟨?_, ?_⟩ <;> (with_reducible refine keep4 ?_ ?_ <;> with_reducible assumption)) | exact ⟨q0, q1⟩ | go_keep) (first | (go_at_call 52; (with_reducible refine (HK.out w0.drew ?hb).mono ?_); (case hb => exact BD.out); rintro e w6 ⟨t0, sa, sn, sc, hQ, rfl, hb6⟩; have HQ := hid hQ; clear hQ; have hb6' : Below w0.heap.size w0 w6 := (BD.out).trans (hb6.mono (BD.out).size); have q0 := (hb6'.cell (p := ⟨xb, 0, none⟩) hx0).trans t0'; have q1 := (hb6'.cell (p := ⟨xb, 1, none⟩) hx0).trans t1'; have HB6 := hid hb6'; clear hb6 hb6') | (go_at_call 52; (with_reducible refine (HK.out (w0.alloc (.cells #[.int .i64 0, .string ⟨#[]⟩, .int .i64 0, .slice none 0 0] 41)).drew ?hb).mono ?_); (case hb => exact BA.out); rintro e w6 ⟨t0, sa, sn, sc, hQ, rfl, hb6⟩; have HQ := hid hQ; clear hQ; have hb6' : Below w0.heap.size w0 w6 := (BA.out).trans (hb6.mono (BA.out).size); have q0 := (hb6'.cell (p := ⟨xb, 0, none⟩) hx0).trans t0'; have q1 := (hb6'.cell (p := ⟨xb, 1, none⟩) hx0).trans t1'; have hz6 : w6.heap[w0.heap.size]? = some (.cells #[.int .i64 0, .string ⟨#[]⟩, .int .i64 0, .slice none 0 0] 41 (0, 0)) := (hb6.block _ (HA0.out)).trans HA1.out; have z0 : w6.cell? ⟨w0.heap.size, 0, none⟩ = some (.int .i64 0) := (by simp only [World.cell?, hz6]; rfl); have z1 : w6.cell? ⟨w0.heap.size, 1, none⟩ = some (.string ⟨#[]⟩) := (by simp only [World.cell?, hz6]; rfl); have z2 : w6.cell? ⟨w0.heap.size, 2, none⟩ = some (.int .i64 0) := (by simp only [World.cell?, hz6]; rfl); have z3 : w6.cell? ⟨w0.heap.size, 3, none⟩ = some (.slice none 0 0) := (by simp only [World.cell?, hz6]; rfl); have zf : ∀ j, w6.frozen? ⟨w0.heap.size, j, none⟩ = false := (fun j => by simp only [World.frozen?, hz6]; simp); have HB6 := hid hb6'; clear hb6 hb6'))
    all_goals clear HK
    · go_wp2_with fail
      obtain ⟨wn, hwn⟩ : ∃ wn, wn = w6.alloc (.cells #[.int .i64 k0, .string t0, .int .i64 n0, .slice sa sn sc] 41) := ⟨_, rfl⟩
      have F1 : Hid (wn.heap[w6.heap.size]? = some (.cells #[.int .i64 k0, .string t0, .int .i64 n0, .slice sa sn sc] 41 (0, 0))) := (show _ = _ from by rw [hwn]; exact (MapKept.heap_alloc _ _).1)
      have F3 : Hid (Below w0.heap.size w0 wn) := (show Below _ _ _ from by rw [hwn]; exact HB6.out.alloc HB6.out.size _)
      rw [← hwn]
      clear hwn
      go_meet
      exact ⟨w6.heap.size, t0, sa, sn, sc, rfl, rfl, HB6.out.size, HQ, F1, F3⟩
    · go_wp2_with fail
      obtain ⟨wn, hwn⟩ : ∃ wn, wn = ((((w6.setCell ⟨w0.heap.size, 0, none⟩ (.int .i64 k0)).setCell ⟨w0.heap.size, 1, none⟩ (.string t0)).setCell ⟨w0.heap.size, 2, none⟩ (.int .i64 n0)).setCell ⟨w0.heap.size, 3, none⟩ (.slice sa sn sc)) := ⟨_, rfl⟩
      have F1 : Hid (wn.heap[w0.heap.size]? = some (.cells #[.int .i64 k0, .string t0, .int .i64 n0, .slice sa sn sc] 41 (0, 0))) := (show _ = _ from by rw [hwn]; exact (fill4 hz6 _ _ _ _).1)
      have F3 : Hid (Below w0.heap.size w0 wn) := (show Below _ _ _ from by rw [hwn]; exact (fill4 hz6 _ _ _ _).2 _ _ HB6.out (Nat.le_refl _))
      rw [← hwn]
      clear hwn
      go_meet
      exact ⟨w0.heap.size, t0, sa, sn, sc, rfl, rfl, Nat.le_refl _, HQ, F1, F3⟩
  case rest =>
    obtain ⟨vb, t0, sa, sn, sc, rfl, rfl, hvb, HQ, HV, HB⟩ := hcut
    have K53 := hid (opsOn_nil wc xb pb (.slice aa an ac) key ((HB.out.block _ hx0).trans TB.out))
    clear HK t0' t1' BD BA HA0 HA1
    have x0 : wc.cell? ⟨vb, 0, none⟩ = some (.int .i64 k0) := (cell_of HV.out).trans rfl
    rcases (by by_cases e : k0 = 0 <;> simp [e] : (k0 == 0) = true ∨ (k0 == 0) = false) with hk | hk <;>
      (go_wp2_with (go_at_call 53; refine K53.out.mono ?_; rintro e w5 ⟨rfl, hb5⟩; have hv5 := (hb5.block _ (lt_of_heap HV.out)).trans HV.out; have hr5 := (hb5.block _ (Nat.lt_of_lt_of_le hwr HB.out.size)).trans ((HB.out.block _ hwr).trans R0.out); have y0 : w5.cell? ⟨vb, 0, none⟩ = some (.int .i64 k0) := (cell_of hv5).trans rfl; have y1 : w5.cell? ⟨vb, 1, none⟩ = some (.string t0) := (cell_of hv5).trans rfl; have y2 : w5.cell? ⟨vb, 2, none⟩ = some (.int .i64 n0) := (cell_of hv5).trans rfl; have y3 : w5.cell? ⟨vb, 3, none⟩ = some (.slice sa sn sc) := (cell_of hv5).trans rfl; have R5 := hid (row4 hr5); have S5 := hid (set4 hr5 [.int .i64 k0, .string t0, .int .i64 n0, .slice sa sn sc] rfl); have B5 := hid (B0.out.trans ((HB.out.trans (hb5.mono HB.out.size)).mono B0.out.size)); clear hb5 hv5 hr5)
       refine (deleteFunc_nil _ _).mono ?_
       rintro e w' ⟨rfl, hw'⟩
       rw [hw']
       clear hw'
       go_wp2_with (refine wpList_store_k _ rfl (.tmp 4) (.tmp 50) 41 rfl w.heap.size 0 [.int .i64 k0, .string t0, .int .i64 n0, .slice sa sn sc] rfl rfl 4 rfl Tryz.sizeOf41 rfl _ ?hW R5.out.1 R5.out.2 ?_; case hW => rfl)
       exact bodyPost_ret (ret_cell_tmp (k := 4) Tryz.results33 Tryz.isAgg41 Tryz.sizeOf41 _ _ w.heap.size [.int .i64 k0, .string t0, .int .i64 n0, .slice sa sn sc] _ rfl rfl rfl S5.out) rfl ⟨t0, sa, sn, sc, HQ.out, rfl, below_setCells (Nat.le_refl _) _ _ B5.out⟩)
end Go.Proofs.YtepnghacjggkkaaGreatDoor
