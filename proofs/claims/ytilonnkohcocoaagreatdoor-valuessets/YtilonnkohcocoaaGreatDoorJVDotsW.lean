/- Dots by its contract, where nothing is wrong; Dots by its contract, where nothing is wrong: the walk. -/
import Derived.Test.YtilonnkohcocoaaGreatDoorJVOfW
namespace Go.Proofs.YtilonnkohcocoaaGreatDoor
open Go.RowKit Go.Sort Go.Maps Go.Shelf
set_option maxRecDepth 100000
set_option linter.unusedSectionVars false
variable [Inhabited ComV] [DecidableEq D3] [Inhabited D3] [Inhabited Dd] [Inhabited Dn] [Inhabited OpV]

/-- The dots of a text, in the order in which they count. -/
def dotsUp (text : ByteArray) (ds : List Dn) : List D3 := ((standA ds).filter fun x => decide (x.o.text = text)).map (·.dot)
/-- Which dots a text has: none but in a set; rising. -/
def IsDots (text : ByteArray) (ds : List Dn) (out : List D3) : Prop :=
  (ds = [] ∨ ds[0]!.o.kind ≠ 3) ∧ out = [] ∨ (ds ≠ [] ∧ ds[0]!.o.kind = 3) ∧ out.Perm (dotsUp text ds) ∧ out.Pairwise (fun a b => ltD b a = false)
/-- What Dots hands back, where nothing is wrong. -/
def DotsRet (key text : ByteArray) (l : List ComV) (w : World) (e : Ending) (w' : World) : Prop :=
  ∃ v ds out, e = .returned (.tuple #[v, .nilIface]) ∧ IsOps key l ds ∧ IsDots text ds out ∧ DotsAt w' v out ∧ Below w.heap.size w w'
theorem dots_nil (w : World) : DotsAt w (.slice none 0 0) [] := ⟨none, 0, rfl, fun _ => rfl, Nat.le_refl _, .inl rfl⟩
theorem Tryz.info65 : (Tryz.prog.info? 65).map (fun i => (i.zero, i.size, i.bytes)) = some (some (.agg #[.int .i64 0, .int .i64 0, .int .i64 0]), 3, 24) := by kernel_rfl
theorem D3.one (d : D3) : ∀ v ∈ d.cells, v.oneCell' = true := fun v hv => by
  simp only [D3.cells, List.mem_cons, List.not_mem_nil, or_false] at hv
  rcases hv with rfl | rfl | rfl <;> rfl
theorem flat3_get (xs : List D3) : ∀ (j i : Nat), j < xs.length → i < 3 → (xs.flatMap D3.cells)[j * 3 + i]? = some (xs[j]!.cells[i]!) := by
  induction xs with
  | nil => intro j i hj; simp at hj
  | cons x r ih =>
    intro j i hj hi
    rw [List.flatMap_cons]
    cases j with
    | zero =>
      rw [List.getElem?_append_left (by show _ < 3; omega), Nat.zero_mul, Nat.zero_add, List.getElem?_eq_getElem (show i < x.cells.length from hi)]
      show some _ = some (x.cells[i]!)
      rw [getElem!_pos x.cells i hi]
      rfl
    | succ j =>
      rw [List.getElem?_append_right (by show 3 ≤ _; omega), show (j + 1) * 3 + i - x.cells.length = j * 3 + i by show _ - 3 = _; omega, ih j i (by simpa using hj) hi]
      simp
theorem holds3_iff {w : World} {g : Nat} {d : Array D3} : HoldsK D3.cells 3 w g 0 d ↔ ∀ j, j < d.size → ∀ i, i < 3 → w.cell? ⟨g, j * 3 + i, none⟩ = some (d[j]!.cells[i]!) ∧ w.frozen? ⟨g, j * 3 + i, none⟩ = false := by
  constructor
  · intro h j hj i hi
    have := h (j * 3 + i) (by rw [size_flatK]; omega)
    rw [get_flatK _ _ _ _ (by omega), show (j * 3 + i) / 3 = j by omega, show (j * 3 + i) % 3 = i by omega, Nat.zero_add] at this
    exact this
  · intro h t ht
    rw [size_flatK] at ht
    rw [get_flatK _ _ _ _ ht, Nat.zero_add]
    have := h (t / 3) (by omega) (t % 3) (by omega)
    rw [show t / 3 * 3 + t % 3 = t by omega] at this
    exact this
theorem dots_of_holds {w : World} {g cap : Nat} {d : Array D3} (h : HoldsK D3.cells 3 w g 0 d) (hc : d.size ≤ cap) : DotsAt w (.slice (some ⟨g, 0, none⟩) d.size cap) d.toList := by
  refine ⟨_, cap, by simp, (fun e => by cases e), by simpa using hc, .inr ⟨g, 0, rfl, fun j r hr => ?_⟩⟩
  rw [List.getElem?_map] at hr
  cases hj : d.toList[j]? with
  | none => rw [hj] at hr; cases hr
  | some x =>
    rw [hj] at hr
    obtain rfl := Option.some.inj hr
    obtain ⟨hl, hx⟩ := List.getElem?_eq_some_iff.1 hj
    have hl' : j < d.size := by simpa using hl
    refine ⟨rfl, fun i u hu => ?_⟩
    have hi : i < 3 := (List.getElem?_eq_some_iff.1 hu).1
    have := (holds3_iff.1 h j hl' i hi).1
    have e : d[j]! = x := by rw [getElem!_pos d j hl', ← hx]; simp
    rw [Nat.zero_add, this, e, List.getElem!_eq_getElem?_getD, hu]
    rfl
/-- A row of dots that the call owns. -/
theorem holds3_of_owns {w : World} {base g n cap : Nat} {ts : List D3} (h : w.ownsRow base 65 3 (.slice (some ⟨g, 0, none⟩) n cap) ts.length (ts.flatMap D3.cells)) : HoldsK D3.cells 3 w g 0 ts.toArray ∧ base ≤ g ∧ g < w.heap.size ∧ n = ts.length ∧ ts.length ≤ cap := by
  obtain ⟨_, h2⟩ := h
  rcases h2 with ⟨h, _⟩ | ⟨g', cap', cur, he, hb, hh, hn, hm, hs, ht⟩
  · cases h
  · cases he
    refine ⟨?_, hb, (Array.getElem?_eq_some_iff.1 hh).1, rfl, hn⟩
    rw [holds3_iff]
    intro j hj i hi
    have hj' : j < ts.length := by simpa using hj
    have e := flat3_get ts j i hj' hi
    rw [← ht, List.getElem?_take, if_pos (by omega), Array.getElem?_toList] at e
    refine ⟨?_, ?_⟩
    · simp only [World.cell?, hh]
      rw [e]
      simp
    · simp only [World.frozen?, hh]
      simp
/-- slices.SortFunc over a row of dots. -/
theorem sortDots (w : World) (B g cap : Nat) (ts : List D3) (hH : HoldsK D3.cells 3 w g 0 ts.toArray) (hB : B ≤ g) (hg : g < w.heap.size) (hcap : ts.length ≤ cap) (hsz : ts.length ≤ 1000000) :
    Calls Tryz.prog 53 #[.slice (some ⟨g, 0, none⟩) ts.length cap, .func (.func 54) #[] #[]] w fun e w' => e = .returned (.tuple #[]) ∧ ∃ ys : List D3, ys.Perm ts ∧ ys.Pairwise (fun a b => ltD b a = false) ∧ DotsAt w' (.slice (some ⟨g, 0, none⟩) ts.length cap) ys ∧ Below B w w' := by
  have hcon := AnyQ.slices_SortFunc Tryz.sortDot 3 Tryz.isAgg65 Tryz.sizeOf65 D3.cells (fun _ => rfl) D3.one cmpD (by rw [ltOf_cmpD]; exact swoD) 54 #[] g 0 cap ts.toArray w (enters_of Tryz.func54 (by kernel_rfl) rfl)
    (fun _ _ _ _ x y => compareDots_any _ x y) hH hg (by simp; omega)
  change Calls Tryz.prog 53 _ _ _ at hcon
  rw [ltOf_cmpD] at hcon
  simp only [List.size_toArray] at hcon
  refine hcon.mono ?_
  rintro e w' ⟨rfl, d', n, os, hp, hs, rfl⟩
  have hp' : PermIn 0 ts.toArray.size ts.toArray d' := by simpa using hp
  have hsz' : d'.size = ts.length := by simpa using hp'.1
  have hh := holdsK_sortWorldK D3.cells 3 w g 0 n ts.toArray d' os hg hH (by simpa using hsz')
  have hd := dots_of_holds hh (cap := cap) (by omega)
  rw [hsz'] at hd
  exact ⟨rfl, d'.toList, by simpa using perm_of_permIn hp', pairwise_of_sortedIn (by rw [hsz']; exact hs), hd, below_sortWorld _ _ _ _ _ _ _ hB hg⟩
theorem sortDots_none (w : World) (p : Option Addr) (cap : Nat) : Calls Tryz.prog 53 #[.slice p 0 cap, .func (.func 54) #[] #[]] w fun e w' => e = .returned (.tuple #[]) ∧ w' = w := by
  have hn := AnyF.slices_SortFunc_none (P := Tryz.prog) (ρ := Tryz.sortDot_ren) { Tryz.sortDot with } p cap (.func (.func 54) #[] #[]) w
  change Calls Tryz.prog 53 _ _ _ at hn
  exact hn
end Go.Proofs.YtilonnkohcocoaaGreatDoor
namespace Go.Proofs.YtilonnkohcocoaaGreatDoor
open Go.RowKit Go.Sort Go.Maps
set_option maxRecDepth 100000
set_option linter.unusedSectionVars false
variable [Inhabited ComV] [DecidableEq D3] [Inhabited D3] [Inhabited Dd] [Inhabited Dn] [Inhabited OpV]

set_option maxHeartbeats 4000000 in
theorem dots_ok (A : Nat → Addr) (w : World) (hE : E4 A w) (h4 : 4 ≤ w.heap.size) (key text : ByteArray) (hk : nameB key = true) (v : Value) (l : List ComV) (hv : ComsAt w v l) (hl : l.length ≤ 1000) (hsm : ∀ c ∈ l, SmallC c) (hok : ∀ i, i < l.length → listBad l i = 0) :
    Calls Tryz.prog 21 #[.string key, .string text, v] w fun e w' => DotsRet key text l w e w' := by
  obtain ⟨a, n, cp, rfl⟩ : ∃ a n cp, v = .slice a n cp := by obtain ⟨a, cp, rfl, _⟩ := hv.shape; exact ⟨_, _, _, rfl⟩
  have K41 := opsOn_ok A w hE h4 key hk (.slice a n cp) l hv hl hsm hok
  have HOK := hid hok
  have H12 : Hid (∀ c ∈ l, c.ops.length ≤ 12) := fun c hc => by
    obtain ⟨i, hi, rfl⟩ := List.getElem_of_mem hc
    have := (comOk_of (c := l[i]!) (by
      have := hok i hi
      unfold listBad at this
      split at this
      · rename_i h; exact absurd this h
      · rename_i h; simpa using h)).few
    rwa [getElem!_pos l i hi] at this
  obtain ⟨i0, hi, hz0, hz1, hz2⟩ := info_parts Tryz.info65
  clear hE hk hv hsm hok
  go_enter Tryz.func21, Tryz.ntmps21
  go_wp2_with fail
  refine K41.mono ?_
  rintro e w2 ⟨v2, xs, rfl, hR, hI, hG, _, hb⟩
  have hOk := isOps_ok hI HOK.out
  have hlen := isOps_len hI H12.out
  simp only [List.length_map] at hlen
  have HB := hid hb
  have HI := hid hI
  clear K41 hb hI
  by_cases h0 : xs = []
  · subst h0
    obtain ⟨av, cv, rfl⟩ := hR.shape
    clear hR hG
    go_wp2
    go_ret2
    exact ⟨_, _, [], rfl, HI.out, .inl ⟨.inl rfl, rfl⟩, dots_nil _, HB.out⟩
  · have hm0 : 0 < xs.length := List.length_pos_iff.2 h0
    rcases hR with ⟨_, h⟩ | ⟨g, cap, rfl, hBg, hg2, hcap, hH⟩
    · exact absurd h h0
    · have hkc := kind_cell hH hm0
      obtain ⟨kd, hkd⟩ : ∃ kd, kd = xs[0]!.kind := ⟨_, rfl⟩
      rw [← hkd] at hkc
      have hd0 : (xs.map Dd.abs)[0]!.o.kind = kd := by rw [map_get_abs xs hm0, hkd]; rfl
      have hdn : xs.map Dd.abs ≠ [] := by simpa using h0
      obtain ⟨m, hm⟩ : ∃ m, m = xs.length := ⟨_, rfl⟩
      rw [← hm] at hm0 hcap hlen ⊢
      have hmb : m ≤ 12000 := by omega
      have hme : ((m : Int) == 0) = false := by rw [beq_eq_false_iff_ne]; omega
      have HM := hid hm
      have HD0 := hid hd0
      have HDN := hid hdn
      by_cases hk3 : kd = 3
      · subst hk3
        have K43 := standing_n w2 g m cap xs hm.symm (by omega) hg2 hH hG (fun x hx => dotsWf_of (hG x hx) (hOk x.abs (List.mem_map.2 ⟨x, hx, rfl⟩)))
        clear hkd hH hG hOk hm hd0 hdn h0
        go_wp2_with fail
        refine K43.mono ?_
        rintro e w4 ⟨v4, rfl, hrow4, hb4⟩
        obtain ⟨fs, hfs⟩ : ∃ fs, fs = xs.filter fun x => (finalMap (xs.map Dd.abs) x.dot).isSome := ⟨_, rfl⟩
        rw [← hfs] at hrow4
        have hfl : fs.length ≤ m := by rw [hfs, HM.out]; exact List.length_filter_le _ _
        have hR4 := rowD_of_owns hrow4
        have HB4 := hid hb4
        have HFS := hid hfs
        clear hrow4 hb4 hfs K43
        have hsA : (standA (xs.map Dd.abs)) = fs.map Dd.abs := by
          unfold standA
          rw [HFS.out, List.filter_map]
          rfl
        have HSA := hid hsA
        clear hsA
        have fin : ∀ (w5 : World) (v5 : Value) (out : List D3), out.Perm ((fs.filter fun x => decide (x.text = text)).map Dd.dot) → out.Pairwise (fun a b => ltD b a = false) → DotsAt w5 v5 out → Below w4.heap.size w4 w5 → DotsRet key text l w (.returned (.tuple #[v5, .nilIface])) w5 := fun w5 v5 out h1 h2 h3 h5 =>
          ⟨_, _, out, rfl, HI.out, .inr ⟨⟨HDN.out, HD0.out⟩, by
            unfold dotsUp
            rw [HSA.out, List.filter_map, List.map_map]
            exact h1, h2⟩, h3, (HB.out.trans (HB4.out.mono HB.out.size)).trans (h5.mono (Nat.le_trans HB.out.size HB4.out.size))⟩
        have FIN := hid fin
        clear fin
        rcases hR4 with ⟨rfl, hf⟩ | ⟨g4, cap4, rfl, hBg4, hg4, hcap4, hH4⟩
        · subst hf
          go_wp2
          refine wp_loop_rounds 1 ?_
          rw [rounds_succ]
          go_wp2_with (go_at_call 53; refine (sortDots_none _ _ _).mono ?_; rintro e w' ⟨rfl, rfl⟩)
          go_ret2
          exact FIN.out _ _ [] (List.Perm.refl _) List.Pairwise.nil (dots_nil _) (Below.refl _ _)
        · obtain ⟨m4, hm4⟩ : ∃ m4, m4 = fs.length := ⟨_, rfl⟩
          rw [← hm4] at hfl hcap4 ⊢
          have HM4 := hid hm4
          have HH4 := hid hH4
          clear hm4 hH4
          go_wp2
          go_loopw [10, 38] (fun v i wr => ∃ k : Nat, k ≤ m4 ∧ i = .int .i64 k ∧ Hid (Below w4.heap.size w4 wr) ∧ Hid (wr.ownsRow w4.heap.size 65 3 v (((fs.take k).filter fun x => decide (x.text = text)).map Dd.dot).length ((((fs.take k).filter fun x => decide (x.text = text)).map Dd.dot).flatMap D3.cells))) (fun _ i _ => m4 - (intOf i).toNat)
          case atStart => exact ⟨0, Nat.zero_le _, rfl, Below.refl _ _, World.ownsRow_nil _ _ _ _⟩
          case round =>
            obtain ⟨k, hk, rfl, HK, HR⟩ := hrel
            have hsz := HK.out.size
            by_cases hlt : k < m4
            · obtain ⟨u, hu⟩ : ∃ u, u = fs[k]! := ⟨_, rfl⟩
              obtain ⟨c0, c1, c2, c3, c4, c5, c6, c7, c8, c9, c10⟩ := holdsK_cells (holdsK_below HH4.out HK.out hg4) (j := k) (u := u) (by have := HM4.out; simp; omega) (by rw [hu]; have := HM4.out; rw [getElem!_pos fs.toArray k (by simp; omega), getElem!_pos fs k (by omega)]; simp)
              have hfil : ((fs.take (k + 1)).filter fun x => decide (x.text = text)).map Dd.dot = ((fs.take k).filter fun x => decide (x.text = text)).map Dd.dot ++ (if u.text = text then [u.dot] else []) := by
                rw [List.take_succ_eq_append_getElem (by have := HM4.out; omega), List.filter_append, List.map_append, hu, getElem!_pos fs k (by have := HM4.out; omega)]
                congr 1
                simp only [List.filter_cons, List.filter_nil]
                by_cases e : fs[k].text = text <;> simp [e]
              have hfl2 : (((fs.take k).filter fun x => decide (x.text = text)).map Dd.dot).length ≤ m4 := by
                rw [List.length_map]
                exact Nat.le_trans (List.length_filter_le _ _) (by simp; omega)
              have HF := hid hfil
              have hrow := HR.out
              obtain ⟨os, hos⟩ : ∃ os, os = ((fs.take k).filter fun x => decide (x.text = text)).map Dd.dot := ⟨_, rfl⟩
              rw [← hos] at hrow HF hfl2
              clear hu hfil hos HR
              obtain ⟨x1, x2, x3, x4, x5, x6, dp, dl, dc, ⟨x8, x9, x10⟩, x11, ds⟩ := u
              simp only at c0 c1 c2 c3 c4 c5 c6 c7 c8 c9 c10
              by_cases he : x4 = text
              · subst he
                go_wp2_with (at_builtin; refine wpList_append_own _ rfl _ _ 22 rfl w4.heap.size 65 i0 _ 3 24 Tryz.underlying22 hi hz0 hz1 hz2 rfl (by decide) _ _ _ rfl ((hrow.alloc _).alloc _) ⟨wr.heap.size + 1, 0, none⟩ 1 1 [.int .i64 x8, .int .i64 x9, .int .i64 x10] rfl rfl (cells11_new _ _ _ _ (by simp)) ?ho1 ?ho2 ?ho3 ?ho4 ?_; (case ho1 => exact D3.one ⟨x8, x9, x10⟩); (case ho2 => unfold maxLen; omega); (case ho3 => omega); (case ho4 => simp; omega); intro v' w5 hown' hgrow2 hnil2)
                refine ⟨⟨k + 1, by omega, by go_num, ?_, ?_⟩, by simp [intOf]; omega⟩
                · exact ((HK.out.alloc hsz _).alloc (by simp; omega) _).grown hgrow2 (by simp; omega) (fun j hj => (hrow.lt j hj).1)
                · rw [HF.out]
                  simp only [if_true, List.length_append, List.length_singleton, List.flatMap_append, List.flatMap_singleton]
                  exact hown'
              · have hne : (x4.toList == text.toList) = false := beq_eq_false_iff_ne.2 (ne_toList he)
                go_wp2
                refine ⟨⟨k + 1, by omega, by go_num, HK.out.alloc hsz _, ?_⟩, by simp [intOf]; omega⟩
                rw [HF.out]
                simp only [he, if_false, List.append_nil]
                exact hrow.alloc _
            · have hkm : m4 = k := by omega
              subst hkm
              have hrow := HR.out
              rw [List.take_of_length_le (by have := HM4.out; omega)] at hrow
              obtain ⟨ts, hts⟩ : ∃ ts, ts = (fs.filter fun x => decide (x.text = text)).map Dd.dot := ⟨_, rfl⟩
              have htl : ts.length ≤ 1000000 := by rw [hts, List.length_map]; exact Nat.le_trans (List.length_filter_le _ _) (by have := HM4.out; omega)
              rw [← hts] at hrow
              by_cases ht0 : ts = []
              · subst ht0
                obtain ⟨pv, cv, rfl⟩ : ∃ pv cv, u10 = .slice pv 0 cv := by
                  obtain ⟨_, h2⟩ := hrow
                  rcases h2 with ⟨h, _⟩ | ⟨g', cap', cur, he, _⟩
                  · exact ⟨_, _, h⟩
                  · exact ⟨_, _, he⟩
                have hda : DotsAt wr (.slice pv 0 cv) [] := by
                  obtain ⟨_, h2⟩ := hrow
                  rcases h2 with ⟨h, _⟩ | ⟨g', cap', cur, he, _⟩
                  · cases h; exact dots_nil _
                  · cases he; exact ⟨_, _, rfl, (fun h => by cases h), Nat.zero_le _, .inl rfl⟩
                have HDA := hid hda
                have HTS := hid hts
                clear hrow hda hts HR
                go_wp2_with (go_at_call 53; refine (sortDots_none _ _ _).mono ?_; rintro e w' ⟨rfl, rfl⟩)
                go_ret2
                exact FIN.out _ _ [] (by rw [← HTS.out]) List.Pairwise.nil HDA.out HK.out
              · obtain ⟨g', n', c', rfl⟩ : ∃ g' n' c', u10 = .slice (some ⟨g', 0, none⟩) n' c' := by
                  obtain ⟨_, h2⟩ := hrow
                  rcases h2 with ⟨_, h⟩ | ⟨g', cap', cur, he, _⟩
                  · exact absurd (List.eq_nil_of_length_eq_zero h) ht0
                  · exact ⟨g', _, cap', he⟩
                obtain ⟨hHs, hBg', hgl, hn, hcp⟩ := holds3_of_owns hrow
                have K44 := sortDots wr w4.heap.size g' c' ts hHs hBg' hgl hcp htl
                rw [← hn] at K44
                have HTS := hid hts
                clear hrow hHs hn hts HR ht0
                go_wp2_with fail
                refine K44.mono ?_
                rintro e w5 ⟨rfl, ys, h1, h2, h3, h5⟩
                have H1 := hid h1
                have H2 := hid h2
                have H3 := hid h3
                have H5 := hid h5
                clear K44 h1 h2 h3 h5
                go_wp2
                go_ret2
                exact FIN.out _ _ ys (by rw [← HTS.out]; exact H1.out) H2.out H3.out (HK.out.trans H5.out)
      · have hne : (kd != 3) = true := by simpa using hk3
        clear hkd hH hG hOk hm hd0 hdn h0
        go_wp2
        go_ret2
        exact ⟨_, _, [], rfl, HI.out, .inl ⟨.inr (by rw [HD0.out]; exact hk3), rfl⟩, dots_nil _, HB.out⟩
end Go.Proofs.YtilonnkohcocoaaGreatDoor
