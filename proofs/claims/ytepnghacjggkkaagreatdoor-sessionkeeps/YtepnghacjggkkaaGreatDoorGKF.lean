/- Contracts of Go's library at this program's numbers, by the kit's own layings; The dots of a text: values.Dots, versions.Dots, where nothing is wrong; The dots of a text: versions.Dots, where nothing is wrong; place.Dots, where nothing is wrong. -/
import Derived.Test.YtepnghacjggkkaaGreatDoorProg
import Derived.Shelf.SlSortCmp.WholeK
import Derived.Shelf.SlGeneric
import Derived.Ground.SlsfProg
import Derived.Test.YtepnghacjggkkaaGreatDoorGKM
import Derived.Test.YtepnghacjggkkaaGreatDoorGSBase
import Derived.Test.YtepnghacjggkkaaGreatDoorGVSortN
import Derived.Test.YtepnghacjggkkaaGreatDoorGWNew
import Derived.Test.YtepnghacjggkkaaGreatDoorGWMath2
namespace Go.Proofs
open Go.Shelf
def Tryz.sortDot_ren : Go.Shelf.Ren := ⟨fun | 6 => 153 | 15 => 107 | 14 => 161 | 28 => 133 | 29 => 134 | 20 => 171 | 21 => 172 | 22 => 173 | 23 => 174 | 24 => 175 | 25 => 176 | 26 => 177 | 27 => 178 | 46 => 182 | 47 => 148 | 48 => 149 | 49 => 183 | 50 => 184 | 57 => 186 | n => n, fun | 22 => 95 | 24 => 175 | 25 => 240 | 3 => 3 | 39 => 202 | 0 => 0 | 53 => 228 | 55 => 230 | 4 => 4 | 46 => 220 | 45 => 219 | 50 => 225 | 5 => 5 | 9 => 9 | 66 => 243 | 70 => 247 | 76 => 256 | 77 => 92 | n => n, fun | n => n⟩
theorem Tryz.sortDot : Go.Proofs.SlLaysF0.n6 Tryz.prog Tryz.sortDot_ren := {
  mixed := by kernel_rfl
  f6 := ⟨Tryz.f153.name, by decide, Tryz.func153.trans (congrArg some (by kernel_rfl))⟩
  f14 := ⟨Tryz.f161.name, by decide, Tryz.func161.trans (congrArg some (by kernel_rfl))⟩
  f15 := Tryz.func107.trans (congrArg some (by kernel_rfl))
  f20 := ⟨Tryz.f171.name, by decide, Tryz.func171.trans (congrArg some (by kernel_rfl))⟩
  f21 := ⟨Tryz.f172.name, by decide, Tryz.func172.trans (congrArg some (by kernel_rfl))⟩
  f22 := ⟨Tryz.f173.name, by decide, Tryz.func173.trans (congrArg some (by kernel_rfl))⟩
  f23 := ⟨Tryz.f174.name, by decide, Tryz.func174.trans (congrArg some (by kernel_rfl))⟩
  f24 := ⟨Tryz.f175.name, by decide, Tryz.func175.trans (congrArg some (by kernel_rfl))⟩
  f25 := ⟨Tryz.f176.name, by decide, Tryz.func176.trans (congrArg some (by kernel_rfl))⟩
  f26 := ⟨Tryz.f177.name, by decide, Tryz.func177.trans (congrArg some (by kernel_rfl))⟩
  f27 := ⟨Tryz.f178.name, by decide, Tryz.func178.trans (congrArg some (by kernel_rfl))⟩
  f28 := Tryz.func133.trans (congrArg some (by kernel_rfl))
  f29 := Tryz.func134.trans (congrArg some (by kernel_rfl))
  f46 := ⟨Tryz.f182.name, by decide, Tryz.func182.trans (congrArg some (by kernel_rfl))⟩
  f47 := Tryz.func148.trans (congrArg some (by kernel_rfl))
  f48 := Tryz.func149.trans (congrArg some (by kernel_rfl))
  f49 := ⟨Tryz.f183.name, by decide, Tryz.func183.trans (congrArg some (by kernel_rfl))⟩
  f50 := ⟨Tryz.f184.name, by decide, Tryz.func184.trans (congrArg some (by kernel_rfl))⟩
  f57 := ⟨Tryz.f186.name, by decide, Tryz.func186.trans (congrArg some (by kernel_rfl))⟩
  t0 := Tryz.underlying0
  a0 := Tryz.isAgg0
  z0 := Tryz.sizeOf0
  v0 := Tryz.zeroValue0
  t3 := Tryz.underlying3
  a3 := Tryz.isAgg3
  z3 := Tryz.sizeOf3
  v3 := Tryz.zeroValue3
  t4 := Tryz.underlying4
  a4 := Tryz.isAgg4
  z4 := Tryz.sizeOf4
  v4 := Tryz.zeroValue4
  t5 := Tryz.underlying5
  a5 := Tryz.isAgg5
  z5 := Tryz.sizeOf5
  v5 := Tryz.zeroValue5
  t9 := Tryz.underlying9
  a9 := Tryz.isAgg9
  z9 := Tryz.sizeOf9
  v9 := Tryz.zeroValue9
  t22 := Tryz.underlying95
  a22 := Tryz.isAgg95
  z22 := Tryz.sizeOf95
  v22 := Tryz.zeroValue95
  t25 := Tryz.underlying240
  a25 := Tryz.isAgg240
  z25 := Tryz.sizeOf240
  v25 := Tryz.zeroValue240
  t39 := Tryz.underlying202
  a39 := Tryz.isAgg202
  z39 := Tryz.sizeOf202
  v39 := Tryz.zeroValue202
  t45 := Tryz.underlying219
  a45 := Tryz.isAgg219
  z45 := Tryz.sizeOf219
  v45 := Tryz.zeroValue219
  t46 := Tryz.underlying220
  a46 := Tryz.isAgg220
  z46 := Tryz.sizeOf220
  v46 := Tryz.zeroValue220
  t50 := Tryz.underlying225
  a50 := Tryz.isAgg225
  z50 := Tryz.sizeOf225
  v50 := Tryz.zeroValue225
  t53 := Tryz.underlying228
  a53 := Tryz.isAgg228
  z53 := Tryz.sizeOf228
  v53 := Tryz.zeroValue228
  t55 := Tryz.underlying230
  a55 := Tryz.isAgg230
  z55 := Tryz.sizeOf230
  v55 := Tryz.zeroValue230
  t66 := Tryz.underlying243
  a66 := Tryz.isAgg243
  z66 := Tryz.sizeOf243
  v66 := Tryz.zeroValue243
  t70 := Tryz.underlying247
  a70 := Tryz.isAgg247
  z70 := Tryz.sizeOf247
  v70 := Tryz.zeroValue247
  t76 := Tryz.underlying256
  a76 := Tryz.isAgg256
  z76 := Tryz.sizeOf256
  v76 := Tryz.zeroValue256
  t77 := Tryz.underlying92
  a77 := Tryz.isAgg92
  z77 := Tryz.sizeOf92
  v77 := Tryz.zeroValue92 }
end Go.Proofs
namespace Go.Proofs.YtepnghacjggkkaaGreatDoor
open Go.RowKit Go.Sort Go.Maps Go.Shelf
set_option maxRecDepth 100000
set_option linter.unusedSectionVars false
variable [Inhabited ComV] [DecidableEq D3] [Inhabited D3] [Inhabited Dd] [Inhabited Dn] [Inhabited OpV]

def DotsRet (key text : ByteArray) (l : List ComV) (w : World) (e : Ending) (w' : World) : Prop :=
  ∃ v ds out, e = .returned (.tuple #[v, .nilIface]) ∧ IsOps key l ds ∧ IsDots text ds out ∧ DotsAt w' v out ∧ Below w.heap.size w w' ∧ ∀ g o n c, v = .slice (some ⟨g, o, none⟩) n c → w.heap.size ≤ g ∧ g < w'.heap.size
theorem dots_nil (w : World) : DotsAt w (.slice none 0 0) [] := ⟨none, 0, rfl, fun _ => rfl, Nat.le_refl _, .inl rfl⟩
theorem holds3_iff {w : World} {g : Nat} {d : Array D3} : HoldsK D3.cells 3 w g 0 d ↔ ∀ j, j < d.size → ∀ i, i < 3 → w.cell? ⟨g, j * 3 + i, none⟩ = some (d[j]!.cells[i]!) ∧ w.frozen? ⟨g, j * 3 + i, none⟩ = false := by
  constructor
  · intro h j hj i hi
    have := h (j * 3 + i) (by rw [size_flatK]; omega)
    rw [get_flatK _ _ _ _ (by omega), show (j * 3 + i) / 3 = j by omega, show (j * 3 + i) % 3 = i by omega, Nat.zero_add] at this
    exact this
  · intro h t ht
    rw [size_flatK] at ht
    rw [get_flatK _ _ _ _ ht, Nat.zero_add]
    have := h (t / 3) (by omega) (t % 3) (by omega)
    rw [show t / 3 * 3 + t % 3 = t by omega] at this
    exact this
theorem dots_of_holds {w : World} {g cap : Nat} {d : Array D3} (h : HoldsK D3.cells 3 w g 0 d) (hc : d.size ≤ cap) : DotsAt w (.slice (some ⟨g, 0, none⟩) d.size cap) d.toList := by
  refine ⟨_, cap, by simp, (fun e => by cases e), by simpa using hc, .inr ⟨g, 0, rfl, fun j r hr => ?_⟩⟩
  rw [List.getElem?_map] at hr
  cases hj : d.toList[j]? with
  | none => rw [hj] at hr; cases hr
  | some x =>
    rw [hj] at hr
    obtain rfl := Option.some.inj hr
    obtain ⟨hl, hx⟩ := List.getElem?_eq_some_iff.1 hj
    have hl' : j < d.size := by simpa using hl
    refine ⟨rfl, fun i u hu => ?_⟩
    have hi : i < 3 := (List.getElem?_eq_some_iff.1 hu).1
    have := (holds3_iff.1 h j hl' i hi).1
    have e : d[j]! = x := by rw [getElem!_pos d j hl', ← hx]; simp
    rw [Nat.zero_add, this, e, List.getElem!_eq_getElem?_getD, hu]
    rfl
theorem holds3_of_owns {w : World} {base g n cap : Nat} {ts : List D3} (h : w.ownsRow base 175 3 (.slice (some ⟨g, 0, none⟩) n cap) ts.length (ts.flatMap D3.cells)) : HoldsK D3.cells 3 w g 0 ts.toArray ∧ base ≤ g ∧ g < w.heap.size ∧ n = ts.length ∧ ts.length ≤ cap := by
  obtain ⟨_, h2⟩ := h
  rcases h2 with ⟨h, _⟩ | ⟨g', cap', cur, he, hb, hh, hn, hm, hs, ht⟩
  · cases h
  · cases he
    refine ⟨?_, hb, (Array.getElem?_eq_some_iff.1 hh).1, rfl, hn⟩
    rw [holds3_iff]
    intro j hj i hi
    have hj' : j < ts.length := by simpa using hj
    have e := flat3_get ts j i hj' hi
    rw [← ht, List.getElem?_take, if_pos (by omega), Array.getElem?_toList] at e
    refine ⟨?_, ?_⟩
    · simp only [World.cell?, hh]
      rw [e]
      simp
    · simp only [World.frozen?, hh]
      simp
theorem ltOf_cmpD : ltOf cmpD = ltD := by
  funext x y
  unfold ltOf
  have h2 := cmpD_lt x y
  cases h : ltD x y with
  | true => exact decide_eq_true (h2.2 h)
  | false => exact decide_eq_false (fun hh => by rw [h2.1 hh] at h; cases h)
theorem sortDots (w : World) (B g cap : Nat) (ts : List D3) (hH : HoldsK D3.cells 3 w g 0 ts.toArray) (hB : B ≤ g) (hg : g < w.heap.size) (hcap : ts.length ≤ cap) (hsz : ts.length ≤ 1000000) :
    Calls Tryz.prog 153 #[.slice (some ⟨g, 0, none⟩) ts.length cap, .func (.func 145) #[] #[]] w fun e w' => e = .returned (.tuple #[]) ∧ ∃ ys : List D3, ys.Perm ts ∧ ys.Pairwise (fun a b => ltD b a = false) ∧ DotsAt w' (.slice (some ⟨g, 0, none⟩) ts.length cap) ys ∧ Below B w w' := by
  have hcon := AnyQ.slices_SortFunc Tryz.sortDot 3 Tryz.isAgg175 Tryz.sizeOf175 D3.cells (fun _ => rfl) D3.one cmpD (by rw [ltOf_cmpD]; exact swoD) 145 #[] g 0 cap ts.toArray w (enters_of Tryz.func145 (by kernel_rfl) rfl)
    (fun _ _ _ _ x y => compareDots_any _ x y) hH hg (by simp; omega)
  change Calls Tryz.prog 153 _ _ _ at hcon
  rw [ltOf_cmpD] at hcon
  simp only [List.size_toArray] at hcon
  refine hcon.mono ?_
  rintro e w' ⟨rfl, d', n, os, hp, hs, rfl⟩
  have hp' : PermIn 0 ts.toArray.size ts.toArray d' := by simpa using hp
  have hsz' : d'.size = ts.length := by simpa using hp'.1
  have hh := holdsK_sortWorldK D3.cells 3 w g 0 n ts.toArray d' os hg hH (by simpa using hsz')
  have hd := dots_of_holds hh (cap := cap) (by omega)
  rw [hsz'] at hd
  exact ⟨rfl, d'.toList, by simpa using perm_of_permIn hp', pairwise_of_sortedIn (by rw [hsz']; exact hs), hd, below_sortWorld _ _ _ _ _ _ _ hB hg⟩
theorem sortDots_none (w : World) (p : Option Addr) (cap : Nat) : Calls Tryz.prog 153 #[.slice p 0 cap, .func (.func 145) #[] #[]] w fun e w' => e = .returned (.tuple #[]) ∧ w' = w := sortDot_none p cap _ w
set_option maxHeartbeats 4000000 in
theorem dots_ok (A : Nat → Addr) (w : World) (hE : E4 A w) (h4 : 12 ≤ w.heap.size) (key text : ByteArray) (hk : nameB key = true) (v : Value) (l : List ComV) (hv : ComsAt w v l) (hl : l.length ≤ 1000) (hsm : ∀ c ∈ l, SmallC c) (hok : ∀ i, i < l.length → listBad l i = 0) :
    Calls Tryz.prog 135 #[.string key, .string text, v] w fun e w' => DotsRet key text l w e w' := by
  obtain ⟨a, n, cp, rfl⟩ : ∃ a n cp, v = .slice a n cp := by obtain ⟨a, cp, rfl, _⟩ := hv.shape; exact ⟨_, _, _, rfl⟩
  have K41 := opsOn_ok A w hE h4 key hk (.slice a n cp) l hv hl hsm hok
  have HOK := hid hok
  have H12 : Hid (∀ c ∈ l, c.ops.length ≤ 12) := fun c hc => by
    obtain ⟨i, hi, rfl⟩ := List.getElem_of_mem hc
    have := (comOk_of (c := l[i]!) (by
      have := hok i hi
      unfold listBad at this
      split at this
      · rename_i h; exact absurd this h
      · rename_i h; simpa using h)).few
    rwa [getElem!_pos l i hi] at this
  obtain ⟨i0, hi, hz0, hz1, hz2⟩ := info_parts Tryz.info175
  clear hE hk hv hsm hok
  go_enter Tryz.func135, Tryz.ntmps135
  go_wp2_with fail
  refine K41.mono ?_
  rintro e w2 ⟨v2, xs, rfl, hR, hI, hG, _, hb⟩
  have hOk := isOps_ok hI HOK.out
  have hlen := isOps_len hI H12.out
  simp only [List.length_map] at hlen
  have HB := hid hb
  have HI := hid hI
  clear K41 hb hI
  by_cases h0 : xs = []
  · subst h0
    obtain ⟨av, cv, rfl⟩ := hR.shape
    clear hR hG
    go_wp2
    go_ret2
    exact ⟨_, _, [], rfl, HI.out, .inl ⟨.inl rfl, rfl⟩, dots_nil _, HB.out, fun _ _ _ _ h => by cases h⟩
  · have hm0 : 0 < xs.length := List.length_pos_iff.2 h0
    rcases hR with ⟨_, h⟩ | ⟨g, cap, rfl, hBg, hg2, hcap, hH⟩
    · exact absurd h h0
    · have hkc := kind_cell hH hm0
      obtain ⟨kd, hkd⟩ : ∃ kd, kd = xs[0]!.kind := ⟨_, rfl⟩
      rw [← hkd] at hkc
      have hd0 : (xs.map Dd.abs)[0]!.o.kind = kd := by rw [map_get_abs xs hm0, hkd]; rfl
      have hdn : xs.map Dd.abs ≠ [] := by simpa using h0
      obtain ⟨m, hm⟩ : ∃ m, m = xs.length := ⟨_, rfl⟩
      rw [← hm] at hm0 hcap hlen ⊢
      have hmb : m ≤ 12000 := by omega
      have hme : ((m : Int) == 0) = false := by rw [beq_eq_false_iff_ne]; omega
      have HM := hid hm
      have HD0 := hid hd0
      have HDN := hid hdn
      by_cases hk3 : kd = 3
      · subst hk3
        have K43 := standing_n w2 g m cap xs hm.symm (by omega) hg2 hH hG (fun x hx => dotsWf_of (hG x hx) (hOk x.abs (List.mem_map.2 ⟨x, hx, rfl⟩)))
        clear hkd hH hG hOk hm hd0 hdn h0
        go_wp2_with fail
        refine K43.mono ?_
        rintro e w4 ⟨v4, rfl, hrow4, hb4⟩
        obtain ⟨fs, hfs⟩ : ∃ fs, fs = xs.filter fun x => (finalMap (xs.map Dd.abs) x.dot).isSome := ⟨_, rfl⟩
        rw [← hfs] at hrow4
        have hfl : fs.length ≤ m := by rw [hfs, HM.out]; exact List.length_filter_le _ _
        have hR4 := rowD_of_owns hrow4
        have HB4 := hid hb4
        have HFS := hid hfs
        clear hrow4 hb4 hfs K43
        have hsA : (standA (xs.map Dd.abs)) = fs.map Dd.abs := by
          unfold standA
          rw [HFS.out, List.filter_map]
          rfl
        have HSA := hid hsA
        clear hsA
        have fin : ∀ (w5 : World) (v5 : Value) (out : List D3), out.Perm ((fs.filter fun x => decide (x.text = text)).map Dd.dot) → out.Pairwise (fun a b => ltD b a = false) → DotsAt w5 v5 out → Below w4.heap.size w4 w5 → (∀ g o n c, v5 = .slice (some ⟨g, o, none⟩) n c → w4.heap.size ≤ g ∧ g < w5.heap.size) → DotsRet key text l w (.returned (.tuple #[v5, .nilIface])) w5 := fun w5 v5 out h1 h2 h3 h5 h6 =>
          ⟨_, _, out, rfl, HI.out, .inr ⟨⟨HDN.out, HD0.out⟩, by
            unfold dotsUp
            rw [HSA.out, List.filter_map, List.map_map]
            exact h1, h2⟩, h3, (HB.out.trans (HB4.out.mono HB.out.size)).trans (h5.mono (Nat.le_trans HB.out.size HB4.out.size)), fun g o n c q => ⟨Nat.le_trans (Nat.le_trans HB.out.size HB4.out.size) (h6 g o n c q).1, (h6 g o n c q).2⟩⟩
        have FIN := hid fin
        clear fin
        rcases hR4 with ⟨rfl, hf⟩ | ⟨g4, cap4, rfl, hBg4, hg4, hcap4, hH4⟩
        · subst hf
          go_wp2
          refine wp_loop_rounds 1 ?_
          rw [rounds_succ]
          go_wp2_with (go_at_call 153; refine (sortDots_none _ _ _).mono ?_; rintro e w' ⟨rfl, rfl⟩)
          go_ret2
          exact FIN.out _ _ [] (List.Perm.refl _) List.Pairwise.nil (dots_nil _) (Below.refl _ _) (fun _ _ _ _ h => by cases h)
        · obtain ⟨m4, hm4⟩ : ∃ m4, m4 = fs.length := ⟨_, rfl⟩
          rw [← hm4] at hfl hcap4 ⊢
          have HM4 := hid hm4
          have HH4 := hid hH4
          clear hm4 hH4
          go_wp2
          go_loopw [10, 38] (fun v i wr => ∃ k : Nat, k ≤ m4 ∧ i = .int .i64 k ∧ Hid (Below w4.heap.size w4 wr) ∧ Hid (wr.ownsRow w4.heap.size 175 3 v (((fs.take k).filter fun x => decide (x.text = text)).map Dd.dot).length ((((fs.take k).filter fun x => decide (x.text = text)).map Dd.dot).flatMap D3.cells))) (fun _ i _ => m4 - (intOf i).toNat)
          case atStart => exact ⟨0, Nat.zero_le _, rfl, Below.refl _ _, World.ownsRow_nil _ _ _ _⟩
          case round =>
            obtain ⟨k, hk, rfl, HK, HR⟩ := hrel
            have hsz := HK.out.size
            by_cases hlt : k < m4
            · obtain ⟨u, hu⟩ : ∃ u, u = fs[k]! := ⟨_, rfl⟩
              obtain ⟨c0, c1, c2, c3, c4, c5, c6, c7, c8, c9, c10⟩ := holdsK_cells (holdsK_below HH4.out HK.out hg4) (j := k) (u := u) (by have := HM4.out; simp; omega) (by rw [hu]; have := HM4.out; rw [getElem!_pos fs.toArray k (by simp; omega), getElem!_pos fs k (by omega)]; simp)
              have hfil : ((fs.take (k + 1)).filter fun x => decide (x.text = text)).map Dd.dot = ((fs.take k).filter fun x => decide (x.text = text)).map Dd.dot ++ (if u.text = text then [u.dot] else []) := by
                rw [List.take_succ_eq_append_getElem (by have := HM4.out; omega), List.filter_append, List.map_append, hu, getElem!_pos fs k (by have := HM4.out; omega)]
                congr 1
                simp only [List.filter_cons, List.filter_nil]
                by_cases e : fs[k].text = text <;> simp [e]
              have hfl2 : (((fs.take k).filter fun x => decide (x.text = text)).map Dd.dot).length ≤ m4 := by
                rw [List.length_map]
                exact Nat.le_trans (List.length_filter_le _ _) (by simp; omega)
              have HF := hid hfil
              have hrow := HR.out
              obtain ⟨os, hos⟩ : ∃ os, os = ((fs.take k).filter fun x => decide (x.text = text)).map Dd.dot := ⟨_, rfl⟩
              rw [← hos] at hrow HF hfl2
              clear hu hfil hos HR
              obtain ⟨x1, x2, x3, x4, x5, x6, dp, dl, dc, ⟨x8, x9, x10⟩, x11, ds⟩ := u
              simp only at c0 c1 c2 c3 c4 c5 c6 c7 c8 c9 c10
              by_cases he : x4 = text
              · subst he
                go_wp2_with (at_builtin; refine wpList_append_own _ rfl _ _ 95 rfl w4.heap.size 175 i0 _ 3 24 Tryz.underlying95 hi hz0 hz1 hz2 rfl (by decide) _ _ _ rfl ((hrow.alloc _).alloc _) ⟨wr.heap.size + 1, 0, none⟩ 1 1 [.int .i64 x8, .int .i64 x9, .int .i64 x10] rfl rfl (cells11_new _ _ _ _ (by simp)) ?ho1 ?ho2 ?ho3 ?ho4 ?_; (case ho1 => exact D3.one ⟨x8, x9, x10⟩); (case ho2 => unfold maxLen; omega); (case ho3 => omega); (case ho4 => simp; omega); intro v' w5 hown' hgrow2 hnil2)
                refine ⟨⟨k + 1, by omega, by go_num, ?_, ?_⟩, by simp [intOf]; omega⟩
                · exact ((HK.out.alloc hsz _).alloc (by simp; omega) _).grown hgrow2 (by simp; omega) (fun j hj => (hrow.lt j hj).1)
                · rw [HF.out]
                  simp only [if_true, List.length_append, List.length_singleton, List.flatMap_append, List.flatMap_singleton]
                  exact hown'
              · have hne : (x4.toList == text.toList) = false := beq_eq_false_iff_ne.2 (ne_toList he)
                go_wp2
                refine ⟨⟨k + 1, by omega, by go_num, HK.out.alloc hsz _, ?_⟩, by simp [intOf]; omega⟩
                rw [HF.out]
                simp only [he, if_false, List.append_nil]
                exact hrow.alloc _
            · have hkm : m4 = k := by omega
              subst hkm
              have hrow := HR.out
              rw [List.take_of_length_le (by have := HM4.out; omega)] at hrow
              obtain ⟨ts, hts⟩ : ∃ ts, ts = (fs.filter fun x => decide (x.text = text)).map Dd.dot := ⟨_, rfl⟩
              have htl : ts.length ≤ 1000000 := by rw [hts, List.length_map]; exact Nat.le_trans (List.length_filter_le _ _) (by have := HM4.out; omega)
              rw [← hts] at hrow
              by_cases ht0 : ts = []
              · subst ht0
                obtain ⟨pv, cv, rfl⟩ : ∃ pv cv, u10 = .slice pv 0 cv := by
                  obtain ⟨_, h2⟩ := hrow
                  rcases h2 with ⟨h, _⟩ | ⟨g', cap', cur, he, _⟩
                  · exact ⟨_, _, h⟩
                  · exact ⟨_, _, he⟩
                have hda : DotsAt wr (.slice pv 0 cv) [] := by
                  obtain ⟨_, h2⟩ := hrow
                  rcases h2 with ⟨h, _⟩ | ⟨g', cap', cur, he, _⟩
                  · cases h; exact dots_nil _
                  · cases he; exact ⟨_, _, rfl, (fun h => by cases h), Nat.zero_le _, .inl rfl⟩
                have HFR : Hid (∀ g o n c, Value.slice pv 0 cv = .slice (some ⟨g, o, none⟩) n c → w4.heap.size ≤ g ∧ g < wr.heap.size) := (show ∀ g o n c, _ → _ from fun g o n c q => by
                  obtain ⟨_, h2⟩ := hrow
                  rcases h2 with ⟨h, _⟩ | ⟨g', cap', cur, he, hb, hh, _⟩
                  · cases h; cases q
                  · cases he; cases q; exact ⟨hb, (Array.getElem?_eq_some_iff.1 hh).1⟩)
                have HDA := hid hda
                have HTS := hid hts
                clear hrow hda hts HR
                go_wp2_with (go_at_call 153; refine (sortDots_none _ _ _).mono ?_; rintro e w' ⟨rfl, rfl⟩)
                go_ret2
                exact FIN.out _ _ [] (by rw [← HTS.out]) List.Pairwise.nil HDA.out HK.out HFR.out
              · obtain ⟨g', n', c', rfl⟩ : ∃ g' n' c', u10 = .slice (some ⟨g', 0, none⟩) n' c' := by
                  obtain ⟨_, h2⟩ := hrow
                  rcases h2 with ⟨_, h⟩ | ⟨g', cap', cur, he, _⟩
                  · exact absurd (List.eq_nil_of_length_eq_zero h) ht0
                  · exact ⟨g', _, cap', he⟩
                obtain ⟨hHs, hBg', hgl, hn, hcp⟩ := holds3_of_owns hrow
                have K44 := sortDots wr w4.heap.size g' c' ts hHs hBg' hgl hcp htl
                rw [← hn] at K44
                have HTS := hid hts
                clear hrow hHs hn hts HR ht0
                go_wp2_with fail
                refine K44.mono ?_
                rintro e w5 ⟨rfl, ys, h1, h2, h3, h5⟩
                have H1 := hid h1
                have H2 := hid h2
                have H3 := hid h3
                have H5 := hid h5
                clear K44 h1 h2 h3 h5
                go_wp2
                go_ret2
                exact FIN.out _ _ ys (by rw [← HTS.out]; exact H1.out) H2.out H3.out (HK.out.trans H5.out) (fun _ _ _ _ h => by cases h; exact ⟨hBg', Nat.lt_of_lt_of_le hgl H5.out.size⟩)
      · have hne : (kd != 3) = true := by simpa using hk3
        clear hkd hH hG hOk hm hd0 hdn h0
        go_wp2
        go_ret2
        exact ⟨_, _, [], rfl, HI.out, .inl ⟨.inr (by rw [HD0.out]; exact hk3), rfl⟩, dots_nil _, HB.out, fun _ _ _ _ h => by cases h⟩
end Go.Proofs.YtepnghacjggkkaaGreatDoor
namespace Go.Proofs.YtepnghacjggkkaaGreatDoor
open Go.RowKit Go.Sort Go.Maps
set_option maxRecDepth 100000
set_option linter.unusedSectionVars false
variable [Inhabited ComV] [DecidableEq D3] [Inhabited D3] [Inhabited Dd] [Inhabited Dn] [Inhabited OpV]

set_option maxHeartbeats 2000000 in
theorem dotsV_ok (A : Nat → Addr) (w : World) (hE : E4 A w) (h12 : 12 ≤ w.heap.size) (p mb db n nb : Nat) (f : ByteArray → Value) (s : St) (hV : VerAt w p mb db f s n) (hS : StOk s nb) (key text : ByteArray) (hk : nameB key = true) (hk6 : key.size ≤ 1000000) (av : Value) (at_ : List Int) (ha : IntsAt w av at_) (hc : chk at_ = 0) (hal : at_.length = nb) (hle : leB s.base at_ = true) (hfew : (rowOf s key).length ≤ 1000) :
    Calls Tryz.prog 114 #[.pointer (some ⟨p, 0, none⟩), .string key, .string text, av] w fun e w' => DotsRet key text (seenL s key at_) w e w' := by
  have hlen := seenL_len s key at_
  have K61 := hid (fun W (hW : Below w.heap.size w W) v (hv : ComsAt W v (seenL s key at_)) => dots_ok A W (hE.below hW h12) (by have := hW.size; omega) key text hk v (seenL s key at_) hv (by omega) (fun c hc => hS.small c (seenL_mem hc)) (listOk_of (n := nb) (fun c hc => hS.ok c (seenL_mem hc)) (fun c hc => hS.when_ c (seenL_mem hc))))
  have K46 := hid (seen_ok A w hE h12 p mb db n nb f s hV hS key hk hk6 av at_ ha hc hal hle hfew)
  obtain ⟨aa, ac, rfl⟩ := ha.slice
  clear hV hS ha hE hk hc hal hle hfew hlen
  go_enter Tryz.func114, Tryz.ntmps114
  go_wp2_with fail
  refine K46.out.mono ?_
  rintro e w1 ⟨v1, rfl, hc1, hb1⟩
  have B1 := hid hb1
  have C1 := hid hc1
  obtain ⟨a1, k1, hv1, _⟩ := hc1.shape
  subst hv1
  clear hc1 hb1 K46
  go_wp2_with fail
  refine (K61.out w1 B1.out _ C1.out).mono ?_
  rintro e w2 ⟨v2, ds, out, rfl, h1, h2, h3, hb2, hf2⟩
  have H1 := hid h1
  have H2 := hid h2
  have H3 := hid h3
  have B2 := hid (B1.out.trans (hb2.mono B1.out.size))
  have F2 := hid hf2
  clear h1 h2 h3 hb2 hf2 K61
  go_wp2_with fail
  go_ret2
  exact ⟨_, ds, out, rfl, H1.out, H2.out, H3.out, B2.out, fun g o n c q => ⟨Nat.le_trans B1.out.size (F2.out g o n c q).1, (F2.out g o n c q).2⟩⟩
end Go.Proofs.YtepnghacjggkkaaGreatDoor
namespace Go.Proofs.YtepnghacjggkkaaGreatDoor
open Go.RowKit Go.Maps
set_option maxRecDepth 100000
set_option linter.unusedSectionVars false
variable [Inhabited ComV] [DecidableEq D3] [Inhabited D3] [Inhabited Dd] [Inhabited Dn] [Inhabited OpV]

set_option maxHeartbeats 2000000 in
theorem dotsP_any (A : Nat → Addr) (w : World) (hE : E4 A w) (h12 : 12 ≤ w.heap.size) (h : PlH) (v : PlV) (a : PlAt w h v) (key text : ByteArray) (hk : nameB key = true) (va : Option Addr) (vn vc : Nat) (at_ : List Int) (hv : IntsAt w (.slice va vn vc) at_) (h2 : two at_ (snapV v) = 0) (hle : leB at_ (snapV v) = true) (hS : StOk v.st v.n) (hbs : leB v.st.base at_ = true) (hfew : (rowOf v.st key).length ≤ 1000) :
    Calls Tryz.prog 86 #[.pointer (some ⟨h.pb, 0, none⟩), .string key, .string text, .slice va vn vc] w (DotsRet key text (seenL v.st key at_) w) := by
  have hlen : at_.length = v.n := by have := (two_zero.1 h2).2.2; rw [snapV_len] at this; exact this
  have hc := (two_zero.1 h2).1
  have hk6 : key.size ≤ 1000000 := by
    unfold nameB at hk
    simp only [Bool.and_eq_true, decide_eq_true_eq] at hk
    omega
  have K39 := hid (checkAsked_any A w hE h12 h v a key hk va vn vc at_ hv h2 hle)
  have K40 := hid (fun W (hW : Below w.heap.size w W) => dotsV_ok A W (hE.below hW h12) (Nat.le_trans h12 hW.size) h.p h.mb h.db h.nn v.n h.f v.st (a.below hW).store hS key text hk hk6 (.slice va vn vc) at_ (hv.mono hW (Nat.le_refl _)) hc hlen hbs hfew)
  have PX := hid (fun W (hW : Below w.heap.size w W) => (show W.cell? ⟨h.pb, 3, none⟩ = some (.pointer (some ⟨h.p, 0, none⟩)) from (cell_of (a.below hW).box).trans rfl))
  clear hE a hv h2 hle hS hbs hfew hlen hc hk hk6
  go_enter Tryz.func86, Tryz.ntmps86
  go_wp2_with fail
  refine K39.out.mono ?_
  rintro e w2 ⟨rfl, hb2⟩
  have p3 := PX.out w2 hb2
  have K40' := hid (K40.out w2 hb2)
  have BW2 := hid hb2
  clear hb2 K40 PX K39
  go_wp2_with fail
  refine K40'.out.mono ?_
  rintro e w3 ⟨v3, ds, out, rfl, h1, h2, h3, hb3, hf3⟩
  obtain ⟨dp, dc, hdv⟩ := h3.len
  subst hdv
  have H1 := hid h1
  have H2 := hid h2
  have H3 := hid h3
  have B3 := hid (BW2.out.trans (hb3.mono BW2.out.size))
  have F3 := hid hf3
  clear h1 h2 h3 hb3 hf3 K40' p3
  go_wp2_with fail
  go_ret2
  exact ⟨_, ds, out, rfl, H1.out, H2.out, H3.out, B3.out, fun g o n c q => ⟨Nat.le_trans BW2.out.size (F3.out g o n c q).1, (F3.out g o n c q).2⟩⟩
end Go.Proofs.YtepnghacjggkkaaGreatDoor
