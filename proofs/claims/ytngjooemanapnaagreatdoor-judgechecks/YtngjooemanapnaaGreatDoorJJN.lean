/- judge.Check by its contract; judge.Check; Who waits for whom: eachWitness, takeFree. -/
import Derived.Test.YtngjooemanapnaaGreatDoorJJH5
namespace Go.Proofs.YtngjooemanapnaaGreatDoor
open Go.RowKit Go.Sort Go.Maps
set_option maxRecDepth 100000

/-- What is asked of events' sizes. -/
structure EvFit (e : EvV) : Prop where
  com : SmallC e.c
  at_ : e.at_.length ≤ 1000000
  reads : e.reads.length ≤ 1000000
  ses : n64 e.ses
theorem inTurn_new (wq w : World) : Calls Tryz.prog 23 #[] w fun r w' => ∃ cb mb, r = .returned (.func (.func 45) #[] #[.pointer (some ⟨cb, 0, none⟩)]) ∧ TurnI wq w' cb mb 0 [] ∧ cb ≠ mb ∧ w.heap.size ≤ mb ∧ Below w.heap.size w w' := by
  have hmm := @run_makeMap Tryz.prog
  go_enter Tryz.func23, Tryz.ntmps23
  go_wp2
  go_ret
  refine ⟨w.heap.size + 1, w.heap.size, rfl, ⟨?_, .map [], fun _ => none, (World.ownsMap_made w Tryz.prog 3 elemV).alloc _, MapS.start, fun _ _ => .inl ⟨rfl, rfl⟩⟩, by omega, Nat.le_refl _, below2 _ _ _⟩
  have := heap_new (w.alloc (.map #[] 0)) (.cells #[.map (some w.heap.size)] 94)
  rwa [World.size_alloc] at this
theorem TurnI.isMap {wq w : World} {cb mb n : Nat} {l : List EvV} (h : TurnI wq w cb mb n l) : ∃ es clock, w.heap[mb]? = some (.map es clock) := by
  obtain ⟨D, M, ⟨es, clock, q, _⟩, _⟩ := h.map
  exact ⟨es, clock, q⟩
theorem AllAt.turned {wq w u : World} {sb mb : Nat} {xs : List Cm} (h : AllAt wq w sb xs) (hO : OnlyB mb w u) (hm : ∃ es clock, w.heap[mb]? = some (.map es clock)) : AllAt wq u sb xs := by
  obtain ⟨v, h1, h2⟩ := h.row
  obtain ⟨es, clock, hm⟩ := hm
  have ne : ∀ q cs t, w.heap[q]? = some (.cells cs t (0, 0)) → q ≠ mb := fun q cs t hq e => by
    rw [e, hm] at hq
    cases hq
  exact ⟨⟨v, (hO.2.2.2.2 _ (lt_of_heap h1) (ne _ _ _ h1)).trans h1, owns_below h2 fun q cs hq => hO.2.2.2.2 q (lt_of_heap hq) (ne _ _ _ hq)⟩, h.good⟩
theorem Sents.gcell {A : Nat → Addr} {B : Nat} {w u : World} (h : Sents A B w) (hb : Below B w u) (k : Nat) (hk : k < 12) : u.cell? ⟨gix k, 0, none⟩ = some (.iface 223 (.pointer (some (A k)))) := (h.below hb).cell k hk
/-- The first pass: the verdicts, and where they lie. -/
theorem pass1 (A : Nat → Addr) (B : Nat) (w : World) (hS : Sents A B w) (n : Int) (l : List EvV) (v : Value) (hv : EvsAt w v l) (hl : l.length ≤ 1000) (hf : ∀ e ∈ l, EvFit e) (w1 : World) (hb1 : Below w.heap.size w w1) (fv : Value) (hfv : OfPAt w1 fv n) (c : Nat) (w2 : World) (hw2 : w2 = w1.alloc (.cells #[fv, .func (.func 21) #[] #[]] 62)) :
    Calls Tryz.prog 19 #[v, .slice (some ⟨w1.heap.size, 0, none⟩) 2 c] w2 fun r w' => ∃ x, r = .returned x ∧ ErrAt A w' x (wholeE n l) ∧ Below w.heap.size w w' := by
  obtain ⟨ib, pb, rfl, hi, hp⟩ := hfv
  have b12 : Below w1.heap.size w1 w2 := by rw [hw2]; exact below_alloc _ _
  have hb2 : Below w.heap.size w w2 := hb1.trans (b12.mono hb1.size)
  have hx : w2.heap[w1.heap.size]? = some (.cells #[.func (.func 40) #[] #[.pointer (some ⟨ib, 0, none⟩), .pointer (some ⟨pb, 0, none⟩)], .func (.func 21) #[] #[]] 62 (0, 0)) := by rw [hw2]; exact heap_new _ _
  have e40 := enters_of Tryz.func40 (by kernel_rfl) rfl
  have e21 := enters_of Tryz.func21 (by kernel_rfl) rfl
  have hs12 : 12 ≤ w.heap.size := Nat.le_trans (by have := hS.gl; omega) hS.size
  have key := firstFault_any A w w2 l v hv hl w1.heap.size 2 c (fun | 0 => 40 | _ => 21) (fun | 0 => #[.pointer (some ⟨ib, 0, none⟩), .pointer (some ⟨pb, 0, none⟩)] | _ => #[]) (vdW n l) (fun _ _ W => Below w2.heap.size w2 W) (by omega)
    { below := fun h => hb2.trans (h.mono hb2.size)
      cells := fun {i k W} h j hj => by
        have hc := (h.block _ (lt_of_heap hx)).trans hx
        rcases (by omega : j = 0 ∨ j = 1) with rfl | rfl
        · exact (cell_of hc).trans rfl
        · exact (cell_of hc).trans rfl
      stay := fun h hb => h.trans (hb.mono h.size)
      next := fun _ h => h
      enters := fun k hk => by
        rcases (by omega : k = 0 ∨ k = 1) with rfl | rfl
        · exact e40
        · exact e21 }
    (fun i k W av rv wv ov hi' hk hI _ he hr => by
      have hbW : Below w.heap.size w W := hb2.trans (hI.mono hb2.size)
      have hfe := hf _ (getD_mem hi')
      have heW := EvAt.mono he hbW (Nat.le_refl _)
      have hrS : ∃ a n c, rv = .slice a n c := by obtain ⟨_, ⟨a, c, rfl, _⟩, _⟩ := hr; exact ⟨_, _, _, rfl⟩
      have hSW := hS.below (hbW.mono hS.size)
      have hsW : 12 ≤ W.heap.size := Nat.le_trans hs12 hbW.size
      have b1W : Below w1.heap.size w1 W := b12.trans (hI.mono b12.size)
      rcases (by omega : k = 0 ∨ k = 1) with rfl | rfl
      · refine (ofP_any A W hSW.e4 hsW ib pb n (by rw [b1W.cell (p := ⟨ib, 0, none⟩) (lt_of_cell hi)]; exact hi) (by rw [b1W.cell (p := ⟨pb, 0, none⟩) (lt_of_cell hp)]; exact hp) _ av rv wv ov heW hrS hfe.at_ hfe.com.1).mono ?_
        rintro r w' ⟨rfl, hb⟩
        exact ⟨rfl, hI.trans (hb.mono hI.size), above_of hb⟩
      · refine (wholeC_any A W hSW.e5 _ av rv wv ov heW hrS hfe.com).mono ?_
        rintro r w' ⟨rfl, hb⟩
        exact ⟨rfl, hI.trans (hb.mono hI.size), above_of hb⟩)
    (Below.refl _ _)
  refine key.mono ?_
  rintro r w' ⟨x, rfl, h1, h2, _⟩
  have e : (fun i => (scan (vdW n l i) 2).1) = fun i => wholeB n (l.getD i ev0) := funext fun i => vdW_scan n l i
  rw [e] at h1
  exact ⟨x, rfl, h1, h2⟩
theorem doneL_mem {s : Int} : ∀ {l : List EvV} {zs : List Int}, doneL s l = some zs → ∃ e ∈ l, zs = e.c.when_ := by
  intro l
  suffices h : ∀ (l : List EvV) (m : Option (List Int)) (zs : List Int), l.foldl (fun m e => if e.ses = s then some e.c.when_ else m) m = some zs → m = some zs ∨ ∃ e ∈ l, zs = e.c.when_ by
    intro zs hz
    rcases h l none zs hz with h | h
    · cases h
    · exact h
  intro l
  induction l with
  | nil => intro m zs h; exact .inl h
  | cons e l ih =>
    intro m zs h
    rcases ih _ _ h with h | ⟨e', h1, h2⟩
    · have h : (if e.ses = s then some e.c.when_ else m) = some zs := h
      by_cases q : e.ses = s
      · rw [if_pos q] at h
        exact .inr ⟨e, by simp, (Option.some.inj h).symm⟩
      · rw [if_neg q] at h
        exact .inl h
    · exact .inr ⟨e', by simp [h1], h2⟩
/-- How many events inTurn has been asked of. -/
def tkN (i k : Nat) : Nat := if k ≤ 1 then i else i + 1
set_option maxHeartbeats 2000000 in
/-- The second pass. -/
theorem pass2 (A : Nat → Addr) (B : Nat) (w : World) (hS : Sents A B w) (n : Int) (l : List EvV) (v : Value) (hv : EvsAt w v l) (hl : l.length ≤ 1000) (hf : ∀ e ∈ l, EvFit e) (hW : WholeL n l) (w1 : World) (hb1 : Below w.heap.size w w1) (cb mb sb : Nat) (xs : List Cm) (hT : TurnI w w1 cb mb 0 []) (hcm : cb ≠ mb) (hmw : w.heap.size ≤ mb) (hA : AllAt w w1 sb xs) (hxs : xs.map (·.c) = comsL l) (c : Nat) (w2 : World)
    (hw2 : w2 = w1.alloc (.cells #[.func (.func 22) #[] #[], .func (.func 45) #[] #[.pointer (some ⟨cb, 0, none⟩)], .func (.func 47) #[] #[.pointer (some ⟨sb, 0, none⟩)]] 62)) :
    Calls Tryz.prog 19 #[v, .slice (some ⟨w1.heap.size, 0, none⟩) 3 c] w2 fun r w' => ∃ x, r = .returned x ∧ ErrAt A w' x (scan (besideB l) l.length) ∧ Below w.heap.size w w' := by
  have b12 : Below w1.heap.size w1 w2 := by rw [hw2]; exact below_alloc _ _
  have hb2 : Below w.heap.size w w2 := hb1.trans (b12.mono hb1.size)
  have hx : w2.heap[w1.heap.size]? = some (.cells #[.func (.func 22) #[] #[], .func (.func 45) #[] #[.pointer (some ⟨cb, 0, none⟩)], .func (.func 47) #[] #[.pointer (some ⟨sb, 0, none⟩)]] 62 (0, 0)) := by rw [hw2]; exact heap_new _ _
  have e22 := enters_of Tryz.func22 (by kernel_rfl) rfl
  have e45 := enters_of Tryz.func45 (by kernel_rfl) rfl
  have e47 := enters_of Tryz.func47 (by kernel_rfl) rfl
  have hs13 : 13 ≤ w.heap.size := Nat.le_trans hS.gl hS.size
  have hml := hT.mlt
  have hT2 := hT.stay b12
  have hA2 := hA.stay b12
  have hxl : xs.length ≤ 1000 := by
    have : xs.length = (comsL l).length := by rw [← hxs, List.length_map]
    have h2 : (comsL l).length ≤ l.length := by unfold comsL; exact Nat.le_trans (List.length_filter_le _ _) (by simp)
    omega
  have key := firstFault_any A w w2 l v hv hl w1.heap.size 3 c (fun | 0 => 22 | 1 => 45 | _ => 47) (fun | 0 => #[] | 1 => #[.pointer (some ⟨cb, 0, none⟩)] | _ => #[.pointer (some ⟨sb, 0, none⟩)]) (vdB l) (fun i k W => OnlyB mb w2 W ∧ TurnI w W cb mb (tkN i k) (l.take (tkN i k))) (by omega)
    { below := fun h => h.1.below hmw hb2 hb2.size
      cells := fun {i k W} h j hj => by
        have hc := (h.1.2.2.2.2 _ (lt_of_heap hx) (by omega)).trans hx
        rcases (by omega : j = 0 ∨ j = 1 ∨ j = 2) with rfl | rfl | rfl
        · exact (cell_of hc).trans rfl
        · exact (cell_of hc).trans rfl
        · exact (cell_of hc).trans rfl
      stay := fun h hb => ⟨h.1.trans (OnlyB.of hb), h.2.stay hb⟩
      next := fun _ h => h
      enters := fun k hk => by
        rcases (by omega : k = 0 ∨ k = 1 ∨ k = 2) with rfl | rfl | rfl
        · exact e22
        · exact e45
        · exact e47 }
    (fun i k W av rv wv ov hi' hk hI hz he hr => by
      have hbW : Below w.heap.size w W := hI.1.below hmw hb2 hb2.size
      have hfe := hf _ (getD_mem hi')
      have heW := EvAt.mono he hbW (Nat.le_refl _)
      have hrS : ∃ a n c, rv = .slice a n c := by obtain ⟨_, ⟨a, c, rfl, _⟩, _⟩ := hr; exact ⟨_, _, _, rfl⟩
      have hSW := hS.below (hbW.mono hS.size)
      have hsW : 12 ≤ W.heap.size := Nat.le_trans (by omega) hbW.size
      have hAW := hA2.turned hI.1 hT2.isMap
      rcases (by omega : k = 0 ∨ k = 1 ∨ k = 2) with rfl | rfl | rfl
      · refine (forwardV_any A W hSW.e4 hsW _ av rv wv ov heW hfe.at_ hfe.com.1).mono ?_
        rintro r w' ⟨rfl, hb⟩
        exact ⟨rfl, ⟨hI.1.trans (OnlyB.of hb), hI.2.stay hb⟩, above_of hb⟩
      · refine (turn_any A w W hbW hSW.e4 (hSW.cell 8 (by decide)) (by omega) cb mb i (l.take i) hI.2 hcm hmw (by omega) (fun s zs hd => by
          obtain ⟨e, he, rfl⟩ := doneL_mem hd
          exact (hf e (List.mem_of_mem_take he)).com.1) _ hfe.ses av rv wv ov he hrS hfe.at_).mono ?_
        rintro r w' ⟨rfl, h1, h2⟩
        have e : l.getD i ev0 = l[i] := by rw [List.getD_eq_getElem?_getD, List.getElem?_eq_getElem hi']; rfl
        refine ⟨rfl, ⟨hI.1.trans h2, ?_⟩, h2.2.2.2.1, fun q h3 h4 => h2.2.2.2.2 q h4 (by have := b12.size; omega)⟩
        show TurnI w w' cb mb (i + 1) (l.take (i + 1))
        rw [List.take_succ_eq_append_getElem hi', ← e]
        exact h1
      · have hok : ∀ j, j < (seenC l (l.getD i ev0).at_).length → listBad (seenC l (l.getD i ev0).at_) j = 0 := hW.list seenC_of
        have e : ((xs.map (·.c)).filter fun c => inB c.when_ (l.getD i ev0).at_) = seenC l (l.getD i ev0).at_ := by rw [hxs]; rfl
        have := trueR_any A w W hbW hSW.e5 hs13 (hSW.cell 7 (by decide)) sb xs hAW hxl _ av rv wv ov he hr hfe.at_ hfe.reads (by rw [e]; exact hok)
        rw [e] at this
        refine this.mono ?_
        rintro r w' ⟨rfl, hb⟩
        exact ⟨rfl, ⟨hI.1.trans (OnlyB.of hb), hI.2.stay hb⟩, above_of hb⟩)
    ⟨OnlyB.of (Below.refl _ _), hT2⟩
  refine key.mono ?_
  rintro r w' ⟨x, rfl, h1, h2, _⟩
  have e : (fun i => (scan (vdB l i) 3).1) = besideB l := funext fun i => vdB_scan l i
  rw [e] at h1
  exact ⟨x, rfl, h1, h2⟩
end Go.Proofs.YtngjooemanapnaaGreatDoor
namespace Go.Proofs.YtngjooemanapnaaGreatDoor
open Go.RowKit Go.Sort Go.Maps
set_option maxRecDepth 100000

def ErRet (A : Nat → Addr) (er : Nat × Option Nat) (w : World) (r : Ending) (w' : World) : Prop := ∃ x, r = .returned x ∧ ErrAt A w' x er ∧ Below w.heap.size w w'
theorem errAt_cases {A : Nat → Addr} {w : World} {x : Value} {er : Nat × Option Nat} (h : ErrAt A w x er) (h0 : er.1 = 0 → er.2 = none) : (er.1 = 0 ∧ x = .nilIface) ∨ (er.1 ≠ 0 ∧ ∃ t a, x = .iface t (.pointer (some a))) := by
  obtain ⟨k, o⟩ := er
  cases k with
  | zero =>
    have : o = none := h0 rfl
    subst this
    exact .inl ⟨rfl, h⟩
  | succ k => exact .inr ⟨by simp, errAt_ptr h⟩
theorem scan_bare {f : Nat → Nat} {m : Nat} (h : (scan f m).1 = 0) : (scan f m).2 = none := by rw [scan_fst_zero h]
set_option maxHeartbeats 4000000 in
theorem checkJ_any (A : Nat → Addr) (B : Nat) (w : World) (hS : Sents A B w) (n : Int) (l : List EvV) (v : Value) (hv : EvsAt w v l) (hl : l.length ≤ 1000) (hf : ∀ e ∈ l, EvFit e) :
    Calls Tryz.prog 7 #[.int .i64 n, v] w (ErRet A (checkE n l) w) := by
  have HS := hid hS
  have hs13 : 13 ≤ w.heap.size := Nat.le_trans hS.gl hS.size
  have P1 := hid (pass1 A B w hS n l v hv hl hf)
  have P2 := hid (fun hW => pass2 A B w hS n l v hv hl hf hW)
  have KT := fun w4 hq => hid (trueReads_any w l v hv hl (fun e he => (hf e he).com) w4 hq)
  have hv0 := hid hv
  obtain ⟨va, vc, rfl, _⟩ := hv.shape
  have g0 : w.cell? ⟨0, 0, none⟩ = some (.iface 223 (.pointer (some (A 1)))) := hS.cell 1 (by decide)
  unfold checkE
  by_cases h1 : n < 1
  · rw [if_pos (.inl h1)]
    clear hS hv HS P1 P2 KT hv0 hf
    go_enter Tryz.func7, Tryz.ntmps7
    go_wp2
    go_ret
    exact ⟨_, rfl, rfl, Below.refl _ _⟩
  by_cases h2 : 6 < n
  · rw [if_pos (.inr h2)]
    clear hS hv HS P1 P2 KT hv0 hf
    go_enter Tryz.func7, Tryz.ntmps7
    go_wp2
    go_ret
    exact ⟨_, rfl, rfl, Below.refl _ _⟩
  rw [if_neg (by omega)]
  obtain ⟨er1, her1⟩ : ∃ er1, er1 = wholeE n l := ⟨_, rfl⟩
  have H0 : er1.1 = 0 → er1.2 = none := fun h => by rw [her1] at h ⊢; exact scan_bare h
  have HW := hid (fun (h : er1.1 = 0) => wholeL_of (n := n) (l := l) (by rw [← her1]; exact h))
  rw [← her1] at P1 ⊢
  obtain ⟨er, her⟩ : ∃ er, er = (if er1.1 ≠ 0 then er1 else scan (besideB l) l.length) := ⟨_, rfl⟩
  rw [← her]
  have HER := ShutJ.mk her
  have HH0 := hid H0
  obtain ⟨m, hm⟩ : ∃ m, m = l.length := ⟨_, rfl⟩
  have HM := hid hm
  rw [← hm] at P1 P2 KT ⊢
  clear hS hv HS hv0 hf her her1 H0 hm g0 hl
  go_enter Tryz.func7, Tryz.ntmps7
  go_wp2_with fail
  with_reducible refine (ofPlaces_any w n).mono ?_
  rintro r w1 ⟨fv, rfl, hfv, hb1⟩
  have K1 := fun c => hid (P1.out w1 hb1 fv hfv c _ rfl)
  obtain ⟨ib, pb, rfl, _, _⟩ := hfv
  have B1 := hid hb1
  clear P1 hb1
  go_wp2_with fail
  with_reducible refine (K1 _).out.mono ?_
  rintro r w3 ⟨x, rfl, hx, hb3⟩
  clear K1
  rcases errAt_cases hx HH0.out with ⟨h0, rfl⟩ | ⟨h0, t, a, rfl⟩
  · have B3 := hid hb3
    have HZ := hid h0
    clear hx hb3 h0
    go_wp2_with fail
    with_reducible refine (inTurn_new w w3).mono ?_
    rintro r w4 ⟨cb, mb, rfl, hT, hcm, hmb, hb4⟩
    have hb4' : Below w.heap.size w w4 := B3.out.trans (hb4.mono B3.out.size)
    have KT' := hid ((KT w4 hb4').out)
    have HT := hid hT
    have hmw : w.heap.size ≤ mb := Nat.le_trans B3.out.size hmb
    have B4 := hid hb4'
    clear hT hb4 hb4' KT hmb
    go_wp2_with fail
    with_reducible refine KT'.out.mono ?_
    rintro r w5 ⟨sb, xs, rfl, hA, hxs, hb5⟩
    have K2 := fun c => hid (P2.out (HW.out HZ.out) w5 (B4.out.trans (hb5.mono B4.out.size)) cb mb sb xs (HT.out.stay hb5) hcm hmw hA hxs c _ rfl)
    clear hA hxs hb5 KT' P2
    go_wp2_with fail
    with_reducible refine (K2 _).out.mono ?_
    rintro r w6 ⟨x, rfl, hx, hb6⟩
    have HX := hid hx
    have B6 := hid hb6
    clear hx hb6 K2
    go_wp2
    go_ret
    refine ⟨x, rfl, ?_, B6.out⟩
    rw [HER.out, if_neg (fun h => h HZ.out), ← HM.out]
    exact HX.out
  · have HX := hid hx
    have B3 := hid hb3
    have HZ := hid h0
    clear hx hb3 h0
    go_wp2
    go_ret
    refine ⟨_, rfl, ?_, B3.out⟩
    rw [HER.out, if_pos HZ.out]
    exact HX.out
end Go.Proofs.YtngjooemanapnaaGreatDoor
namespace Go.Proofs.YtngjooemanapnaaGreatDoor
open Go.RowKit Go.Sort Go.Maps
set_option maxRecDepth 100000

/-- Block wb holds n numbers. -/
def RowI (w : World) (wb n : Nat) (f : Nat → Int) : Prop := ∃ cs, w.heap[wb]? = some (.cells cs 3 (0, 0)) ∧ ∀ t, t < n → cs[t]? = some (.int .i64 (f t))
theorem RowI.cell {w : World} {wb n : Nat} {f : Nat → Int} (h : RowI w wb n f) {t : Nat} (ht : t < n) : w.cell? ⟨wb, t, none⟩ = some (.int .i64 (f t)) := by
  obtain ⟨cs, h1, h2⟩ := h
  simp only [World.cell?, h1]
  rw [h2 t ht]
  rfl
theorem RowI.free {w : World} {wb n : Nat} {f : Nat → Int} (h : RowI w wb n f) (t : Nat) : w.frozen? ⟨wb, t, none⟩ = false := by
  obtain ⟨cs, h1, _⟩ := h
  simp [World.frozen?, h1]
theorem RowI.lt {w : World} {wb n : Nat} {f : Nat → Int} (h : RowI w wb n f) : wb < w.heap.size := by obtain ⟨cs, h1, _⟩ := h; exact lt_of_heap h1
theorem RowI.stay {w w' : World} {wb n : Nat} {f : Nat → Int} (h : RowI w wb n f) (hb : w'.heap[wb]? = w.heap[wb]?) : RowI w' wb n f := by
  obtain ⟨cs, h1, h2⟩ := h
  exact ⟨cs, hb.trans h1, h2⟩
theorem RowI.set {w : World} {wb n : Nat} {f : Nat → Int} (h : RowI w wb n f) {b : Nat} (x : Int) : RowI (w.setCell ⟨wb, b, none⟩ (.int .i64 x)) wb n (fun t => if t = b then x else f t) := by
  obtain ⟨cs, h1, h2⟩ := h
  refine ⟨cs.setIfInBounds b (.int .i64 x), heap_set h1 _, fun t ht => ?_⟩
  by_cases e : t = b
  · subst e
    have := (Array.getElem?_eq_some_iff.1 (h2 t ht)).1
    simp [this]
  · show _ = some (Value.int .i64 (if t = b then x else f t))
    rw [if_neg e, Array.getElem?_setIfInBounds_ne (Ne.symm e)]
    exact h2 t ht
theorem only_setCell {w : World} {wb b : Nat} {v : Value} : OnlyB wb w (w.setCell ⟨wb, b, none⟩ v) := ⟨rfl, rfl, rfl, by simp, fun q _ hq => Below.heap_setCell _ _ _ _ hq⟩
/-- What rounds waits with: the variable, and its row. -/
structure Waits (w : World) (vb wb n : Nat) (f : Nat → Int) : Prop where
  var : ∃ c, w.heap[vb]? = some (.cells #[.slice (some ⟨wb, 0, none⟩) n c] 38 (0, 0))
  row : RowI w wb n f
theorem Waits.stay {w w' : World} {vb wb n : Nat} {f : Nat → Int} (h : Waits w vb wb n f) (hb : Below w.heap.size w w') : Waits w' vb wb n f := by
  obtain ⟨⟨c, h1⟩, h2⟩ := h
  exact ⟨⟨c, (hb.block _ (lt_of_heap h1)).trans h1⟩, h2.stay (hb.block _ h2.lt)⟩
theorem Waits.ne {w : World} {vb wb n : Nat} {f : Nat → Int} (h : Waits w vb wb n f) : vb ≠ wb := by
  obtain ⟨⟨c, h1⟩, cs, h2, _⟩ := h
  intro e
  rw [e, h2] at h1
  injection h1 with h1
  injection h1 with _ h1
  cases h1
theorem Waits.set {w : World} {vb wb n : Nat} {f : Nat → Int} (h : Waits w vb wb n f) (b : Nat) (x : Int) : Waits (w.setCell ⟨wb, b, none⟩ (.int .i64 x)) vb wb n (fun t => if t = b then x else f t) := by
  have hne := h.ne
  obtain ⟨⟨c, h1⟩, h2⟩ := h
  exact ⟨⟨c, (Below.heap_setCell _ _ _ _ hne).trans h1⟩, h2.set x⟩
/-- What is asked of the closure: d more for b. -/
def TellOk (n vb wb F : Nat) (d : Int) : Prop := ∀ (W : World) (f : Nat → Int) (b : Nat), Waits W vb wb n f → b < n → -100000 ≤ f b → f b ≤ 100000 → Calls Tryz.prog F #[.int .i64 b, .pointer (some ⟨vb, 0, none⟩)] W fun r w' => r = .returned (.tuple #[]) ∧ Waits w' vb wb n (fun t => if t = b then f t + d else f t) ∧ OnlyB wb W w'
theorem tell62 (n vb wb : Nat) : TellOk n vb wb 62 1 := fun W f b hW hb h1 h2 => by
  obtain ⟨c, hv⟩ := hW.var
  have c0 : W.cell? ⟨vb, 0, none⟩ = some (.slice (some ⟨wb, 0, none⟩) n c) := (cell_of hv).trans rfl
  have c1 := hW.row.cell hb
  have f1 := hW.row.free b
  have hS := hid (hW.set b (f b + 1))
  have hbn : (b : Int) < (n : Int) := by omega
  obtain ⟨x, hx⟩ : ∃ x, x = f b := ⟨_, rfl⟩
  have HX := hid hx
  rw [← hx] at c1 h1 h2 hS
  clear hW hv hx
  go_enter Tryz.func62, Tryz.ntmps62
  go_wp2
  go_end0
  refine ⟨rfl, ?_, only_setCell⟩
  have e : (fun t => if t = b then f t + 1 else f t) = fun t => if t = b then x + 1 else f t := by
    funext t
    by_cases e : t = b
    · rw [if_pos e, if_pos e, e, HX.out]
    · rw [if_neg e, if_neg e]
  rw [e]
  exact hS.out
theorem tell64 (n vb wb : Nat) : TellOk n vb wb 64 (-1) := fun W f b hW hb h1 h2 => by
  obtain ⟨c, hv⟩ := hW.var
  have c0 : W.cell? ⟨vb, 0, none⟩ = some (.slice (some ⟨wb, 0, none⟩) n c) := (cell_of hv).trans rfl
  have c1 := hW.row.cell hb
  have f1 := hW.row.free b
  have hS := hid (hW.set b (f b - 1))
  have hbn : (b : Int) < (n : Int) := by omega
  obtain ⟨x, hx⟩ : ∃ x, x = f b := ⟨_, rfl⟩
  have HX := hid hx
  rw [← hx] at c1 h1 h2 hS
  clear hW hv hx
  go_enter Tryz.func64, Tryz.ntmps64
  go_wp2
  go_end0
  refine ⟨rfl, ?_, only_setCell⟩
  have e : (fun t => if t = b then f t + -1 else f t) = fun t => if t = b then x - 1 else f t := by
    funext t
    by_cases e : t = b
    · rw [if_pos e, if_pos e, e, HX.out]; omega
    · rw [if_neg e, if_neg e]
  rw [e]
  exact hS.out
end Go.Proofs.YtngjooemanapnaaGreatDoor
