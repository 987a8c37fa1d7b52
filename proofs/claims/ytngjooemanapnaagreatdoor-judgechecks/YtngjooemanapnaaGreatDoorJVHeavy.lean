/- firstFault: of each event the verdicts are asked, in their order; HeavyCommit by its contract. -/
import Derived.Test.YtngjooemanapnaaGreatDoorJJM
import Derived.Test.YtngjooemanapnaaGreatDoorJVSetsI
import Derived.Test.YtngjooemanapnaaGreatDoorJVCmpD
import Derived.Test.YtngjooemanapnaaGreatDoorJVCom

namespace Go.Proofs.YtngjooemanapnaaGreatDoor
open Go.RowKit Go.Maps
set_option maxRecDepth 100000
set_option linter.unusedSectionVars false
variable [Inhabited ComV] [DecidableEq D3] [Inhabited D3] [Inhabited Dd] [Inhabited Dn] [Inhabited OpV]

theorem cell_of {w : World} {b j : Nat} {cs : Array Value} {t : TypeId} (h : w.heap[b]? = some (.cells cs t (0, 0))) : w.cell? ⟨b, j, none⟩ = cs[j]? := by simp [World.cell?, h]
theorem free_of {w : World} {b j : Nat} {cs : Array Value} {t : TypeId} (h : w.heap[b]? = some (.cells cs t (0, 0))) : w.frozen? ⟨b, j, none⟩ = false := by simp [World.frozen?, h]
theorem heap_new (w : World) (o : Obj) : (w.alloc o).heap[w.heap.size]? = some o := (MapKept.heap_alloc _ _).1
theorem heap_old {w : World} {b : Nat} {o : Obj} (h : w.heap[b]? = some o) (o' : Obj) : (w.alloc o').heap[b]? = some o := by rw [Below.heap_alloc _ _ _ (lt_of_heap h)]; exact h
theorem drew_heap (w : World) : w.drew.heap = w.heap := rfl
/-- The slice v reads, in the world w, as these texts. -/
def StrsX (w : World) (v : Value) (ss : List (List UInt8)) : Prop :=
  ∃ ad cap, v = .slice ad ss.length cap ∧ (ss = [] ∨ ∃ b off, ad = some ⟨b, off, none⟩ ∧ ∀ t, t < ss.length → w.cell? ⟨b, off + t, none⟩ = some (encStr ss[t]!))
theorem StrsX.mono {w w' : World} {v : Value} {ss : List (List UInt8)} {B : Nat} (h : StrsX w v ss) (hb : Below B w w') (hB : w.heap.size ≤ B) : StrsX w' v ss := by
  obtain ⟨ad, cap, rfl, h⟩ := h
  refine ⟨ad, cap, rfl, ?_⟩
  rcases h with h | ⟨b, off, rfl, h⟩
  · exact .inl h
  · exact .inr ⟨b, off, rfl, fun t ht => by rw [hb.cell (Nat.lt_of_lt_of_le (lt_of_cell (h t ht)) hB)]; exact h t ht⟩
theorem StrsX.len {w : World} {v : Value} {ss : List (List UInt8)} (h : StrsX w v ss) : ∃ ad cap, v = .slice ad ss.length cap := by
  obtain ⟨ad, cap, rfl, _⟩ := h
  exact ⟨_, _, rfl⟩
theorem StrsAt.x {w : World} {v : Value} {ss : List (List UInt8)} (h : StrsAt w v ss) : StrsX w v ss := by
  obtain ⟨ad, cap, rfl, h⟩ := h
  refine ⟨ad, cap, rfl, ?_⟩
  rcases h with h | ⟨b, rfl, h⟩
  · exact .inl h
  · exact .inr ⟨b, 0, rfl, fun t ht => by rw [Nat.zero_add]; exact h t ht⟩
/-- What was read, in memory. -/
def SnRow (w : World) (cs : List Value) (r : SnV) : Prop := ∃ sv, cs = [.string r.key, .int .i64 r.v.kind, .string r.v.text, .int .i64 r.v.n, sv] ∧ StrsX w sv r.v.set
def SnsAt (w : World) (v : Value) (rs : List SnV) : Prop := ∃ rows, RowAt 5 w v rows ∧ F2 (SnRow w) rows rs
def EvRow (w : World) (cs : List Value) (e : EvV) : Prop := ∃ av rv wv ov, cs = evCells e av rv wv ov ∧ EvAt w e av wv ov ∧ SnsAt w rv e.reads
def EvsAt (w : World) (v : Value) (l : List EvV) : Prop := ∃ rows, RowAt 7 w v rows ∧ F2 (EvRow w) rows l
theorem SnRow.mono {w w' : World} {cs : List Value} {r : SnV} {B : Nat} (h : SnRow w cs r) (hb : Below B w w') (hB : w.heap.size ≤ B) : SnRow w' cs r :=
  let ⟨sv, h1, h2⟩ := h; ⟨sv, h1, h2.mono hb hB⟩
theorem SnsAt.mono {w w' : World} {v : Value} {rs : List SnV} {B : Nat} (h : SnsAt w v rs) (hb : Below B w w') (hB : w.heap.size ≤ B) : SnsAt w' v rs :=
  let ⟨r, h1, h2⟩ := h; ⟨r, h1.mono hb hB, f2_mono (fun _ _ h => h.mono hb hB) h2⟩
theorem EvRow.mono {w w' : World} {cs : List Value} {e : EvV} {B : Nat} (h : EvRow w cs e) (hb : Below B w w') (hB : w.heap.size ≤ B) : EvRow w' cs e :=
  let ⟨a, r, c, o, h1, h2, h3⟩ := h; ⟨a, r, c, o, h1, h2.mono hb hB, h3.mono hb hB⟩
theorem EvsAt.mono {w w' : World} {v : Value} {l : List EvV} {B : Nat} (h : EvsAt w v l) (hb : Below B w w') (hB : w.heap.size ≤ B) : EvsAt w' v l :=
  let ⟨r, h1, h2⟩ := h; ⟨r, h1.mono hb hB, f2_mono (fun _ _ h => h.mono hb hB) h2⟩
theorem EvsAt.shape {w : World} {v : Value} {l : List EvV} (h : EvsAt w v l) : ∃ ad cap, v = .slice ad l.length cap ∧ (ad = none → cap = 0) ∧ l.length ≤ cap ∧
    (l = [] ∨ ∃ b off, ad = some ⟨b, off, none⟩ ∧ ∀ j, j < l.length → ∃ av rv wv ov, EvAt w (l.getD j ev0) av wv ov ∧ SnsAt w rv (l.getD j ev0).reads ∧ ∀ i u, (evCells (l.getD j ev0) av rv wv ov)[i]? = some u → w.cell? ⟨b, off + j * 7 + i, none⟩ = some u) := by
  obtain ⟨rows, ⟨ad, cap, rfl, h1, h2, h3⟩, hf⟩ := h
  have hl := f2_len hf
  refine ⟨ad, cap, by rw [hl], h1, by omega, ?_⟩
  rcases h3 with rfl | ⟨b, off, rfl, h3⟩
  · exact .inl (List.eq_nil_of_length_eq_zero hl.symm)
  · refine .inr ⟨b, off, rfl, fun j hj => ?_⟩
    obtain ⟨r, hr, av, rv, wv, ov, rfl, hd, he⟩ := f2_get hf j (l.getD j ev0) (by rw [List.getD_eq_getElem?_getD, List.getElem?_eq_getElem hj]; rfl)
    exact ⟨av, rv, wv, ov, hd, he, (h3 j _ hr).2⟩
/-- What firstFault asks of what it goes on. -/
structure FfOk (A : Nat → Addr) (wq : World) (n vb vm base : Nat) (gf : Nat → Nat) (lb : Nat → Array Value) (I : Nat → Nat → World → Prop) : Prop where
  below : ∀ {i k W}, I i k W → Below wq.heap.size wq W
  cells : ∀ {i k W}, I i k W → ∀ j, j < vm → W.cell? ⟨vb, j, none⟩ = some (.func (.func (gf j)) #[] (lb j))
  stay : ∀ {i k W W'}, I i k W → Below W.heap.size W W' → I i k W'
  next : ∀ {i W}, i < n → I i vm W → I (i + 1) 0 W
  enters : ∀ k, k < vm → ∀ args w, (callFunc (gf k) args).run Tryz.prog w = .ok (.enter (gf k) args) w
/-- What is new stays. -/
def Above (B : Nat) (w w' : World) : Prop := w.heap.size ≤ w'.heap.size ∧ ∀ q, B ≤ q → q < w.heap.size → w'.heap[q]? = w.heap[q]?
theorem above_of {B : Nat} {w w' : World} (h : Below w.heap.size w w') : Above B w w' := ⟨h.size, fun q _ hq => h.block q hq⟩
def FfCall (A : Nat → Addr) (wq : World) (l : List EvV) (vm base : Nat) (gf : Nat → Nat) (lb : Nat → Array Value) (vd : Nat → Nat → Nat) (I : Nat → Nat → World → Prop) : Prop :=
  ∀ i k W av rv wv ov, i < l.length → k < vm → I i k W → (∀ j, j < k → vd i j = 0) → EvAt wq (l.getD i ev0) av wv ov → SnsAt wq rv (l.getD i ev0).reads →
    Calls Tryz.prog (gf k) (#[.agg (evCells (l.getD i ev0) av rv wv ov).toArray] ++ lb k) W fun r w' => r = .returned (errV A (vd i k)) ∧ I i (k + 1) w' ∧ Above base W w'
def FfRet (A : Nat → Addr) (wq : World) (n vm : Nat) (vd : Nat → Nat → Nat) (I : Nat → Nat → World → Prop) (r : Ending) (w' : World) : Prop :=
  ∃ x, r = .returned x ∧ ErrAt A w' x (scan (fun i => (scan (vd i) vm).1) n) ∧ Below wq.heap.size wq w' ∧ ((scan (fun i => (scan (vd i) vm).1) n).1 = 0 → I n 0 w')
set_option maxHeartbeats 4000000 in
theorem firstFault_any (A : Nat → Addr) (wq w : World) (l : List EvV) (v : Value) (hv : EvsAt wq v l) (hl : l.length ≤ 1000) (vb vm vc : Nat) (gf : Nat → Nat) (lb : Nat → Array Value) (vd : Nat → Nat → Nat) (I : Nat → Nat → World → Prop) (hm : vm ≤ 10)
    (hF : FfOk A wq l.length vb vm w.heap.size gf lb I) (hC : FfCall A wq l vm w.heap.size gf lb vd I) (h0 : I 0 0 w) :
    Calls Tryz.prog 19 #[v, .slice (some ⟨vb, 0, none⟩) vm vc] w (FfRet A wq l.length vm vd I) := by
  obtain ⟨ad, cap, rfl, hn, hcap, hv⟩ := hv.shape
  by_cases hne : l = []
  · subst hne
    have H0 := hid h0
    have HF := hid hF
    clear hF hC h0 hv
    go_enter Tryz.func19, Tryz.ntmps19
    go_wp2
    refine wp_loop_rounds 1 ?_
    rw [rounds_succ]
    go_wp2
    go_ret
    exact ⟨_, rfl, rfl, HF.out.below H0.out, fun _ => H0.out⟩
  obtain ⟨b, off, rfl, hv2⟩ := hv.resolve_left hne
  clear hv
  obtain ⟨n, hnl⟩ : ∃ n, n = l.length := ⟨_, rfl⟩
  rw [← hnl] at hF hl hv2 hcap ⊢
  have HC : Hid (FfCall A wq l vm w.heap.size gf lb vd I) := hC
  have HF := hid hF
  have H0 := hid h0
  have HV := hid hv2
  have HN := hid hnl
  clear hF hC h0 hv2 hnl hne hn
  go_enter Tryz.func19, Tryz.ntmps19
  go_wp2
  go_loopw [12] (fun x wr => ∃ i : Nat, i ≤ n ∧ x = .int .i64 i ∧ Hid (I i 0 wr) ∧ Hid (w.heap.size ≤ wr.heap.size) ∧ Hid (∀ j, j < i → (scan (vd j) vm).1 = 0)) (fun x _ => n - (intOf x).toNat)
  case atStart => exact ⟨0, Nat.zero_le _, rfl, H0, hid (Nat.le_refl _), hid fun j hj => absurd hj (Nat.not_lt_zero _)⟩
  case round =>
    obtain ⟨i, hi, rfl, HI, HS, HZ⟩ := hrel
    by_cases hlt : i < n
    · have hi1 : (i : Int) < (n : Int) := by omega
      obtain ⟨av, rv, wv, ov, hE, hR, hc⟩ := HV.out i hlt
      have B := HF.out.below HI.out
      have K0 := fun k W hk hI hz => HC.out i k W av rv wv ov (by have := HN.out; omega) hk hI hz hE hR
      have hcc : ∀ j u, (evCells (l.getD i ev0) av rv wv ov)[j]? = some u → wr.cell? ⟨b, off + i * 7 + j, none⟩ = some u := fun j u hj => by
        have := hc j u hj
        rw [B.cell (p := ⟨b, off + i * 7 + j, none⟩) (lt_of_cell this)]
        exact this
      obtain ⟨ex, hex⟩ : ∃ ex, ex = l.getD i ev0 := ⟨_, rfl⟩
      rw [← hex] at K0 hcc
      obtain ⟨e1, e2, e3, e4, ⟨e5, e6, e7⟩⟩ := ex
      have c0 : wr.cell? ⟨b, off + i * 7, none⟩ = some (.int .i64 e1) := hcc 0 _ rfl
      have c1 : wr.cell? ⟨b, off + i * 7 + 1, none⟩ = some (.int .i64 e2) := hcc 1 _ rfl
      have c2 : wr.cell? ⟨b, off + i * 7 + 2, none⟩ = some av := hcc 2 _ rfl
      have c3 : wr.cell? ⟨b, off + i * 7 + 3, none⟩ = some rv := hcc 3 _ rfl
      have c4 : wr.cell? ⟨b, off + i * 7 + 4, none⟩ = some wv := hcc 4 _ rfl
      have c5 : wr.cell? ⟨b, off + i * 7 + 5, none⟩ = some (.int .i64 e6) := hcc 5 _ rfl
      have c6 : wr.cell? ⟨b, off + i * 7 + 6, none⟩ = some ov := hcc 6 _ rfl
      obtain ⟨aa, an, ac, rfl⟩ : ∃ a n c, av = .slice a n c := by obtain ⟨a, c, rfl⟩ := hE.at_.slice; exact ⟨_, _, _, rfl⟩
      obtain ⟨ra, rn, rc, rfl⟩ : ∃ a n c, rv = .slice a n c := by obtain ⟨_, ⟨a, c, rfl, _⟩, _⟩ := hR; exact ⟨_, _, _, rfl⟩
      obtain ⟨wa, wn, wc, rfl⟩ : ∃ a n c, wv = .slice a n c := by obtain ⟨a, c, rfl⟩ := hE.when_.slice; exact ⟨_, _, _, rfl⟩
      obtain ⟨oa, on, oc, rfl⟩ : ∃ a n c, ov = .slice a n c := by obtain ⟨a, c, rfl, _⟩ := hE.ops.shape; exact ⟨_, _, _, rfl⟩
      have KK := hid K0
      have HSz := HS.out
      clear K0 hcc hex hE hR hc B
      go_wp2
      obtain ⟨w1, hw1⟩ : ∃ w1, w1 = wr.alloc (.cells #[.int .i64 e1, .int .i64 e2, .slice aa an ac, .slice ra rn rc, .slice wa wn wc, .int .i64 e6, .slice oa on oc] 69) := ⟨_, rfl⟩
      have I1 : Hid (I i 0 w1) := (show I _ _ _ from HF.out.stay HI.out (by rw [hw1]; exact below_alloc _ _))
      have X1 : Hid (w1.heap[wr.heap.size]? = some (.cells #[.int .i64 e1, .int .i64 e2, .slice aa an ac, .slice ra rn rc, .slice wa wn wc, .int .i64 e6, .slice oa on oc] 69 (0, 0))) := (show _ = _ by rw [hw1]; exact heap_new _ _)
      rw [← hw1]
      clear hw1 c0 c1 c2 c3 c4 c5 c6
      obtain ⟨wq', hwq'⟩ : ∃ wq', wq' = wr := ⟨_, rfl⟩
      subst hwq'
      go_loopw [19] (fun x wx => ∃ k : Nat, k ≤ vm ∧ x = .int .i64 k ∧ Hid (I i k wx) ∧ Hid (wx.heap[wq'.heap.size]? = some (.cells #[.int .i64 e1, .int .i64 e2, .slice aa an ac, .slice ra rn rc, .slice wa wn wc, .int .i64 e6, .slice oa on oc] 69 (0, 0))) ∧ Hid (∀ j, j < k → vd i j = 0)) (fun x _ => vm - (intOf x).toNat)
      case atStart => exact ⟨0, Nat.zero_le _, rfl, I1, X1, hid fun j hj => absurd hj (Nat.not_lt_zero _)⟩
      case round =>
        clear I1 X1 HI
        obtain ⟨k, hk, rfl, HIk, HX, HZk⟩ := hrel
        have hxs := lt_of_heap HX.out
        by_cases hlk : k < vm
        · have hk1 : (k : Int) < (vm : Int) := by omega
          have cv := HF.out.cells HIk.out k hlk
          have eg := HF.out.enters k hlk
          have KC := KK.out k _ hlk HIk.out HZk.out
          have hst := fun (W' : World) (h : Below wr.heap.size wr W') => HF.out.below (HF.out.stay HIk.out h)
          have d0 : wr.cell? ⟨wq'.heap.size, 0, none⟩ = some (.int .i64 e1) := (cell_of HX.out).trans rfl
          have d1 : wr.cell? ⟨wq'.heap.size, 1, none⟩ = some (.int .i64 e2) := (cell_of HX.out).trans rfl
          have d2 : wr.cell? ⟨wq'.heap.size, 2, none⟩ = some (.slice aa an ac) := (cell_of HX.out).trans rfl
          have d3 : wr.cell? ⟨wq'.heap.size, 3, none⟩ = some (.slice ra rn rc) := (cell_of HX.out).trans rfl
          have d4 : wr.cell? ⟨wq'.heap.size, 4, none⟩ = some (.slice wa wn wc) := (cell_of HX.out).trans rfl
          have d5 : wr.cell? ⟨wq'.heap.size, 5, none⟩ = some (.int .i64 e6) := (cell_of HX.out).trans rfl
          have d6 : wr.cell? ⟨wq'.heap.size, 6, none⟩ = some (.slice oa on oc) := (cell_of HX.out).trans rfl
          obtain ⟨F, hF⟩ : ∃ F, F = gf k := ⟨_, rfl⟩
          obtain ⟨L, hL⟩ : ∃ L, L = lb k := ⟨_, rfl⟩
          obtain ⟨u, hu⟩ : ∃ u, u = vd i k := ⟨_, rfl⟩
          rw [← hF] at cv eg KC
          rw [← hL] at cv KC
          rw [← hu] at KC
          have HU := hid hu
          simp only [evCells] at KC
          have KCC := hid KC
          clear hF hL hu KC hst
          cases u with
          | zero =>
            go_wp2_with (go_at_fn F; refine KCC.out.mono ?_; rintro r w2 ⟨rfl, hI2, hA2⟩; have I2 : Hid (I i (k + 1) w2) := hid hI2; have X2 : Hid (w2.heap[wq'.heap.size]? = some (.cells #[.int .i64 e1, .int .i64 e2, .slice aa an ac, .slice ra rn rc, .slice wa wn wc, .int .i64 e6, .slice oa on oc] 69 (0, 0))) := hid ((hA2.2 _ HSz hxs).trans HX.out); clear hI2 hA2; simp only [errV])
            refine ⟨⟨k + 1, by omega, by go_num, I2, X2, hid fun j hj => ?_⟩, by simp [intOf]; omega⟩
            rcases Nat.lt_succ_iff_lt_or_eq.1 hj with h | rfl
            · exact HZk.out j h
            · exact HU.out.symm
          | succ u =>
            go_wp2_with (go_at_fn F; refine KCC.out.mono ?_; rintro r w2 ⟨rfl, hI2, hA2⟩; have I2 : Hid (I i (k + 1) w2) := hid hI2; clear hI2 hA2; simp only [errV])
            go_ret
            have he : (scan (vd i) vm).1 = u + 1 := by rw [scan_some hlk HZk.out (by rw [← HU.out]; simp), ← HU.out]
            have hs : scan (fun i => (scan (vd i) vm).1) n = (u + 1, some i) := by
              rw [scan_some (i := i) hlt HZ.out (by rw [he]; simp), he]
            have hb2 := HF.out.below I2.out
            refine ⟨_, rfl, ErrAt.at _ hs ?_ ?_, ?_, fun h => by rw [hs] at h; cases h⟩
            · exact (World.cell?_alloc_at _ _ _ _ rfl).trans rfl
            · exact (World.cell?_alloc_at _ _ _ _ rfl).trans rfl
            · exact hb2.alloc hb2.size _
        · obtain rfl : k = vm := by omega
          have I2 : Hid (I (i + 1) 0 wr) := hid (HF.out.next hlt HIk.out)
          go_wp2
          refine ⟨⟨i + 1, by omega, by go_num, I2, hid ?_, hid fun j hj => ?_⟩, by simp [intOf]; omega⟩
          · omega
          · rcases Nat.lt_succ_iff_lt_or_eq.1 hj with h | rfl
            · exact HZ.out j h
            · rw [scan_none HZk.out]
    · obtain rfl : i = n := by omega
      go_wp2
      go_ret
      have hs : scan (fun i => (scan (vd i) vm).1) i = (0, none) := scan_none HZ.out
      rw [FfRet, hs]
      exact ⟨_, rfl, rfl, HF.out.below HI.out, fun _ => HI.out⟩
end Go.Proofs.YtngjooemanapnaaGreatDoor
namespace Go.Proofs.YtngjooemanapnaaGreatDoor
open Go.RowKit Go.Sort Go.Maps
set_option maxRecDepth 100000
set_option linter.unusedSectionVars false
variable [Inhabited ComV] [DecidableEq D3] [Inhabited D3] [Inhabited Dd] [Inhabited Dn] [Inhabited OpV]

/-- An op is too much for a statement. -/
def heavyO (o : OpV) : Bool := decide (60 < o.key.size) || (decide (200 < o.text.size) || decide (70 < o.dots.length))
/-- A commit is. -/
def heavyB (c : ComV) : Bool := decide (20 < c.when_.length) || (decide (20 < c.ops.length) || c.ops.any heavyO)
def heavyN (c : ComV) : Int := if heavyB c = true then 1 else 0
def HeavyRet (c : ComV) (w : World) (e : Ending) (w' : World) : Prop := e = .returned (.int .i64 (heavyN c)) ∧ Below w.heap.size w w'
theorem heavyN_one {c : ComV} (h : heavyB c = true) : heavyN c = 1 := if_pos h
theorem heavyN_zero {c : ComV} (h : heavyB c = false) : heavyN c = 0 := if_neg (by rw [h]; decide)
theorem heavyN_long {c : ComV} (h : 20 < c.when_.length ∨ 20 < c.ops.length) : heavyN c = 1 := heavyN_one (by
  unfold heavyB
  rcases h with h | h
  · rw [decide_eq_true h]; rfl
  · rw [decide_eq_true h]; simp)
theorem heavyN_op {c : ComV} {o : OpV} (h : o ∈ c.ops) (ho : heavyO o = true) : heavyN c = 1 := heavyN_one (by
  unfold heavyB
  rw [List.any_eq_true.2 ⟨o, h, ho⟩]
  simp)
theorem heavyN_light {c : ComV} (h1 : ¬20 < c.when_.length) (h2 : ¬20 < c.ops.length) (h3 : ∀ j, j < c.ops.length → heavyO c.ops[j]! = false) : heavyN c = 0 := heavyN_zero (by
  unfold heavyB
  rw [decide_eq_false h1, decide_eq_false h2, List.any_eq_false.2 fun o ho => by
    obtain ⟨j, hj, rfl⟩ := List.getElem_of_mem ho
    have := h3 j hj
    rw [getElem!_pos c.ops j hj] at this
    rw [this]
    decide]
  rfl)
set_option maxHeartbeats 2000000 in
theorem heavyCommit (w : World) (c : ComV) (wv ov : Value) (hw : IntsAt w wv c.when_) (ho : OpsAt w ov c.ops) :
    Calls Tryz.prog 17 #[.agg #[wv, .int .i64 c.place, ov]] w fun e w' => HeavyRet c w e w' := by
  obtain ⟨a1, c1, rfl, _, _⟩ := hw
  obtain ⟨a2, c2, rfl, _, _, ho⟩ := ho.shape
  obtain ⟨n, hn⟩ : ∃ n, n = c.when_.length := ⟨_, rfl⟩
  obtain ⟨m, hm⟩ : ∃ m, m = c.ops.length := ⟨_, rfl⟩
  rw [← hn, ← hm]
  have HN := hid hn
  have HM := hid hm
  have HO := hid ho
  obtain ⟨p, hp⟩ : ∃ p, p = c.place := ⟨_, rfl⟩
  rw [← hp]
  clear hn hm ho hp
  go_enter Tryz.func17, Tryz.ntmps17
  by_cases h1 : (20 : Int) < n
  · go_wp2
    go_ret
    exact ⟨ret_int (heavyN_long (.inl (by have := HN.out; omega))).symm, below_alloc _ _⟩
  by_cases h2 : (20 : Int) < m
  · go_wp2
    go_ret
    exact ⟨ret_int (heavyN_long (.inr (by have := HM.out; omega))).symm, below_alloc _ _⟩
  have b1 : decide ((20 : Int) < n) = false := decide_eq_false h1
  have b2 : decide ((20 : Int) < m) = false := decide_eq_false h2
  have H1 := hid h1
  have H2 := hid h2
  have hm20 : m ≤ 20 := by omega
  clear h1 h2
  go_upto_region 4 with (fail)
  clear b1 b2
  go_loopw [3] (fun i wr => ∃ k : Nat, k ≤ m ∧ i = .int .i64 k ∧ Hid (∀ t, t < k → heavyO c.ops[t]! = false) ∧ Hid (Below w.heap.size w wr) ∧ Hid (w.heap.size < wr.heap.size) ∧ wr.cell? ⟨w.heap.size, 2, none⟩ = some (.slice a2 m c2)) (fun i _ => m - (intOf i).toNat)
  case atStart => exact ⟨0, Nat.zero_le _, rfl, fun t ht => absurd ht (Nat.not_lt_zero _), below_alloc _ _, (show w.heap.size < (w.alloc _).heap.size by simp), (World.cell?_alloc_at _ _ _ _ rfl).trans rfl⟩
  case round =>
    obtain ⟨k, hk, rfl, HL, HB, HS, hc⟩ := hrel
    by_cases hlt : k < m
    · obtain ⟨b, off, rfl, ho'⟩ := HO.out.resolve_left (fun h => by have := HM.out; rw [h] at this; simp at this; omega)
      obtain ⟨dp, dc, _, _, q1, _, q3, _, _, q6⟩ := ho' k (by have := HM.out; omega)
      have up : ∀ {a : Addr} {v : Value}, w.cell? a = some v → wr.cell? a = some v := fun {a v} h => by rw [HB.out.cell (lt_of_cell h)]; exact h
      have r1 := up q1
      have r3 := up q3
      have r6 := up q6
      have hmem : c.ops[k]! ∈ c.ops := by rw [getElem!_pos c.ops k (by have := HM.out; omega)]; exact List.getElem_mem _
      obtain ⟨o, hoe⟩ : ∃ o, o = c.ops[k]! := ⟨_, rfl⟩
      rw [← hoe] at r1 r3 r6 hmem
      have HOE := hid hoe
      have HMEM := hid hmem
      clear q1 q3 q6 ho' up hoe hmem
      by_cases x1 : (60 : Int) < o.key.size
      · go_wp2
        go_ret
        exact ⟨ret_int (heavyN_op HMEM.out (by unfold heavyO; rw [decide_eq_true (by omega : 60 < o.key.size)]; rfl)).symm, HB.out⟩
      by_cases x2 : (200 : Int) < o.text.size
      · go_wp2
        go_ret
        exact ⟨ret_int (heavyN_op HMEM.out (by unfold heavyO; rw [decide_eq_true (by omega : 200 < o.text.size)]; simp)).symm, HB.out⟩
      by_cases x3 : (70 : Int) < o.dots.length
      · go_wp2
        go_ret
        exact ⟨ret_int (heavyN_op HMEM.out (by unfold heavyO; rw [decide_eq_true (by omega : 70 < o.dots.length)]; simp)).symm, HB.out⟩
      have hlo : Hid (heavyO o = false) := by
        unfold heavyO
        rw [decide_eq_false (by omega : ¬60 < o.key.size), decide_eq_false (by omega : ¬200 < o.text.size), decide_eq_false (by omega : ¬70 < o.dots.length)]
        exact hid rfl
      go_wp2
      go_roundw
      case rel => exact ⟨k + 1, by omega, by go_num, fun t ht => by rcases Nat.lt_succ_iff_lt_or_eq.1 ht with h | rfl; exact HL.out t h; rw [← HOE.out]; exact hlo.out, HB.out, HS.out, hc⟩
      case measure => simp [intOf]; omega
    · obtain rfl : k = m := by omega
      go_wp2
      go_ret
      exact ⟨ret_int (heavyN_light (by have := HN.out; have := H1.out; omega) (by have := HM.out; have := H2.out; omega) (fun j hj => HL.out j (by have := HM.out; omega))).symm, HB.out⟩
/-- Commits are too much for a statement. -/
def heavyL (l : List ComV) : Bool := decide (30 < l.length) || l.any heavyB
def HeavyLRet (l : List ComV) (w : World) (e : Ending) (w' : World) : Prop := e = .returned (.bool (heavyL l)) ∧ Below w.heap.size w w'
theorem heavyN_pos (c : ComV) : (0 < heavyN c) = (heavyB c = true) := by
  unfold heavyN
  cases heavyB c <;> simp
end Go.Proofs.YtngjooemanapnaaGreatDoor
