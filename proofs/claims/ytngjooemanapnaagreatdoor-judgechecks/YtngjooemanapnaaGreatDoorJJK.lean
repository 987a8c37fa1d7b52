/- trueReads by its contract: the closure, and what it has captured; judge.Check by its contract. -/
import Derived.Test.YtngjooemanapnaaGreatDoorJJH4
namespace Go.Proofs.YtngjooemanapnaaGreatDoor
open Go.RowKit Go.Sort Go.Maps
set_option maxRecDepth 100000
set_option linter.unusedSectionVars false
variable [Inhabited ComV] [DecidableEq D3] [Inhabited D3] [Inhabited Dd] [Inhabited Dn] [Inhabited OpV]

theorem cut_none (w : World) (p : Option Addr) (cap : Nat) (fv : Value) : Calls Tryz.prog 48 #[.slice p 0 cap, fv] w fun e w' => e = .returned (.slice p 0 cap) ∧ w' = w := by
  go_enter Tryz.func48, Tryz.ntmps48
  go_wp2_with (go_at_call 72; refine (indexFuncC_none _ _ _ _).mono ?_; rintro e w' ⟨rfl, rfl⟩)
  go_ret
  exact ⟨rfl, rfl⟩
/-- What is left of a row of one's own: the commits that are within. -/
theorem cut_any (A : Nat → Addr) (wq w : World) (B : Nat) (hq : Below wq.heap.size wq w) (hE : E4 A w) (h12 : 12 ≤ wq.heap.size) (eb : Nat) (e : EvV) (av rv wv ov : Value) (hbox : w.heap[eb]? = some (.cells (evCells e av rv wv ov).toArray 69 (0, 0))) (he : EvAt wq e av wv ov) (hz : e.at_.length ≤ 1000000) (heB : eb < B) (hqB : wq.heap.size ≤ B) (v : Value) (zs : List (CmG (GC wq))) (hl : zs.length ≤ 1000) (hrow : w.ownsRow B 41 3 v zs.length ((zs.map (·.1)).flatMap Cm.enc)) :
    Calls Tryz.prog 48 #[v, .func (.func 50) #[] #[.pointer (some ⟨eb, 0, none⟩)]] w fun r w' => ∃ a n c, r = .returned (.slice a n c) ∧ ComsAt w' (.slice a n c) ((zs.filter fun x => inB x.1.c.when_ e.at_).map fun x => x.1.c) ∧ Below B w w' := by
  by_cases h0 : zs = []
  · subst h0
    obtain ⟨_, h2⟩ := hrow
    rcases h2 with ⟨rfl, _⟩ | ⟨g, cap, cur, rfl, hb, hh, hn, hm, hs, ht⟩
    · refine (cut_none w none 0 _).mono ?_
      rintro r w' ⟨rfl, rfl⟩
      exact ⟨_, _, _, rfl, coms_nil _, Below.refl _ _⟩
    · refine (cut_none w (some ⟨g, 0, none⟩) cap _).mono ?_
      rintro r w' ⟨rfl, rfl⟩
      exact ⟨_, _, _, rfl, ⟨[], ⟨_, cap, rfl, (fun e => by cases e), Nat.zero_le _, .inl rfl⟩, trivial⟩, Below.refl _ _⟩
  · have hpos : 0 < zs.length := List.length_pos_iff.2 h0
    haveI : Inhabited (CmG (GC wq)) := ⟨zs[0]'hpos⟩
    rcases holds_owns rfl hrow with ⟨_, h⟩ | ⟨g, cap, rfl, hB, hg, hcap, hH⟩
    · exact absurd h h0
    · have hqs := hq.size
      have key := deleteFuncC_some w B g cap 50 #[.pointer (some ⟨eb, 0, none⟩)] (fun x => !inB x.1.c.when_ e.at_) zs.toArray (enters_of Tryz.func50 (by kernel_rfl) rfl)
        (fun W => Below wq.heap.size wq W ∧ E4 A W ∧ W.heap[eb]? = some (.cells (evCells e av rv wv ov).toArray 69 (0, 0)))
        (fun W hW => ⟨hq.trans (hW.mono hqs), hE.below hW (by omega), (hW.block _ (lt_of_heap hbox)).trans hbox⟩)
        (fun W o h => ⟨h.1.trans ((below_alloc W o).mono h.1.size), h.2.1.below (below_alloc W o) (by have := h.1.size; omega), (heap_old h.2.2 o)⟩)
        (fun W o vs h => by
          have hb : Below B W (W.setCells g o vs) := below_setCells hB vs o (Below.refl B W)
          exact ⟨h.1.trans (hb.mono hqB), h.2.1.below hb (by omega), (hb.block _ heB).trans h.2.2⟩)
        (fun W n h => by
          have hb := below_draws (Below.refl W.heap.size W) n
          exact ⟨h.1.trans (hb.mono h.1.size), h.2.1.below hb (by have := h.1.size; omega), (hb.block _ (lt_of_heap h.2.2)).trans h.2.2⟩)
        (fun W x h => keep_any A wq W h.1 h.2.1 (by have := h.1.size; omega) eb e av rv wv ov h.2.2 he hz x) hB hg hH (by simpa using hcap) (by simp; omega)
      simp only [List.size_toArray, Bool.not_not] at key
      refine key.mono ?_
      rintro r w' ⟨rfl, h1, h2, h3⟩
      refine ⟨_, _, _, rfl, coms_holds rfl (Nat.le_trans (List.length_filter_le _ _) hcap) h1 (fun x => ?_), h2⟩
      exact x.2.1.mono (hq.trans (h2.mono hqB)) (Nat.le_refl _)
/-- What trueReads keeps. -/
structure AllAt (wq w : World) (sb : Nat) (xs : List Cm) : Prop where
  row : ∃ v, w.heap[sb]? = some (.cells #[v] 96 (0, 0)) ∧ w.ownsRow wq.heap.size 41 3 v xs.length (xs.flatMap Cm.enc)
  good : ∀ x ∈ xs, GC wq x
theorem AllAt.stay {wq w u : World} {sb : Nat} {xs : List Cm} (h : AllAt wq w sb xs) (hb : Below w.heap.size w u) : AllAt wq u sb xs := by
  obtain ⟨v, h1, h2⟩ := h.row
  exact ⟨⟨v, (hb.block _ (lt_of_heap h1)).trans h1, owns_below h2 fun q cs hq => hb.block q (lt_of_heap hq)⟩, h.good⟩
theorem cms_one (xs : List Cm) : ∀ u ∈ xs.flatMap Cm.enc, u.oneCell' = true := fun u hu => by
  obtain ⟨x, _, h⟩ := List.mem_flatMap.1 hu
  exact x.enc_one u h
set_option maxHeartbeats 4000000 in
theorem trueR_any (A : Nat → Addr) (wq w : World) (hq : Below wq.heap.size wq w) (hE : E5 A w) (h13 : 13 ≤ wq.heap.size) (hsum : w.cell? ⟨7, 0, none⟩ = some (.iface 223 (.pointer (some (A 7))))) (sb : Nat) (xs : List Cm) (hA : AllAt wq w sb xs) (hxl : xs.length ≤ 1000) (e : EvV) (av rv wv ov : Value) (he : EvAt wq e av wv ov) (hr : SnsAt wq rv e.reads) (hz : e.at_.length ≤ 1000000) (hrl : e.reads.length ≤ 1000000)
    (hok : ∀ i, i < ((xs.map (·.c)).filter fun c => inB c.when_ e.at_).length → listBad ((xs.map (·.c)).filter fun c => inB c.when_ e.at_) i = 0) :
    Calls Tryz.prog 47 #[.agg (evCells e av rv wv ov).toArray, .pointer (some ⟨sb, 0, none⟩)] w (VdRet A (if readsB ((xs.map (·.c)).filter fun c => inB c.when_ e.at_) e.reads = false then 8 else 0) w) := by
  obtain ⟨zs, hzs⟩ := cm_sub hA.good
  have hzl : zs.length = xs.length := by rw [← hzs, List.length_map]
  obtain ⟨cs, hcs⟩ : ∃ cs, cs = (xs.map (·.c)).filter fun c => inB c.when_ e.at_ := ⟨_, rfl⟩
  have hcz : ((zs.filter fun x => inB x.1.c.when_ e.at_).map fun x => x.1.c) = cs := by
    rw [hcs, ← hzs, List.map_map, List.filter_map]
    rfl
  have hcl : cs.length ≤ 1000 := by
    rw [hcs]
    exact Nat.le_trans (List.length_filter_le _ _) (by rw [List.length_map]; exact hxl)
  have hcsm : ∀ c ∈ cs, SmallC c := fun c hc => by
    rw [← hcz] at hc
    obtain ⟨x, _, rfl⟩ := List.mem_map.1 hc
    exact x.2.2
  rw [← hcs] at hok ⊢
  obtain ⟨o0, ho0⟩ : ∃ o0, o0 = Obj.cells (evCells e av rv wv ov).toArray 69 := ⟨_, rfl⟩
  have hA0 := hA.stay (below_alloc w o0)
  have hE0 := hE.below (below_alloc w o0) (Nat.le_trans h13 hq.size)
  have hb0 := below_alloc w o0
  have hq0 : Below wq.heap.size wq (w.alloc o0) := hq.trans (hb0.mono hq.size)
  have hx0 : (w.alloc o0).heap[w.heap.size]? = some (.cells (evCells e av rv wv ov).toArray 69 (0, 0)) := by rw [ho0]; exact heap_new _ _
  obtain ⟨v, hv1, hv2⟩ := hA0.row
  obtain ⟨va, vc, rfl⟩ := row_shape hv2
  have K49 := hid (clone49 (w.alloc o0) va xs.length vc _ (src_owns hv2) (cms_one xs) (by omega))
  have cs0 : (w.alloc o0).cell? ⟨sb, 0, none⟩ = some (.slice va xs.length vc) := (cell_of hv1).trans rfl
  have hqs := hq.size
  have hs0 : w.heap.size < (w.alloc o0).heap.size := by simp
  have K48 : ∀ w2 v2, Hid (Below (w.alloc o0).heap.size (w.alloc o0) w2 → w2.ownsRow (w.alloc o0).heap.size 41 3 v2 xs.length (xs.flatMap Cm.enc) → Calls Tryz.prog 48 #[v2, .func (.func 50) #[] #[.pointer (some ⟨w.heap.size, 0, none⟩)]] w2 fun r w' => ∃ a n c, r = .returned (.slice a n c) ∧ ComsAt w' (.slice a n c) cs ∧ Below (w.alloc o0).heap.size w2 w') := fun w2 v2 => hid fun hb hr => by
    have := cut_any A wq w2 (w.alloc o0).heap.size (hq0.trans (hb.mono hq0.size)) (hE0.e4.below hb (by omega)) (by omega) w.heap.size e av rv wv ov ((hb.block _ hs0).trans hx0) he hz hs0 hq0.size v2 zs (by omega) (by rw [hzl, hzs]; exact hr)
    rw [hcz] at this
    exact this
  have K51 : ∀ w4 sb2 sv, Hid (Below (w.alloc o0).heap.size (w.alloc o0) w4 → w4.cell? ⟨sb2, 0, none⟩ = some sv → ComsAt w4 sv cs → Calls Tryz.prog 51 #[rv, .func (.func 52) #[] #[.pointer (some ⟨sb2, 0, none⟩)]] w4 fun r w' => r = .returned (.bool (!readsB cs e.reads)) ∧ Below w4.heap.size w4 w') := fun w4 sb2 sv => hid fun hb hc hv =>
    lies_any A wq w4 (hq0.trans (hb.mono hq0.size)) (hE0.below hb (by omega)) sb2 sv cs hc hv hcl hcsm hok rv e.reads hr hrl
  have HX : Hid (∀ u, Below (w.alloc o0).heap.size (w.alloc o0) u → u.heap[w.heap.size]? = some (.cells (evCells e av rv wv ov).toArray 69 (0, 0)) ∧ u.cell? ⟨7, 0, none⟩ = some (.iface 223 (.pointer (some (A 7))))) := hid fun u hu => by
    refine ⟨(hu.block _ hs0).trans hx0, ?_⟩
    rw [hu.cell (p := ⟨7, 0, none⟩) (by show 7 < _; omega)]
    exact cell_alloc hsum o0
  have hne : sb ≠ w.heap.size := by
    obtain ⟨_, h, _⟩ := hA.row
    have := lt_of_heap h
    omega
  obtain ⟨q, hQ⟩ : ∃ q, q = readsB cs e.reads := ⟨_, rfl⟩
  rw [← hQ] at K51 ⊢
  obtain ⟨kk, hkk⟩ : ∃ kk, kk = (if q = false then 8 else 0) := ⟨_, rfl⟩
  rw [← hkk]
  have HKK := hid hkk
  clear hkk
  obtain ⟨aa, ac, wa, wc, oa, oc, rfl, rfl, rfl⟩ := evAt_shape he
  obtain ⟨ra, rn, rc, rfl⟩ : ∃ a n c, rv = .slice a n c := by obtain ⟨_, ⟨a, c, rfl, _⟩, _⟩ := hr; exact ⟨_, _, _, rfl⟩
  have hb00 := hid hb0
  unfold evCells at ho0 HX ⊢
  rw [ho0] at cs0
  clear hA hA0 hE hE0 hb0 hq hq0 hx0 hv1 hv2 hsum hok hcs hcz hcl hcsm hzs hzl hQ he hr hz hrl
  go_enter Tryz.func47, Tryz.ntmps47
  go_wp2_with fail
  rw [← ho0]
  with_reducible refine K49.out.mono ?_
  rintro r w2 ⟨a2, c2, rfl, h2, hb2⟩
  have K48' := hid ((K48 w2 _).out hb2 h2)
  have B2 := hid hb2
  clear K49 K48 h2 hb2 ho0 cs0
  go_wp2_with fail
  with_reducible refine K48'.out.mono ?_
  rintro r w3 ⟨a3, n3, c3, rfl, h3, hb3⟩
  have B3 : Hid (Below (w.alloc o0).heap.size (w.alloc o0) w3) := hid (B2.out.trans hb3)
  have B4 : ∀ o, Hid (Below (w.alloc o0).heap.size (w.alloc o0) (w3.alloc o)) := fun o => hid (B3.out.alloc B3.out.size o)
  have K51' := fun o => hid ((K51 (w3.alloc (.cells #[.slice a3 n3 c3] o)) w3.heap.size _).out (B4 _).out ((cell_of (heap_new w3 _)).trans rfl) (h3.mono (below_alloc _ _) (Nat.le_refl _)))
  have x3 : ∀ o, (w3.alloc o).cell? ⟨w.heap.size, 3, none⟩ = some (.slice ra rn rc) := fun o => (cell_of (HX.out _ (B4 o).out).1).trans rfl
  clear K48' K51 h3 hb3
  go_wp2_with fail
  with_reducible refine (K51' _).out.mono ?_
  rintro r w5 ⟨rfl, hb5⟩
  have hb5' := (B4 _).out.trans (hb5.mono (B4 _).out.size)
  have x7 := (HX.out _ hb5').2
  have B5 : Hid (Below w.heap.size w w5) := hid (hb00.out.trans (hb5'.mono (by omega)))
  clear hb5 hb5' K51' x3 B4
  cases q with
  | true =>
    go_wp2
    go_ret
    exact ⟨by rw [HKK.out]; rfl, B5.out⟩
  | false =>
    go_wp2
    go_ret
    exact ⟨by rw [HKK.out]; rfl, B5.out⟩
/-- trueReads: what it captures. -/
theorem trueReads_any (wq : World) (l : List EvV) (v : Value) (hv : EvsAt wq v l) (hl : l.length ≤ 1000) (hsm : ∀ e ∈ l, SmallC e.c) (w : World) (hq : Below wq.heap.size wq w) : Calls Tryz.prog 24 #[v] w fun r w' => ∃ sb xs, r = .returned (.func (.func 47) #[] #[.pointer (some ⟨sb, 0, none⟩)]) ∧ AllAt wq w' sb xs ∧ xs.map (·.c) = comsL l ∧ Below w.heap.size w w' := by
  have K := hid (commitsOf_any wq w hq l v hv hl fun e he => (hsm e he).2.1)
  obtain ⟨va, vc, rfl, _⟩ := hv.shape
  have HSM := hid hsm
  have HQ := hid hq
  clear hv hsm hq
  go_enter Tryz.func24, Tryz.ntmps24
  go_wp2_with fail
  with_reducible refine K.out.mono ?_
  rintro r w2 ⟨xv, xs, rfl, h1, h2, h3, h4⟩
  have H1 := hid h1
  have H2 := hid h2
  have H3 := hid h3
  have H4 := hid h4
  obtain ⟨xa, xc, rfl⟩ := row_shape h1
  clear h1 h2 h3 h4 K
  go_wp2
  go_ret
  refine ⟨_, xs, rfl, ⟨⟨_, heap_new _ _, ?_⟩, fun x hx => ⟨H3.out x hx, ?_⟩⟩, H2.out, H4.out.alloc H4.out.size _⟩
  · have := owns_below H1.out fun q cs hq => (below_alloc w2 (.cells #[.slice xa xs.length xc] 96)).block q (lt_of_heap hq)
    obtain ⟨h5, h6⟩ := this
    refine ⟨h5, ?_⟩
    rcases h6 with h6 | ⟨g, cap, cur, k1, k2, k3⟩
    · exact .inl h6
    · exact .inr ⟨g, cap, cur, k1, Nat.le_trans HQ.out.size k2, k3⟩
  · have hm : x.c ∈ comsL l := by rw [← H2.out]; exact List.mem_map.2 ⟨x, hx, rfl⟩
    unfold comsL at hm
    rw [List.mem_filter, List.mem_map] at hm
    obtain ⟨⟨e, he, h⟩, _⟩ := hm
    rw [← h]
    exact HSM.out e he
end Go.Proofs.YtngjooemanapnaaGreatDoor
namespace Go.Proofs.YtngjooemanapnaaGreatDoor
open Go.RowKit Go.Sort Go.Maps
set_option maxRecDepth 100000
set_option linter.unusedSectionVars false
variable [Inhabited ComV] [DecidableEq D3] [Inhabited D3] [Inhabited Dd] [Inhabited Dn] [Inhabited OpV]

/-- What is asked of events' sizes. -/
structure EvFit (e : EvV) : Prop where
  com : SmallC e.c
  at_ : e.at_.length ≤ 1000000
  reads : e.reads.length ≤ 1000000
  ses : n64 e.ses
theorem inTurn_new (wq w : World) : Calls Tryz.prog 23 #[] w fun r w' => ∃ cb mb, r = .returned (.func (.func 45) #[] #[.pointer (some ⟨cb, 0, none⟩)]) ∧ TurnI wq w' cb mb 0 [] ∧ cb ≠ mb ∧ w.heap.size ≤ mb ∧ Below w.heap.size w w' := by
  have hmm := @run_makeMap Tryz.prog
  go_enter Tryz.func23, Tryz.ntmps23
  go_wp2
  go_ret
  refine ⟨w.heap.size + 1, w.heap.size, rfl, ⟨?_, .map [], fun _ => none, (World.ownsMap_made w Tryz.prog 3 elemV).alloc _, MapS.start, fun _ _ => .inl ⟨rfl, rfl⟩⟩, by omega, Nat.le_refl _, below2 _ _ _⟩
  have := heap_new (w.alloc (.map #[] 0)) (.cells #[.map (some w.heap.size)] 94)
  rwa [World.size_alloc] at this
theorem TurnI.isMap {wq w : World} {cb mb n : Nat} {l : List EvV} (h : TurnI wq w cb mb n l) : ∃ es clock, w.heap[mb]? = some (.map es clock) := by
  obtain ⟨D, M, ⟨es, clock, q, _⟩, _⟩ := h.map
  exact ⟨es, clock, q⟩
theorem AllAt.turned {wq w u : World} {sb mb : Nat} {xs : List Cm} (h : AllAt wq w sb xs) (hO : OnlyB mb w u) (hm : ∃ es clock, w.heap[mb]? = some (.map es clock)) : AllAt wq u sb xs := by
  obtain ⟨v, h1, h2⟩ := h.row
  obtain ⟨es, clock, hm⟩ := hm
  have ne : ∀ q cs t, w.heap[q]? = some (.cells cs t (0, 0)) → q ≠ mb := fun q cs t hq e => by
    rw [e, hm] at hq
    cases hq
  exact ⟨⟨v, (hO.2.2.2.2 _ (lt_of_heap h1) (ne _ _ _ h1)).trans h1, owns_below h2 fun q cs hq => hO.2.2.2.2 q (lt_of_heap hq) (ne _ _ _ hq)⟩, h.good⟩
theorem Sents.gcell {A : Nat → Addr} {B : Nat} {w u : World} (h : Sents A B w) (hb : Below B w u) (k : Nat) (hk : k < 12) : u.cell? ⟨gix k, 0, none⟩ = some (.iface 223 (.pointer (some (A k)))) := (h.below hb).cell k hk
/-- The first pass: the verdicts, and where they lie. -/
theorem pass1 (A : Nat → Addr) (B : Nat) (w : World) (hS : Sents A B w) (n : Int) (l : List EvV) (v : Value) (hv : EvsAt w v l) (hl : l.length ≤ 1000) (hf : ∀ e ∈ l, EvFit e) (w1 : World) (hb1 : Below w.heap.size w w1) (fv : Value) (hfv : OfPAt w1 fv n) (c : Nat) (w2 : World) (hw2 : w2 = w1.alloc (.cells #[fv, .func (.func 21) #[] #[]] 62)) :
    Calls Tryz.prog 19 #[v, .slice (some ⟨w1.heap.size, 0, none⟩) 2 c] w2 fun r w' => ∃ x, r = .returned x ∧ ErrAt A w' x (wholeE n l) ∧ Below w.heap.size w w' := by
  obtain ⟨ib, pb, rfl, hi, hp⟩ := hfv
  have b12 : Below w1.heap.size w1 w2 := by rw [hw2]; exact below_alloc _ _
  have hb2 : Below w.heap.size w w2 := hb1.trans (b12.mono hb1.size)
  have hx : w2.heap[w1.heap.size]? = some (.cells #[.func (.func 40) #[] #[.pointer (some ⟨ib, 0, none⟩), .pointer (some ⟨pb, 0, none⟩)], .func (.func 21) #[] #[]] 62 (0, 0)) := by rw [hw2]; exact heap_new _ _
  have e40 := enters_of Tryz.func40 (by kernel_rfl) rfl
  have e21 := enters_of Tryz.func21 (by kernel_rfl) rfl
  have hs12 : 12 ≤ w.heap.size := Nat.le_trans (by have := hS.gl; omega) hS.size
  have key := firstFault_any A w w2 l v hv hl w1.heap.size 2 c (fun | 0 => 40 | _ => 21) (fun | 0 => #[.pointer (some ⟨ib, 0, none⟩), .pointer (some ⟨pb, 0, none⟩)] | _ => #[]) (vdW n l) (fun _ _ W => Below w2.heap.size w2 W) (by omega)
    { below := fun h => hb2.trans (h.mono hb2.size)
      cells := fun {i k W} h j hj => by
        have hc := (h.block _ (lt_of_heap hx)).trans hx
        rcases (by omega : j = 0 ∨ j = 1) with rfl | rfl
        · exact (cell_of hc).trans rfl
        · exact (cell_of hc).trans rfl
      stay := fun h hb => h.trans (hb.mono h.size)
      next := fun _ h => h
      enters := fun k hk => by
        rcases (by omega : k = 0 ∨ k = 1) with rfl | rfl
        · exact e40
        · exact e21 }
    (fun i k W av rv wv ov hi' hk hI _ he hr => by
      have hbW : Below w.heap.size w W := hb2.trans (hI.mono hb2.size)
      have hfe := hf _ (getD_mem hi')
      have heW := EvAt.mono he hbW (Nat.le_refl _)
      have hrS : ∃ a n c, rv = .slice a n c := by obtain ⟨_, ⟨a, c, rfl, _⟩, _⟩ := hr; exact ⟨_, _, _, rfl⟩
      have hSW := hS.below (hbW.mono hS.size)
      have hsW : 12 ≤ W.heap.size := Nat.le_trans hs12 hbW.size
      have b1W : Below w1.heap.size w1 W := b12.trans (hI.mono b12.size)
      rcases (by omega : k = 0 ∨ k = 1) with rfl | rfl
      · refine (ofP_any A W hSW.e4 hsW ib pb n (by rw [b1W.cell (p := ⟨ib, 0, none⟩) (lt_of_cell hi)]; exact hi) (by rw [b1W.cell (p := ⟨pb, 0, none⟩) (lt_of_cell hp)]; exact hp) _ av rv wv ov heW hrS hfe.at_ hfe.com.1).mono ?_
        rintro r w' ⟨rfl, hb⟩
        exact ⟨rfl, hI.trans (hb.mono hI.size), above_of hb⟩
      · refine (wholeC_any A W hSW.e5 _ av rv wv ov heW hrS hfe.com).mono ?_
        rintro r w' ⟨rfl, hb⟩
        exact ⟨rfl, hI.trans (hb.mono hI.size), above_of hb⟩)
    (Below.refl _ _)
  refine key.mono ?_
  rintro r w' ⟨x, rfl, h1, h2, _⟩
  have e : (fun i => (scan (vdW n l i) 2).1) = fun i => wholeB n (l.getD i ev0) := funext fun i => vdW_scan n l i
  rw [e] at h1
  exact ⟨x, rfl, h1, h2⟩
theorem doneL_mem {s : Int} : ∀ {l : List EvV} {zs : List Int}, doneL s l = some zs → ∃ e ∈ l, zs = e.c.when_ := by
  intro l
  suffices h : ∀ (l : List EvV) (m : Option (List Int)) (zs : List Int), l.foldl (fun m e => if e.ses = s then some e.c.when_ else m) m = some zs → m = some zs ∨ ∃ e ∈ l, zs = e.c.when_ by
    intro zs hz
    rcases h l none zs hz with h | h
    · cases h
    · exact h
  intro l
  induction l with
  | nil => intro m zs h; exact .inl h
  | cons e l ih =>
    intro m zs h
    rcases ih _ _ h with h | ⟨e', h1, h2⟩
    · have h : (if e.ses = s then some e.c.when_ else m) = some zs := h
      by_cases q : e.ses = s
      · rw [if_pos q] at h
        exact .inr ⟨e, by simp, (Option.some.inj h).symm⟩
      · rw [if_neg q] at h
        exact .inl h
    · exact .inr ⟨e', by simp [h1], h2⟩
/-- How many events inTurn has been asked of. -/
def tkN (i k : Nat) : Nat := if k ≤ 1 then i else i + 1
set_option maxHeartbeats 2000000 in
/-- The second pass. -/
theorem pass2 (A : Nat → Addr) (B : Nat) (w : World) (hS : Sents A B w) (n : Int) (l : List EvV) (v : Value) (hv : EvsAt w v l) (hl : l.length ≤ 1000) (hf : ∀ e ∈ l, EvFit e) (hW : WholeL n l) (w1 : World) (hb1 : Below w.heap.size w w1) (cb mb sb : Nat) (xs : List Cm) (hT : TurnI w w1 cb mb 0 []) (hcm : cb ≠ mb) (hmw : w.heap.size ≤ mb) (hA : AllAt w w1 sb xs) (hxs : xs.map (·.c) = comsL l) (c : Nat) (w2 : World)
    (hw2 : w2 = w1.alloc (.cells #[.func (.func 22) #[] #[], .func (.func 45) #[] #[.pointer (some ⟨cb, 0, none⟩)], .func (.func 47) #[] #[.pointer (some ⟨sb, 0, none⟩)]] 62)) :
    Calls Tryz.prog 19 #[v, .slice (some ⟨w1.heap.size, 0, none⟩) 3 c] w2 fun r w' => ∃ x, r = .returned x ∧ ErrAt A w' x (scan (besideB l) l.length) ∧ Below w.heap.size w w' := by
  have b12 : Below w1.heap.size w1 w2 := by rw [hw2]; exact below_alloc _ _
  have hb2 : Below w.heap.size w w2 := hb1.trans (b12.mono hb1.size)
  have hx : w2.heap[w1.heap.size]? = some (.cells #[.func (.func 22) #[] #[], .func (.func 45) #[] #[.pointer (some ⟨cb, 0, none⟩)], .func (.func 47) #[] #[.pointer (some ⟨sb, 0, none⟩)]] 62 (0, 0)) := by rw [hw2]; exact heap_new _ _
  have e22 := enters_of Tryz.func22 (by kernel_rfl) rfl
  have e45 := enters_of Tryz.func45 (by kernel_rfl) rfl
  have e47 := enters_of Tryz.func47 (by kernel_rfl) rfl
  have hs13 : 13 ≤ w.heap.size := Nat.le_trans hS.gl hS.size
  have hml := hT.mlt
  have hT2 := hT.stay b12
  have hA2 := hA.stay b12
  have hxl : xs.length ≤ 1000 := by
    have : xs.length = (comsL l).length := by rw [← hxs, List.length_map]
    have h2 : (comsL l).length ≤ l.length := by unfold comsL; exact Nat.le_trans (List.length_filter_le _ _) (by simp)
    omega
  have key := firstFault_any A w w2 l v hv hl w1.heap.size 3 c (fun | 0 => 22 | 1 => 45 | _ => 47) (fun | 0 => #[] | 1 => #[.pointer (some ⟨cb, 0, none⟩)] | _ => #[.pointer (some ⟨sb, 0, none⟩)]) (vdB l) (fun i k W => OnlyB mb w2 W ∧ TurnI w W cb mb (tkN i k) (l.take (tkN i k))) (by omega)
    { below := fun h => h.1.below hmw hb2 hb2.size
      cells := fun {i k W} h j hj => by
        have hc := (h.1.2.2.2.2 _ (lt_of_heap hx) (by omega)).trans hx
        rcases (by omega : j = 0 ∨ j = 1 ∨ j = 2) with rfl | rfl | rfl
        · exact (cell_of hc).trans rfl
        · exact (cell_of hc).trans rfl
        · exact (cell_of hc).trans rfl
      stay := fun h hb => ⟨h.1.trans (OnlyB.of hb), h.2.stay hb⟩
      next := fun _ h => h
      enters := fun k hk => by
        rcases (by omega : k = 0 ∨ k = 1 ∨ k = 2) with rfl | rfl | rfl
        · exact e22
        · exact e45
        · exact e47 }
    (fun i k W av rv wv ov hi' hk hI hz he hr => by
      have hbW : Below w.heap.size w W := hI.1.below hmw hb2 hb2.size
      have hfe := hf _ (getD_mem hi')
      have heW := EvAt.mono he hbW (Nat.le_refl _)
      have hrS : ∃ a n c, rv = .slice a n c := by obtain ⟨_, ⟨a, c, rfl, _⟩, _⟩ := hr; exact ⟨_, _, _, rfl⟩
      have hSW := hS.below (hbW.mono hS.size)
      have hsW : 12 ≤ W.heap.size := Nat.le_trans (by omega) hbW.size
      have hAW := hA2.turned hI.1 hT2.isMap
      rcases (by omega : k = 0 ∨ k = 1 ∨ k = 2) with rfl | rfl | rfl
      · refine (forwardV_any A W hSW.e4 hsW _ av rv wv ov heW hfe.at_ hfe.com.1).mono ?_
        rintro r w' ⟨rfl, hb⟩
        exact ⟨rfl, ⟨hI.1.trans (OnlyB.of hb), hI.2.stay hb⟩, above_of hb⟩
      · refine (turn_any A w W hbW hSW.e4 (hSW.cell 8 (by decide)) (by omega) cb mb i (l.take i) hI.2 hcm hmw (by omega) (fun s zs hd => by
          obtain ⟨e, he, rfl⟩ := doneL_mem hd
          exact (hf e (List.mem_of_mem_take he)).com.1) _ hfe.ses av rv wv ov he hrS hfe.at_).mono ?_
        rintro r w' ⟨rfl, h1, h2⟩
        have e : l.getD i ev0 = l[i] := by rw [List.getD_eq_getElem?_getD, List.getElem?_eq_getElem hi']; rfl
        refine ⟨rfl, ⟨hI.1.trans h2, ?_⟩, h2.2.2.2.1, fun q h3 h4 => h2.2.2.2.2 q h4 (by have := b12.size; omega)⟩
        show TurnI w w' cb mb (i + 1) (l.take (i + 1))
        rw [List.take_succ_eq_append_getElem hi', ← e]
        exact h1
      · have hok : ∀ j, j < (seenC l (l.getD i ev0).at_).length → listBad (seenC l (l.getD i ev0).at_) j = 0 := hW.list seenC_of
        have e : ((xs.map (·.c)).filter fun c => inB c.when_ (l.getD i ev0).at_) = seenC l (l.getD i ev0).at_ := by rw [hxs]; rfl
        have := trueR_any A w W hbW hSW.e5 hs13 (hSW.cell 7 (by decide)) sb xs hAW hxl _ av rv wv ov he hr hfe.at_ hfe.reads (by rw [e]; exact hok)
        rw [e] at this
        refine this.mono ?_
        rintro r w' ⟨rfl, hb⟩
        exact ⟨rfl, ⟨hI.1.trans (OnlyB.of hb), hI.2.stay hb⟩, above_of hb⟩)
    ⟨OnlyB.of (Below.refl _ _), hT2⟩
  refine key.mono ?_
  rintro r w' ⟨x, rfl, h1, h2, _⟩
  have e : (fun i => (scan (vdB l i) 3).1) = besideB l := funext fun i => vdB_scan l i
  rw [e] at h1
  exact ⟨x, rfl, h1, h2⟩
end Go.Proofs.YtngjooemanapnaaGreatDoor
