/- The reference's eventError. -/
import Derived.Test.YtngjooemanapnaaGreatDoorJJQ
import Derived.Test.YtngjooemanapnaaGreatDoorJJO2
import Derived.Test.YtngjooemanapnaaGreatDoorJVOfRV
import Derived.Deep.DeepCutAuto
import Derived.Deep.CutBlock
namespace Go.Proofs.YtngjooemanapnaaGreatDoor
open Go.RowKit Go.Sort Go.Maps
set_option maxRecDepth 100000
set_option linter.unusedSectionVars false
variable [Inhabited ComV] [DecidableEq D3] [Inhabited D3] [Inhabited Dd] [Inhabited Dn] [Inhabited OpV]

/-- The last event of this session, among the first k. -/
def LastI (l : List EvV) (s : Int) (k : Nat) (x : Int) : Prop := (x = -1 ∧ doneL s (l.take k) = none) ∨ ∃ j, j < k ∧ x = (j : Nat) ∧ doneL s (l.take k) = some (l.getD j ev0).c.when_
theorem LastI.succ {l : List EvV} {s : Int} {k : Nat} {x : Int} (h : LastI l s k x) (hk : k < l.length) : LastI l s (k + 1) (if (l.getD k ev0).ses = s then (k : Nat) else x) := by
  unfold LastI
  rw [doneL_take s l k hk]
  by_cases q : (l.getD k ev0).ses = s
  · rw [if_pos q, if_pos q]
    exact .inr ⟨k, by omega, rfl, rfl⟩
  · rw [if_neg q, if_neg q]
    rcases h with h | ⟨j, h1, h2, h3⟩
    · exact .inl h
    · exact .inr ⟨j, by omega, h2, h3⟩
theorem seenC_take (l : List EvV) (at_ : List Int) (k : Nat) (h : k < l.length) : seenC (l.take (k + 1)) at_ = seenC (l.take k) at_ ++ (if (l.getD k ev0).c.ops ≠ [] ∧ inB (l.getD k ev0).c.when_ at_ = true then [(l.getD k ev0).c] else []) := by
  unfold seenC
  rw [comsL_take l k h, List.filter_append]
  congr 1
  by_cases q : (l.getD k ev0).c.ops = []
  · rw [if_pos q, if_neg (fun x => x.1 q)]; rfl
  · rw [if_neg q]
    by_cases z : inB (l.getD k ev0).c.when_ at_ = true
    · rw [if_pos ⟨q, z⟩, List.filter_cons, if_pos z]; rfl
    · rw [if_neg (fun x => z x.2), List.filter_cons, if_neg z]; rfl
/-- What all its calls of In come to. -/
theorem in13 (wq : World) (l : List EvV) (n : Int) (hW : WholeL n l) (hf : ∀ e ∈ l, EvFit e) (u : World) (hu : Below wq.heap.size wq u) (a b : EvV) (ha : a ∈ l) (hb : b ∈ l) (wv av : Value) (hw : IntsAt wq wv a.c.when_) (hat : IntsAt wq av b.at_) :
    Calls Tryz.prog 13 #[wv, av] u fun r w' => r = .returned (.bool (inB a.c.when_ b.at_)) ∧ ∃ q, w' = u.drewN q := by
  have h := hW.two ha hb
  rw [inB_of h]
  obtain ⟨h1, _, h3⟩ := two_zero.1 h
  exact in_any u wv av _ _ (hw.mono hu (Nat.le_refl _)) (hat.mono hu (Nat.le_refl _)) h3 (chk_zero.1 h1).1 (hf a ha).com.1
theorem in13' (wq : World) (l : List EvV) (n : Int) (hW : WholeL n l) (hf : ∀ e ∈ l, EvFit e) (u : World) (hu : Below wq.heap.size wq u) (a : EvV) (ha : a ∈ l) (wv av : Value) (hw : IntsAt wq wv a.c.when_) (hat : IntsAt wq av a.at_) :
    Calls Tryz.prog 13 #[av, wv] u fun r w' => r = .returned (.bool (inB a.at_ a.c.when_)) ∧ ∃ q, w' = u.drewN q := by
  have h := hW.two' ha ha
  rw [inB_of h]
  obtain ⟨h1, _, h3⟩ := two_zero.1 h
  exact in_any u av wv _ _ (hat.mono hu (Nat.le_refl _)) (hw.mono hu (Nat.le_refl _)) h3 (chk_zero.1 h1).1 (hf a ha).at_
def sn0 : SnV := ⟨ByteArray.empty, ⟨0, ByteArray.empty, 0, []⟩⟩
theorem SnsAt.shape {w : World} {v : Value} {rs : List SnV} (h : SnsAt w v rs) : ∃ ad cap, v = .slice ad rs.length cap ∧ (rs = [] ∨ ∃ b off, ad = some ⟨b, off, none⟩ ∧ ∀ j, j < rs.length → ∃ sv, StrsX w sv (rs.getD j sn0).v.set ∧ ∀ i u, ([.string (rs.getD j sn0).key, .int .i64 (rs.getD j sn0).v.kind, .string (rs.getD j sn0).v.text, .int .i64 (rs.getD j sn0).v.n, sv] : List Value)[i]? = some u → w.cell? ⟨b, off + j * 5 + i, none⟩ = some u) := by
  obtain ⟨rows, ⟨ad, cap, rfl, h1, h2, h3⟩, hf⟩ := h
  have hl := f2_len hf
  refine ⟨ad, cap, by rw [hl], ?_⟩
  rcases h3 with rfl | ⟨b, off, rfl, h3⟩
  · exact .inl (List.eq_nil_of_length_eq_zero hl.symm)
  · refine .inr ⟨b, off, rfl, fun j hj => ?_⟩
    obtain ⟨r, hr, sv, rfl, hs⟩ := f2_get hf j (rs.getD j sn0) (by rw [List.getD_eq_getElem?_getD, List.getElem?_eq_getElem hj]; rfl)
    exact ⟨sv, hs, (h3 j _ hr).2⟩
theorem coms_owns {w : World} {base : Nat} {v : Value} {xs : List Cm} (h : w.ownsRow base 41 3 v xs.length (xs.flatMap Cm.enc)) (hg : ∀ x ∈ xs, GoodC w x) : ComsAt w v (xs.map (·.c)) := by
  obtain ⟨_, h2⟩ := h
  rcases h2 with ⟨rfl, h0⟩ | ⟨g, cap, cur, rfl, hb, hh, hn, hm, hs, ht⟩
  · obtain rfl := List.eq_nil_of_length_eq_zero h0
    exact coms_nil w
  · refine coms_of_cells rfl hn (fun j hj i u hu => ?_) hg
    have hi : i < 3 := by
      rw [List.getElem?_eq_getElem hj] at hu
      exact (List.getElem?_eq_some_iff.1 hu).1
    have e := flat_enc xs j i hj hi
    rw [← ht, List.getElem?_take, if_pos (by omega), Array.getElem?_toList, hu] at e
    rw [Nat.zero_add]
    simp only [World.cell?, hh]
    rw [e]
    simp
theorem readsB_false {L : List ComV} {rs : List SnV} {j : Nat} (h : j < rs.length) (hf : trueB L (rs.getD j sn0) = false) : readsB L rs = false := by
  unfold readsB
  rw [List.all_eq_false]
  refine ⟨rs.getD j sn0, ?_, by rw [hf]; decide⟩
  rw [List.getD_eq_getElem?_getD, List.getElem?_eq_getElem h]
  exact List.getElem_mem h
theorem readsB_true {L : List ComV} {rs : List SnV} (h : ∀ t, t < rs.length → trueB L (rs.getD t sn0) = true) : readsB L rs = true := by
  unfold readsB
  rw [List.all_eq_true]
  intro r hr
  obtain ⟨i, hi, rfl⟩ := List.getElem_of_mem hr
  have := h i hi
  rwa [List.getD_eq_getElem?_getD, List.getElem?_eq_getElem hi] at this
def NumRet (x : Nat) (w : World) (r : Ending) (w' : World) : Prop := r = .returned (.int .i64 (x : Nat)) ∧ Below w.heap.size w w'
set_option maxHeartbeats 8000000 in
theorem eventErr_any (wq w : World) (hq : Below wq.heap.size wq w) (l : List EvV) (v : Value) (hv : EvsAt wq v l) (hl : l.length ≤ 1000) (hf : ∀ e ∈ l, EvFit e) (n0 : Int) (hW : WholeL n0 l) (i : Nat) (hi : i < l.length) :
    Calls Tryz.prog 29 #[v, .int .i64 i] w (NumRet (besideB l i) w) := by
  obtain ⟨i41, hI, hz0, hz1, hz2⟩ := info_parts info41
  obtain ⟨ad, cap, rfl, _, hcap, hv'⟩ := hv.shape
  obtain ⟨b, off, rfl, hv2⟩ := hv'.resolve_left (fun h => by rw [h] at hi; simp at hi)
  obtain ⟨av, rv, wv, ov, he, hr, hc⟩ := hv2 i hi
  have hfe := hf _ (getD_mem hi)
  have hcc : ∀ W, Below wq.heap.size wq W → ∀ j u, (evCells (l.getD i ev0) av rv wv ov)[j]? = some u → W.cell? ⟨b, off + i * 7 + j, none⟩ = some u := fun W hW j u hj => by
    have := hc j u hj
    rw [hW.cell (p := ⟨b, off + i * 7 + j, none⟩) (lt_of_cell this)]
    exact this
  have K13 := fun u hu a bb ha hb wv av h1 h2 => hid (in13 wq l n0 hW hf u hu a bb ha hb wv av h1 h2)
  have K13' := fun u hu => hid (in13' wq l n0 hW hf u hu _ (getD_mem hi) wv av he.when_ he.at_)
  have hok : ∀ j, j < (seenC l (l.getD i ev0).at_).length → listBad (seenC l (l.getD i ev0).at_) j = 0 := hW.list seenC_of
  have hsl : (seenC l (l.getD i ev0).at_).length ≤ 1000 := Nat.le_trans seenC_len hl
  have hmem := getD_mem hi
  have hbs : besideB l i = if inB (l.getD i ev0).at_ (l.getD i ev0).c.when_ = false then 2 else if turnOk (doneL (l.getD i ev0).ses (l.take i)) (l.getD i ev0).at_ = false then 9 else if readsB (seenC l (l.getD i ev0).at_) (l.getD i ev0).reads = false then 8 else 0 := rfl
  obtain ⟨ex, hex⟩ : ∃ ex, ex = l.getD i ev0 := ⟨_, rfl⟩
  rw [← hex] at he hr hcc hfe K13' hok hsl hmem hbs
  obtain ⟨aa, ac, wa, wc, oa, oc, rfl, rfl, rfl⟩ := evAt_shape he
  obtain ⟨ra, rn, rc, rfl⟩ : ∃ a n c, rv = .slice a n c := by obtain ⟨_, ⟨a, c, rfl, _⟩, _⟩ := hr; exact ⟨_, _, _, rfl⟩
  obtain ⟨n, hn⟩ : ∃ n, n = l.length := ⟨_, rfl⟩
  rw [← hn] at hi hl hv2 hcap ⊢
  obtain ⟨o0, ho0⟩ : ∃ o0, o0 = Obj.cells #[.int .i64 ex.ses, .int .i64 ex.place, .slice aa ex.at_.length ac, .slice ra rn rc, .slice wa ex.c.when_.length wc, .int .i64 ex.c.place, .slice oa ex.c.ops.length oc] 44 := ⟨_, rfl⟩
  have c0 : w.cell? ⟨b, off + i * 7, none⟩ = some (.int .i64 ex.ses) := hcc w hq 0 _ rfl
  have c1 : w.cell? ⟨b, off + i * 7 + 1, none⟩ = some (.int .i64 ex.place) := hcc w hq 1 _ rfl
  have c2 : w.cell? ⟨b, off + i * 7 + 2, none⟩ = some (.slice aa ex.at_.length ac) := hcc w hq 2 _ rfl
  have c3 : w.cell? ⟨b, off + i * 7 + 3, none⟩ = some (.slice ra rn rc) := hcc w hq 3 _ rfl
  have c4 : w.cell? ⟨b, off + i * 7 + 4, none⟩ = some (.slice wa ex.c.when_.length wc) := hcc w hq 4 _ rfl
  have c5 : w.cell? ⟨b, off + i * 7 + 5, none⟩ = some (.int .i64 ex.c.place) := hcc w hq 5 _ rfl
  have c6 : w.cell? ⟨b, off + i * 7 + 6, none⟩ = some (.slice oa ex.c.ops.length oc) := hcc w hq 6 _ rfl
  have hi1 : (i : Int) < (n : Int) := by omega
  have hb0 : Below w.heap.size w (w.alloc o0) := below_alloc _ _
  have hq0 : Below wq.heap.size wq (w.alloc o0) := hq.trans (hb0.mono hq.size)
  have hx0 : (w.alloc o0).heap[w.heap.size]? = some (.cells #[.int .i64 ex.ses, .int .i64 ex.place, .slice aa ex.at_.length ac, .slice ra rn rc, .slice wa ex.c.when_.length wc, .int .i64 ex.c.place, .slice oa ex.c.ops.length oc] 44 (0, 0)) := by rw [ho0]; exact heap_new _ _
  obtain ⟨er, her⟩ : ∃ er, er = besideB l i := ⟨_, rfl⟩
  rw [← her]
  rw [← her] at hbs
  have HBS := ShutJ.mk hbs
  have HN := ShutJ.mk hn
  have HEX := ShutJ.mk hex
  have HV := hid hv2
  have HF := hid hf
  have HE := hid he
  have HR := hid hr
  have HFE := hid hfe
  have HOK := hid hok
  have HQ0 := hid hq0
  have HX0 := hid hx0
  have HB0 := hid hb0
  have HSL := hid hsl
  have HMEM := hid hmem
  obtain ⟨q0, hq0'⟩ : ∃ q, q = inB ex.at_ ex.c.when_ := ⟨_, rfl⟩
  rw [← hq0'] at K13'
  have HQ00 := ShutJ.mk hq0'
  have K1 := hid ((K13' _ hq0).out)
  clear hv hv' hv2 hf hW he hr hc hcc hfe K13' hok hsl hmem hbs hex hn her hq hq0 hx0 hb0 hq0'
  go_enter Tryz.func29, Tryz.ntmps29
  go_wp2_with fail
  rw [← ho0]
  with_reducible refine K1.out.mono ?_
  rintro r w1 ⟨rfl, nq, hw1⟩
  have hb1 : Below (w.alloc o0).heap.size (w.alloc o0) w1 := by rw [hw1]; exact below_draws (Below.refl _ _) nq
  have HB1 := hid hb1
  clear hw1 K1 c0 c1 c2 c3 c4 c5 c6 hb1 ho0
  have hxs : w.heap.size < (w.alloc o0).heap.size := by simp
  have HXU : Hid (∀ u, Below w1.heap.size w1 u → u.heap[w.heap.size]? = some (.cells #[.int .i64 ex.ses, .int .i64 ex.place, .slice aa ex.at_.length ac, .slice ra rn rc, .slice wa ex.c.when_.length wc, .int .i64 ex.c.place, .slice oa ex.c.ops.length oc] 44 (0, 0)) ∧ Below wq.heap.size wq u ∧ Below w.heap.size w u) := hid fun u hu => by
    have h1 : Below (w.alloc o0).heap.size (w.alloc o0) u := HB1.out.trans (hu.mono HB1.out.size)
    exact ⟨(h1.block _ hxs).trans HX0.out, HQ0.out.trans (h1.mono HQ0.out.size), HB0.out.trans (h1.mono HB0.out.size)⟩
  cases q0 with
  | false =>
    go_wp2
    go_ret
    refine ⟨?_, (HXU.out w1 (Below.refl _ _)).2.2⟩
    rw [HBS.out, if_pos HQ00.out.symm]
    rfl
  | true =>
    go_wp2
    go_loopw [7, 8] (fun x y wr => ∃ (k : Nat) (z : Int), k ≤ i ∧ y = .int .i64 k ∧ x = .int .i64 z ∧ Hid (LastI l ex.ses k z) ∧ -1 ≤ z ∧ z < i ∧ Hid (Below w1.heap.size w1 wr)) (fun _ y _ => i - (intOf y).toNat)
    case atStart => exact ⟨0, -1, Nat.zero_le _, rfl, rfl, .inl ⟨rfl, rfl⟩, by omega, by omega, Below.refl _ _⟩
    case round =>
      obtain ⟨k, z, hk, rfl, rfl, HL, hz1', hz2', HB⟩ := hrel
      by_cases hlt : k < i
      · have hk1 : (k : Int) < (i : Int) := by omega
        have hkn : (k : Int) < (n : Int) := by omega
        obtain ⟨kv, kr, kw, ko, _, _, hck⟩ := HV.out k (by omega)
        obtain ⟨hxu, hqu, _⟩ := HXU.out wr HB.out
        have d0 : wr.cell? ⟨b, off + k * 7, none⟩ = some (.int .i64 (l.getD k ev0).ses) := by
          have := hck 0 _ rfl
          rw [Nat.add_zero] at this
          rw [hqu.cell (p := ⟨b, off + k * 7, none⟩) (lt_of_cell this)]
          exact this
        have d1 : wr.cell? ⟨w.heap.size, 0, none⟩ = some (.int .i64 ex.ses) := (cell_of hxu).trans rfl
        have hsucc := HL.out.succ (by have := HN.out; omega)
        obtain ⟨s, hs⟩ : ∃ s, s = (l.getD k ev0).ses := ⟨_, rfl⟩
        rw [← hs] at d0 hsucc
        have HS := hid hsucc
        clear hck hxu hqu hs hsucc
        by_cases e : s = ex.ses
        · have eb : (s == ex.ses) = true := by rw [e]; simp
          have HE' := ShutJ.mk e
          clear e
          go_upto_region 9 with (fail)
          go_quiet (fail)
          go_wp2
          go_roundw
          case rel => exact ⟨k + 1, k, by omega, by go_num, rfl, hid (by have := HS.out; rwa [if_pos HE'.out] at this), by omega, by omega, hid (HB.out.trans (below_draws (Below.refl _ _) _))⟩
          case measure => simp [intOf]; omega
        · have eb : (s == ex.ses) = false := beq_eq_false_iff_ne.2 e
          have HE' := ShutJ.mk e
          clear e
          go_upto_region 9 with (fail)
          go_quiet (fail)
          go_wp2
          go_roundw
          case rel => exact ⟨k + 1, z, by omega, by go_num, rfl, hid (by have := HS.out; rwa [if_neg HE'.out] at this), by omega, by omega, hid (HB.out.trans (below_draws (Below.refl _ _) _))⟩
          case measure => simp [intOf]; omega
      · obtain rfl : k = i := by omega
        obtain ⟨wo, hwo⟩ : ∃ wo : World, wo = wr := ⟨wr, rfl⟩
        subst hwo
        obtain ⟨tb, htb⟩ : ∃ tb, tb = turnOk (doneL ex.ses (l.take k)) ex.at_ := ⟨_, rfl⟩
        have HTB := ShutJ.mk htb
        clear htb
        obtain ⟨nb, hnb⟩ : ∃ nb, nb = !tb := ⟨_, rfl⟩
        have HNB := ShutJ.mk hnb
        clear hnb
        have hdr : Below w1.heap.size w1 wo.drew := HB.out.drew
        have HDR := hid hdr
        clear hdr
        go_upto_region 11 with (fail)
        go_cut [53] (fun x wx => x = .bool nb ∧ Hid (Below w1.heap.size w1 wx))
        case first =>
          rcases HL.out with ⟨rfl, hd⟩ | ⟨j, hj, rfl, hd⟩
          · have e : tb = true := by rw [HTB.out, hd]; rfl
            have E := ShutJ.mk e
            clear e hd
            go_region
            go_wp2_with fail
            go_meet
            exact ⟨by rw [HNB.out, E.out]; rfl, HDR⟩
          · obtain ⟨jv, jr, jw, jo, hje, _, hjc⟩ := HV.out j (by omega)
            have hjm := getD_mem (l := l) (i := j) (by have := HN.out; omega)
            have KJ := fun u (hu : Below wq.heap.size wq u) => hid ((K13 u hu _ _ hjm HMEM.out jw _ hje.when_ HE.out.at_).out)
            have e : tb = inB (l.getD j ev0).c.when_ ex.at_ := by rw [HTB.out, hd]; rfl
            rw [← e] at KJ
            obtain ⟨wj, wjc, rfl⟩ := hje.when_.slice
            obtain ⟨hxu, hqu, _⟩ := HXU.out wo HB.out
            have d1 : wo.cell? ⟨b, off + j * 7 + 4, none⟩ = some (.slice wj (l.getD j ev0).c.when_.length wjc) := by
              have := hjc 4 _ rfl
              rw [hqu.cell (p := ⟨b, off + j * 7 + 4, none⟩) (lt_of_cell this)]
              exact this
            have d2 : wo.cell? ⟨w.heap.size, 2, none⟩ = some (.slice aa ex.at_.length ac) := (cell_of hxu).trans rfl
            obtain ⟨mj, hmj⟩ : ∃ mj, mj = (l.getD j ev0).c.when_.length := ⟨_, rfl⟩
            rw [← hmj] at d1 KJ
            have l1 := lt_of_cell d1
            have l2 := lt_of_cell d2
            have HELD : Hid (∀ u, Below wo.heap.size wo u → u.cell? ⟨b, off + j * 7 + 4, none⟩ = some (.slice wj mj wjc) ∧ u.cell? ⟨w.heap.size, 2, none⟩ = some (.slice aa ex.at_.length ac)) := hid fun u hu => ⟨by rw [hu.cell (p := ⟨b, off + j * 7 + 4, none⟩) l1]; exact d1, by rw [hu.cell (p := ⟨w.heap.size, 2, none⟩) l2]; exact d2⟩
            have KJ2 : Hid (∀ u, Below wo.heap.size wo u → Hid (Calls Tryz.prog 13 #[.slice wj mj wjc, .slice aa ex.at_.length ac] u fun r w' => r = .returned (.bool tb) ∧ ∃ q, w' = u.drewN q)) := hid fun u hu => KJ u (hqu.trans (hu.mono hqu.size))
            have hd0 : Below wo.heap.size wo wo := Below.refl _ _
            have hd1 : Below wo.heap.size wo wo.drew := hd0.drew
            have hj0 : (0 : Int) ≤ (j : Int) := by omega
            have hjn : (j : Int) < (n : Int) := by omega
            have hjd : decide ((0 : Int) ≤ (j : Int)) = true := decide_eq_true hj0
            clear hje hjc hjm hxu hqu d1 d2 l1 l2 KJ e hd hmj
            go_region_held (fun u => u.cell? ⟨b, off + j * 7 + 4, none⟩ = some (.slice wj mj wjc) ∧ u.cell? ⟨w.heap.size, 2, none⟩ = some (.slice aa ex.at_.length ac)) ((refine HELD.out _ ?_; with_reducible assumption)) (first | (go_at_call 13; refine (KJ2.out _ ?hb4).out.mono ?_; (case hb4 => with_reducible assumption); rintro e w' ⟨rfl, nq, hw'⟩; have hbw : Below wo.heap.size wo w' := (by rw [hw']; exact below_draws hd1 nq); clear hw'))
            go_wp2_with fail
            go_meet
            exact ⟨by rw [HNB.out], hid (HB.out.trans (hbw.mono HB.out.size))⟩
        case rest =>
          obtain ⟨rfl, HBc⟩ := hcut
          cases nb with
          | true =>
            have HTT := ShutJ.mk (show turnOk (doneL ex.ses (l.take k)) ex.at_ = false by rw [← HTB.out]; have := HNB.out; cases tb; rfl; cases this)
            go_wp2
            go_ret
            refine ⟨?_, (HXU.out wc HBc.out).2.2⟩
            rw [HBS.out, if_neg (by rw [← HQ00.out]; decide), if_pos HTT.out]
            rfl
          | false =>
            have HTT := ShutJ.mk (show turnOk (doneL ex.ses (l.take k)) ex.at_ = true by rw [← HTB.out]; have := HNB.out; cases tb; cases this; rfl)
            go_wp2
            go_loopw [9, 10] (fun x y wr => ∃ (m : Nat) (xv : Value) (xs : List Cm), m ≤ n ∧ y = .int .i64 m ∧ x = xv ∧ Hid (xs.map (·.c) = seenC (l.take m) ex.at_) ∧ Hid (∀ z ∈ xs, GoodC wq z) ∧ Hid (wr.ownsRow w1.heap.size 41 3 xv xs.length (xs.flatMap Cm.enc)) ∧ Hid (Below w1.heap.size w1 wr) ∧ xs.length ≤ m) (fun _ y _ => n - (intOf y).toNat)
            case atStart => exact ⟨0, _, [], Nat.zero_le _, rfl, rfl, rfl, hid fun _ h => by simp at h, World.ownsRow_nil _ _ _ _, HBc, Nat.le_refl _⟩
            case round =>
              obtain ⟨m, xv, xs, hm, rfl, hxx, HX, HG, HRw, HBm, hxm⟩ := hrel
              obtain rfl := hxx.symm
              have hsz := HBm.out.size
              by_cases hlt : m < n
              · have hm1 : (m : Int) < (n : Int) := by omega
                obtain ⟨jv, jr, jw, jo, hje, _, hjc⟩ := HV.out m hlt
                have hjm := getD_mem (l := l) (i := m) (by have := HN.out; omega)
                have KJ := fun u (hu : Below wq.heap.size wq u) => hid ((K13 u hu _ _ hjm HMEM.out jw _ hje.when_ HE.out.at_).out)
                have htk := seenC_take l ex.at_ m (by have := HN.out; omega)
                obtain ⟨em, hem⟩ : ∃ em, em = l.getD m ev0 := ⟨_, rfl⟩
                rw [← hem] at KJ htk hje hjc
                obtain ⟨qi, hqi⟩ : ∃ qi, qi = inB em.c.when_ ex.at_ := ⟨_, rfl⟩
                rw [← hqi] at KJ htk
                obtain ⟨ja, jac, wj, wjc, oj, ojc, rfl, rfl, rfl⟩ := evAt_shape hje
                obtain ⟨hxu, hqu, _⟩ := HXU.out wr HBm.out
                have hcm : ∀ W, Below wr.heap.size wr W → ∀ t u, (evCells em (.slice ja em.at_.length jac) jr (.slice wj em.c.when_.length wjc) (.slice oj em.c.ops.length ojc))[t]? = some u → W.cell? ⟨b, off + m * 7 + t, none⟩ = some u := fun W hW t u ht => by
                  have := hjc t u ht
                  rw [(hqu.trans (hW.mono hqu.size)).cell (p := ⟨b, off + m * 7 + t, none⟩) (lt_of_cell this)]
                  exact this
                have hgood : GoodC wq ⟨wj, em.c.when_.length, wjc, em.c.place, oj, em.c.ops.length, ojc, em.c⟩ := ⟨hje.when_, rfl, hje.ops⟩
                have hbm : ∀ u, Below wr.heap.size wr u → u.cell? ⟨w.heap.size, 2, none⟩ = some (.slice aa ex.at_.length ac) := fun u hu => (cell_of ((hu.block _ (lt_of_heap hxu)).trans hxu)).trans rfl
                have HELD : Hid (∀ u, Below wr.heap.size wr u → u.cell? ⟨b, off + m * 7 + 4, none⟩ = some (.slice wj em.c.when_.length wjc) ∧ u.cell? ⟨w.heap.size, 2, none⟩ = some (.slice aa ex.at_.length ac)) := hid fun u hu => ⟨hcm u hu 4 _ rfl, hbm u hu⟩
                have KJ2 : Hid (∀ u, Below wr.heap.size wr u → Hid (Calls Tryz.prog 13 #[.slice wj em.c.when_.length wjc, .slice aa ex.at_.length ac] u fun r w' => r = .returned (.bool qi) ∧ ∃ q, w' = u.drewN q)) := hid fun u hu => KJ u (hqu.trans (hu.mono hqu.size))
                have hd0 : Below wr.heap.size wr wr := Below.refl _ _
                have hd1 : Below wr.heap.size wr wr.drew := hd0.drew
                have HCM := hid hcm
                have HTK := hid htk
                have HGD := hid hgood
                obtain ⟨xa, xc, rfl⟩ := row_shape HRw.out
                clear hje hjc hjm hxu hqu KJ htk hqi hcm hgood hbm hem
                go_upto_region 17 with (fail)
                go_region_held (fun u => u.cell? ⟨b, off + m * 7 + 4, none⟩ = some (.slice wj em.c.when_.length wjc) ∧ u.cell? ⟨w.heap.size, 2, none⟩ = some (.slice aa ex.at_.length ac)) ((refine HELD.out _ ?_; with_reducible assumption)) (first | (go_at_call 13; refine (KJ2.out _ ?hb4).out.mono ?_; (case hb4 => with_reducible assumption); rintro e w' ⟨rfl, nq, hw'⟩; have hbw : Below wr.heap.size wr w' := (by rw [hw']; exact below_draws hd1 nq); clear hw'))
                have d4 : w'.cell? ⟨b, off + m * 7 + 4, none⟩ = some (.slice wj em.c.when_.length wjc) := HCM.out w' hbw 4 _ rfl
                have d5 : w'.cell? ⟨b, off + m * 7 + 5, none⟩ = some (.int .i64 em.c.place) := HCM.out w' hbw 5 _ rfl
                have d6 : w'.cell? ⟨b, off + m * 7 + 6, none⟩ = some (.slice oj em.c.ops.length ojc) := HCM.out w' hbw 6 _ rfl
                have hr2 : w'.ownsRow w1.heap.size 41 3 (.slice xa xs.length xc) xs.length (xs.flatMap Cm.enc) := owns_below HRw.out fun q cs hq => hbw.block q (lt_of_heap hq)
                have hws := hbw.size
                have BW := hid hbw
                obtain ⟨e1, e2, e3, e4, ⟨e5, e6, e7⟩⟩ := em
                simp only at d4 d5 d6
                clear hd0 hd1 HELD KJ2 hbw HCM
                have HSKIP : Hid (¬ (e7 ≠ [] ∧ qi = true) → xs.map (·.c) = seenC (l.take (m + 1)) ex.at_ ∧ w'.ownsRow w1.heap.size 41 3 (.slice xa xs.length xc) xs.length (xs.flatMap Cm.enc) ∧ Below w1.heap.size w1 w') := hid fun h => by
                  refine ⟨?_, hr2, HBm.out.trans (BW.out.mono hsz)⟩
                  rw [HTK.out, if_neg h, List.append_nil]
                  exact HX.out
                by_cases ho : e7 = []
                · have h0 : ((e7.length : Nat) : Int) = 0 := by rw [ho]; rfl
                  have SK := hid (HSKIP.out (fun x => x.1 ho))
                  obtain ⟨le, hle⟩ : ∃ le, le = e7.length := ⟨_, rfl⟩
                  rw [← hle] at d6 h0
                  have hle0 : le = 0 := by omega
                  subst hle0
                  clear ho h0 hle HSKIP
                  go_wp2
                  refine ⟨⟨m + 1, _, xs, by omega, by go_num, rfl, hid SK.out.1, HG, hid SK.out.2.1, hid SK.out.2.2, by omega⟩, by simp [intOf]; omega⟩
                · have hpos : 0 < e7.length := List.length_pos_iff.2 ho
                  obtain ⟨le, hle⟩ : ∃ le, le = e7.length := ⟨_, rfl⟩
                  rw [← hle] at d6 hpos
                  have hz0' : (0 : Int) < (le : Int) := by omega
                  have HO' := ShutJ.mk ho
                  have HLE := ShutJ.mk hle
                  clear ho hle
                  cases qi with
                  | false =>
                    have SK := hid (HSKIP.out (fun x => absurd x.2 (by decide)))
                    clear HSKIP
                    go_wp2
                    refine ⟨⟨m + 1, _, xs, by omega, by go_num, rfl, hid SK.out.1, HG, hid SK.out.2.1, hid SK.out.2.2, by omega⟩, by simp [intOf]; omega⟩
                  | true =>
                    clear HSKIP
                    go_wp2_with (at_builtin; refine wpList_append_own_src rfl _ _ 96 rfl w1.heap.size 41 i41 _ 3 56 Tryz.underlying96 hI hz0 hz1 hz2 rfl (by decide) _ _ _ rfl (hr2.alloc _) _ 1 [.slice wj e5.length wjc, .int .i64 e6, .slice oj le ojc] rfl ?hs1 (by simp [Value.oneCell']) ?hm2 ?hm3 ?hm4 ?_; (case hs1 => exact .inr ⟨_, _, rfl, rfl, cells11_new _ _ _ _ rfl⟩); (case hm2 => unfold maxLen; omega); (case hm3 => omega); (case hm4 => simp; omega); intro v' w5 hown' hgrow2; have O5 := hid hown'; have G5 := hid hgrow2; clear hown' hgrow2)
                    refine ⟨⟨m + 1, v', xs ++ [⟨wj, e5.length, wjc, e6, oj, e7.length, ojc, ⟨e5, e6, e7⟩⟩], by omega, by go_num, rfl, hid ?_, hid ?_, hid ?_, hid ?_, by simp; omega⟩, by simp [intOf]; omega⟩
                    · rw [HTK.out, if_pos ⟨HO'.out, rfl⟩, List.map_append, HX.out]
                      rfl
                    · intro z hz
                      rcases List.mem_append.1 hz with h | h
                      · exact HG.out z h
                      · obtain rfl := List.mem_singleton.1 h
                        exact HGD.out
                    · have := O5.out
                      rw [HLE.out] at this
                      rw [List.flatMap_append, List.length_append]
                      exact this
                    · exact ((HBm.out.trans (BW.out.mono hsz)).alloc (by omega) _).grown G5.out (by simp; omega) (fun j hj => (hr2.lt j hj).1)
              · obtain rfl : m = n := by omega
                obtain ⟨ws, hws⟩ : ∃ ws : World, ws = wr := ⟨wr, rfl⟩
                subst hws
                obtain ⟨xa, xc, rfl⟩ := row_shape HRw.out
                obtain ⟨hxu, hqu, _⟩ := HXU.out ws HBm.out
                obtain ⟨L, hL⟩ : ∃ L, L = seenC l ex.at_ := ⟨_, rfl⟩
                have hcoms : ComsAt ws (.slice xa xs.length xc) L := by
                  have := coms_owns HRw.out (fun x hx => (HG.out x hx).mono hqu (Nat.le_refl _))
                  rw [HX.out, List.take_of_length_le (by have := HN.out; omega), ← hL] at this
                  exact this
                have hok := HOK.out
                have hsl := HSL.out
                rw [← hL] at hok hsl
                have K57 : Hid (∀ key u, Below ws.heap.size ws u → Hid (Calls Tryz.prog 57 #[.string key, .slice xa xs.length xc] u fun e w' => ValueRet key L u e w')) := hid fun key u hu => hid (valueOf_any u key _ L (hcoms.mono hu (Nat.le_refl _)) hsl hok)
                have HSET : Hid (∀ key, (valA (opsR key L)).set.length ≤ 1000000) := hid fun key => opsR_set_len hsl hok
                obtain ⟨rad, rcp, hrv, hrc⟩ := HR.out.shape
                injection hrv with hr1 hr2 hr3
                subst hr1 hr3
                obtain ⟨rs, hrs⟩ : ∃ rs, rs = ex.reads := ⟨_, rfl⟩
                rw [← hrs] at hr2 hrc
                subst hr2
                have HRC := hid hrc
                have HLL := ShutJ.mk hL
                have HRS := ShutJ.mk hrs
                have hrl : rs.length ≤ 1000000 := by rw [hrs]; exact HFE.out.reads
                have HBX : Hid (∀ u, Below ws.heap.size ws u → u.cell? ⟨w.heap.size, 3, none⟩ = some (.slice ra rs.length rc) ∧ Below wq.heap.size wq u ∧ Below w.heap.size w u) := hid fun u hu => by
                  obtain ⟨h1, h2, h3⟩ := HXU.out u (HBm.out.trans (hu.mono HBm.out.size))
                  exact ⟨(cell_of h1).trans rfl, h2, h3⟩
                obtain ⟨rl, hrll⟩ : ∃ rl, rl = rs.length := ⟨_, rfl⟩
                rw [← hrll] at HBX hrl
                have HRL := ShutJ.mk hrll
                clear hcoms hok hsl hrc hL hrs hxu hqu hrll
                go_wp2
                go_loopw [12] (fun x wr => ∃ j : Nat, j ≤ rl ∧ x = .int .i64 j ∧ Hid (∀ t, t < j → trueB L (rs.getD t sn0) = true) ∧ Hid (Below ws.heap.size ws wr)) (fun x _ => rl - (intOf x).toNat)
                case atStart => exact ⟨0, Nat.zero_le _, rfl, hid fun _ h => absurd h (Nat.not_lt_zero _), Below.refl _ _⟩
                case round =>
                  obtain ⟨j, hj, rfl, HT, HBj⟩ := hrel
                  have b3 := (HBX.out wr HBj.out).1
                  by_cases hlt : j < rl
                  · have hj1 : (j : Int) < (rl : Int) := by omega
                    have hjl : j < rs.length := by have := HRL.out; omega
                    obtain ⟨rb, roff, rfl, hcj⟩ := HRC.out.resolve_left (fun h => by rw [h] at hjl; simp at hjl)
                    obtain ⟨sv, hsx, hcv⟩ := hcj j hjl
                    have hcu : ∀ u, Below ws.heap.size ws u → ∀ i x, ([.string (rs.getD j sn0).key, .int .i64 (rs.getD j sn0).v.kind, .string (rs.getD j sn0).v.text, .int .i64 (rs.getD j sn0).v.n, sv] : List Value)[i]? = some x → u.cell? ⟨rb, roff + j * 5 + i, none⟩ = some x := fun u hu i x hx => by
                      have := hcv i x hx
                      rw [(HBX.out u hu).2.1.cell (p := ⟨rb, roff + j * 5 + i, none⟩) (lt_of_cell this)]
                      exact this
                    have htb : trueB L (rs.getD j sn0) = (nameB (rs.getD j sn0).key && sameV (valA (opsR (rs.getD j sn0).key L)) (rs.getD j sn0).v) := rfl
                    obtain ⟨rj, hrj⟩ : ∃ rj, rj = rs.getD j sn0 := ⟨_, rfl⟩
                    rw [← hrj] at hcu hsx htb
                    have HRJ := ShutJ.mk hrj
                    obtain ⟨sa, sc, rfl⟩ := hsx.len
                    have HSX := hid hsx
                    have HTB2 := ShutJ.mk htb
                    have KN := fun u => hid (rIsName u rj.key)
                    have k0 : wr.cell? ⟨rb, roff + j * 5, none⟩ = some (.string rj.key) := hcu wr HBj.out 0 _ rfl
                    have HCU := hid hcu
                    clear hcv hcj hcu hrj hsx htb
                    cases hnm : nameB rj.key with
                    | false =>
                      rw [hnm] at KN
                      have HNM := ShutJ.mk hnm
                      clear hnm
                      go_wp2_with fail
                      with_reducible refine (KN _).out.mono ?_
                      rintro r w' ⟨rfl, hw'⟩
                      rw [hw']
                      clear hw' KN
                      go_upto_region 24 with (fail)
                      go_region
                      go_wp2
                      go_ret
                      have e : readsB (seenC l ex.at_) ex.reads = false := by
                        rw [← HLL.out, ← HRS.out]
                        exact readsB_false hjl (by rw [← HRJ.out, HTB2.out, HNM.out]; rfl)
                      refine ⟨?_, ((HBX.out wr HBj.out).2.2).drew⟩
                      rw [HBS.out, if_neg (by rw [← HQ00.out]; decide), if_neg (by rw [HTT.out]; decide), if_pos e]
                      rfl
                    | true =>
                      rw [hnm] at KN
                      have HNM := ShutJ.mk hnm
                      clear hnm
                      go_wp2_with fail
                      with_reducible refine (KN _).out.mono ?_
                      rintro r w' ⟨rfl, hw'⟩
                      rw [hw']
                      clear hw' KN
                      have HELD : Hid (∀ u, Below wr.heap.size wr u → u.cell? ⟨w.heap.size, 3, none⟩ = some (.slice (some ⟨rb, roff, none⟩) rl rc) ∧ u.cell? ⟨rb, roff + j * 5, none⟩ = some (.string rj.key) ∧ u.cell? ⟨rb, roff + j * 5 + 1, none⟩ = some (.int .i64 rj.v.kind) ∧ u.cell? ⟨rb, roff + j * 5 + 2, none⟩ = some (.string rj.v.text) ∧ u.cell? ⟨rb, roff + j * 5 + 3, none⟩ = some (.int .i64 rj.v.n) ∧ u.cell? ⟨rb, roff + j * 5 + 4, none⟩ = some (.slice sa rj.v.set.length sc)) := hid fun u hu => by
                        have h1 := HBj.out.trans (hu.mono HBj.out.size)
                        exact ⟨(HBX.out u h1).1, HCU.out u h1 0 _ rfl, HCU.out u h1 1 _ rfl, HCU.out u h1 2 _ rfl, HCU.out u h1 3 _ rfl, HCU.out u h1 4 _ rfl⟩
                      have K1 : Hid (∀ u, Below wr.heap.size wr u → Hid (Calls Tryz.prog 57 #[.string rj.key, .slice xa xs.length xc] u fun e w' => ∃ tv, e = .returned (.agg #[.int .i64 (valA (opsR rj.key L)).kind, .string (valA (opsR rj.key L)).text, .int .i64 (valA (opsR rj.key L)).n, tv]) ∧ StrsX w' tv (valA (opsR rj.key L)).set ∧ Below wr.heap.size wr w')) := hid fun u hu => hid (by
                        refine (K57.out rj.key u (HBj.out.trans (hu.mono HBj.out.size))).out.mono ?_
                        rintro e w' ⟨rv, rfl, hva, hb⟩
                        obtain ⟨tv, rfl, ht⟩ := hva.x
                        exact ⟨tv, rfl, ht, hu.trans (hb.mono hu.size)⟩)
                      have K2 : Hid (∀ u tv, Below wr.heap.size wr u → StrsX u tv (valA (opsR rj.key L)).set → Hid (Calls Tryz.prog 56 #[.agg #[.int .i64 (valA (opsR rj.key L)).kind, .string (valA (opsR rj.key L)).text, .int .i64 (valA (opsR rj.key L)).n, tv], .agg #[.int .i64 rj.v.kind, .string rj.v.text, .int .i64 rj.v.n, .slice sa rj.v.set.length sc]] u fun e w' => e = .returned (.bool (sameV (valA (opsR rj.key L)) rj.v)) ∧ Below wr.heap.size wr w')) := hid fun u tv hu ht => hid (by
                        have h1 := (HBX.out u (HBj.out.trans (hu.mono HBj.out.size))).2.1
                        refine (sameValR_any u (valA (opsR rj.key L)) rj.v tv _ ht (HSX.out.mono h1 (Nat.le_refl _)) (HSET.out _)).mono ?_
                        rintro e w' ⟨rfl, hb⟩
                        exact ⟨rfl, hu.trans (hb.mono hu.size)⟩)
                      obtain ⟨vx, hvx⟩ : ∃ vx, vx = valA (opsR rj.key L) := ⟨_, rfl⟩
                      rw [← hvx] at K1 K2
                      obtain ⟨qv, hqv⟩ : ∃ qv, qv = sameV vx rj.v := ⟨_, rfl⟩
                      rw [← hqv] at K2
                      have HQV := ShutJ.mk hqv
                      have HVX := ShutJ.mk hvx
                      have hd0 : Below wr.heap.size wr wr := Below.refl _ _
                      have hd1 : Below wr.heap.size wr wr.drew := hd0.drew
                      clear hqv hvx k0 b3
                      go_upto_region 24 with (fail)
                      go_region_held (fun u => u.cell? ⟨w.heap.size, 3, none⟩ = some (.slice (some ⟨rb, roff, none⟩) rl rc) ∧ u.cell? ⟨rb, roff + j * 5, none⟩ = some (.string rj.key) ∧ u.cell? ⟨rb, roff + j * 5 + 1, none⟩ = some (.int .i64 rj.v.kind) ∧ u.cell? ⟨rb, roff + j * 5 + 2, none⟩ = some (.string rj.v.text) ∧ u.cell? ⟨rb, roff + j * 5 + 3, none⟩ = some (.int .i64 rj.v.n) ∧ u.cell? ⟨rb, roff + j * 5 + 4, none⟩ = some (.slice sa rj.v.set.length sc)) ((refine HELD.out _ ?_; with_reducible assumption)) (first | (go_at_call 57; refine (K1.out _ ?hb4).out.mono ?_; (case hb4 => with_reducible assumption); rintro e w2 ⟨tv, rfl, htv, hbw⟩; have HTV := hid htv; clear htv) | (go_at_call 56; refine (K2.out _ _ ?hb5 HTV.out).out.mono ?_; (case hb5 => with_reducible assumption); rintro e w3 ⟨rfl, hbw3⟩))
                      have hbw4 : Below ws.heap.size ws w3 := HBj.out.trans (hbw3.mono HBj.out.size)
                      have HB4 := hid hbw4
                      have htr : trueB L (rs.getD j sn0) = qv := by rw [← HRJ.out, HTB2.out, HNM.out, ← HVX.out, HQV.out]; rfl
                      have HTR := ShutJ.mk htr
                      clear hbw hbw3 hbw4 htr hd0 hd1 HELD K1 K2
                      cases qv with
                      | false =>
                        go_wp2
                        go_ret
                        have e : readsB (seenC l ex.at_) ex.reads = false := by
                          rw [← HLL.out, ← HRS.out]
                          exact readsB_false hjl HTR.out
                        refine ⟨?_, (HBX.out w3 HB4.out).2.2⟩
                        rw [HBS.out, if_neg (by rw [← HQ00.out]; decide), if_neg (by rw [HTT.out]; decide), if_pos e]
                        rfl
                      | true =>
                        go_wp2
                        refine ⟨⟨j + 1, by omega, by go_num, hid fun t ht => ?_, HB4⟩, by simp [intOf]; omega⟩
                        rcases Nat.lt_succ_iff_lt_or_eq.1 ht with h | rfl
                        · exact HT.out t h
                        · exact HTR.out
                  · obtain rfl : j = rl := by omega
                    go_wp2
                    go_ret
                    have e : readsB (seenC l ex.at_) ex.reads = true := by
                      rw [← HLL.out, ← HRS.out]
                      exact readsB_true fun t ht => HT.out t (by have := HRL.out; omega)
                    refine ⟨?_, (HBX.out wr HBj.out).2.2⟩
                    rw [HBS.out, if_neg (by rw [← HQ00.out]; decide), if_neg (by rw [HTT.out]; decide), if_neg (by rw [e]; decide)]
                    rfl
end Go.Proofs.YtngjooemanapnaaGreatDoor
