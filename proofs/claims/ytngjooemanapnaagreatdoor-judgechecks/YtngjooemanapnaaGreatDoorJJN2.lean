/- eachWitness and takeFree by their contracts. -/
import Derived.Test.YtngjooemanapnaaGreatDoorJJN
import Derived.Deep.RegionHeld
namespace Go.Proofs.YtngjooemanapnaaGreatDoor
open Go.RowKit Go.Sort Go.Maps
set_option maxRecDepth 100000
set_option linter.unusedSectionVars false
variable [Inhabited ComV] [DecidableEq D3] [Inhabited D3] [Inhabited Dd] [Inhabited Dn] [Inhabited OpV]

/-- What eachWitness leaves, b of n having been asked. -/
def eachF (l : List EvV) (a b : Nat) (d : Int) (f : Nat → Int) : Nat → Int := fun t => f t + (if t < b ∧ relB l a t = true then d else 0)
theorem eachF_zero (l : List EvV) (a : Nat) (d : Int) (f : Nat → Int) : eachF l a 0 d f = f := by
  funext t
  unfold eachF
  rw [if_neg (by omega)]
  omega
theorem eachF_succ (l : List EvV) (a b : Nat) (d : Int) (f : Nat → Int) : eachF l a (b + 1) d f = if relB l a b = true then (fun t => if t = b then eachF l a b d f t + d else eachF l a b d f t) else eachF l a b d f := by
  by_cases h : relB l a b = true
  · rw [if_pos h]
    funext t
    unfold eachF
    by_cases e : t = b
    · subst e
      rw [if_pos ⟨by omega, h⟩, if_pos rfl, if_neg (by omega)]
      omega
    · rw [if_neg e]
      by_cases q : t < b ∧ relB l a t = true
      · rw [if_pos q, if_pos ⟨by omega, q.2⟩]
      · rw [if_neg q, if_neg (fun x => q ⟨by omega, x.2⟩)]
  · rw [if_neg h]
    funext t
    unfold eachF
    by_cases q : t < b ∧ relB l a t = true
    · rw [if_pos q, if_pos ⟨by omega, q.2⟩]
    · rw [if_neg q, if_neg]
      rintro ⟨x, y⟩
      rcases Nat.lt_succ_iff_lt_or_eq.1 x with z | rfl
      · exact q ⟨z, y⟩
      · exact h y
def EachRet (n : Nat) (l : List EvV) (a : Nat) (d : Int) (f : Nat → Int) (vb wb : Nat) (w : World) (r : Ending) (w' : World) : Prop := r = .returned (.tuple #[]) ∧ Waits w' vb wb n (eachF l a n d f) ∧ OnlyB wb w w'
set_option maxHeartbeats 4000000 in
theorem each_any (A : Nat → Addr) (wq w : World) (hq : Below wq.heap.size wq w) (hE : E4 A wq) (h12 : 12 ≤ wq.heap.size) (l : List EvV) (v : Value) (hv : EvsAt wq v l) (hl : l.length ≤ 1000) (hsm : ∀ e ∈ l, EvFit e) (a : Nat) (ha : a < l.length) (F vb wb : Nat) (d : Int) (eg : ∀ args w, (callFunc F args).run Tryz.prog w = .ok (.enter F args) w) (hT : TellOk l.length vb wb F d) (hwb : wq.heap.size ≤ wb) (f : Nat → Int) (hW : Waits w vb wb l.length f) (hf : ∀ t, t < l.length → -10000 ≤ f t ∧ f t ≤ 10000) :
    Calls Tryz.prog 61 #[v, .int .i64 a, .func (.func F) #[] #[.pointer (some ⟨vb, 0, none⟩)]] w (EachRet l.length l a d f vb wb w) := by
  obtain ⟨ad, cap, rfl, hn, hcap, hv⟩ := hv.shape
  obtain ⟨b, off, rfl, hv2⟩ := hv.resolve_left (fun h => by rw [h] at ha; simp at ha)
  clear hv
  obtain ⟨n, hnl⟩ : ∃ n, n = l.length := ⟨_, rfl⟩
  unfold EachRet
  rw [← hnl] at hl hv2 hcap ha hT hW hf ⊢
  obtain ⟨av, rv, wv, ov, hEa, hRa, hca⟩ := hv2 a ha
  have hsa := hsm (l.getD a ev0) (getD_mem (by omega))
  have hrel : ∀ t, relB l a t = (decide ((l.getD a ev0).c.ops ≠ []) && inB (l.getD a ev0).c.when_ (l.getD t ev0).at_) := fun _ => rfl
  obtain ⟨ea, hea⟩ : ∃ ea, ea = l.getD a ev0 := ⟨_, rfl⟩
  rw [← hea] at hEa hRa hca hsa hrel
  obtain ⟨aa, ac, wa, wc, oa, oc, rfl, rfl, rfl⟩ := evAt_shape hEa
  obtain ⟨ra, rn, rc, rfl⟩ : ∃ a n c, rv = .slice a n c := by obtain ⟨_, ⟨a, c, rfl, _⟩, _⟩ := hRa; exact ⟨_, _, _, rfl⟩
  have KW := fun W => hid (wrote_any W ea aa ra wa oa ea.at_.length ac rn rc ea.c.when_.length wc oc hsa.com.2.1)
  have ha1 : (a : Int) < (n : Int) := by omega
  have hcw : ∀ W, Below wq.heap.size wq W → ∀ j u, (evCells ea (.slice aa ea.at_.length ac) (.slice ra rn rc) (.slice wa ea.c.when_.length wc) (.slice oa ea.c.ops.length oc))[j]? = some u → W.cell? ⟨b, off + a * 7 + j, none⟩ = some u := fun W hW j u hj => by
    have := hca j u hj
    rw [hW.cell (p := ⟨b, off + a * 7 + j, none⟩) (lt_of_cell this)]
    exact this
  have c0 : w.cell? ⟨b, off + a * 7, none⟩ = some (.int .i64 ea.ses) := hcw w hq 0 _ rfl
  have c1 : w.cell? ⟨b, off + a * 7 + 1, none⟩ = some (.int .i64 ea.place) := hcw w hq 1 _ rfl
  have c2 : w.cell? ⟨b, off + a * 7 + 2, none⟩ = some (.slice aa ea.at_.length ac) := hcw w hq 2 _ rfl
  have c3 : w.cell? ⟨b, off + a * 7 + 3, none⟩ = some (.slice ra rn rc) := hcw w hq 3 _ rfl
  have c4 : w.cell? ⟨b, off + a * 7 + 4, none⟩ = some (.slice wa ea.c.when_.length wc) := hcw w hq 4 _ rfl
  have c5 : w.cell? ⟨b, off + a * 7 + 5, none⟩ = some (.int .i64 ea.c.place) := hcw w hq 5 _ rfl
  have c6 : w.cell? ⟨b, off + a * 7 + 6, none⟩ = some (.slice oa ea.c.ops.length oc) := hcw w hq 6 _ rfl
  have HV := hid hv2
  have HN := hid hnl
  have HSM := hid hsm
  have HQ := hid hq
  have HE := hid hE
  have HCW := hid hcw
  have HEA := hid hEa
  have HW := hid hW
  have HFB := hid hf
  have HT : Hid (TellOk n vb wb F d) := hT
  have HSA := hid hsa
  by_cases ho : ea.c.ops = []
  · rw [decide_eq_false (fun x => x ho)] at KW
    have hR : ∀ t, relB l a t = false := fun t => by rw [hrel t, decide_eq_false (fun x => x ho), Bool.false_and]
    have HR := hid hR
    clear hv2 hnl hsm hq hE hcw hEa hRa hW hf hT hsa ho hR hrel hea hca
    go_enter Tryz.func61, Tryz.ntmps61
    go_wp2_with fail
    with_reducible refine (KW _).out.mono ?_
    rintro r w2 ⟨rfl, hb⟩
    have HB := hid hb
    clear hb KW
    go_wp2
    (try simp only [Exit.inBlock, Exit.then])
    refine bodyPost_ret (results_none rfl _ _ _) rfl ?_
    refine ⟨rfl, ?_, OnlyB.of HB.out⟩
    have e : eachF l a n d f = f := by
      funext t
      unfold eachF
      rw [if_neg (fun x => by rw [HR.out t] at x; exact absurd x.2 (by simp))]
      omega
    rw [e]
    exact HW.out.stay HB.out
  · rw [decide_eq_true ho] at KW
    have hR : ∀ t, relB l a t = inB ea.c.when_ (l.getD t ev0).at_ := fun t => by rw [hrel t, decide_eq_true ho, Bool.true_and]
    have HR := hid hR
    clear hv2 hnl hsm hq hE hcw hEa hRa hW hf hT hsa ho hR hrel hea hca
    go_enter Tryz.func61, Tryz.ntmps61
    go_wp2_with fail
    with_reducible refine (KW _).out.mono ?_
    rintro r w2 ⟨rfl, hb⟩
    have HB := hid hb
    have hv1 := HW.out.stay HB.out
    have HW1 := hid hv1
    clear hb KW hv1 c0 c1 c2 c3 c4 c5 c6
    go_wp2
    go_loopw [16] (fun x wr => ∃ k : Nat, k ≤ n ∧ x = .int .i64 k ∧ Hid (Waits wr vb wb n (eachF l a k d f)) ∧ Hid (OnlyB wb w wr)) (fun x _ => n - (intOf x).toNat)
    case atStart => exact ⟨0, Nat.zero_le _, rfl, hid (by rw [eachF_zero]; exact HW1.out), hid (OnlyB.of HB.out)⟩
    case round =>
      obtain ⟨k, hk, rfl, HWr, HO⟩ := hrel
      by_cases hlt : k < n
      · have hi1 : (k : Int) < (n : Int) := by omega
        obtain ⟨kv, kr, kw, ko, hEk, hRk, hck⟩ := HV.out k hlt
        have hbr : Below wq.heap.size wq wr := HO.out.below hwb HQ.out HQ.out.size
        have hsk := HSM.out (l.getD k ev0) (getD_mem (by have := HN.out; omega))
        have hrk := HR.out k
        have hsucc := eachF_succ l a k d f
        rw [hrk] at hsucc
        obtain ⟨ek, hek⟩ : ∃ ek, ek = l.getD k ev0 := ⟨_, rfl⟩
        rw [← hek] at hEk hRk hck hsk hsucc
        obtain ⟨q, hQq⟩ : ∃ q, q = inB ea.c.when_ ek.at_ := ⟨_, rfl⟩
        rw [← hQq] at hsucc
        have hcc : ∀ j u, (evCells ek kv kr kw ko)[j]? = some u → wr.cell? ⟨b, off + k * 7 + j, none⟩ = some u := fun j u hj => by
          have := hck j u hj
          rw [hbr.cell (p := ⟨b, off + k * 7 + j, none⟩) (lt_of_cell this)]
          exact this
        obtain ⟨ka, kc, wa', wc', oa', oc', rfl, rfl, rfl⟩ := evAt_shape hEk
        obtain ⟨ra', rn', rc', rfl⟩ : ∃ a n c, kr = .slice a n c := by obtain ⟨_, ⟨a, c, rfl, _⟩, _⟩ := hRk; exact ⟨_, _, _, rfl⟩
        have K44 : ∀ u, Below wr.heap.size wr u → Hid (Calls Tryz.prog 44 #[.slice wa ea.c.when_.length wc, .slice ka ek.at_.length kc] u fun r w' => r = .returned (.bool q) ∧ ∃ n, w' = u.drewN n) := fun u hu => hid (by
          have hb' : Below wq.heap.size wq u := hbr.trans (hu.mono hbr.size)
          rw [hQq]
          exact withinJ_any A u (HE.out.below hb' h12) _ _ _ _ (HEA.out.when_.mono hb' (Nat.le_refl _)) (hEk.at_.mono hb' (Nat.le_refl _)) HSA.out.com.1 hsk.at_)
        have c0 : wr.cell? ⟨b, off + k * 7, none⟩ = some (.int .i64 ek.ses) := hcc 0 _ rfl
        have c1 : wr.cell? ⟨b, off + k * 7 + 1, none⟩ = some (.int .i64 ek.place) := hcc 1 _ rfl
        have c2 : wr.cell? ⟨b, off + k * 7 + 2, none⟩ = some (.slice ka ek.at_.length kc) := hcc 2 _ rfl
        have c3 : wr.cell? ⟨b, off + k * 7 + 3, none⟩ = some (.slice ra' rn' rc') := hcc 3 _ rfl
        have c4 : wr.cell? ⟨b, off + k * 7 + 4, none⟩ = some (.slice wa' ek.c.when_.length wc') := hcc 4 _ rfl
        have c5 : wr.cell? ⟨b, off + k * 7 + 5, none⟩ = some (.int .i64 ek.c.place) := hcc 5 _ rfl
        have c6 : wr.cell? ⟨b, off + k * 7 + 6, none⟩ = some (.slice oa' ek.c.ops.length oc') := hcc 6 _ rfl
        have KK := hid K44
        have HS2 := hid hsucc
        have HBR := hid hbr
        clear hEk hRk hck hsk hrk hsucc hcc hek hQq K44 hbr
        go_upto_region 4 with (fail)
        obtain ⟨wA, hwA⟩ : ∃ wA, wA = wr.alloc (.cells #[.int .i64 ek.ses, .int .i64 ek.place, .slice ka ek.at_.length kc, .slice ra' rn' rc', .slice wa' ek.c.when_.length wc', .int .i64 ek.c.place, .slice oa' ek.c.ops.length oc'] 69) := ⟨_, rfl⟩
        rw [← hwA]
        have hbA : Below wr.heap.size wr wA := by rw [hwA]; exact below_alloc _ _
        have hxA : wA.heap[wr.heap.size]? = some (.cells #[.int .i64 ek.ses, .int .i64 ek.place, .slice ka ek.at_.length kc, .slice ra' rn' rc', .slice wa' ek.c.when_.length wc', .int .i64 ek.c.place, .slice oa' ek.c.ops.length oc'] 69 (0, 0)) := by rw [hwA]; exact heap_new _ _
        have hA4 : wA.cell? ⟨b, off + a * 7 + 4, none⟩ = some (.slice wa ea.c.when_.length wc) := HCW.out wA (HBR.out.trans (hbA.mono HBR.out.size)) 4 _ rfl
        have hA2 : wA.cell? ⟨wr.heap.size, 2, none⟩ = some (.slice ka ek.at_.length kc) := (cell_of hxA).trans rfl
        have hlA4 := lt_of_cell hA4
        have hlA2 := lt_of_cell hA2
        have HELD : Hid (∀ u, Below wA.heap.size wA u → u.cell? ⟨b, off + a * 7 + 4, none⟩ = some (.slice wa ea.c.when_.length wc) ∧ u.cell? ⟨wr.heap.size, 2, none⟩ = some (.slice ka ek.at_.length kc)) := hid fun u hu => ⟨by rw [hu.cell (p := ⟨b, off + a * 7 + 4, none⟩) hlA4]; exact hA4, by rw [hu.cell (p := ⟨wr.heap.size, 2, none⟩) hlA2]; exact hA2⟩
        have hd0 : Below wA.heap.size wA wA := Below.refl _ _
        have hd1 : Below wA.heap.size wA wA.drew := hd0.drew
        have hdr : Below wr.heap.size wr wA.drew := hbA.drew
        have BA := hid hbA
        clear c0 c1 c2 c3 c4 c5 c6 hwA hxA hlA4 hlA2 hA2 hA4
        go_region_held (fun u => u.cell? ⟨b, off + a * 7 + 4, none⟩ = some (.slice wa ea.c.when_.length wc) ∧ u.cell? ⟨wr.heap.size, 2, none⟩ = some (.slice ka ek.at_.length kc)) ((refine HELD.out _ ?_; with_reducible assumption)) (first | (go_at_call 44; refine (KK.out _ ?hb4).out.mono ?_; (case hb4 => with_reducible assumption); rintro e w' ⟨rfl, nq, hw'⟩; have hbw : Below wA.heap.size wA w' := (by rw [hw']; exact below_draws hd1 nq); clear hw'))
        have hbw2 : Below wr.heap.size wr w' := BA.out.trans (hbw.mono BA.out.size)
        have HW2 := hid (HWr.out.stay hbw2)
        have HO2 := hid (HO.out.trans (OnlyB.of hbw2))
        clear hbw hbw2 hd0 hd1 hdr HELD KK BA
        cases q with
        | true =>
          have hfb := HFB.out k hlt
          have hek : eachF l a k d f k = f k := by unfold eachF; rw [if_neg (by omega)]; omega
          have KC := hid (HT.out w' (eachF l a k d f) k HW2.out hlt (by rw [hek]; omega) (by rw [hek]; omega))
          clear hfb hek
          go_wp2_with (go_at_fn F; refine KC.out.mono ?_; rintro r w3 ⟨rfl, h1, h2⟩; have H1 := hid h1; have H2 := hid h2; clear h1 h2)
          refine ⟨⟨k + 1, by omega, by go_num, hid ?_, hid (HO2.out.trans H2.out)⟩, by simp [intOf]; omega⟩
          rw [HS2.out, if_pos trivial]
          exact H1.out
        | false =>
          go_wp2
          refine ⟨⟨k + 1, by omega, by go_num, hid ?_, HO2⟩, by simp [intOf]; omega⟩
          rw [HS2.out, if_neg (fun h => by cases h)]
          exact HW2.out
      · obtain rfl : k = n := by omega
        go_wp2
        go_end0
        exact ⟨rfl, HWr.out, HO.out⟩
theorem own_keep {w w' : World} {base e size n : Nat} {v : Value} {xs : List Value} (h : w.ownsRow base e size v n xs) (hk : ∀ b, v.ownBlock = some b → w'.heap[b]? = w.heap[b]?) : w'.ownsRow base e size v n xs := by
  obtain ⟨h1, h2⟩ := h
  refine ⟨h1, ?_⟩
  rcases h2 with h2 | ⟨b, cap, cur, hv, hg, hh, r⟩
  · exact .inl h2
  · exact .inr ⟨b, cap, cur, hv, hg, by rw [hk b (by rw [hv]; rfl)]; exact hh, r⟩
/-- What takeFree leaves, k of n having been looked at. -/
def takeF (k : Nat) (f : Nat → Int) : Nat → Int := fun t => if t < k ∧ f t = 0 then -1 else f t
def freeL (k : Nat) (f : Nat → Int) : List Nat := (List.range k).filter fun t => decide (f t = 0)
theorem freeL_succ (k : Nat) (f : Nat → Int) : freeL (k + 1) f = freeL k f ++ (if f k = 0 then [k] else []) := by
  unfold freeL
  rw [List.range_succ, List.filter_append]
  congr 1
  by_cases h : f k = 0 <;> simp [h]
theorem freeL_len (k : Nat) (f : Nat → Int) : (freeL k f).length ≤ k := by
  unfold freeL
  exact Nat.le_trans (List.length_filter_le _ _) (by simp)
def natV (t : Nat) : Value := .int .i64 (t : Nat)
def TakeRet (wb n : Nat) (f : Nat → Int) (w : World) (r : Ending) (w' : World) : Prop := ∃ v, r = .returned v ∧ w'.ownsRow w.heap.size 3 1 v (freeL n f).length ((freeL n f).map natV) ∧ RowI w' wb n (takeF n f) ∧ OnlyB wb w w'
theorem info3 : (Tryz.prog.info? 3).map (fun i => (i.zero, i.size, i.bytes)) = some (some (.int .i64 0), 1, 8) := by kernel_rfl
set_option maxHeartbeats 2000000 in
theorem take_any (w : World) (wb n c : Nat) (hn : n ≤ 1000) (f : Nat → Int) (h : RowI w wb n f) : Calls Tryz.prog 63 #[.slice (some ⟨wb, 0, none⟩) n c] w (TakeRet wb n f w) := by
  obtain ⟨i3, hi, hz0, hz1, hz2⟩ := info_parts info3
  have H := hid h
  have hwl := h.lt
  clear h
  go_enter Tryz.func63, Tryz.ntmps63
  go_wp2
  go_loopw [3, 8] (fun x y wr => ∃ (k : Nat) (xv : Value), k ≤ n ∧ y = .int .i64 k ∧ x = xv ∧ Hid (wr.ownsRow w.heap.size 3 1 xv (freeL k f).length ((freeL k f).map natV)) ∧ Hid (RowI wr wb n (takeF k f)) ∧ Hid (OnlyB wb w wr)) (fun _ y _ => n - (intOf y).toNat)
  case atStart =>
    refine ⟨0, _, Nat.zero_le _, rfl, rfl, World.ownsRow_nil _ _ _ _, hid ?_, hid (OnlyB.of (Below.refl _ _))⟩
    have e : takeF 0 f = f := by funext t; unfold takeF; rw [if_neg (by omega)]
    rw [e]
    exact H.out
  case round =>
    obtain ⟨k, xv, hk, rfl, hxx, HR, HI, HO⟩ := hrel
    obtain rfl := hxx.symm
    have hos : w.heap.size ≤ wr.heap.size := HO.out.2.2.2.1
    by_cases hlt : k < n
    · have hi1 : (k : Int) < (n : Int) := by omega
      have c1 := HI.out.cell hlt
      have f1 := HI.out.free k
      have htk : takeF k f k = f k := by unfold takeF; rw [if_neg (by omega)]
      rw [htk] at c1
      have hsucc := freeL_succ k f
      have hlen := freeL_len k f
      obtain ⟨m, hm⟩ : ∃ m, m = (freeL k f).length := ⟨_, rfl⟩
      have hrow := HR.out
      rw [← hm] at hrow hlen
      obtain ⟨ys, hys⟩ : ∃ ys, ys = (freeL k f).map natV := ⟨_, rfl⟩
      rw [← hys] at hrow
      have HYS := hid hys
      have HM := hid hm
      have HS := hid hsucc
      clear hys hm hsucc htk
      by_cases h0 : f k = 0
      · rw [h0] at c1
        have HZ := hid h0
        have hS := hid (HI.out.set (b := k) (-1))
        have hr1 : (wr.setCell ⟨wb, k, none⟩ (.int .i64 (-1))).ownsRow w.heap.size 3 1 xv m ys := by
          refine own_keep hrow fun q hq => ?_
          exact Below.heap_setCell _ _ _ _ fun e => by
            have := (hrow.lt q hq).1
            simp only at e
            omega
        have hO1 : OnlyB wb wr (wr.setCell ⟨wb, k, none⟩ (.int .i64 (-1))) := only_setCell
        have HO1 := hid hO1
        have hsz := hO1.2.2.2.1
        obtain ⟨xa, xc, rfl⟩ := row_shape hrow
        clear h0 hrow hO1 HR
        go_wp2_with (at_builtin; refine wpList_append_own_src rfl _ _ 38 rfl w.heap.size 3 i3 _ 1 8 Tryz.underlying38 hi hz0 hz1 hz2 rfl (by decide) _ _ _ rfl (hr1.alloc _) _ 1 [.int .i64 k] rfl ?hs1 (by simp [Value.oneCell']) ?hm2 ?hm3 ?hm4 ?_; (case hs1 => exact .inr ⟨_, _, rfl, rfl, cells11_new _ _ _ _ (by simp)⟩); (case hm2 => unfold maxLen; omega); (case hm3 => omega); (case hm4 => simp; omega); intro v' w5 hown' hgrow2; have O5 := hid hown'; have G5 := hid hgrow2; clear hown' hgrow2)
        refine ⟨⟨k + 1, v', by omega, by go_num, rfl, hid ?_, hid ?_, hid ?_⟩, by simp [intOf]; omega⟩
        · rw [HS.out, if_pos HZ.out, List.length_append, List.map_append, ← HM.out, ← HYS.out]
          exact O5.out
        · have e : takeF (k + 1) f = fun t => if t = k then -1 else takeF k f t := by
            funext t
            unfold takeF
            by_cases q : t = k
            · subst q
              rw [if_pos rfl, if_pos ⟨by omega, HZ.out⟩]
            · rw [if_neg q]
              by_cases z : t < k ∧ f t = 0
              · rw [if_pos z, if_pos ⟨by omega, z.2⟩]
              · rw [if_neg z, if_neg (fun y => z ⟨by omega, y.2⟩)]
          rw [e]
          refine hS.out.stay ((G5.out.block wb (by simp; omega) fun e => ?_).trans (Below.heap_alloc _ _ _ hS.out.lt))
          have := (hr1.lt wb e.symm).1
          omega
        · have O4 : OnlyB wb w ((wr.setCell ⟨wb, k, none⟩ (.int .i64 (-1))).alloc (.cells #[.int .i64 k] 3)) := (HO.out.trans HO1.out).trans (OnlyB.of (below_alloc _ _))
          refine ⟨G5.out.os.trans O4.1, G5.out.tape.trans O4.2.1, G5.out.output.trans O4.2.2.1, Nat.le_trans O4.2.2.2.1 G5.out.size, fun q hq hn => (G5.out.block q (Nat.lt_of_lt_of_le hq O4.2.2.2.1) fun e => ?_).trans (O4.2.2.2.2 q hq hn)⟩
          have := (hr1.lt q e.symm).1
          omega
      · have hne : (f k == 0) = false := beq_eq_false_iff_ne.2 h0
        have HZ := hid h0
        obtain ⟨xa, xc, rfl⟩ := row_shape hrow
        obtain ⟨x, hx⟩ : ∃ x, x = f k := ⟨_, rfl⟩
        rw [← hx] at c1 hne
        clear h0 hrow hx
        go_wp2
        refine ⟨⟨k + 1, _, by omega, by go_num, rfl, hid ?_, hid ?_, HO⟩, by simp [intOf]; omega⟩
        · rw [HS.out, if_neg HZ.out, List.append_nil]
          exact HR.out
        · have e : takeF (k + 1) f = takeF k f := by
            funext t
            unfold takeF
            by_cases q : t < k ∧ f t = 0
            · rw [if_pos q, if_pos ⟨by omega, q.2⟩]
            · rw [if_neg q, if_neg]
              rintro ⟨x, y⟩
              rcases Nat.lt_succ_iff_lt_or_eq.1 x with z | rfl
              · exact q ⟨z, y⟩
              · exact HZ.out y
          rw [e]
          exact HI.out
    · obtain rfl : k = n := by omega
      obtain ⟨xa, xc, rfl⟩ := row_shape HR.out
      go_wp2
      go_ret
      exact ⟨_, rfl, HR.out, HI.out, HO.out⟩
end Go.Proofs.YtngjooemanapnaaGreatDoor
