/- Put's step: a part goes to its key's row: what append leaves, and the map behind it; Put: one op more is put; Put of a commit that may be put, by its contract; seen: its walk. -/
import Derived.Test.YtdnebclemngdcaaGreatDoorJWSeen
import Derived.Deep.RegionHeldLaw
namespace Go.Proofs.YtdnebclemngdcaaGreatDoor
open Go.RowKit Go.Sort Go.Maps
set_option maxRecDepth 100000
set_option linter.unusedSectionVars false
variable [Inhabited ComV] [DecidableEq D3] [Inhabited D3] [Inhabited Dd] [Inhabited Dn] [Inhabited OpV]

theorem step_append_at {ops : Array Oper} {o : Oper} {a : Act} {w : World} {K : Act → World → Prop} {Q : Exit → Act → World → Prop} {E : Prop} (hgd : o.guard = none) (s x : Operand) (t : TypeId)
    (ho : o.op = .call { callee := .builtin .append, args := #[s, x], argTypes := #[t, t] })
    (base : Nat) (e : TypeId) (i : TypeInfo) (z : Value) (size bytes : Nat) (ht : Tryz.prog.underlying t = some (.slice e)) (hi : Tryz.prog.info? e = some i) (hz : i.zero = some z)
    (hsize : i.size = size) (hby : i.bytes = bytes) (hzs : z.cells.size = size) (hsz : 0 < size)
    (v : Value) (n : Nat) (xs : List Value) (hs : a.eval s = v) (hown : w.ownsRow base e size v n xs)
    (ad : Addr) (m c : Nat) (news : List Value) (hx : a.eval x = .slice (some ad) m c) (hl : news.length = m * size) (hnews : ∀ j u, news[j]? = some u → w.cell? (ad.add j) = some u) (h1 : ∀ u ∈ news, u.oneCell' = true)
    (h63 : n + m ≤ maxLen) (hbytes : (n + m) * bytes ≤ 140737488355328) (hbase : base ≤ w.heap.size)
    (h : ∀ v' w', w'.ownsRow base e size v' (n + m) (xs ++ news) → w.grownBy w' v.ownBlock → (v'.ownBlock = v.ownBlock ∨ v'.ownBlock = some w.heap.size) → K (a.put o.dst v') w') :
    if Region.wanted o (yielded ops a.tmps) = true then Oper.wp Tryz.prog o a w K Q else E := by
  have hw : Region.wanted o (yielded ops a.tmps) = true := by simp [Region.wanted, hgd]
  rw [if_pos hw]; obtain ⟨v', w', hr, h2, h3, _, h5⟩ := run_append_own_at (P := Tryz.prog) w base t o.type e i z size bytes ht hi hz hsize hby hzs hsz v n xs hown ad m c news hl hnews h1 h63 hbytes hbase; unfold Oper.wp execOp; simp only [ho, resolve, invoke, builtin, Sem.run_bind, Sem.run_pure, Result.andThen_ok, List.map_toArray, List.map_cons, List.map_nil, hs, hx, hr]; exact h v' w' h2 h3 h5
theorem cells3_new (w : World) (t : TypeId) (cs : List Value) : ∀ j u, cs[j]? = some u → (w.alloc (.cells cs.toArray t)).cell? ((⟨w.heap.size, 0, none⟩ : Addr).add j) = some u := fun j u hj => by
  rw [Addr.add_lit, Nat.zero_add, World.cell?_alloc_at _ _ _ _ rfl]
  simpa using hj
structure Stepped (w8 : World) (p mb db n : Nat) (f : ByteArray → Value) (s : St) (c : ComV) (fv v9 : Value) (w9 w10 : World) : Prop where
  ver : VerAt w10 p mb db (updF f (keyOfC c) v9) ⟨s.base, s.parts ++ [c], s.dots⟩ (n + 1)
  grown : w9.grownBy w10 (some mb)
  keep : Keep3 w8 w10
  old9 : ∀ b, b < w8.heap.size → fv.ownBlock ≠ some b → w9.heap[b]? = w8.heap[b]?
  old10 : ∀ b, b < w8.heap.size → b ≠ mb → fv.ownBlock ≠ some b → w10.heap[b]? = w8.heap[b]?
theorem VerAt.step2 {w8 : World} {p mb db n : Nat} {f : ByteArray → Value} {s : St} (V8 : VerAt w8 p mb db f s n) (hn : n ≤ 4000000) (c : ComV) (r0 r1 r2 : Value) (hc : ComT w8 [r0, r1, r2] c) (hk : (keyOfC c).size ≤ 1000000) (fv : Value) (hfv : f (keyOfC c) = fv) (L : Nat) (hL : (rowOf s (keyOfC c)).length = L) :
    ∃ rs, w8.ownsRow 0 34 3 fv L rs ∧ ∀ v9 w9, w9.ownsRow 0 34 3 v9 (L + 1) (rs ++ [r0, r1, r2]) → w8.grownBy w9 fv.ownBlock → (v9.ownBlock = fv.ownBlock ∨ v9.ownBlock = some w8.heap.size) →
      ∃ w10, (Instr.mapUpdate 80 (.map (some mb)) (.string (keyOfC c)) v9).run Tryz.prog w9 = .ok () w10 ∧ Stepped w8 p mb db n f s c fv v9 w9 w10 := by
  subst hfv; subst hL; obtain ⟨rows, hrow, hF⟩ := V8.rows (keyOfC c); refine ⟨rows.flatten, hrow, fun v9 w9 hown9 hg9 hloc9 => ?_⟩; obtain ⟨D8, hD8, hs8⟩ := V8.map
  have hD9 : w9.ownsMap Tryz.prog 9 sliceElem mb n D8 := hD8.kept hg9 (fun e => by
    obtain ⟨cs, hcs⟩ := own_type hrow e.symm; exact cells_ne_map hD8 hcs rfl)
  obtain ⟨w10, hrun10, hm10, hg10⟩ := hD9.update keyed9 Tryz.underlying80 (show n < maxLen from (by unfold maxLen; omega)) (keyOf_str _ hk) (sliceElem_row hown9); have h9 : ∀ b, b < w8.heap.size → (f (keyOfC c)).ownBlock ≠ some b → w9.heap[b]? = w8.heap[b]? := fun b hb hv => hg9.block b hb (fun e => hv e.symm)
  exact ⟨w10, hrun10, ⟨V8.addPart hD8 hs8 hrow hF hc hg9 hown9 hloc9 hg10 hm10, hg10, (Keep3.grown hrow hg9).trans (keep3_map hD9 hg10), h9, fun b hb hm hv => (hg10.block b (Nat.lt_of_lt_of_le hb hg9.size) (fun e => hm (Option.some.inj e))).trans (h9 b hb hv)⟩⟩
end Go.Proofs.YtdnebclemngdcaaGreatDoor
namespace Go.Proofs.YtdnebclemngdcaaGreatDoor
open Go.RowKit Go.Sort Go.Maps
set_option maxRecDepth 100000
set_option linter.unusedSectionVars false
variable [Inhabited ComV] [DecidableEq D3] [Inhabited D3] [Inhabited Dd] [Inhabited Dn] [Inhabited OpV]

theorem below_undrew {B : Nat} {w w' : World} (h : Below B w.drew w') : Below B w w' := ⟨h.os, h.tape, h.output, h.size, h.block⟩
theorem PutInv.next {s : St} {c : ComV} {p mb db n : Nat} {f : ByteArray → Value} {w : World} {t : Nat} {wr : World} {ft : ByteArray → Value} (TI : PutInv s c p mb db n f w t wr ft) {w5 w6 w8 w9 w10 : World} {x2 : ByteArray} {fv v9 : Value} {S' : St} {C' : ComV} {n5 : Nat} {D5 : DataW Unit} {R : Value → Option (DataW Unit × List MemPlace)} {kt : Nat}
    (hb5 : Below wr.heap.size wr w5) (hD5 : w5.ownsMap Tryz.prog kt R db n5 D5) (hg6 : w5.grownBy w6 (some db)) (hb68 : Below w6.heap.size w6 w8) (hfv : fv = ft x2) (hg9 : w8.grownBy w9 fv.ownBlock) (hat : v9.ownBlock = fv.ownBlock ∨ v9.ownBlock = some w8.heap.size)
    (hst : Stepped w8 p mb db (n + 2 * t + 1) ft S' C' fv v9 w9 w10) (hkey : keyOfC C' = x2) (hS : (⟨S'.base, S'.parts ++ [C'], S'.dots⟩ : St) = putTo s c (t + 1)) : PutInv s c p mb db n f w (t + 1) w10 (updF ft x2 v9) := by
  subst hkey; have h1 := hb5.size; have h2 := hg6.size; have h3 := hb68.size; have h4 := hg9.size; have h5 := hst.grown.size; have h6 := TI.size; refine ⟨?_, ?_, (((TI.keep.trans (Keep3.of_below hb5 (Nat.le_refl _))).trans (keep3_map hD5 hg6)).trans (Keep3.of_below hb68 (Nat.le_refl _))).trans hst.keep, fun k e => ?_, by omega⟩
  · have hv := hst.ver; rw [hS, show n + 2 * t + 1 + 1 = n + 2 * (t + 1) by omega] at hv; exact hv
  · have T5 := TI.turn.below hb5; have T6 := T5.grown hg6 (fun b _ _ h3 _ e => h3 (Option.some.inj e)); have T8 := T6.below hb68
    have T9 := T8.grown hg9 (fun b k1 _ _ k4 e => by
      rcases TI.turn.fresh (keyOfC C') b (by rw [← hfv]; exact e.symm) with ⟨k', hk⟩ | hge
      · exact k4 k' hk
      · omega)
    have T10 := T9.grown hst.grown (fun b _ h2 _ _ e => h2 (Option.some.inj e)); exact T10.upd (wx := w8) (by rw [← hfv]; exact hat) (by omega)
  · unfold updF at e
    split at e
    · rcases hat with h | h
      · rw [h, hfv] at e; exact TI.off _ e
      · rw [h] at e; have := Option.some.inj e; omega
    · exact TI.off k e
end Go.Proofs.YtdnebclemngdcaaGreatDoor
namespace Go.Proofs.YtdnebclemngdcaaGreatDoor
open Go.RowKit Go.Sort Go.Maps
set_option maxRecDepth 100000
set_option linter.unusedSectionVars false
variable [Inhabited ComV] [DecidableEq D3] [Inhabited D3] [Inhabited Dd] [Inhabited Dn] [Inhabited OpV]

theorem VerAt.more {w : World} {p mb db n n' : Nat} {f : ByteArray → Value} {s : St} (h : VerAt w p mb db f s n) (hn : n ≤ n') : VerAt w p mb db f s n' := by
  obtain ⟨h1, ⟨D, d1, d2⟩, ⟨D', e1, e2⟩, h4, h5, h6⟩ := h; exact ⟨h1, ⟨D, d1.mono hn, d2⟩, ⟨D', e1.mono hn, e2⟩, h4, h5, h6⟩
theorem nil_of_err {A : Nat → Addr} {w : World} {v : Value} (h : ErrAt A w v (0, none)) : v = .nilIface := h
end Go.Proofs.YtdnebclemngdcaaGreatDoor
namespace Go.Proofs.YtdnebclemngdcaaGreatDoor
open Go.RowKit Go.Sort Go.Maps
set_option maxRecDepth 100000
set_option linter.unusedSectionVars false
variable [Inhabited ComV] [DecidableEq D3] [Inhabited D3] [Inhabited Dd] [Inhabited Dn] [Inhabited OpV]

set_option maxHeartbeats 4000000 in
theorem seen_ok (A : Nat → Addr) (w : World) (hE : E4 A w) (h12 : 12 ≤ w.heap.size) (p mb db n nb : Nat) (f : ByteArray → Value) (s : St) (hV : VerAt w p mb db f s n) (hS : StOk s nb) (key : ByteArray) (hk : nameB key = true) (hk6 : key.size ≤ 1000000) (av : Value) (at_ : List Int) (ha : IntsAt w av at_) (hc : chk at_ = 0) (hal : at_.length = nb) (hle : leB s.base at_ = true) (hfew : (rowOf s key).length ≤ 1000) :
    Calls Tryz.prog 46 #[.pointer (some ⟨p, 0, none⟩), .string key, av] w fun e w' => ∃ v, e = .returned (.tuple #[v, .nilIface]) ∧ ComsAt w' v (seenL s key at_) ∧ Below w.heap.size w w' := by
  obtain ⟨i28, hi28, hy0, hy1, hy2⟩ := info_parts Tryz.info28o; obtain ⟨ba, bc, p0, p1, p2, hbt, hpx⟩ := hV.boxAt; have K75 := fun W => checkName_ok W key hk
  have K37 := checkVector_ok A w hE p _ s.base _ _ hpx hbt.at av at_ ha hc (hal.trans hS.len.symm); have K38 := hid (fun W (hW : Below w.heap.size w W) => within_ok A W (hE.below hW h12) _ _ s.base at_ (hbt.at.mono hW (Nat.le_refl _)) (ha.mono hW (Nat.le_refl _)) (two_zero.2 ⟨hS.base, hc, hS.len.trans hal.symm⟩)); rw [hle] at K38; have HV := hid hV; have HA := hid ha; have HE := hid hE; have HS := hid hS; have HBT := hid hbt; have HPX := hid hpx; have HAL := hid hal; have HC := hid hc; obtain ⟨aa, ac, rfl⟩ := ha.slice; obtain ⟨nb', hnb'⟩ : ∃ nb', nb' = s.base.length := ⟨_, rfl⟩; obtain ⟨na, hna⟩ : ∃ na, na = at_.length := ⟨_, rfl⟩; rw [← hnb'] at p0 HPX K38; rw [← hna] at K37 K38 HA ⊢; clear hV ha hE hS hbt hpx hnb' hna hal hc hle; go_enter Tryz.func46, Tryz.ntmps46
  go_wp2_with (first | (go_at_call 75; refine (K75 _).mono ?_; rintro e w' ⟨rfl, hw'⟩; rw [hw']; clear hw') | (go_at_call 37; refine K37.mono ?_; rintro e w' ⟨rfl, hw'⟩; rw [hw']; clear hw'))
  refine (K38.out w (Below.refl _ _)).mono ?_; rintro e w3 ⟨rfl, q3, hq3⟩; have B3 : Hid (Below w.heap.size w w3) := (show Below _ _ _ from by rw [hq3]; exact below_draws (Below.refl _ _) q3); have V3 := hid (HV.out.moved B3.out); have c1 : w3.cell? ⟨p, 1, none⟩ = some (.map (some mb)) := by obtain ⟨_, _, _, h, _⟩ := V3.out.boxAt; exact h
  obtain ⟨rows, hrow, hF⟩ := V3.out.rows key; obtain ⟨fa, fc, hfe⟩ := row_shape hrow; have hl3 := V3.out.row key hk6; rw [hfe] at hrow hl3; obtain ⟨L, hL⟩ : ∃ L, L = (rowOf s key).length := ⟨_, rfl⟩; rw [← hL] at hrow hl3 hfew; have HL := hid hL; have HF := hid hF; have HROW := hid hrow; clear hq3 K37 K75 p0 p1 p2 hrow hF hL hfe; go_wp2_with fail
  go_loopw [10, 39] (fun v i wr => ∃ (k : Nat) (rs : List (List Value)), k ≤ L ∧ i = .int .i64 k ∧ Hid (OwnsInv w3 (((rowOf s key).take k).filter fun c => leB c.when_ at_) v rs wr)) (fun _ i _ => L - (intOf i).toNat)
  case atStart => exact ⟨0, [], Nat.zero_le _, rfl, OwnsInv.start w3⟩
  case round =>
    obtain ⟨k, rs, hk, rfl, HI⟩ := hrel
    by_cases hlt : k < L
    · have hkl : k < (rowOf s key).length := by rw [← HL.out]; exact hlt
      have hrow' := HROW.out; rw [HL.out] at hrow'; obtain ⟨b, cap, wv, ov, hv, hct, q0, q1, q2⟩ := part_at hrow' HF.out hkl; have hmem : (rowOf s key)[k]! ∈ rowOf s key := by rw [getElem!_pos _ k hkl]; exact List.getElem_mem _
      have hok := HS.out.ok _ (mem_rowOf hmem); have hwl := HS.out.when_ _ (mem_rowOf hmem); have hft := filter_take_succ hkl (fun c => leB c.when_ at_); obtain ⟨c, hce⟩ : ∃ c, c = (rowOf s key)[k]! := ⟨_, rfl⟩; rw [← hce] at hct q1 hok hwl hft; injection hv with ha1 _ ha3; subst ha1; subst ha3; have hct3 := hct; obtain ⟨wv', ov', he, hwT, hoT⟩ := hct; injection he with e1 he; injection he with _ he; injection he with e2 _; subst e1 e2; have hwB : Below w.heap.size w wr := B3.out.trans (HI.out.below.mono B3.out.size); have up : ∀ {a : Addr} {v : Value}, w3.cell? a = some v → wr.cell? a = some v := fun {a v} h => by rw [HI.out.below.cell (lt_of_cell h)]; exact h
      have r0 := up q0; have r1 := up q1; have r2 := up q2; have K := hid (fun W (hW : Below wr.heap.size wr W) => within_ok A W (HE.out.below (hwB.trans (hW.mono hwB.size)) h12) wv (.slice aa na ac) c.when_ at_ (hwT.at.mono (HI.out.below.trans (hW.mono HI.out.below.size)) (Nat.le_refl _)) (HA.out.mono (hwB.trans (hW.mono hwB.size)) (Nat.le_refl _)) (two_zero.2 ⟨hok.chk, HC.out, hwl.trans HAL.out.symm⟩)); obtain ⟨⟨a1, c1', ex⟩, a2, c2, ey⟩ := hct3.shape; subst ex ey; obtain ⟨n1, hn1⟩ : ∃ n1, n1 = c.when_.length := ⟨_, rfl⟩; obtain ⟨n2, hn2⟩ : ∃ n2, n2 = c.ops.length := ⟨_, rfl⟩; obtain ⟨pl, hpl⟩ : ∃ pl, pl = c.place := ⟨_, rfl⟩; rw [← hn1] at r0 K; rw [← hn2] at r2; rw [← hpl] at r1; have hi1 : (k : Int) < (L : Int) := by omega
      obtain ⟨bb, hbb⟩ : ∃ bb, bb = leB c.when_ at_ := ⟨_, rfl⟩; rw [← hbb] at K hft; have HT := hid (hct3.kept (Keep3.of_below HI.out.below (Nat.le_refl _))); have HFT := hid hft; have HPL := hid hpl; have HN1 := hid hn1; have HN2 := hid hn2; clear q0 q1 q2 up hce hmem hok hwl hft hct3 hwT hoT hkl hrow' hn1 hn2 hpl hbb hwB; obtain ⟨wq, hwq⟩ : ∃ wq, wq = wr.alloc (.cells #[.slice a1 n1 c1', .int .i64 pl, .slice a2 n2 c2] 34) := ⟨_, rfl⟩; have hbq : Below wr.heap.size wr wq := by rw [hwq]; exact below_alloc _ _
      have xq : wq.heap[wr.heap.size]? = some (.cells #[.slice a1 n1 c1', .int .i64 pl, .slice a2 n2 c2] 34 (0, 0)) := by rw [hwq]; exact (MapKept.heap_alloc _ _).1
      go_wp2_with fail; rw [← hwq]
      refine (K.out wq hbq).mono ?_; rintro e wy ⟨rfl, qy, hqy⟩; have hby : Below wr.heap.size wr wy := by rw [hqy]; exact below_draws hbq qy
      have xy : wy.heap[wr.heap.size]? = some (.cells #[.slice a1 n1 c1', .int .i64 pl, .slice a2 n2 c2] 34 (0, 0)) := by rw [hqy]; exact xq
      have I2 := hid (HI.out.moved hby); have HTy := hid (HT.out.kept (Keep3.of_below hby (Nat.le_refl _))); have y0 : wy.cell? ⟨wr.heap.size, 0, none⟩ = some (.slice a1 n1 c1') := by simp only [World.cell?, xy]; rfl
      have y1 : wy.cell? ⟨wr.heap.size, 1, none⟩ = some (.int .i64 pl) := by simp only [World.cell?, xy]; rfl
      have y2 : wy.cell? ⟨wr.heap.size, 2, none⟩ = some (.slice a2 n2 c2) := by simp only [World.cell?, xy]; rfl
      clear hqy hwq hbq xq xy hby r0 r1 r2 K
      cases bb with
      | false =>
        go_wp2_with fail; refine ⟨⟨k + 1, rs, by omega, by go_num, ?_⟩, by simp [intOf]; omega⟩
        show OwnsInv _ _ _ _ _; rw [HFT.out]
        simpa using I2.out
      | true =>
        have hrow := I2.out.row; obtain ⟨m, hm⟩ : ∃ m, m = (((rowOf s key).take k).filter fun c => leB c.when_ at_).length := ⟨_, rfl⟩; have hmk : m ≤ k := by rw [hm]; exact Nat.le_trans (List.length_filter_le _ _) (by rw [List.length_take]; omega)
        rw [← hm] at hrow; have HM := hid hm; obtain ⟨va, vc, hve⟩ := row_shape hrow; rw [hve] at hrow I2 ⊢; have hbs := I2.out.below.size; clear hm hve
        go_wp2_with (at_builtin; refine wpList_append_own _ rfl _ _ 22 rfl w3.heap.size 34 i28 _ 3 56 Tryz.underlying22 hi28 hy0 hy1 hy2 rfl (by decide) _ _ _ rfl (hrow.alloc _) ⟨wy.heap.size, 0, none⟩ 1 1 [.slice a1 n1 c1', .int .i64 pl, .slice a2 n2 c2] rfl rfl (cells3_new _ _ _) ?ho1 ?ho2 ?ho3 ?ho4 ?_; (case ho1 => exact one3v _ _ _ _ _ _ _ _ _ rfl rfl); (case ho2 => unfold maxLen; omega); (case ho3 => omega); (case ho4 => simp; omega); intro v9 w9 hown9 hgr9 _; have G9 := hid hgr9; have O9 := hid hown9; clear hown9 hgr9)
        have hct9 : ComT wy [.slice a1 n1 c1', .int .i64 pl, .slice a2 n2 c2] c := by
          have := HTy.out; rw [← HN1.out, ← HN2.out, ← HPL.out] at this; exact this
        have HCT9 := hid hct9; clear hct9; refine ⟨⟨k + 1, rs ++ [[.slice a1 n1 c1', .int .i64 pl, .slice a2 n2 c2]], by omega, by go_num, ?_⟩, by simp [intOf]; omega⟩
        · skip
          show OwnsInv _ _ _ _ _; rw [HFT.out, if_pos trivial]; exact (I2.out.moved (below_alloc _ _)).step (HCT9.out.kept (Keep3.of_below (below_alloc _ _) (Nat.le_refl _))) G9.out (by rw [← HM.out]; exact O9.out)
    · obtain rfl : k = L := by omega
      have hI := HI.out; rw [List.take_of_length_le (by rw [HL.out]; exact Nat.le_refl _)] at hI; have H := hid (show ComsAt wr u10 (seenL s key at_) from coms_of_owns hI.row rfl hI.coms); have HB := hid (B3.out.trans (hI.below.mono B3.out.size)); clear hI HI; go_wp2
      go_ret2
      exact ⟨_, rfl, H.out, HB.out⟩
end Go.Proofs.YtdnebclemngdcaaGreatDoor
