/- seen: the parts on a key that a read sees; seen: its walk; Read: a key, at a vector that may be read; New: an empty store; What is put whole, or in parts, turned around: plain mathematics. -/
import Derived.Test.YtefpnojanldkeaaGreatDoorJWPutN
import Derived.Test.YtefpnojanldkeaaGreatDoorJVVec
import Derived.Test.YtefpnojanldkeaaGreatDoorJVOp
import Derived.Test.YtefpnojanldkeaaGreatDoorJWState
import Derived.Test.YtefpnojanldkeaaGreatDoorJVRow
import Derived.Test.YtefpnojanldkeaaGreatDoorJVMap
import Derived.Test.YtefpnojanldkeaaGreatDoorJVRefN
import Derived.Test.YtefpnojanldkeaaGreatDoorJVOnceM
import Derived.Test.YtefpnojanldkeaaGreatDoorJVStandM
import Derived.Test.YtefpnojanldkeaaGreatDoorJVOwnM
import Derived.Test.YtefpnojanldkeaaGreatDoorJWPart
import Derived.Deep.RegionHeldLaw
import Derived.Test.YtefpnojanldkeaaGreatDoorJVOf
import Derived.Maps.OwnSet
import Derived.Test.YtefpnojanldkeaaGreatDoorJWPut
namespace Go.Proofs.YtefpnojanldkeaaGreatDoor
open Go.RowKit Go.Sort Go.Maps
set_option maxRecDepth 100000
set_option linter.unusedSectionVars false
variable [Inhabited ComV] [DecidableEq D3] [Inhabited D3] [Inhabited Dd] [Inhabited Dn] [Inhabited OpV]

/-- What a read at a vector sees of a key. -/
def seenL (s : St) (key : ByteArray) (at_ : List Int) : List ComV := (rowOf s key).filter fun c => leB c.when_ at_
/-- What is known of a store's parts. -/
structure StOk (s : St) (nb : Nat) : Prop where
  base : chk s.base = 0
  len : s.base.length = nb
  ok : ∀ c ∈ s.parts, ComOk c
  when_ : ∀ c ∈ s.parts, c.when_.length = nb
  small : ∀ c ∈ s.parts, SmallC c
theorem mem_rowOf {s : St} {k : ByteArray} {c : ComV} (h : c ∈ rowOf s k) : c ∈ s.parts := (List.mem_filter.1 h).1
theorem flat3_at : ∀ (rows : List (List Value)) (k : Nat) (a b c : Value), (∀ r ∈ rows, r.length = 3) → rows[k]? = some [a, b, c] → rows.flatten[k * 3]? = some a ∧ rows.flatten[k * 3 + 1]? = some b ∧ rows.flatten[k * 3 + 2]? = some c
  | [], _, _, _, _, _, h => by simp at h
  | r :: rs, 0, a, b, c, _, h => by
    simp at h
    subst h
    simp
  | r :: rs, k + 1, a, b, c, hl, h => by
    have hr : r.length = 3 := hl r (by simp)
    have := flat3_at rs k a b c (fun x hx => hl x (by simp [hx])) (by simpa using h)
    rw [List.flatten_cons, List.getElem?_append_right (by omega), List.getElem?_append_right (by omega), List.getElem?_append_right (by omega), hr, show (k + 1) * 3 - 3 = k * 3 by omega, show (k + 1) * 3 + 1 - 3 = k * 3 + 1 by omega, show (k + 1) * 3 + 2 - 3 = k * 3 + 2 by omega]
    exact this
theorem f2_len3 {w : World} : ∀ {rows : List (List Value)} {l : List ComV}, F2 (ComT w) rows l → ∀ r ∈ rows, r.length = 3
  | [], _, _, r, hr => by cases hr
  | x :: xs, [], h, _, _ => by cases h
  | x :: xs, c :: cs, h, r, hr => by
    obtain ⟨h1, h2⟩ := h
    rcases List.mem_cons.1 hr with rfl | hr
    · obtain ⟨wv, ov, e, _⟩ := h1
      rw [e]; rfl
    · exact f2_len3 h2 r hr
theorem f2_at {w : World} : ∀ {rows : List (List Value)} {l : List ComV} {k : Nat}, F2 (ComT w) rows l → k < l.length → ∃ r, rows[k]? = some r ∧ ComT w r l[k]!
  | [], [], _, _, hk => by simp at hk
  | [], _ :: _, _, h, _ => by cases h
  | _ :: _, [], _, h, _ => by cases h
  | x :: xs, c :: cs, 0, h, _ => ⟨x, rfl, h.1⟩
  | x :: xs, c :: cs, k + 1, h, hk => by
    obtain ⟨r, h1, h2⟩ := f2_at (k := k) h.2 (by simpa using hk)
    exact ⟨r, by simpa using h1, by simpa using h2⟩
/-- The cells of a part in its row. -/
theorem part_at {w : World} {base : Nat} {v : Value} {rows : List (List Value)} {l : List ComV} (h : w.ownsRow base 36 3 v l.length rows.flatten) (hF : F2 (ComT w) rows l) {k : Nat} (hk : k < l.length) :
    ∃ b cap wv ov, v = .slice (some ⟨b, 0, none⟩) l.length cap ∧ ComT w [wv, .int .i64 l[k]!.place, ov] l[k]! ∧ w.cell? ⟨b, k * 3, none⟩ = some wv ∧ w.cell? ⟨b, k * 3 + 1, none⟩ = some (.int .i64 l[k]!.place) ∧ w.cell? ⟨b, k * 3 + 2, none⟩ = some ov := by
  obtain ⟨r, h1, h2⟩ := f2_at hF hk
  have h3 := h2
  obtain ⟨wv, ov, e, _, _⟩ := h3
  subst e
  obtain ⟨f0, f1, f2⟩ := flat3_at rows k _ _ _ (f2_len3 hF) h1
  rcases h.2 with ⟨_, h0⟩ | ⟨b, cap, cur, hv, _, hh, hc, _, hs, ht⟩
  · omega
  · have cell : ∀ i u, i < l.length * 3 → rows.flatten[i]? = some u → w.cell? ⟨b, i, none⟩ = some u := fun i u hi hu => by
      rw [← ht, List.getElem?_take, if_pos hi, Array.getElem?_toList] at hu
      simp only [World.cell?, hh]
      exact hu
    exact ⟨b, cap, wv, ov, hv, h2, cell _ _ (by omega) f0, cell _ _ (by omega) f1, cell _ _ (by omega) f2⟩
theorem filter_take_succ {l : List ComV} {k : Nat} (hk : k < l.length) (p : ComV → Bool) : (l.take (k + 1)).filter p = (l.take k).filter p ++ (if p l[k]! then [l[k]!] else []) := by
  rw [List.take_succ_eq_append_getElem hk, List.filter_append, getElem!_pos l k hk]
  congr 1
  by_cases h : p l[k]
  · simp [h]
  · simp [h]
end Go.Proofs.YtefpnojanldkeaaGreatDoor
namespace Go.Proofs.YtefpnojanldkeaaGreatDoor
open Go.RowKit Go.Sort Go.Maps
set_option maxRecDepth 100000
set_option linter.unusedSectionVars false
variable [Inhabited ComV] [DecidableEq D3] [Inhabited D3] [Inhabited Dd] [Inhabited Dn] [Inhabited OpV]

set_option maxHeartbeats 4000000 in
theorem seen_ok (A : Nat → Addr) (w : World) (hE : E4 A w) (h12 : 12 ≤ w.heap.size) (p mb db n nb : Nat) (f : ByteArray → Value) (s : St) (hV : VerAt w p mb db f s n) (hS : StOk s nb) (key : ByteArray) (hk : nameB key = true) (hk6 : key.size ≤ 1000000) (av : Value) (at_ : List Int) (ha : IntsAt w av at_) (hc : chk at_ = 0) (hal : at_.length = nb) (hle : leB s.base at_ = true) (hfew : (rowOf s key).length ≤ 1000) :
    Calls Tryz.prog 70 #[.pointer (some ⟨p, 0, none⟩), .string key, av] w fun e w' => ∃ v, e = .returned (.tuple #[v, .nilIface]) ∧ ComsAt w' v (seenL s key at_) ∧ Below w.heap.size w w' := by
  obtain ⟨i28, hi28, hy0, hy1, hy2⟩ := info_parts Tryz.info28o
  obtain ⟨ba, bc, p0, p1, p2, hbt, hpx⟩ := hV.boxAt
  have K75 := fun W => checkName_ok W key hk
  have K37 := checkVector_ok A w hE p _ s.base _ _ hpx hbt.at av at_ ha hc (hal.trans hS.len.symm)
  have K38 := hid (fun W (hW : Below w.heap.size w W) => within_ok A W (hE.below hW h12) _ _ s.base at_ (hbt.at.mono hW (Nat.le_refl _)) (ha.mono hW (Nat.le_refl _)) (two_zero.2 ⟨hS.base, hc, hS.len.trans hal.symm⟩))
  rw [hle] at K38
  have HV := hid hV
  have HA := hid ha
  have HE := hid hE
  have HS := hid hS
  have HBT := hid hbt
  have HPX := hid hpx
  have HAL := hid hal
  have HC := hid hc
  obtain ⟨aa, ac, rfl⟩ := ha.slice
  obtain ⟨nb', hnb'⟩ : ∃ nb', nb' = s.base.length := ⟨_, rfl⟩
  obtain ⟨na, hna⟩ : ∃ na, na = at_.length := ⟨_, rfl⟩
  rw [← hnb'] at p0 HPX K38
  rw [← hna] at K37 K38 HA ⊢
  clear hV ha hE hS hbt hpx hnb' hna hal hc hle
  go_enter Tryz.func70, Tryz.ntmps70
  go_wp2_with (first | (go_at_call 69; refine (K75 _).mono ?_; rintro e w' ⟨rfl, hw'⟩; rw [hw']; clear hw') | (go_at_call 53; refine K37.mono ?_; rintro e w' ⟨rfl, hw'⟩; rw [hw']; clear hw'))
  refine (K38.out w (Below.refl _ _)).mono ?_
  rintro e w3 ⟨rfl, q3, hq3⟩
  have B3 : Hid (Below w.heap.size w w3) := (show Below _ _ _ from by rw [hq3]; exact below_draws (Below.refl _ _) q3)
  have V3 := hid (HV.out.moved B3.out)
  have c1 : w3.cell? ⟨p, 1, none⟩ = some (.map (some mb)) := by obtain ⟨_, _, _, h, _⟩ := V3.out.boxAt; exact h
  obtain ⟨rows, hrow, hF⟩ := V3.out.rows key
  obtain ⟨fa, fc, hfe⟩ := row_shape hrow
  have hl3 := V3.out.row key hk6
  rw [hfe] at hrow hl3
  obtain ⟨L, hL⟩ : ∃ L, L = (rowOf s key).length := ⟨_, rfl⟩
  rw [← hL] at hrow hl3 hfew
  have HL := hid hL
  have HF := hid hF
  have HROW := hid hrow
  clear hq3 K37 K75 p0 p1 p2 hrow hF hL hfe
  go_wp2_with fail
  go_loopw [10, 39] (fun v i wr => ∃ (k : Nat) (rs : List (List Value)), k ≤ L ∧ i = .int .i64 k ∧ Hid (OwnsInv w3 (((rowOf s key).take k).filter fun c => leB c.when_ at_) v rs wr)) (fun _ i _ => L - (intOf i).toNat)
  case atStart => exact ⟨0, [], Nat.zero_le _, rfl, OwnsInv.start w3⟩
  case round =>
    obtain ⟨k, rs, hk, rfl, HI⟩ := hrel
    by_cases hlt : k < L
    · have hkl : k < (rowOf s key).length := by rw [← HL.out]; exact hlt
      have hrow' := HROW.out
      rw [HL.out] at hrow'
      obtain ⟨b, cap, wv, ov, hv, hct, q0, q1, q2⟩ := part_at hrow' HF.out hkl
      have hmem : (rowOf s key)[k]! ∈ rowOf s key := by rw [getElem!_pos _ k hkl]; exact List.getElem_mem _
      have hok := HS.out.ok _ (mem_rowOf hmem)
      have hwl := HS.out.when_ _ (mem_rowOf hmem)
      have hft := filter_take_succ hkl (fun c => leB c.when_ at_)
      obtain ⟨c, hce⟩ : ∃ c, c = (rowOf s key)[k]! := ⟨_, rfl⟩
      rw [← hce] at hct q1 hok hwl hft
      injection hv with ha1 _ ha3
      subst ha1
      subst ha3
      have hct3 := hct
      obtain ⟨wv', ov', he, hwT, hoT⟩ := hct
      injection he with e1 he
      injection he with _ he
      injection he with e2 _
      subst e1 e2
      have hwB : Below w.heap.size w wr := B3.out.trans (HI.out.below.mono B3.out.size)
      have up : ∀ {a : Addr} {v : Value}, w3.cell? a = some v → wr.cell? a = some v := fun {a v} h => by rw [HI.out.below.cell (lt_of_cell h)]; exact h
      have r0 := up q0
      have r1 := up q1
      have r2 := up q2
      have K := hid (fun W (hW : Below wr.heap.size wr W) => within_ok A W (HE.out.below (hwB.trans (hW.mono hwB.size)) h12) wv (.slice aa na ac) c.when_ at_ (hwT.at.mono (HI.out.below.trans (hW.mono HI.out.below.size)) (Nat.le_refl _)) (HA.out.mono (hwB.trans (hW.mono hwB.size)) (Nat.le_refl _)) (two_zero.2 ⟨hok.chk, HC.out, hwl.trans HAL.out.symm⟩))
      obtain ⟨⟨a1, c1', ex⟩, a2, c2, ey⟩ := hct3.shape
      subst ex ey
      obtain ⟨n1, hn1⟩ : ∃ n1, n1 = c.when_.length := ⟨_, rfl⟩
      obtain ⟨n2, hn2⟩ : ∃ n2, n2 = c.ops.length := ⟨_, rfl⟩
      obtain ⟨pl, hpl⟩ : ∃ pl, pl = c.place := ⟨_, rfl⟩
      rw [← hn1] at r0 K
      rw [← hn2] at r2
      rw [← hpl] at r1
      have hi1 : (k : Int) < (L : Int) := by omega
      obtain ⟨bb, hbb⟩ : ∃ bb, bb = leB c.when_ at_ := ⟨_, rfl⟩
      rw [← hbb] at K hft
      have HT := hid (hct3.kept (Keep3.of_below HI.out.below (Nat.le_refl _)))
      have HFT := hid hft
      have HPL := hid hpl
      have HN1 := hid hn1
      have HN2 := hid hn2
      clear q0 q1 q2 up hce hmem hok hwl hft hct3 hwT hoT hkl hrow' hn1 hn2 hpl hbb hwB
      obtain ⟨wq, hwq⟩ : ∃ wq, wq = wr.alloc (.cells #[.slice a1 n1 c1', .int .i64 pl, .slice a2 n2 c2] 36) := ⟨_, rfl⟩
      have hbq : Below wr.heap.size wr wq := by rw [hwq]; exact below_alloc _ _
      have xq : wq.heap[wr.heap.size]? = some (.cells #[.slice a1 n1 c1', .int .i64 pl, .slice a2 n2 c2] 36 (0, 0)) := by rw [hwq]; exact (MapKept.heap_alloc _ _).1
      go_wp2_with fail
      rw [← hwq]
      refine (K.out wq hbq).mono ?_
      rintro e wy ⟨rfl, qy, hqy⟩
      have hby : Below wr.heap.size wr wy := by rw [hqy]; exact below_draws hbq qy
      have xy : wy.heap[wr.heap.size]? = some (.cells #[.slice a1 n1 c1', .int .i64 pl, .slice a2 n2 c2] 36 (0, 0)) := by rw [hqy]; exact xq
      have I2 := hid (HI.out.moved hby)
      have HTy := hid (HT.out.kept (Keep3.of_below hby (Nat.le_refl _)))
      have y0 : wy.cell? ⟨wr.heap.size, 0, none⟩ = some (.slice a1 n1 c1') := by simp only [World.cell?, xy]; rfl
      have y1 : wy.cell? ⟨wr.heap.size, 1, none⟩ = some (.int .i64 pl) := by simp only [World.cell?, xy]; rfl
      have y2 : wy.cell? ⟨wr.heap.size, 2, none⟩ = some (.slice a2 n2 c2) := by simp only [World.cell?, xy]; rfl
      clear hqy hwq hbq xq xy hby r0 r1 r2 K
      cases bb with
      | false =>
        go_wp2_with fail
        refine ⟨⟨k + 1, rs, by omega, by go_num, ?_⟩, by simp [intOf]; omega⟩
        show OwnsInv _ _ _ _ _
        rw [HFT.out]
        simpa using I2.out
      | true =>
        have hrow := I2.out.row
        obtain ⟨m, hm⟩ : ∃ m, m = (((rowOf s key).take k).filter fun c => leB c.when_ at_).length := ⟨_, rfl⟩
        have hmk : m ≤ k := by rw [hm]; exact Nat.le_trans (List.length_filter_le _ _) (by rw [List.length_take]; omega)
        rw [← hm] at hrow
        have HM := hid hm
        obtain ⟨va, vc, hve⟩ := row_shape hrow
        rw [hve] at hrow I2 ⊢
        have hbs := I2.out.below.size
        clear hm hve
        go_wp2_with (at_builtin; refine wpList_append_own _ rfl _ _ 116 rfl w3.heap.size 36 i28 _ 3 56 Tryz.underlying116 hi28 hy0 hy1 hy2 rfl (by decide) _ _ _ rfl (hrow.alloc _) ⟨wy.heap.size, 0, none⟩ 1 1 [.slice a1 n1 c1', .int .i64 pl, .slice a2 n2 c2] rfl rfl (cells3_new _ _ _) ?ho1 ?ho2 ?ho3 ?ho4 ?_; (case ho1 => exact one3v _ _ _ _ _ _ _ _ _ rfl rfl); (case ho2 => unfold maxLen; omega); (case ho3 => omega); (case ho4 => simp; omega); intro v9 w9 hown9 hgr9 _; have G9 := hid hgr9; have O9 := hid hown9; clear hown9 hgr9)
        have hct9 : ComT wy [.slice a1 n1 c1', .int .i64 pl, .slice a2 n2 c2] c := by
          have := HTy.out
          rw [← HN1.out, ← HN2.out, ← HPL.out] at this
          exact this
        have HCT9 := hid hct9
        clear hct9
        refine ⟨⟨k + 1, rs ++ [[.slice a1 n1 c1', .int .i64 pl, .slice a2 n2 c2]], by omega, by go_num, ?_⟩, by simp [intOf]; omega⟩
        · skip
          show OwnsInv _ _ _ _ _
          rw [HFT.out, if_pos trivial]
          exact (I2.out.moved (below_alloc _ _)).step (HCT9.out.kept (Keep3.of_below (below_alloc _ _) (Nat.le_refl _))) G9.out (by rw [← HM.out]; exact O9.out)
    · obtain rfl : k = L := by omega
      have hI := HI.out
      rw [List.take_of_length_le (by rw [HL.out]; exact Nat.le_refl _)] at hI
      have H := hid (show ComsAt wr u10 (seenL s key at_) from coms_of_owns hI.row rfl hI.coms)
      have HB := hid (B3.out.trans (hI.below.mono B3.out.size))
      clear hI HI
      go_wp2
      go_ret2
      exact ⟨_, rfl, H.out, HB.out⟩
end Go.Proofs.YtefpnojanldkeaaGreatDoor
namespace Go.Proofs.YtefpnojanldkeaaGreatDoor
open Go.RowKit Go.Sort Go.Maps
set_option maxRecDepth 100000
set_option linter.unusedSectionVars false
variable [Inhabited ComV] [DecidableEq D3] [Inhabited D3] [Inhabited Dd] [Inhabited Dn] [Inhabited OpV]

theorem seenL_mem {s : St} {key : ByteArray} {at_ : List Int} {c : ComV} (h : c ∈ seenL s key at_) : c ∈ s.parts := mem_rowOf (List.mem_filter.1 h).1
theorem seenL_len (s : St) (key : ByteArray) (at_ : List Int) : (seenL s key at_).length ≤ (rowOf s key).length := List.length_filter_le _ _
theorem ret_cell_tmp {f : Func} {s t k s2 : Nat} (hf : f.results = #[ResultVar.cell s t, ResultVar.tmp s2]) (hag : ∀ w, (isAgg t).run Tryz.prog w = .ok true w) (hsz : ∀ w, (sizeOf t).run Tryz.prog w = .ok k w) (w : World) (tmps : Array Value) (g : Nat) (vs : List Value) (v2 : Value) (hk : vs.length = k) (h4 : tmps[s]?.getD undef = .pointer (some ⟨g, 0, none⟩)) (h5 : tmps[s2]?.getD undef = v2) (hc : ∀ j (hj : j < vs.length), w.cell? ⟨g, j, none⟩ = some vs[j]) :
    (results f tmps).run Tryz.prog w = .ok (.tuple #[.agg vs.toArray, v2]) w := by
  have hl := run_loadCellsFrom_list Tryz.prog w ⟨g, 0, none⟩ vs k hk (fun j v hj => by
    obtain ⟨h1, h2⟩ := List.getElem?_eq_some_iff.1 hj
    rw [Addr.add_lit, Nat.zero_add, hc j h1, h2])
  simp [results, hf, h4, h5, asAddr, loadVar, loadCells, hag, hsz, hl, Result.andThen]
theorem strs_keep {w w' : World} {v : Value} {ss : List (List UInt8)} (h : StrsAt w v ss) (hk : ∀ b, (∃ x, w.cell? ⟨b, 0, none⟩ = some (.string x)) → ∀ t, w'.cell? ⟨b, t, none⟩ = w.cell? ⟨b, t, none⟩) : StrsAt w' v ss := by
  obtain ⟨ad, cap, rfl, h⟩ := h
  refine ⟨ad, cap, rfl, ?_⟩
  rcases h with h | ⟨b, rfl, h⟩
  · exact .inl h
  · by_cases h0 : ss.length = 0
    · exact .inl (List.eq_nil_of_length_eq_zero h0)
    · exact .inr ⟨b, rfl, fun t ht => by rw [hk b ⟨_, h 0 (by omega)⟩ t]; exact h t ht⟩
set_option maxHeartbeats 2000000 in
theorem read_ok (A : Nat → Addr) (w : World) (hE : E4 A w) (h12 : 12 ≤ w.heap.size) (p mb db n nb : Nat) (f : ByteArray → Value) (s : St) (hV : VerAt w p mb db f s n) (hS : StOk s nb) (key : ByteArray) (hk : nameB key = true) (hk6 : key.size ≤ 1000000) (av : Value) (at_ : List Int) (ha : IntsAt w av at_) (hc : chk at_ = 0) (hal : at_.length = nb) (hle : leB s.base at_ = true) (hfew : (rowOf s key).length ≤ 1000) :
    Calls Tryz.prog 40 #[.pointer (some ⟨p, 0, none⟩), .string key, av] w fun e w' => OfRet key (seenL s key at_) w e w' := by
  have hlen := seenL_len s key at_
  have K47 := hid (fun W (hW : Below w.heap.size w W) v (hv : ComsAt W v (seenL s key at_)) => of_ok A W (hE.below hW h12) (by have := hW.size; omega) key hk v (seenL s key at_) hv (by omega) (fun c hc => hS.small c (seenL_mem hc)) (listOk_of (n := nb) (fun c hc => hS.ok c (seenL_mem hc)) (fun c hc => hS.when_ c (seenL_mem hc))))
  obtain ⟨w0, hw0⟩ : ∃ w0, w0 = w.alloc (.cells #[.int .i64 0, .string ⟨#[]⟩, .int .i64 0, .slice none 0 0] 47) := ⟨_, rfl⟩
  have hb0 : Below w.heap.size w w0 := by rw [hw0]; exact below_alloc _ _
  have K46 := hid (seen_ok A w0 (hE.below hb0 h12) (by have := hb0.size; omega) p mb db n nb f s (hV.moved hb0) hS key hk hk6 av at_ (ha.mono hb0 (Nat.le_refl _)) hc hal hle hfew)
  obtain ⟨aa, ac, rfl⟩ := ha.slice
  clear hV hS ha hE hk hc hal hle hfew hlen
  go_enter Tryz.func40, Tryz.ntmps40
  go_wp2_with fail
  rw [← hw0]
  refine K46.out.mono ?_
  rintro e w1 ⟨v1, rfl, hc1, hb1⟩
  have B1 := hid (hb0.trans (hb1.mono hb0.size))
  have C1 := hid hc1
  obtain ⟨a1, k1, hv1, _⟩ := hc1.shape
  subst hv1
  have x1 : w1.heap[w.heap.size]? = some (.cells #[.int .i64 0, .string ⟨#[]⟩, .int .i64 0, .slice none 0 0] 47 (0, 0)) := by
    rw [hb1.block _ (by rw [hw0]; simp), hw0]; exact (MapKept.heap_alloc _ _).1
  have X1 := hid x1
  clear hc1 hb1 hw0 x1 K46
  go_wp2_with fail
  refine (K47.out w1 B1.out _ C1.out).mono ?_
  rintro e w2 ⟨v2, ds, rfl, hi2, hva, hb2⟩
  obtain ⟨sv, hve, hst⟩ := hva
  subst hve
  have HST := hid hst
  obtain ⟨sa, sc, hsv⟩ : ∃ sa sc, sv = .slice sa (valA ds).set.length sc := by obtain ⟨sa, sc, hsv, _⟩ := hst; exact ⟨sa, sc, hsv⟩
  subst hsv
  have x2 : w2.heap[w.heap.size]? = some (.cells #[.int .i64 0, .string ⟨#[]⟩, .int .i64 0, .slice none 0 0] 47 (0, 0)) := (hb2.block _ (Array.getElem?_eq_some_iff.1 X1.out).1).trans X1.out
  have X2 := hid x2
  have R4 := hid (row4 x2)
  have B2 := hid (B1.out.trans (hb2.mono B1.out.size))
  have I2 := hid hi2
  obtain ⟨x, hx⟩ : ∃ x, x = valA ds := ⟨_, rfl⟩
  rw [← hx] at HST ⊢
  have HX := hid hx
  obtain ⟨xk, xt, xn, xs⟩ := x
  obtain ⟨m, hm⟩ : ∃ m, m = xs.length := ⟨_, rfl⟩
  simp only at HST ⊢
  rw [← hm] at HST ⊢
  have S4 := hid (set4 x2 [.int .i64 xk, .string xt, .int .i64 xn, .slice sa m sc] rfl)
  clear hst hb2 x2 hi2 hx hm K47
  go_wp2_with (refine wpList_store_k _ rfl (.tmp 6) (.tmp 24) 47 rfl w.heap.size 0 [.int .i64 xk, .string xt, .int .i64 xn, .slice sa m sc] rfl rfl 4 rfl Tryz.sizeOf47 rfl _ ?hW R4.out.1 R4.out.2 ?_; case hW => rfl)
  refine bodyPost_ret (ret_cell_tmp (k := 4) Tryz.results40 Tryz.isAgg47 Tryz.sizeOf47 _ _ w.heap.size [.int .i64 xk, .string xt, .int .i64 xn, .slice sa m sc] _ rfl rfl rfl S4.out) rfl ⟨_, ds, rfl, I2.out, ?_, below_setCells (Nat.le_refl _) _ _ B2.out⟩
  rw [← HX.out]
  refine ⟨_, rfl, strs_keep HST.out fun b hb t => ?_⟩
  have hne : b ≠ w.heap.size := fun e => by
    obtain ⟨y, hy⟩ := hb
    rw [e] at hy
    simp only [World.cell?, X2.out] at hy
    cases hy
  exact World.cell?_setCells_out _ _ _ _ _ (fun e _ => absurd e hne)
end Go.Proofs.YtefpnojanldkeaaGreatDoor
namespace Go.Proofs.YtefpnojanldkeaaGreatDoor
open Go.RowKit Go.Sort Go.Maps
set_option maxRecDepth 100000
set_option linter.unusedSectionVars false
variable [Inhabited ComV] [DecidableEq D3] [Inhabited D3] [Inhabited Dd] [Inhabited Dn] [Inhabited OpV]

theorem Tryz.info3n : (Tryz.prog.info? 3).map (fun i => (i.zero, i.size, i.bytes)) = some (some (.int .i64 0), 1, 8) := by kernel_rfl
theorem new_bad (A : Nat → Addr) (w : World) (hE : E4 A w) (n : Int) (h : n < 1 ∨ 6 < n) : Calls Tryz.prog 45 #[.int .i64 n] w fun e w' => e = .returned (.tuple #[.pointer none, .iface 238 (.pointer (some (A 1)))]) ∧ Below w.heap.size w w' := by
  have c0 := hE.bound
  clear hE
  by_cases h1 : n < 1
  · go_enter Tryz.func45, Tryz.ntmps45
    go_wp2
    go_region
    go_wp2
    go_ret2
    exact ⟨rfl, (Below.refl _ _).drew⟩
  · have h2 : 6 < n := by omega
    clear h
    go_enter Tryz.func45, Tryz.ntmps45
    go_wp2
    go_region
    go_wp2
    go_ret2
    exact ⟨rfl, (Below.refl _ _).drew⟩
theorem ver_new {w w1 : World} {n : Nat} (ho : w1.ownsRow w.heap.size 3 1 (.slice (some ⟨w.heap.size, 0, none⟩) n n) n (madeCells #[Value.int .i64 0] n).toList) :
    VerAt (((w1.alloc (.map #[] 0)).alloc (.map #[] 0)).alloc (.cells #[.slice (some ⟨w.heap.size, 0, none⟩) n n, .map (some w1.heap.size), .map (some (w1.heap.size + 1))] 109)) (w1.heap.size + 1 + 1) w1.heap.size (w1.heap.size + 1) (fun _ => .slice none 0 0) ⟨List.replicate n 0, [], []⟩ 0 := by
  refine ⟨⟨.slice (some ⟨w.heap.size, 0, none⟩) n n, ?_, ?_⟩, ⟨.map [], ?_, fun d _ => rfl⟩, ⟨.map [], ?_, fun k => ⟨rfl, rfl⟩⟩, fun k => ⟨[], World.ownsRow_nil _ _ _ _, trivial⟩, fun k k' _ b hb => (by cases hb), by omega⟩
  · have := (MapKept.heap_alloc ((w1.alloc (.map #[] 0)).alloc (.map #[] 0)) (.cells #[.slice (some ⟨w.heap.size, 0, none⟩) n n, .map (some w1.heap.size), .map (some (w1.heap.size + 1))] 109)).1
    rwa [World.size_alloc, World.size_alloc] at this
  · have h3 := ((ho.alloc (.map #[] 0)).alloc (.map #[] 0)).alloc (.cells #[.slice (some ⟨w.heap.size, 0, none⟩) n n, .map (some w1.heap.size), .map (some (w1.heap.size + 1))] 109)
    rw [toList_madeCells_one] at h3
    unfold IntsT
    refine rowT_of_owns (base := w.heap.size) (n := n) ?_ (by simp) (fun r hr => by obtain ⟨_, _, rfl⟩ := List.mem_map.1 hr; rfl)
    have e : ((List.replicate n (0 : Int)).map fun z => [Value.int .i64 z]).flatten = List.replicate n (Value.int .i64 0) := by
      rw [List.map_replicate]
      exact List.flatten_replicate_singleton
    rw [e]
    exact h3
  · have := ((World.ownsMap_made (w1.alloc (.map #[] 0)) Tryz.prog 90 (unitElem (H := Unit))).alloc (.cells #[.slice (some ⟨w.heap.size, 0, none⟩) n n, .map (some w1.heap.size), .map (some (w1.heap.size + 1))] 109))
    rwa [World.size_alloc] at this
  · exact ((World.ownsMap_made w1 Tryz.prog 9 sliceElem).alloc _).alloc _
set_option maxHeartbeats 1000000 in
theorem new_ok (w : World) (n : Nat) (h1 : 1 ≤ n) (h6 : n ≤ 6) : Calls Tryz.prog 45 #[.int .i64 n] w fun e w' => ∃ p mb db, e = .returned (.tuple #[.pointer (some ⟨p, 0, none⟩), .nilIface]) ∧ w.heap.size ≤ p ∧ w.heap.size ≤ mb ∧ w.heap.size ≤ db ∧ VerAt w' p mb db (fun _ => .slice none 0 0) ⟨List.replicate n 0, [], []⟩ 0 ∧ Below w.heap.size w w' := by
  obtain ⟨i0, hi, hz0, hz1, hz2⟩ := info_parts Tryz.info3n
  have hn1 : ¬ (n : Int) < 1 := by omega
  have hn6 : ¬ 6 < (n : Int) := by omega
  have hmm := @run_makeMap Tryz.prog
  go_enter Tryz.func45, Tryz.ntmps45
  go_wp2_with (refine wpList_make_full _ rfl _ _ 23 rfl w.heap.size 3 i0 (.int .i64 0) 1 Tryz.underlying23 hi hz0 hz1 .i64 .i64 _ _ n rfl rfl rfl rfl ?b2 ?b3 ?b4 ?_)
  case b2 => omega
  case b3 => unfold maxLen; omega
  intro w1 hown hgrow
  have HO := hid hown
  have HG := hid hgrow
  clear hown hgrow
  go_wp2
  go_ret2
  have hs := HG.out.size
  have hb : Below w.heap.size w w1 := ⟨HG.out.os, HG.out.tape, HG.out.output, HG.out.size, fun i hi => HG.out.block i hi (by simp)⟩
  exact ⟨w1.heap.size + 1 + 1, w1.heap.size, w1.heap.size + 1, rfl, by omega, by omega, by omega, ver_new HO.out, ((hb.alloc hb.size _).alloc (by simp; omega) _).alloc (by simp; omega) _⟩
end Go.Proofs.YtefpnojanldkeaaGreatDoor
namespace Go.Proofs.YtefpnojanldkeaaGreatDoor
open Go.RowKit Go.Sort Go.Maps
set_option maxRecDepth 100000
set_option linter.unusedSectionVars false
variable [Inhabited ComV] [DecidableEq D3] [Inhabited D3] [Inhabited Dd] [Inhabited Dn] [Inhabited OpV]

def partsC (c : ComV) : List ComV := c.ops.map (partC c)
def dotsC (c : ComV) : List D3 := c.ops.map (dotC c)
/-- The store that holds these commits. -/
def stOf (nb : Nat) (l : List ComV) : St := ⟨List.replicate nb 0, l.flatMap partsC, l.flatMap dotsC⟩
theorem stOf_put (nb : Nat) (l : List ComV) (c : ComV) : putTo (stOf nb l) c c.ops.length = stOf nb (l ++ [c]) := by
  unfold putTo stOf partsC dotsC
  rw [List.take_length, List.flatMap_append, List.flatMap_append]
  simp
/-- May this commit be put? -/
structure PutOk (s : St) (c : ComV) : Prop where
  err : comErr c = (0, none)
  len : c.when_.length = s.base.length
  old : leB c.when_ s.base = false
  new : ∀ o ∈ c.ops, dotC c o ∉ s.dots
/-- What was kept: each a commit of so many places, not old, no dot twice. -/
structure KeptL (nb : Nat) (l : List ComV) : Prop where
  ok : ∀ c ∈ l, ComOk c
  len : ∀ c ∈ l, c.when_.length = nb
  old : ∀ c ∈ l, leB c.when_ (List.replicate nb 0) = false
  dots : (l.flatMap dotsC).Nodup
theorem KeptL.nil (nb : Nat) : KeptL nb [] := ⟨fun _ h => by simp at h, fun _ h => by simp at h, fun _ h => by simp at h, by simp⟩
theorem dotsC_nodup {c : ComV} (h : ComOk c) : (dotsC c).Nodup := by
  unfold dotsC
  rw [List.nodup_iff_pairwise_ne, List.pairwise_map, List.pairwise_iff_getElem]
  intro i j hi hj hij e
  have h1 := at_rise h.ops i j hij hj
  rw [getElem!_pos c.ops i hi, getElem!_pos c.ops j hj] at h1
  have h2 : (dotC c c.ops[i]).a = (dotC c c.ops[j]).a := by rw [e]
  have h3 : c.ops[i].at_ = c.ops[j].at_ := h2
  omega
theorem KeptL.snoc {nb : Nat} {l : List ComV} (h : KeptL nb l) {c : ComV} (hp : PutOk (stOf nb l) c) : KeptL nb (l ++ [c]) := by
  have hc : ComOk c := comOk_of (by rw [hp.err])
  refine ⟨fun x hx => ?_, fun x hx => ?_, fun x hx => ?_, ?_⟩
  · rcases List.mem_append.1 hx with hx | hx
    · exact h.ok x hx
    · obtain rfl := List.mem_singleton.1 hx; exact hc
  · rcases List.mem_append.1 hx with hx | hx
    · exact h.len x hx
    · obtain rfl := List.mem_singleton.1 hx
      have := hp.len
      simpa [stOf] using this
  · rcases List.mem_append.1 hx with hx | hx
    · exact h.old x hx
    · obtain rfl := List.mem_singleton.1 hx; exact hp.old
  · rw [List.flatMap_append, List.nodup_append]
    refine ⟨h.dots, by simpa using dotsC_nodup hc, fun a ha b hb e => ?_⟩
    subst e
    simp only [List.flatMap_cons, List.flatMap_nil, List.append_nil] at hb
    obtain ⟨o, ho, rfl⟩ := List.mem_map.1 hb
    exact hp.new o ho ha
/-- A commit, cut: its dots and its parts are the same, turned around. -/
theorem cut_perm {β : Type} (cut : Int) (c : ComV) (g : List Int → Int → OpV → β) : ((cutC cut c).flatMap fun x => x.ops.map (g x.when_ x.place)).Perm (c.ops.map (g c.when_ c.place)) := by
  unfold cutC
  split
  · simp only [List.flatMap_cons, List.flatMap_nil, List.append_nil]
    refine List.perm_append_comm.trans ?_
    rw [← List.map_append, List.take_append_drop]
  · simp
theorem turned_perm {β : Type} (cut : Int) (g : List Int → Int → OpV → β) : ∀ l : List ComV, ((l.reverse.flatMap (cutC cut)).flatMap fun x => x.ops.map (g x.when_ x.place)).Perm (l.flatMap fun x => x.ops.map (g x.when_ x.place))
  | [] => List.Perm.refl _
  | c :: l => by
    rw [List.reverse_cons, List.flatMap_append, List.flatMap_append]
    refine List.perm_append_comm.trans ?_
    rw [List.flatMap_cons]
    refine List.Perm.append ?_ (turned_perm cut g l)
    simpa using cut_perm cut c g
def turnAll (cut : Int) (l : List ComV) : List ComV := l.reverse.flatMap (cutC cut)
theorem turnAll_parts (cut : Int) (l : List ComV) : ((turnAll cut l).flatMap partsC).Perm (l.flatMap partsC) := turned_perm cut (fun wh p o => (⟨wh, p, [o]⟩ : ComV)) l
/-- Each of what was kept may be put behind those ahead of it. -/
theorem KeptL.put {nb : Nat} {pre post : List ComV} {x : ComV} (h : KeptL nb (pre ++ x :: post)) : PutOk (stOf nb pre) x := by
  have hx : x ∈ pre ++ x :: post := by simp
  refine ⟨comErr_zero (comErr_of (h.ok x hx)), by rw [h.len x hx]; simp [stOf], h.old x hx, fun o ho hd => ?_⟩
  have hn := h.dots
  rw [List.flatMap_append, List.nodup_append] at hn
  exact hn.2.2 _ hd _ (by rw [List.flatMap_cons]; exact List.mem_append_left _ (List.mem_map.2 ⟨o, ho, rfl⟩)) rfl
theorem KeptL.init {nb : Nat} {pre post : List ComV} (h : KeptL nb (pre ++ post)) : KeptL nb pre := by
  refine ⟨fun c hc => h.ok c (List.mem_append_left _ hc), fun c hc => h.len c (List.mem_append_left _ hc), fun c hc => h.old c (List.mem_append_left _ hc), ?_⟩
  have := h.dots
  rw [List.flatMap_append, List.nodup_append] at this
  exact this.1
end Go.Proofs.YtefpnojanldkeaaGreatDoor
