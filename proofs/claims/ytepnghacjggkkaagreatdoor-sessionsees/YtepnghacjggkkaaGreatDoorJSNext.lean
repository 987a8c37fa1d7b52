/- seen: its walk; Read: a key, at a vector that may be read; Ways, senders and receivers made; a beat copied; The receiver with any messages: its box and its map; NewReceiver, Seq, Time, bears, knows; come: what has its turn; The sender's next: a beat. -/
import Derived.Test.YtepnghacjggkkaaGreatDoorJVLayT
import Derived.Test.YtepnghacjggkkaaGreatDoorJWState
import Derived.Test.YtepnghacjggkkaaGreatDoorJWSmall
import Derived.Deep.RegionHeldLaw
import Derived.LaidEql
import Derived.Laws.ResultCell
import Derived.RowKitTokens
import Derived.Shelf.Slices.CompactS
import Derived.Shelf.Slices.In.SortNone
import Derived.Shelf.Sort.Plain
import Derived.Stop.Asserts
import Derived.Test.YtepnghacjggkkaaGreatDoorProg
import Derived.WalkKit
import Derived.Test.YtepnghacjggkkaaGreatDoorJSBase
import Derived.Deep.Cut
import Derived.Lib.SliceRun
import Derived.Maps.OwnSet
import Derived.Test.YtepnghacjggkkaaGreatDoorJHE
import Derived.Test.YtepnghacjggkkaaGreatDoorJSRcv
import Derived.Deep.Fields
import Derived.Deep.RegionHeld
import Derived.Deep.RegionLaw
import Derived.Deep.Slices
import Derived.LaidHandle
import Derived.LaidLaws
import Derived.LaidSub
import Derived.Laws.AppendOwnNone
import Derived.Laws.OwnMore
import Derived.Maps.AppendAt
import Derived.OpenShut
import Derived.ProofKit
import Derived.Shelf.SlIter.Nil
import Derived.Sort.KeysCollected
import Derived.Test.YtepnghacjggkkaaGreatDoorRows
import Derived.Ground.SlsfProg
import Derived.Laws.MakeOwn
import Derived.Shelf.SlGeneric
import Derived.Shelf.SlicesE.DeleteFunc
namespace Go.Proofs.YtepnghacjggkkaaGreatDoor
open Go.RowKit Go.Sort Go.Maps
set_option maxRecDepth 100000
set_option linter.unusedSectionVars false
variable [Inhabited ComV] [DecidableEq D3] [Inhabited D3] [Inhabited Dd] [Inhabited Dn] [Inhabited OpV]

set_option maxHeartbeats 4000000 in
theorem seen_ok (A : Nat → Addr) (w : World) (hE : E4 A w) (h12 : 12 ≤ w.heap.size) (p mb db n nb : Nat) (f : ByteArray → Value) (s : St) (hV : VerAt w p mb db f s n) (hS : StOk s nb) (key : ByteArray) (hk : nameB key = true) (hk6 : key.size ≤ 1000000) (av : Value) (at_ : List Int) (ha : IntsAt w av at_) (hc : chk at_ = 0) (hal : at_.length = nb) (hle : leB s.base at_ = true) (hfew : (rowOf s key).length ≤ 1000) :
    Calls Tryz.prog 100 #[.pointer (some ⟨p, 0, none⟩), .string key, av] w fun e w' => ∃ v, e = .returned (.tuple #[v, .nilIface]) ∧ ComsAt w' v (seenL s key at_) ∧ Below w.heap.size w w' := by
  obtain ⟨i28, hi28, hy0, hy1, hy2⟩ := info_parts Tryz.info28o
  obtain ⟨ba, bc, p0, p1, p2, hbt, hpx⟩ := hV.boxAt
  have K75 := fun W => checkName_ok W key hk
  have K37 := checkVector_ok A w hE p _ s.base _ _ hpx hbt.at av at_ ha hc (hal.trans hS.len.symm)
  have K38 := hid (fun W (hW : Below w.heap.size w W) => within_ok A W (hE.below hW h12) _ _ s.base at_ (hbt.at.mono hW (Nat.le_refl _)) (ha.mono hW (Nat.le_refl _)) (two_zero.2 ⟨hS.base, hc, hS.len.trans hal.symm⟩))
  rw [hle] at K38
  have HV := hid hV
  have HA := hid ha
  have HE := hid hE
  have HS := hid hS
  have HBT := hid hbt
  have HPX := hid hpx
  have HAL := hid hal
  have HC := hid hc
  obtain ⟨aa, ac, rfl⟩ := ha.slice
  obtain ⟨nb', hnb'⟩ : ∃ nb', nb' = s.base.length := ⟨_, rfl⟩
  obtain ⟨na, hna⟩ : ∃ na, na = at_.length := ⟨_, rfl⟩
  rw [← hnb'] at p0 HPX K38
  rw [← hna] at K37 K38 HA ⊢
  clear hV ha hE hS hbt hpx hnb' hna hal hc hle
  go_enter Tryz.func100, Tryz.ntmps100
  go_wp2_with (first | (go_at_call 99; refine (K75 _).mono ?_; rintro e w' ⟨rfl, hw'⟩; rw [hw']; clear hw') | (go_at_call 93; refine K37.mono ?_; rintro e w' ⟨rfl, hw'⟩; rw [hw']; clear hw'))
  refine (K38.out w (Below.refl _ _)).mono ?_
  rintro e w3 ⟨rfl, q3, hq3⟩
  have B3 : Hid (Below w.heap.size w w3) := (show Below _ _ _ from by rw [hq3]; exact below_draws (Below.refl _ _) q3)
  have V3 := hid (HV.out.moved B3.out)
  have c1 : w3.cell? ⟨p, 1, none⟩ = some (.map (some mb)) := by obtain ⟨_, _, _, h, _⟩ := V3.out.boxAt; exact h
  obtain ⟨rows, hrow, hF⟩ := V3.out.rows key
  obtain ⟨fa, fc, hfe⟩ := row_shape hrow
  have hl3 := V3.out.row key hk6
  rw [hfe] at hrow hl3
  obtain ⟨L, hL⟩ : ∃ L, L = (rowOf s key).length := ⟨_, rfl⟩
  rw [← hL] at hrow hl3 hfew
  have HL := hid hL
  have HF := hid hF
  have HROW := hid hrow
  clear hq3 K37 K75 p0 p1 p2 hrow hF hL hfe
  go_wp2_with fail
  go_loopw [10, 39] (fun v i wr => ∃ (k : Nat) (rs : List (List Value)), k ≤ L ∧ i = .int .i64 k ∧ Hid (OwnsInv w3 (((rowOf s key).take k).filter fun c => leB c.when_ at_) v rs wr)) (fun _ i _ => L - (intOf i).toNat)
  case atStart => exact ⟨0, [], Nat.zero_le _, rfl, OwnsInv.start w3⟩
  case round =>
    obtain ⟨k, rs, hk, rfl, HI⟩ := hrel
    by_cases hlt : k < L
    · have hkl : k < (rowOf s key).length := by rw [← HL.out]; exact hlt
      have hrow' := HROW.out
      rw [HL.out] at hrow'
      obtain ⟨b, cap, wv, ov, hv, hct, q0, q1, q2⟩ := part_at hrow' HF.out hkl
      have hmem : (rowOf s key)[k]! ∈ rowOf s key := by rw [getElem!_pos _ k hkl]; exact List.getElem_mem _
      have hok := HS.out.ok _ (mem_rowOf hmem)
      have hwl := HS.out.when_ _ (mem_rowOf hmem)
      have hft := filter_take_succ hkl (fun c => leB c.when_ at_)
      obtain ⟨c, hce⟩ : ∃ c, c = (rowOf s key)[k]! := ⟨_, rfl⟩
      rw [← hce] at hct q1 hok hwl hft
      injection hv with ha1 _ ha3
      subst ha1
      subst ha3
      have hct3 := hct
      obtain ⟨wv', ov', he, hwT, hoT⟩ := hct
      injection he with e1 he
      injection he with _ he
      injection he with e2 _
      subst e1 e2
      have hwB : Below w.heap.size w wr := B3.out.trans (HI.out.below.mono B3.out.size)
      have up : ∀ {a : Addr} {v : Value}, w3.cell? a = some v → wr.cell? a = some v := fun {a v} h => by rw [HI.out.below.cell (lt_of_cell h)]; exact h
      have r0 := up q0
      have r1 := up q1
      have r2 := up q2
      have K := hid (fun W (hW : Below wr.heap.size wr W) => within_ok A W (HE.out.below (hwB.trans (hW.mono hwB.size)) h12) wv (.slice aa na ac) c.when_ at_ (hwT.at.mono (HI.out.below.trans (hW.mono HI.out.below.size)) (Nat.le_refl _)) (HA.out.mono (hwB.trans (hW.mono hwB.size)) (Nat.le_refl _)) (two_zero.2 ⟨hok.chk, HC.out, hwl.trans HAL.out.symm⟩))
      obtain ⟨⟨a1, c1', ex⟩, a2, c2, ey⟩ := hct3.shape
      subst ex ey
      obtain ⟨n1, hn1⟩ : ∃ n1, n1 = c.when_.length := ⟨_, rfl⟩
      obtain ⟨n2, hn2⟩ : ∃ n2, n2 = c.ops.length := ⟨_, rfl⟩
      obtain ⟨pl, hpl⟩ : ∃ pl, pl = c.place := ⟨_, rfl⟩
      rw [← hn1] at r0 K
      rw [← hn2] at r2
      rw [← hpl] at r1
      have hi1 : (k : Int) < (L : Int) := by omega
      obtain ⟨bb, hbb⟩ : ∃ bb, bb = leB c.when_ at_ := ⟨_, rfl⟩
      rw [← hbb] at K hft
      have HT := hid (hct3.kept (Keep3.of_below HI.out.below (Nat.le_refl _)))
      have HFT := hid hft
      have HPL := hid hpl
      have HN1 := hid hn1
      have HN2 := hid hn2
      clear q0 q1 q2 up hce hmem hok hwl hft hct3 hwT hoT hkl hrow' hn1 hn2 hpl hbb hwB
      obtain ⟨wq, hwq⟩ : ∃ wq, wq = wr.alloc (.cells #[.slice a1 n1 c1', .int .i64 pl, .slice a2 n2 c2] 47) := ⟨_, rfl⟩
      have hbq : Below wr.heap.size wr wq := by rw [hwq]; exact below_alloc _ _
      have xq : wq.heap[wr.heap.size]? = some (.cells #[.slice a1 n1 c1', .int .i64 pl, .slice a2 n2 c2] 47 (0, 0)) := by rw [hwq]; exact (MapKept.heap_alloc _ _).1
      go_wp2_with fail
      rw [← hwq]
      refine (K.out wq hbq).mono ?_
      rintro e wy ⟨rfl, qy, hqy⟩
      have hby : Below wr.heap.size wr wy := by rw [hqy]; exact below_draws hbq qy
      have xy : wy.heap[wr.heap.size]? = some (.cells #[.slice a1 n1 c1', .int .i64 pl, .slice a2 n2 c2] 47 (0, 0)) := by rw [hqy]; exact xq
      have I2 := hid (HI.out.moved hby)
      have HTy := hid (HT.out.kept (Keep3.of_below hby (Nat.le_refl _)))
      have y0 : wy.cell? ⟨wr.heap.size, 0, none⟩ = some (.slice a1 n1 c1') := by simp only [World.cell?, xy]; rfl
      have y1 : wy.cell? ⟨wr.heap.size, 1, none⟩ = some (.int .i64 pl) := by simp only [World.cell?, xy]; rfl
      have y2 : wy.cell? ⟨wr.heap.size, 2, none⟩ = some (.slice a2 n2 c2) := by simp only [World.cell?, xy]; rfl
      clear hqy hwq hbq xq xy hby r0 r1 r2 K
      cases bb with
      | false =>
        go_wp2_with fail
        refine ⟨⟨k + 1, rs, by omega, by go_num, ?_⟩, by simp [intOf]; omega⟩
        show OwnsInv _ _ _ _ _
        rw [HFT.out]
        simpa using I2.out
      | true =>
        have hrow := I2.out.row
        obtain ⟨m, hm⟩ : ∃ m, m = (((rowOf s key).take k).filter fun c => leB c.when_ at_).length := ⟨_, rfl⟩
        have hmk : m ≤ k := by rw [hm]; exact Nat.le_trans (List.length_filter_le _ _) (by rw [List.length_take]; omega)
        rw [← hm] at hrow
        have HM := hid hm
        obtain ⟨va, vc, hve⟩ := row_shape hrow
        rw [hve] at hrow I2 ⊢
        have hbs := I2.out.below.size
        clear hm hve
        go_wp2_with (at_builtin; refine wpList_append_own _ rfl _ _ 177 rfl w3.heap.size 47 i28 _ 3 56 Tryz.underlying177 hi28 hy0 hy1 hy2 rfl (by decide) _ _ _ rfl (hrow.alloc _) ⟨wy.heap.size, 0, none⟩ 1 1 [.slice a1 n1 c1', .int .i64 pl, .slice a2 n2 c2] rfl rfl (cells3_new _ _ _) ?ho1 ?ho2 ?ho3 ?ho4 ?_; (case ho1 => exact one3v _ _ _ _ _ _ _ _ _ rfl rfl); (case ho2 => unfold maxLen; omega); (case ho3 => omega); (case ho4 => simp; omega); intro v9 w9 hown9 hgr9 _; have G9 := hid hgr9; have O9 := hid hown9; clear hown9 hgr9)
        have hct9 : ComT wy [.slice a1 n1 c1', .int .i64 pl, .slice a2 n2 c2] c := by
          have := HTy.out
          rw [← HN1.out, ← HN2.out, ← HPL.out] at this
          exact this
        have HCT9 := hid hct9
        clear hct9
        refine ⟨⟨k + 1, rs ++ [[.slice a1 n1 c1', .int .i64 pl, .slice a2 n2 c2]], by omega, by go_num, ?_⟩, by simp [intOf]; omega⟩
        · skip
          show OwnsInv _ _ _ _ _
          rw [HFT.out, if_pos trivial]
          exact (I2.out.moved (below_alloc _ _)).step (HCT9.out.kept (Keep3.of_below (below_alloc _ _) (Nat.le_refl _))) G9.out (by rw [← HM.out]; exact O9.out)
    · obtain rfl : k = L := by omega
      have hI := HI.out
      rw [List.take_of_length_le (by rw [HL.out]; exact Nat.le_refl _)] at hI
      have H := hid (show ComsAt wr u10 (seenL s key at_) from coms_of_owns hI.row rfl hI.coms)
      have HB := hid (B3.out.trans (hI.below.mono B3.out.size))
      clear hI HI
      go_wp2
      go_ret2
      exact ⟨_, rfl, H.out, HB.out⟩
end Go.Proofs.YtepnghacjggkkaaGreatDoor
namespace Go.Proofs.YtepnghacjggkkaaGreatDoor
open Go.RowKit Go.Sort Go.Maps
set_option maxRecDepth 100000
set_option linter.unusedSectionVars false
variable [Inhabited ComV] [DecidableEq D3] [Inhabited D3] [Inhabited Dd] [Inhabited Dn] [Inhabited OpV]

theorem seenL_mem {s : St} {key : ByteArray} {at_ : List Int} {c : ComV} (h : c ∈ seenL s key at_) : c ∈ s.parts := mem_rowOf (List.mem_filter.1 h).1
theorem seenL_len (s : St) (key : ByteArray) (at_ : List Int) : (seenL s key at_).length ≤ (rowOf s key).length := List.length_filter_le _ _
theorem ret_cell_tmp {f : Func} {s t k s2 : Nat} (hf : f.results = #[ResultVar.cell s t, ResultVar.tmp s2]) (hag : ∀ w, (isAgg t).run Tryz.prog w = .ok true w) (hsz : ∀ w, (sizeOf t).run Tryz.prog w = .ok k w) (w : World) (tmps : Array Value) (g : Nat) (vs : List Value) (v2 : Value) (hk : vs.length = k) (h4 : tmps[s]?.getD undef = .pointer (some ⟨g, 0, none⟩)) (h5 : tmps[s2]?.getD undef = v2) (hc : ∀ j (hj : j < vs.length), w.cell? ⟨g, j, none⟩ = some vs[j]) :
    (results f tmps).run Tryz.prog w = .ok (.tuple #[.agg vs.toArray, v2]) w := by
  have hl := run_loadCellsFrom_list Tryz.prog w ⟨g, 0, none⟩ vs k hk (fun j v hj => by
    obtain ⟨h1, h2⟩ := List.getElem?_eq_some_iff.1 hj
    rw [Addr.add_lit, Nat.zero_add, hc j h1, h2])
  simp [results, hf, h4, h5, asAddr, loadVar, loadCells, hag, hsz, hl, Result.andThen]
theorem strs_keep {w w' : World} {v : Value} {ss : List (List UInt8)} (h : StrsAt w v ss) (hk : ∀ b, (∃ x, w.cell? ⟨b, 0, none⟩ = some (.string x)) → ∀ t, w'.cell? ⟨b, t, none⟩ = w.cell? ⟨b, t, none⟩) : StrsAt w' v ss := by
  obtain ⟨ad, cap, rfl, h⟩ := h
  refine ⟨ad, cap, rfl, ?_⟩
  rcases h with h | ⟨b, rfl, h⟩
  · exact .inl h
  · by_cases h0 : ss.length = 0
    · exact .inl (List.eq_nil_of_length_eq_zero h0)
    · exact .inr ⟨b, rfl, fun t ht => by rw [hk b ⟨_, h 0 (by omega)⟩ t]; exact h t ht⟩
set_option maxHeartbeats 2000000 in
theorem read_ok (A : Nat → Addr) (w : World) (hE : E4 A w) (h12 : 12 ≤ w.heap.size) (p mb db n nb : Nat) (f : ByteArray → Value) (s : St) (hV : VerAt w p mb db f s n) (hS : StOk s nb) (key : ByteArray) (hk : nameB key = true) (hk6 : key.size ≤ 1000000) (av : Value) (at_ : List Int) (ha : IntsAt w av at_) (hc : chk at_ = 0) (hal : at_.length = nb) (hle : leB s.base at_ = true) (hfew : (rowOf s key).length ≤ 1000) :
    Calls Tryz.prog 79 #[.pointer (some ⟨p, 0, none⟩), .string key, av] w fun e w' => OfRet key (seenL s key at_) w e w' := by
  have hlen := seenL_len s key at_
  have K47 := hid (fun W (hW : Below w.heap.size w W) v (hv : ComsAt W v (seenL s key at_)) => of_ok A W (hE.below hW h12) (by have := hW.size; omega) key hk v (seenL s key at_) hv (by omega) (fun c hc => hS.small c (seenL_mem hc)) (listOk_of (n := nb) (fun c hc => hS.ok c (seenL_mem hc)) (fun c hc => hS.when_ c (seenL_mem hc))))
  obtain ⟨w0, hw0⟩ : ∃ w0, w0 = w.alloc (.cells #[.int .i64 0, .string ⟨#[]⟩, .int .i64 0, .slice none 0 0] 41) := ⟨_, rfl⟩
  have hb0 : Below w.heap.size w w0 := by rw [hw0]; exact below_alloc _ _
  have K46 := hid (seen_ok A w0 (hE.below hb0 h12) (by have := hb0.size; omega) p mb db n nb f s (hV.moved hb0) hS key hk hk6 av at_ (ha.mono hb0 (Nat.le_refl _)) hc hal hle hfew)
  obtain ⟨aa, ac, rfl⟩ := ha.slice
  clear hV hS ha hE hk hc hal hle hfew hlen
  go_enter Tryz.func79, Tryz.ntmps79
  go_wp2_with fail
  rw [← hw0]
  refine K46.out.mono ?_
  rintro e w1 ⟨v1, rfl, hc1, hb1⟩
  have B1 := hid (hb0.trans (hb1.mono hb0.size))
  have C1 := hid hc1
  obtain ⟨a1, k1, hv1, _⟩ := hc1.shape
  subst hv1
  have x1 : w1.heap[w.heap.size]? = some (.cells #[.int .i64 0, .string ⟨#[]⟩, .int .i64 0, .slice none 0 0] 41 (0, 0)) := by
    rw [hb1.block _ (by rw [hw0]; simp), hw0]; exact (MapKept.heap_alloc _ _).1
  have X1 := hid x1
  clear hc1 hb1 hw0 x1 K46
  go_wp2_with fail
  refine (K47.out w1 B1.out _ C1.out).mono ?_
  rintro e w2 ⟨v2, ds, rfl, hi2, hva, hb2⟩
  obtain ⟨sv, hve, hst⟩ := hva
  subst hve
  have HST := hid hst
  obtain ⟨sa, sc, hsv⟩ : ∃ sa sc, sv = .slice sa (valA ds).set.length sc := by obtain ⟨sa, sc, hsv, _⟩ := hst; exact ⟨sa, sc, hsv⟩
  subst hsv
  have x2 : w2.heap[w.heap.size]? = some (.cells #[.int .i64 0, .string ⟨#[]⟩, .int .i64 0, .slice none 0 0] 41 (0, 0)) := (hb2.block _ (Array.getElem?_eq_some_iff.1 X1.out).1).trans X1.out
  have X2 := hid x2
  have R4 := hid (row4 x2)
  have B2 := hid (B1.out.trans (hb2.mono B1.out.size))
  have I2 := hid hi2
  obtain ⟨x, hx⟩ : ∃ x, x = valA ds := ⟨_, rfl⟩
  rw [← hx] at HST ⊢
  have HX := hid hx
  obtain ⟨xk, xt, xn, xs⟩ := x
  obtain ⟨m, hm⟩ : ∃ m, m = xs.length := ⟨_, rfl⟩
  simp only at HST ⊢
  rw [← hm] at HST ⊢
  have S4 := hid (set4 x2 [.int .i64 xk, .string xt, .int .i64 xn, .slice sa m sc] rfl)
  clear hst hb2 x2 hi2 hx hm K47
  go_wp2_with (refine wpList_store_k _ rfl (.tmp 6) (.tmp 24) 41 rfl w.heap.size 0 [.int .i64 xk, .string xt, .int .i64 xn, .slice sa m sc] rfl rfl 4 rfl Tryz.sizeOf41 rfl _ ?hW R4.out.1 R4.out.2 ?_; case hW => rfl)
  refine bodyPost_ret (ret_cell_tmp (k := 4) Tryz.results79 Tryz.isAgg41 Tryz.sizeOf41 _ _ w.heap.size [.int .i64 xk, .string xt, .int .i64 xn, .slice sa m sc] _ rfl rfl rfl S4.out) rfl ⟨_, ds, rfl, I2.out, ?_, below_setCells (Nat.le_refl _) _ _ B2.out⟩
  rw [← HX.out]
  refine ⟨_, rfl, strs_keep HST.out fun b hb t => ?_⟩
  have hne : b ≠ w.heap.size := fun e => by
    obtain ⟨y, hy⟩ := hb
    rw [e] at hy
    simp only [World.cell?, X2.out] at hy
    cases hy
  exact World.cell?_setCells_out _ _ _ _ _ (fun e _ => absurd e hne)
end Go.Proofs.YtepnghacjggkkaaGreatDoor
namespace Go.Proofs.YtepnghacjggkkaaGreatDoor
open Go.RowKit
set_option maxRecDepth 100000
set_option linter.unusedSectionVars false
variable [Inhabited ComV] [DecidableEq D3] [Inhabited D3] [Inhabited Dd] [Inhabited Dn] [Inhabited OpV]

theorem isPlace_yes (p : Int) (w : World) (h0 : 0 ≤ p) (h6 : p < 6) : Calls Tryz.prog 90 #[.int .i64 p] w fun e w' => e = .returned (.bool true) ∧ w' = w := by
  go_enter Tryz.func90, Tryz.ntmps90
  go_wp2
  go_ret
  exact ⟨rfl, rfl⟩
theorem isTime_yes (t : Int) (w : World) (h0 : 0 ≤ t) (h6 : t ≤ 1099511627776) : Calls Tryz.prog 45 #[.int .i64 t] w fun e w' => e = .returned (.bool true) ∧ w' = w := by
  go_enter Tryz.func45, Tryz.ntmps45
  go_wp2
  go_ret
  exact ⟨rfl, rfl⟩
structure WayOk (f t s : Int) : Prop where
  f0 : 0 ≤ f
  f6 : f < 6
  t0 : 0 ≤ t
  t6 : t < 6
  s0 : 0 ≤ s
  s6 : s < 6
  ne : f ≠ t
set_option maxHeartbeats 1000000 in
theorem newWay_ok (f t s : Int) (w : World) (h : WayOk f t s) : Calls Tryz.prog 60 #[.int .i64 f, .int .i64 t, .int .i64 s] w fun e w' => e = .returned (.tuple #[.agg #[.int .i64 f, .int .i64 t, .int .i64 s], .nilIface]) ∧ Below w.heap.size w w' := by
  obtain ⟨f0, f6, t0, t6, s0, s6, ne⟩ := h
  have hb : (f == t) = false := beq_eq_false_iff_ne.2 ne
  have s0' : ¬ s < 0 := by omega
  have s6' : ¬ 6 ≤ s := by omega
  clear ne
  go_enter Tryz.func60, Tryz.ntmps60
  go_wp2_with (go_at_call 90; refine (isPlace_yes _ _ (by assumption) (by assumption)).mono ?_; rintro e w' ⟨rfl, rfl⟩)
  refine bodyPost_ret (ret_cell_tmp (k := 3) Tryz.results60 Tryz.isAgg109 Tryz.sizeOf109 _ _ w.heap.size [.int .i64 f, .int .i64 t, .int .i64 s] _ rfl rfl rfl (cells_heap (t := 109) _ (heap_new _ _))) rfl ⟨rfl, below_alloc _ _⟩
def SndBox (w : World) (g : Nat) (f t s seq time : Int) (v : Value) : Prop := w.heap[g]? = some (.cells #[.int .i64 f, .int .i64 t, .int .i64 s, .int .i64 seq, .int .i64 time, v] 111 (0, 0))
set_option maxHeartbeats 1000000 in
theorem newSender_ok (f t s : Int) (w : World) (h : WayOk f t s) : Calls Tryz.prog 38 #[.int .i64 f, .int .i64 t, .int .i64 s] w fun e w' => ∃ g, w.heap.size ≤ g ∧ e = .returned (.tuple #[.pointer (some ⟨g, 0, none⟩), .nilIface]) ∧ SndBox w' g f t s 0 0 (.slice none 0 0) ∧ Below w.heap.size w w' := by
  have K := hid (newWay_ok f t s w h)
  clear h
  go_enter Tryz.func38, Tryz.ntmps38
  go_wp2_with fail
  refine K.out.mono ?_
  rintro e w1 ⟨rfl, hb1⟩
  have B1 := hid hb1
  clear hb1
  go_wp2
  go_ret2
  refine ⟨w1.heap.size + 1, ?_, rfl, heap_new2 _ _ _, ?_⟩
  · have := B1.out.size; omega
  · exact ((B1.out.alloc B1.out.size _).alloc (by have := B1.out.size; simp; omega) _)
end Go.Proofs.YtepnghacjggkkaaGreatDoor
namespace Go.Proofs.YtepnghacjggkkaaGreatDoor
open Go.RowKit Go.Maps
set_option maxRecDepth 100000
set_option linter.unusedSectionVars false
variable [Inhabited ComV] [DecidableEq D3] [Inhabited D3] [Inhabited Dd] [Inhabited Dn] [Inhabited OpV]

def elemV : Value → Option (DataW Value × List MemPlace) := fun v => some (.held v, [])
def n64 (k : Int) : Prop := -9223372036854775808 ≤ k ∧ k ≤ 9223372036854775807
theorem n64_wf {k : Int} (h : n64 k) : (Lit.int .i64 k).wf = true := by
  obtain ⟨h1, h2⟩ := h
  have e1 : IntKind.i64.min = -9223372036854775808 := rfl
  have e2 : IntKind.i64.max = 9223372036854775807 := rfl
  simp [Lit.wf, e1, e2]
  omega
theorem key_64 {k : Int} (h : n64 k) : keyOf Tryz.prog 3 (.int .i64 k) = some (.int .i64 k) := keyOf_int_mk Tryz.underlying3 (n64_wf h)
def MapV (D : DataW Value) (M : Int → Option Raw) : Prop := ∀ k, n64 k → Maps.has D (.int .i64 k) = (M k).isSome ∧ ∀ z, D.atKey (.int .i64 k) z = ((M k).map fun r => .held (.agg r.cells.toArray)).getD z
def updV (M : Int → Option Raw) (k : Int) (x : Option Raw) : Int → Option Raw := fun j => if j = k then x else M j
theorem MapV.start : MapV (.map []) fun _ => none := fun _ _ => ⟨rfl, fun _ => rfl⟩
theorem MapV.put {D : DataW Value} {M : Int → Option Raw} (h : MapV D M) (hD : IsMap D) (k : Int) (r : Raw) : MapV (D.put (.int .i64 k) (.held (.agg r.cells.toArray))) (updV M k (some r)) := fun j hj => by
  unfold updV
  by_cases q : j = k
  · subst q
    rw [if_pos rfl, has_put_same hD (key_lit _)]
    exact ⟨rfl, fun z => atKey_put_same hD (key_lit _) _ z⟩
  · rw [if_neg q, has_put_other (fun x => q (lit_inj x))]
    exact ⟨(h j hj).1, fun z => by rw [atKey_put_other (fun x => q (lit_inj x))]; exact (h j hj).2 z⟩
theorem MapV.del {D : DataW Value} {M : Int → Option Raw} (h : MapV D M) (k : Int) : MapV (D.del (.int .i64 k)) (updV M k none) := fun j hj => by
  unfold updV
  by_cases q : j = k
  · subst q
    rw [if_pos rfl, has_del_same]
    exact ⟨rfl, fun z => atKey_del_same z⟩
  · rw [if_neg q, has_del_other (fun x => q (lit_inj x))]
    exact ⟨(h j hj).1, fun z => by rw [atKey_del_other (fun x => q (lit_inj x))]; exact (h j hj).2 z⟩
structure RcvM (w : World) (g mb n : Nat) (f t s seq time : Int) (M : Int → Option Raw) : Prop where
  box : w.heap[g]? = some (.cells #[.int .i64 f, .int .i64 t, .int .i64 s, .int .i64 seq, .int .i64 time, .map (some mb)] 138 (0, 0))
  map : ∃ D : DataW Value, w.ownsMap Tryz.prog 3 elemV mb n D ∧ MapV D M
theorem RcvM.mlt {w : World} {g mb n : Nat} {f t s seq time : Int} {M : Int → Option Raw} (h : RcvM w g mb n f t s seq time M) : mb < w.heap.size := by obtain ⟨D, hm, _⟩ := h.map; exact hm.lt
theorem RcvM.moved {w u : World} {g mb n : Nat} {f t s seq time : Int} {M : Int → Option Raw} (h : RcvM w g mb n f t s seq time M) (hg : u.heap[g]? = w.heap[g]?) (hm : u.heap[mb]? = w.heap[mb]?) : RcvM u g mb n f t s seq time M := by
  obtain ⟨D, ⟨es, clock, hb, r⟩, hM⟩ := h.map
  exact ⟨hg.trans h.box, D, ⟨es, clock, hm.trans hb, r⟩, hM⟩
theorem RcvM.below {w u : World} {g mb n : Nat} {f t s seq time : Int} {M : Int → Option Raw} (h : RcvM w g mb n f t s seq time M) (hb : Below w.heap.size w u) : RcvM u g mb n f t s seq time M := h.moved (hb.block _ (lt_of_heap h.box)) (hb.block _ h.mlt)
theorem look_raw {wr : World} {mb n : Nat} {D : DataW Value} {M : Int → Option Raw} (hm : wr.ownsMap Tryz.prog 3 elemV mb n D) (hM : MapV D M) {k : Int} (hk : n64 k) {r : Raw} (hs : M k = some r) (u : World) (hu : u.heap[mb]? = wr.heap[mb]?) :
    (Instr.lookup 136 (.map (some mb)) (.int .i64 k) true).run Tryz.prog u = .ok (.tuple #[.agg r.cells.toArray, .bool true]) u := by
  have hm' : u.ownsMap Tryz.prog 3 elemV mb n D := by
    obtain ⟨es, clock, hb, r⟩ := hm
    exact ⟨es, clock, by rw [hu]; exact hb, r⟩
  obtain ⟨v, ps, hrun, hv⟩ := hm'.look_ok keyed3 Tryz.underlying136 (zero37 _) (zd := .held (.agg #[.int .i64 0, .int .i64 0, .int .i64 0, .int .i64 0, .int .i64 0, .bool false, .slice none 0 0, .int .i64 0, .slice none 0 0])) (zp := []) rfl (key_64 hk)
  have h2 := (hM k hk).2 (.held (.agg #[.int .i64 0, .int .i64 0, .int .i64 0, .int .i64 0, .int .i64 0, .bool false, .slice none 0 0, .int .i64 0, .slice none 0 0]))
  rw [hs] at h2
  unfold elemV at hv
  have h3 := (congrArg Prod.fst (Option.some.inj hv)).trans h2
  injection h3 with h3
  rw [hrun, (hM k hk).1, hs, h3]
  rfl
theorem look_raw_none {wr : World} {mb n : Nat} {D : DataW Value} {M : Int → Option Raw} (hm : wr.ownsMap Tryz.prog 3 elemV mb n D) (hM : MapV D M) {k : Int} (hk : n64 k) (hs : M k = none) (u : World) (hu : u.heap[mb]? = wr.heap[mb]?) :
    (Instr.lookup 136 (.map (some mb)) (.int .i64 k) true).run Tryz.prog u = .ok (.tuple #[.agg #[.int .i64 0, .int .i64 0, .int .i64 0, .int .i64 0, .int .i64 0, .bool false, .slice none 0 0, .int .i64 0, .slice none 0 0], .bool false]) u := by
  have hm' : u.ownsMap Tryz.prog 3 elemV mb n D := by
    obtain ⟨es, clock, hb, r⟩ := hm
    exact ⟨es, clock, by rw [hu]; exact hb, r⟩
  obtain ⟨v, ps, hrun, hv⟩ := hm'.look_ok keyed3 Tryz.underlying136 (zero37 _) (zd := .held (.agg #[.int .i64 0, .int .i64 0, .int .i64 0, .int .i64 0, .int .i64 0, .bool false, .slice none 0 0, .int .i64 0, .slice none 0 0])) (zp := []) rfl (key_64 hk)
  have h2 := (hM k hk).2 (.held (.agg #[.int .i64 0, .int .i64 0, .int .i64 0, .int .i64 0, .int .i64 0, .bool false, .slice none 0 0, .int .i64 0, .slice none 0 0]))
  rw [hs] at h2
  unfold elemV at hv
  have h3 := (congrArg Prod.fst (Option.some.inj hv)).trans h2
  injection h3 with h3
  rw [hrun, (hM k hk).1, hs, h3]
  rfl
set_option maxHeartbeats 1000000 in
theorem newReceiver_raw (f t s : Int) (w : World) (h : WayOk f t s) : Calls Tryz.prog 39 #[.int .i64 f, .int .i64 t, .int .i64 s] w fun e w' => ∃ g mb, w.heap.size ≤ g ∧ w.heap.size ≤ mb ∧ g ≠ mb ∧ e = .returned (.tuple #[.pointer (some ⟨g, 0, none⟩), .nilIface]) ∧ RcvM w' g mb 0 f t s 0 0 (fun _ => none) ∧ Below w.heap.size w w' := by
  have K := hid (newWay_ok f t s w h)
  clear h
  have hmm := @run_makeMap Tryz.prog
  go_enter Tryz.func39, Tryz.ntmps39
  go_wp2_with fail
  refine K.out.mono ?_
  rintro e w1 ⟨rfl, hb1⟩
  have B1 := hid hb1
  clear hb1
  go_wp2
  go_ret2
  have hs := B1.out.size
  refine ⟨w1.heap.size + 1 + 1, w1.heap.size + 1, by omega, by omega, by omega, rfl, ⟨?_, .map [], ?_, MapV.start⟩, ?_⟩
  · have := heap_new ((w1.alloc (.cells #[.int .i64 f, .int .i64 t, .int .i64 s] 109)).alloc (.map #[] 0)) (.cells #[.int .i64 f, .int .i64 t, .int .i64 s, .int .i64 0, .int .i64 0, .map (some (w1.heap.size + 1))] 138)
    rwa [World.size_alloc, World.size_alloc] at this
  · have := (World.ownsMap_made (w1.alloc (.cells #[.int .i64 f, .int .i64 t, .int .i64 s] 109)) Tryz.prog 3 elemV).alloc (.cells #[.int .i64 f, .int .i64 t, .int .i64 s, .int .i64 0, .int .i64 0, .map (some (w1.heap.size + 1))] 138)
    rwa [World.size_alloc] at this
  · exact ((B1.out.alloc B1.out.size _).alloc (by simp; omega) _).alloc (by simp; omega) _
theorem rtime_raw (w : World) (g mb n : Nat) (f t s seq time : Int) (M : Int → Option Raw) (h : RcvM w g mb n f t s seq time M) : Calls Tryz.prog 68 #[.pointer (some ⟨g, 0, none⟩)] w fun e w' => e = .returned (.int .i64 time) ∧ w' = w := by
  have c3 : w.cell? ⟨g, 4, none⟩ = some (.int .i64 time) := (cell_of h.box).trans rfl
  clear h
  go_enter Tryz.func68, Tryz.ntmps68
  go_wp2
  go_ret
  exact ⟨rfl, rfl⟩
def bearsB (f t s : Int) (r : Raw) : Bool := decide (r.x1 = f) && (decide (r.x2 = t) && decide (r.x3 = s))
set_option maxHeartbeats 1000000 in
theorem bears_raw (w : World) (f t s : Int) (r : Raw) : Calls Tryz.prog 63 #[.agg #[.int .i64 f, .int .i64 t, .int .i64 s], .agg r.cells.toArray] w fun e w' => e = .returned (.bool (bearsB f t s r)) ∧ Below w.heap.size w w' := by
  obtain ⟨x1, x2, x3, x4, x5, x6, a1, n1, c1, p, a2, n2, c2⟩ := r
  unfold Raw.cells bearsB
  simp only
  by_cases h1 : x1 = f
  · subst h1
    by_cases h2 : x2 = t
    · subst h2
      by_cases h3 : x3 = s
      · subst h3
        go_enter Tryz.func63, Tryz.ntmps63
        go_wp2
        go_ret
        exact ⟨ret_bool (by simp), below2S _ _ _⟩
      · have h3b : (x3 == s) = false := beq_eq_false_iff_ne.2 h3
        have h3d : decide (x3 = s) = false := decide_eq_false h3
        clear h3
        go_enter Tryz.func63, Tryz.ntmps63
        go_wp2
        go_ret
        exact ⟨ret_bool (by simp [h3d]), below2S _ _ _⟩
    · have h3b : (x2 == t) = false := beq_eq_false_iff_ne.2 h2
      have h3d : decide (x2 = t) = false := decide_eq_false h2
      clear h2
      go_enter Tryz.func63, Tryz.ntmps63
      go_wp2
      go_ret
      exact ⟨ret_bool (by simp [h3d]), below2S _ _ _⟩
  · have h3b : (x1 == f) = false := beq_eq_false_iff_ne.2 h1
    have h3d : decide (x1 = f) = false := decide_eq_false h1
    clear h1
    go_enter Tryz.func63, Tryz.ntmps63
    go_wp2
    go_ret
    exact ⟨ret_bool (by simp [h3d]), below2S _ _ _⟩
def timeB (t : Int) : Bool := decide (0 ≤ t) && decide (t ≤ 1099511627776)
theorem isTime_any (t : Int) (w : World) : Calls Tryz.prog 45 #[.int .i64 t] w fun e w' => e = .returned (.bool (timeB t)) ∧ w' = w := by
  unfold timeB
  by_cases h0 : 0 ≤ t
  · by_cases h1 : t ≤ 1099511627776
    · go_enter Tryz.func45, Tryz.ntmps45
      go_wp2
      go_ret
      exact ⟨ret_bool (by simp [h0, h1]), rfl⟩
    · go_enter Tryz.func45, Tryz.ntmps45
      go_wp2
      go_ret
      exact ⟨ret_bool (by simp [h1]), rfl⟩
  · go_enter Tryz.func45, Tryz.ntmps45
    go_wp2
    go_ret
    exact ⟨ret_bool (by simp; intro; omega), rfl⟩
set_option maxHeartbeats 1000000 in
theorem knows_raw (w : World) (g mb n : Nat) (f t s seq time k : Int) (M : Int → Option Raw) (h : RcvM w g mb n f t s seq time M) (hk : n64 k) : Calls Tryz.prog 64 #[.pointer (some ⟨g, 0, none⟩), .int .i64 k] w fun e w' => e = .returned (.bool ((M k).isSome || decide (k ≤ seq))) ∧ Below w.heap.size w w' := by
  have c3 : w.cell? ⟨g, 3, none⟩ = some (.int .i64 seq) := (cell_of h.box).trans rfl
  have c5 : w.cell? ⟨g, 5, none⟩ = some (.map (some mb)) := (cell_of h.box).trans rfl
  obtain ⟨D, hm, hM⟩ := h.map
  have hca := fun o => cell_alloc c3 o
  cases hM' : M k with
  | none =>
    have hrun := look_raw_none hm hM hk hM' w rfl
    clear h hm hM hM'
    go_enter Tryz.func64, Tryz.ntmps64
    go_wp2
    go_ret
    exact ⟨ret_bool (by simp), below_alloc _ _⟩
  | some r =>
    have hrun := look_raw hm hM hk hM' w rfl
    obtain ⟨x1, x2, x3, x4, x5, x6, a1, n1, c1, p, a2, n2, c2⟩ := r
    unfold Raw.cells at hrun
    simp only at hrun
    clear h hm hM hM'
    go_enter Tryz.func64, Tryz.ntmps64
    go_wp2
    go_ret
    exact ⟨rfl, below_alloc _ _⟩
end Go.Proofs.YtepnghacjggkkaaGreatDoor
namespace Go.Proofs.YtepnghacjggkkaaGreatDoor
open Go.RowKit Go.Maps
set_option maxRecDepth 100000
set_option linter.unusedSectionVars false
variable [Inhabited ComV] [DecidableEq D3] [Inhabited D3] [Inhabited Dd] [Inhabited Dn] [Inhabited OpV]

theorem wrap_num {k : Int} (h : num k) : IntKind.i64.wrap k = k := by
  obtain ⟨h1, h2⟩ := h
  simp [IntKind.wrap, IntKind.bits, IntKind.signed]
  omega
theorem joined {p q : Prop} (h : p → q) (hp : p) : q := h hp
def lastT (time : Int) (ts : Nat → Int) : Nat → Int
  | 0 => time
  | c + 1 => ts c
structure OnlyR (g m : Nat) (w w' : World) : Prop where
  os : w'.os = w.os
  tape : w'.tape = w.tape
  output : w'.output = w.output
  size : w.heap.size ≤ w'.heap.size
  block : ∀ k, k < w.heap.size → k ≠ g → k ≠ m → w'.heap[k]? = w.heap[k]?
theorem OnlyR.refl (g m : Nat) (w : World) : OnlyR g m w w := ⟨rfl, rfl, rfl, Nat.le_refl _, fun _ _ _ _ => rfl⟩
theorem OnlyR.below {g m : Nat} {w w1 w2 : World} (h : OnlyR g m w w1) (hb : Below w1.heap.size w1 w2) : OnlyR g m w w2 := ⟨hb.os.trans h.os, hb.tape.trans h.tape, hb.output.trans h.output, Nat.le_trans h.size hb.size, fun k h1 h2 h3 => by rw [hb.block k (Nat.lt_of_lt_of_le h1 h.size)]; exact h.block k h1 h2 h3⟩
def lenV : Value → Nat
  | .slice _ n _ => n
  | _ => 0
end Go.Proofs.YtepnghacjggkkaaGreatDoor
namespace Go.Proofs.YtepnghacjggkkaaGreatDoor
open Go.RowKit
set_option maxRecDepth 100000
set_option linter.unusedSectionVars false
variable [Inhabited ComV] [DecidableEq D3] [Inhabited D3] [Inhabited Dd] [Inhabited Dn] [Inhabited OpV]

theorem Tryz.info74 : (Tryz.prog.info? 74).map (fun i => (i.zero, i.size, i.bytes)) = some (some (.agg #[.int .i64 0, .int .i64 0, .int .i64 0, .int .i64 0, .int .i64 0, .bool false, .slice none 0 0, .int .i64 0, .slice none 0 0]), 9, 104) := by kernel_rfl
structure OnlyS (g : Nat) (v : Value) (w w' : World) : Prop where
  os : w'.os = w.os
  tape : w'.tape = w.tape
  output : w'.output = w.output
  size : w.heap.size ≤ w'.heap.size
  block : ∀ k, k < w.heap.size → k ≠ g → v.ownBlock ≠ some k → w'.heap[k]? = w.heap[k]?
theorem OnlyS.then {g : Nat} {v : Value} {w w1 w2 : World} (h : OnlyS g v w w1) (k : Below w1.heap.size w1 w2) : OnlyS g v w w2 :=
  ⟨k.os.trans h.os, k.tape.trans h.tape, k.output.trans h.output, Nat.le_trans h.size k.size, fun i hi hg hv => (k.block i (by have := h.size; omega)).trans (h.block i hi hg hv)⟩
end Go.Proofs.YtepnghacjggkkaaGreatDoor
