/- once by its contract, where nothing is wrong; From a row that the call owns to a row that is sorted and cut; the order of ops; opsOn by its contract, where nothing is wrong; What standing makes of ops: plain mathematics, and the walk's relation; standing by its contract. -/
import Derived.Test.YtdnebclemngdcaaGreatDoorJVOnceM
import Derived.Deep.RegionHeld
import Derived.Laws.MakeOwn
namespace Go.Proofs.YtdnebclemngdcaaGreatDoor
open Go.RowKit Go.Maps
set_option maxRecDepth 100000
set_option linter.unusedSectionVars false
variable [Inhabited ComV] [DecidableEq D3] [Inhabited D3] [Inhabited Dd] [Inhabited Dn] [Inhabited OpV]

structure ComOk (c : ComV) : Prop where
  chk : chk c.when_ = 0
  lo : 0 ≤ c.place
  hi : c.place < c.when_.length
  time : c.when_.getD c.place.toNat 0 ≠ 0
  few : c.ops.length ≤ 12
  some_ : c.ops ≠ []
  ops : ∀ i, i < c.ops.length → opBad c.when_.length c.ops i = 0
theorem comOk_of {c : ComV} (h : (comErr c).1 = 0) : ComOk c := by
  unfold comErr at h
  split at h
  · rename_i hc
    rcases chk_cases c.when_ with e | e | e
    · exact absurd e hc
    · rw [e] at h; exact absurd h (by decide)
    · rw [e] at h; exact absurd h (by decide)
  · rename_i hc
    split at h
    · exact absurd h (by decide)
    · rename_i hb
      split at h
      · exact absurd h (by decide)
      · rename_i h0
        exact ⟨by simpa using hc, by omega, by omega, fun e => hb (.inr (.inr (.inl e))), by omega, h0, scan_zero h⟩
theorem opErr_of_bad {n : Int} {os : List OpV} {i : Nat} (h : opBad n os i = 0) : opErr os[i]! n = 0 := by
  unfold opBad at h
  split at h
  · rename_i e; exact absurd h e
  · rename_i e; simpa using e
theorem at_of_opErr {o : OpV} {n : Int} (h : opErr o n = 0) : 0 ≤ o.at_ ∧ o.at_ < 12 := by
  unfold opErr at h
  split at h
  · exact absurd h (by decide)
  · rename_i e; omega
theorem wf_i64 {n : Int} (h1 : 0 ≤ n) (h2 : n ≤ 1099511627776) : (Lit.int .i64 n).wf = true := WalkArith.wf_i64 (by omega)
theorem Tryz.info131 : (Tryz.prog.info? 131).map (fun i => (i.zero, i.size, i.bytes)) = some (some (.agg #[.int .i64 0, .string ByteArray.empty, .int .i64 0, .string ByteArray.empty, .int .i64 0, .bool false, .slice none 0 0, .int .i64 0, .int .i64 0, .int .i64 0, .int .i64 0]), 11, 120) := by kernel_rfl
theorem zero136 (w : World) : (zeroValue 84).run Tryz.prog w = .ok (.agg #[]) w := by kernel_rfl

theorem cell_g {w w1 : World} {o : Obj} {mb : Nat} {a : Addr} {v : Value} (hg : (w.alloc o).grownBy w1 (some mb)) (h : w.cell? a = some v) (hne : a.block ≠ mb) : w1.cell? a = some v :=
  hg.cell (cell_alloc h o) (fun e => hne (Option.some.inj e))
theorem row_ne {w : World} {base : Nat} {e : TypeId} {size : Nat} {v : Value} {n : Nat} {xs : List Value} (h : w.ownsRow base e size v n xs) {b : Nat} (hb : b < base) : some b ≠ v.ownBlock := fun e1 => by
  have := (h.lt b e1.symm).1; omega
theorem cells11_new (w : World) (cs : List Value) (t : TypeId) (n : Nat) (hn : n = w.heap.size) : ∀ j u, cs[j]? = some u → (w.alloc (.cells cs.toArray t)).cell? ((⟨n, 0, none⟩ : Addr).add j) = some u := by
  intro j u hj; rw [Addr.add_lit, Nat.zero_add, World.cell?_alloc_at _ _ _ _ hn]
  simpa using hj
theorem once_size {n : Nat} {wz w1 : World} {o o2 : Obj} {r : Option Nat} (h : (wz.alloc o).grownBy w1 r) (hs : n + 1 ≤ wz.heap.size) : n + 1 ≤ (w1.alloc o2).heap.size := by
  have := h.size; simp at this ⊢; omega
theorem cells7 (w : World) (x1 : Int) (x2 : ByteArray) (x3 : Int) (x4 : ByteArray) (x5 : Int) (x6 : Bool) (x7 : Value) (t : TypeId) : (w.alloc (.cells #[.int .i64 x1, .string x2, .int .i64 x3, .string x4, .int .i64 x5, .bool x6, x7] t)).cell? ⟨w.heap.size, 0, none⟩ = some (.int .i64 x1) ∧
    (w.alloc (.cells #[.int .i64 x1, .string x2, .int .i64 x3, .string x4, .int .i64 x5, .bool x6, x7] t)).cell? ⟨w.heap.size, 1, none⟩ = some (.string x2) ∧ (w.alloc (.cells #[.int .i64 x1, .string x2, .int .i64 x3, .string x4, .int .i64 x5, .bool x6, x7] t)).cell? ⟨w.heap.size, 2, none⟩ = some (.int .i64 x3) ∧
    (w.alloc (.cells #[.int .i64 x1, .string x2, .int .i64 x3, .string x4, .int .i64 x5, .bool x6, x7] t)).cell? ⟨w.heap.size, 3, none⟩ = some (.string x4) ∧ (w.alloc (.cells #[.int .i64 x1, .string x2, .int .i64 x3, .string x4, .int .i64 x5, .bool x6, x7] t)).cell? ⟨w.heap.size, 4, none⟩ = some (.int .i64 x5) ∧
    (w.alloc (.cells #[.int .i64 x1, .string x2, .int .i64 x3, .string x4, .int .i64 x5, .bool x6, x7] t)).cell? ⟨w.heap.size, 5, none⟩ = some (.bool x6) ∧ (w.alloc (.cells #[.int .i64 x1, .string x2, .int .i64 x3, .string x4, .int .i64 x5, .bool x6, x7] t)).cell? ⟨w.heap.size, 6, none⟩ = some x7 := by
  refine ⟨?_, ?_, ?_, ?_, ?_, ?_, ?_⟩ <;> (rw [World.cell?_alloc_at _ _ _ _ rfl]; rfl)

set_option maxHeartbeats 4000000 in
theorem once_n (A : Nat → Addr) (w : World) (hE : E4 A w) (h4 : 12 ≤ w.heap.size) (b off m c : Nat) (l : List ComV) (hm : l.length = m) (hl : m ≤ 1000) (hok : ∀ i, i < m → ComOk l[i]!)
    (ho : ∀ j, j < m → ∃ wv ov, IntsAt w wv l[j]!.when_ ∧ OpsAt w ov l[j]!.ops ∧ w.cell? ⟨b, off + j * 3, none⟩ = some wv ∧ w.cell? ⟨b, off + j * 3 + 1, none⟩ = some (.int .i64 l[j]!.place) ∧ w.cell? ⟨b, off + j * 3 + 2, none⟩ = some ov) :
    Calls Tryz.prog 109 #[.slice (some ⟨b, off, none⟩) m c] w fun e w' => ∃ v n, e = .returned (.tuple #[v, .nilIface]) ∧ OnceInv w w' v (onceA l) n := by
  have hmm := run_makeMap_room Tryz.underlying81 m; obtain ⟨i0, hi, hz0, hz1, hz2⟩ := info_parts Tryz.info131; obtain ⟨wm, hms, hmr, hmg⟩ := run_make_own (P := Tryz.prog) (w.alloc (.map #[] 0)) (w.heap.size + 1) 127 131 i0 _ 11 Tryz.underlying127 hi hz0 hz1 .i64 .i64 m (by rw [hz2]; omega) (by unfold maxLen; omega) (by simp); have hsm : Hid (OnceInv w wm _ [] 0) := OnceInv.start w wm _ hmr hmg; clear hmr hmg; simp only [World.size_alloc] at hms hsm; have HO := hid ho; have HE := hid hE; have HM := hid hm; have HK := hid hok; clear ho hE hm hok; go_enter Tryz.func109, Tryz.ntmps109; go_wp2
  go_loopw [5, 23] (fun v i wr => ∃ k : Nat, k ≤ m ∧ i = .int .i64 k ∧ Hid (OnceInv w wr v ((l.take k).foldl addCom []) (12 * k))) (fun _ i _ => m - (intOf i).toNat)
  case atStart => exact ⟨0, Nat.zero_le _, rfl, hsm.out⟩
  case round =>
    obtain ⟨k, hk, rfl, HI⟩ := hrel; have hsz := HI.out.size
    by_cases hlt : k < m
    · obtain ⟨wv, ov, hi', hop, q0, q1, q2⟩ := HO.out k hlt; have up : ∀ {a : Addr} {v : Value}, w.cell? a = some v → wr.cell? a = some v := fun {a v} h => by rw [HI.out.below.cell (lt_of_cell h)]; exact h
      have r0 := up q0; have r1 := up q1; have r2 := up q2; have hC := HK.out k hlt; obtain ⟨x, hx⟩ : ∃ x, x = l[k]! := ⟨_, rfl⟩; rw [← hx] at r1 hC hi' hop; have HX := hid hx; have KW := fun o => Weight_ok A (wr.alloc o) ((HE.out.below HI.out.below h4).below (below_alloc wr o) (by omega)) wv x.when_ ((hi'.mono HI.out.below (Nat.le_refl _)).mono (below_alloc wr o) (Nat.le_refl _)) hC.chk
      have hi0 := hi'; obtain ⟨a1, c1, rfl, _, hw⟩ := hi'; obtain ⟨a2, c2, rfl, _, _, hos⟩ := hop.shape
      obtain ⟨b1, o1, rfl, hw2⟩ : ∃ b1 o1, a1 = some ⟨b1, o1, none⟩ ∧ ∀ t, t < x.when_.length → w.cell? ⟨b1, o1 + t, none⟩ = some (.int .i64 (x.when_.getD t 0)) := by
        rcases hw with h | h
        · have := (chk_zero.1 hC.chk).1; rw [h] at this; simp at this
        · exact h
      obtain ⟨b2, o2, rfl, hos2⟩ := hos.resolve_left hC.some_; obtain ⟨p, hp⟩ : ∃ p : Nat, x.place = p := ⟨x.place.toNat, by have := hC.lo; omega⟩; have hplt : p < x.when_.length := by have := hC.hi; omega
      have ct := hw2 p hplt; obtain ⟨T, hT⟩ : ∃ T, T = x.when_.getD p 0 := ⟨_, rfl⟩; rw [← hT] at ct; rw [hp] at r1; have HW := hid hw2; have HOS := hid hos2; have HT := hid hT; have HP := hid hp; have HC := hid hC; obtain ⟨n, hn⟩ : ∃ n, n = x.when_.length := ⟨_, rfl⟩; rw [← hn] at KW r0 hplt; obtain ⟨mo, hmo⟩ : ∃ mo, mo = x.ops.length := ⟨_, rfl⟩; rw [← hmo] at r2; have hmo12 : mo ≤ 12 := by rw [hmo]; exact hC.few
      have HMO := hid hmo; obtain ⟨sw, hsw⟩ : ∃ sw, sw = sum x.when_ := ⟨_, rfl⟩; rw [← hsw] at KW; have HSW := hid hsw; have hn6 : n ≤ 6 := by rw [hn]; exact (chk_zero.1 hC.chk).2.1
      clear q0 q1 q2 hi0 hop hx hw hos hw2 hos2 hT hp hC hn hmo hsw up
      go_wp2_with (go_at_call 141; refine (KW _).mono ?_; rintro e w' ⟨rfl, rfl⟩)
      obtain ⟨wo, hwo⟩ : ∃ wo : World, wo = wr := ⟨wr, rfl⟩; subst hwo; obtain ⟨acc, hacc⟩ : ∃ acc, acc = (l.take k).foldl addCom [] := ⟨_, rfl⟩; rw [← hacc] at HI; have HA := hid hacc; clear KW hacc; obtain ⟨w1, hw1⟩ : ∃ w1, w1 = wo.alloc (.cells #[.slice (some ⟨b1, o1, none⟩) n c1, .int .i64 p, .slice (some ⟨b2, o2, none⟩) mo c2] 34) := ⟨_, rfl⟩; have C0 : Hid (w1.cell? ⟨wo.heap.size, 0, none⟩ = some (.slice (some ⟨b1, o1, none⟩) n c1)) := hid (by rw [hw1]; simp); have C1 : Hid (w1.cell? ⟨wo.heap.size, 1, none⟩ = some (.int .i64 p)) := hid (by rw [hw1]; simp); have S1 : Hid (w1.heap.size = wo.heap.size + 1) := hid (by rw [hw1]; simp); have I1 : Hid (OnceInv w w1 u5 acc (12 * k)) := by rw [hw1]; exact HI.out.alloc _
      have N1 : Hid (u5.ownBlock ≠ some wo.heap.size) := fun e => by
        obtain ⟨xs, hrow, _⟩ := HI.out.row; have := (hrow.lt _ e).2; omega
      rw [← hw1]; clear hw1 r0 r1 r2
      go_loopw [5, 39] (fun v i wj => ∃ j : Nat, j ≤ mo ∧ i = .int .i64 j ∧ Hid (OnceInv w wj v (addTo acc x j) (12 * k + j)) ∧ Hid (v.ownBlock ≠ some wo.heap.size) ∧ Hid (wo.heap.size + 1 ≤ wj.heap.size) ∧ Hid (wj.cell? ⟨wo.heap.size, 0, none⟩ = some (.slice (some ⟨b1, o1, none⟩) n c1)) ∧ Hid (wj.cell? ⟨wo.heap.size, 1, none⟩ = some (.int .i64 p))) (fun _ i _ => mo - (intOf i).toNat)
      case atStart => exact ⟨0, Nat.zero_le _, rfl, by rw [addTo_zero]; exact I1.out, N1.out, Nat.le_of_eq S1.out.symm, C0.out, C1.out⟩
      case round =>
        obtain ⟨j, hj, rfl, JI, JN, JS, J0, J1⟩ := hrel
        by_cases hjl : j < mo
        · obtain ⟨dp, dc, hd, q0, q1, q2, q3, q4, q5, q6⟩ := HOS.out j (by have := HMO.out; omega); have up : ∀ {a : Addr} {v : Value}, w.cell? a = some v → wr.cell? a = some v := fun {a v} h => by rw [JI.out.below.cell (lt_of_cell h)]; exact h
          have r0 := up q0; have r1 := up q1; have r2 := up q2; have r3 := up q3; have r4 := up q4; have r5 := up q5; have r6 := up q6; have ct' := up ct; have hoe := opErr_of_bad (HC.out.ops j (by have := HMO.out; omega)); obtain ⟨y, hy⟩ : ∃ y, y = x.ops[j]! := ⟨_, rfl⟩; rw [← hy] at r0 r1 r2 r3 r4 r5 r6 hd hoe; have HY := hid hy; have hat := at_of_opErr hoe; obtain ⟨x1, x2, x3, x4, x5, x6, ds⟩ := y; simp only at r0 r1 r2 r3 r4 r5 r6 hd hat; obtain ⟨dl, hdl⟩ : ∃ dl, dl = ds.length := ⟨_, rfl⟩; rw [← hdl] at r6 hd
          have hwf : Hid (wf3 ⟨p, T, x1⟩) := ⟨wf_i64 (by simp only; omega) (by simp only; omega), wf_i64 (by have := (chk_zero.1 HC.out.chk).2.2 p (by have := HC.out.hi; have := HP.out; omega); rw [← HT.out] at this; exact this.1) (by have := (chk_zero.1 HC.out.chk).2.2 p (by have := HC.out.hi; have := HP.out; omega); rw [← HT.out] at this; exact this.2), wf_i64 hat.1 (by simp only; omega)⟩; have HD := hid hd; have hblt : b1 < wr.heap.size := lt_of_cell ct'; have hcb : wo.heap.size < wr.heap.size := by have := JS.out; omega
          have c0 := J0.out; have c1' := J1.out; clear q0 q1 q2 q3 q4 q5 q6 hoe hy hat hdl hd up; obtain ⟨wq, hwq⟩ : ∃ wq, wq = wr.alloc (.cells #[.int .i64 x1, .string x2, .int .i64 x3, .string x4, .int .i64 x5, .bool x6, .slice dp dl dc] 76) := ⟨_, rfl⟩; go_upto_region 12 with (fail); rw [← hwq]; have s0 : wq.cell? ⟨wr.heap.size, 0, none⟩ = some (.int .i64 x1) := by rw [hwq]; exact (cells7 wr x1 x2 x3 x4 x5 x6 (.slice dp dl dc) 76).1
          have s1 : wq.cell? ⟨wo.heap.size, 0, none⟩ = some (.slice (some ⟨b1, o1, none⟩) n c1) := by rw [hwq]; exact cell_alloc c0 _
          have s2 : wq.cell? ⟨wo.heap.size, 1, none⟩ = some (.int .i64 p) := by rw [hwq]; exact cell_alloc c1' _
          have s3 : wq.cell? ⟨b1, o1 + p, none⟩ = some (.int .i64 T) := by rw [hwq]; exact cell_alloc ct' _
          have HWQ := hid hwq; clear hwq
          go_region_held (fun w' => w'.cell? ⟨wr.heap.size, 0, none⟩ = some (.int .i64 x1) ∧ w'.cell? ⟨wo.heap.size, 0, none⟩ = some (.slice (some ⟨b1, o1, none⟩) n c1) ∧ w'.cell? ⟨wo.heap.size, 1, none⟩ = some (.int .i64 p) ∧ w'.cell? ⟨b1, o1 + p, none⟩ = some (.int .i64 T)) (go_keep) (fail)
          obtain ⟨wz, hwz⟩ : ∃ wz, wz = (wq.alloc (.cells #[.int .i64 p, .int .i64 T, .int .i64 x1] 87)).drew := ⟨_, rfl⟩; rw [← hwz]; obtain ⟨y0, y1, y2, y3, y4, y5, y6⟩ := cells7 wr x1 x2 x3 x4 x5 x6 (.slice dp dl dc) 76; rw [← HWQ.out] at y0 y1 y2 y3 y4 y5 y6; have upz : ∀ {a : Addr} {v : Value}, wq.cell? a = some v → wz.cell? a = some v := fun {a v} h => by rw [hwz]; exact cell_alloc h _
          have e0 := upz y0; have e1 := upz y1; have e2 := upz y2; have e3 := upz y3; have e4 := upz y4; have e5 := upz y5; have e6 := upz y6; have t0 := upz s1; have t1 := upz s2; have z0 : wz.cell? ⟨wq.heap.size, 0, none⟩ = some (.int .i64 p) := by rw [hwz]; exact (World.cell?_alloc_at _ _ _ _ rfl).trans rfl
          have z1 : wz.cell? ⟨wq.heap.size, 1, none⟩ = some (.int .i64 T) := by rw [hwz]; exact (World.cell?_alloc_at _ _ _ _ rfl).trans rfl
          have z2 : wz.cell? ⟨wq.heap.size, 2, none⟩ = some (.int .i64 x1) := by rw [hwz]; exact (World.cell?_alloc_at _ _ _ _ rfl).trans rfl
          have sq : wq.heap.size = wr.heap.size + 1 := by rw [HWQ.out]; simp
          have sz : wz.heap.size = wq.heap.size + 1 := by rw [hwz]; show (wq.alloc _).heap.size = _; simp
          have IZ : OnceInv w wz u5 (addTo acc x j) (12 * k + j) := by rw [hwz, HWQ.out]; exact ((JI.out.alloc _).alloc _).draw 1
          have hn1 : wr.heap.size ≠ w.heap.size := by have := JI.out.size; omega
          have hn2 : wq.heap.size ≠ w.heap.size := by have := JI.out.size; omega
          have hn3 : wo.heap.size ≠ w.heap.size := by omega
          have SQ := hid sq; have SZ := hid sz; clear sq sz; obtain ⟨D, hown, hD⟩ := IZ.map; obtain ⟨xs, hrow, habs, hgood⟩ := IZ.row; have hlen := IZ.len; have his := hown.isMap; have hdD := hD _ hwf.out; have hkey := key_dot _ hwf.out; have HGD := hid hgood; have HAB := hid habs; have HHD := hid hD; have HWZ := hid hwz
          have hxl : xs.length ≤ 12 * k + j := by have : xs.length = (addTo acc x j).length := by rw [← habs]; simp
                                                  omega
          clear upz y0 y1 y2 y3 y4 y5 y6 s0 s1 s2 s3 r0 r1 r2 r3 r4 r5 r6 hwz hgood habs hD; have hdn : (dnOf x ⟨x1, x2, x3, x4, x5, x6, ds⟩).dot = ⟨p, T, x1⟩ := by unfold dnOf; rw [HP.out, Int.toNat_natCast, ← HT.out]
          cases hb : hasDot (addTo acc x j) ⟨p, T, x1⟩ with
          | true =>
            rw [hb] at hdD
            go_wp2_with (at_lookup; refine wpList_lookup_own_unit _ rfl _ _ 81 rfl 87 84 keyed65 Tryz.underlying81 (zero136 _) w.heap.size _ D rfl hown _ _ rfl hkey ?_)
            refine ⟨⟨j + 1, by omega, by go_num, ?_, JN.out, ?_, cell_alloc t0 _, cell_alloc t1 _⟩, by simp [intOf]; omega⟩
            · rw [addTo_succ _ _ (by have := HMO.out; omega), ← HY.out]; unfold addDn; rw [hdn, if_pos hb]; exact (IZ.alloc _).mono (by omega)
            · have e1 := SZ.out; have e2 := SQ.out; exact (show wo.heap.size + 1 ≤ (wz.alloc _).heap.size by simp; omega)
          | false =>
            rw [hb] at hdD; have f0 := fun o => cell_alloc z0 o
            have f1 := fun o => cell_alloc z1 o
            have f2 := fun o => cell_alloc z2 o
            go_wp2_with (first
              | (at_lookup; refine wpList_lookup_own_unit _ rfl _ _ 81 rfl 87 84 keyed65 Tryz.underlying81 (zero136 _) w.heap.size _ D rfl hown _ _ rfl hkey ?_)
              | (at_mapUpdate; refine wpList_mapUpdate_own _ rfl _ _ _ 81 rfl 87 84 keyed65 Tryz.underlying81 (unitElem (H := Unit)) w.heap.size (12 * k + j) _ rfl (hown.alloc _) ?hmx _ _ _ rfl rfl hkey _ [] unitElem_mk ?_; (case hmx => unfold maxLen; omega); intro w1 hown1 hgrow1; have g0 := cell_g hgrow1 e0 hn1; have g1 := cell_g hgrow1 e1 hn1; have g2 := cell_g hgrow1 e2 hn1; have g3 := cell_g hgrow1 e3 hn1; have g4 := cell_g hgrow1 e4 hn1; have g5 := cell_g hgrow1 e5 hn1; have g6 := cell_g hgrow1 e6 hn1; have k0 := cell_g hgrow1 z0 hn2; have k1 := cell_g hgrow1 z1 hn2; have k2 := cell_g hgrow1 z2 hn2)
              | (at_builtin; refine wpList_append_own_at _ rfl _ _ 127 rfl (w.heap.size + 1) 131 i0 _ 11 120 Tryz.underlying127 hi hz0 hz1 hz2 rfl (by decide) _ _ _ rfl (((hrow.alloc _).kept hgrow1 (Or.inr (row_ne hrow (Nat.lt_succ_self _)).symm)).alloc _) ⟨w1.heap.size, 0, none⟩ 1 1 [.int .i64 x1, .string x2, .int .i64 x3, .string x4, .int .i64 x5, .bool x6, .slice dp dl dc, .int .i64 p, .int .i64 T, .int .i64 x1, .int .i64 sw] rfl rfl (cells11_new _ _ _ _ rfl) ?ho1 ?ho2 ?ho3 ?ho4 ?_; (case ho1 => exact Dd.enc_one ⟨x1, x2, x3, x4, x5, x6, dp, dl, dc, ⟨p, T, x1⟩, sw, ds⟩); (case ho2 => unfold maxLen; omega); (case ho3 => omega); (case ho4 => exact once_size hgrow1 IZ.size); intro v' w2 hown' hgrow2 hnil2 hloc)
              | go_in)
            have hxe : Dd.enc ⟨x1, x2, x3, x4, x5, x6, dp, dl, dc, ⟨p, T, x1⟩, sw, ds⟩ = [.int .i64 x1, .string x2, .int .i64 x3, .string x4, .int .i64 x5, .bool x6, .slice dp dl dc, .int .i64 p, .int .i64 T, .int .i64 x1, .int .i64 sw] := rfl; have hstep := OnceInv.step (x := ⟨x1, x2, x3, x4, x5, x6, dp, dl, dc, ⟨p, T, x1⟩, sw, ds⟩) HD.out IZ.size IZ.below hlen hrow HAB.out HGD.out HHD.out hwf.out his hgrow1 hown1 hgrow2 (by rw [hxe]; exact hown')
            have hsz2 : wo.heap.size + 1 ≤ w2.heap.size := by
              have q1 := hgrow1.size; have q2 := hgrow2.size; have q3 := SZ.out; have q4 := SQ.out; simp at q1 q2; omega
            have hcw : ∀ {a : Addr} {v : Value}, wz.cell? a = some v → a.block = wo.heap.size → w2.cell? a = some v := fun {a v} h e => by
              refine hgrow2.cell (cell_alloc (cell_g hgrow1 h (by rw [e]; exact hn3)) _) ?_; rw [e]; exact fun h => JN.out h.symm
            refine ⟨⟨j + 1, by omega, by go_num, ?_, ?_, hsz2, hcw t0 rfl, hcw t1 rfl⟩, by simp [intOf]; omega⟩
            · rw [addTo_succ _ _ (by have := HMO.out; omega), ← HY.out]; unfold addDn; rw [hdn, if_neg (by rw [hb]; decide)]
              have e1 : dnOf x ⟨x1, x2, x3, x4, x5, x6, ds⟩ = Dd.abs ⟨x1, x2, x3, x4, x5, x6, dp, dl, dc, ⟨p, T, x1⟩, sw, ds⟩ := by
                unfold dnOf Dd.abs; rw [HP.out, Int.toNat_natCast, ← HT.out, ← HSW.out]
              rw [e1]; exact hstep
            · have q1 := hgrow1.size; have q3 := SZ.out; have q4 := SQ.out; simp at q1; rcases hloc with h | h
              · rw [h]; exact JN.out
              · rw [h]; intro e; have := Option.some.inj e; simp at this; omega
        · obtain rfl : j = mo := by omega
          go_wp2; refine ⟨⟨k + 1, by omega, by go_num, ?_⟩, by simp [intOf]; omega⟩
          rw [once_succ (by have := HM.out; omega), ← HX.out, ← HA.out, ← addTo_all, ← HMO.out]; exact JI.out.mono (by omega)
    · obtain rfl : k = m := by omega
      go_wp2
      go_ret2
      exact ⟨_, _, rfl, by have := HI.out; rw [← HM.out, List.take_length] at this; exact this⟩
end Go.Proofs.YtdnebclemngdcaaGreatDoor
namespace Go.Proofs.YtdnebclemngdcaaGreatDoor
open Go.RowKit Go.Sort Go.Maps
set_option linter.unusedSectionVars false
variable [Inhabited ComV] [DecidableEq D3] [Inhabited D3] [Inhabited Dd] [Inhabited Dn] [Inhabited OpV]

set_option maxRecDepth 100000 in
theorem once_none (w : World) (a : Option Addr) (c : Nat) : Calls Tryz.prog 109 #[.slice a 0 c] w fun e w' => ∃ v, e = .returned (.tuple #[v, .nilIface]) ∧ OnceInv w w' v [] 0 := by
  have hmm : ∀ W, (Instr.makeMap 81 (some (.int .i64 0))).run Tryz.prog W = .ok (.map (some W.heap.size)) (W.alloc (.map #[] 0)) := run_makeMap_room Tryz.underlying81 0; obtain ⟨i0, hi, hz0, hz1, hz2⟩ := info_parts Tryz.info131; obtain ⟨wm, hms, hmr, hmg⟩ := run_make_own (P := Tryz.prog) (w.alloc (.map #[] 0)) (w.heap.size + 1) 127 131 i0 _ 11 Tryz.underlying127 hi hz0 hz1 .i64 .i64 0 (by omega) (by unfold maxLen; omega) (by simp); have hsm : Hid (OnceInv w wm _ [] 0) := OnceInv.start w wm _ hmr hmg; clear hmr hmg; simp only [World.size_alloc, Int.cast_ofNat_Int] at hms hsm; go_enter Tryz.func109, Tryz.ntmps109; go_wp2; refine wp_loop_rounds 1 ?_; rw [rounds_succ]; go_wp2
  go_ret2
  exact ⟨_, rfl, hsm.out⟩
theorem once_any (A : Nat → Addr) (w : World) (hE : E4 A w) (h4 : 12 ≤ w.heap.size) (v : Value) (l : List ComV) (hv : ComsAt w v l) (hl : l.length ≤ 1000) (hok : ∀ i, i < l.length → ComOk l[i]!) :
    Calls Tryz.prog 109 #[v] w fun e w' => ∃ v n, e = .returned (.tuple #[v, .nilIface]) ∧ OnceInv w w' v (onceA l) n := by
  obtain ⟨ad, cap, rfl, _, _, h⟩ := hv.shape
  by_cases h0 : l = []
  · subst h0; refine (once_none w ad cap).mono ?_; rintro e w' ⟨v, rfl, h⟩; exact ⟨_, _, rfl, h⟩
  · obtain ⟨b, off, rfl, h2⟩ := h.resolve_left h0; exact once_n A w hE h4 b off l.length cap l rfl hl hok h2

theorem flat_get (xs : List Dd) : ∀ (j i : Nat), j < xs.length → i < 11 → (xs.flatMap Dd.enc)[j * 11 + i]? = some (xs[j]!.enc[i]!) := by
  induction xs with
  | nil => intro j i hj; simp at hj
  | cons x r ih =>
    intro j i hj hi; rw [List.flatMap_cons]
    cases j with
    | zero =>
      rw [List.getElem?_append_left (by rw [Dd.enc_length]; omega), Nat.zero_mul, Nat.zero_add, List.getElem?_eq_getElem (by rw [Dd.enc_length]; exact hi)]; show some _ = some (x.enc[i]!); rw [getElem!_pos x.enc i (by rw [Dd.enc_length]; exact hi)]
    | succ j =>
      rw [List.getElem?_append_right (by rw [Dd.enc_length]; omega), Dd.enc_length, show (j + 1) * 11 + i - 11 = j * 11 + i by omega, ih j i (by simpa using hj) hi]; simp
theorem rowD_of_owns {w : World} {base : Nat} {v : Value} {xs : List Dd} (h : w.ownsRow base 131 11 v xs.length (xs.flatMap Dd.enc)) : RowD w base v xs := by
  obtain ⟨_, h2⟩ := h; rcases h2 with ⟨rfl, h0⟩ | ⟨g, cap, cur, rfl, hb, hh, hn, hm, hs, ht⟩
  · exact .inl ⟨rfl, List.eq_nil_of_length_eq_zero h0⟩
  · refine .inr ⟨g, cap, rfl, hb, (Array.getElem?_eq_some_iff.1 hh).1, hn, ?_⟩; rw [holdsK_iff]; intro j hj i hi; have hj' : j < xs.length := by simpa using hj
    have e := flat_get xs j i hj' hi; rw [← ht, List.getElem?_take, if_pos (by omega), Array.getElem?_toList] at e; refine ⟨?_, ?_⟩
    · simp only [World.cell?, hh]; rw [e]; simp
    · simp only [World.frozen?, hh]; simp
theorem RowD.mono {w : World} {B B' : Nat} {v : Value} {xs : List Dd} (h : RowD w B v xs) (hB : B' ≤ B) : RowD w B' v xs := by
  rcases h with h | ⟨g, cap, h1, h2, h3⟩
  · exact .inl h
  · exact .inr ⟨g, cap, h1, Nat.le_trans hB h2, h3⟩

def ltN (x y : Dn) : Bool := decide (x.wt < y.wt ∨ x.wt = y.wt ∧ ltD x.dot y.dot = true)
def InOrder (key : ByteArray) (l : List ComV) (ys : List Dn) : Prop := ys.Perm ((onceA l).filter fun x => decide (x.o.key = key)) ∧ ys.Pairwise (fun a b => ltN b a = false)
def ofKind (ys : List Dn) : List Dn := ys.filter fun x => decide (x.o.kind = ys[0]!.o.kind)
def IsOps (key : ByteArray) (l : List ComV) (ds : List Dn) : Prop := ∃ ys, InOrder key l ys ∧ ds = ofKind ys

theorem addDn_nodup {acc : List Dn} (h : (acc.map (·.dot)).Nodup) (d : Dn) : ((addDn acc d).map (·.dot)).Nodup := by
  unfold addDn
  split
  · exact h
  · rename_i hn
    rw [List.map_append, List.nodup_append]; refine ⟨h, by simp, fun a ha b hb e => hn ?_⟩; simp only [List.map_cons, List.map_nil, List.mem_singleton] at hb; subst hb; subst e; obtain ⟨x, hx, hxe⟩ := List.mem_map.1 ha; exact List.any_eq_true.2 ⟨x, hx, decide_eq_true hxe⟩
theorem foldl_addDn_nodup (ds : List Dn) : ∀ {acc : List Dn}, (acc.map (·.dot)).Nodup → ((ds.foldl addDn acc).map (·.dot)).Nodup := by
  induction ds with
  | nil => intro acc h; exact h
  | cons d r ih => intro acc h; exact ih (addDn_nodup h d)
theorem onceA_nodup (l : List ComV) : ((onceA l).map (·.dot)).Nodup := by
  unfold onceA
  suffices h : ∀ (l : List ComV) (acc : List Dn), (acc.map (·.dot)).Nodup → ((l.foldl addCom acc).map (·.dot)).Nodup from h l [] (by simp)
  intro l
  induction l with
  | nil => intro acc h; exact h
  | cons c r ih => intro acc h; exact ih _ (foldl_addDn_nodup _ h)
theorem ltN_total {x y : Dn} (h1 : ltN x y = false) (h2 : ltN y x = false) : x.dot = y.dot := by
  obtain ⟨_, ⟨p, t, a⟩, wx⟩ := x; obtain ⟨_, ⟨p', t', a'⟩, wy⟩ := y; simp only [ltN, ltD, decide_eq_false_iff_not, decide_eq_true_eq] at h1 h2; simp only [D3.mk.injEq]; omega
theorem pairwise_ne {l : List Dn} (h : l.Pairwise (fun x y => x.dot ≠ y.dot)) {x y : Dn} (hx : x ∈ l) (hy : y ∈ l) (hne : x ≠ y) : x.dot ≠ y.dot := by
  induction h with
  | nil => simp at hx
  | cons h1 _ ih =>
    rcases List.mem_cons.1 hx with rfl | hx'
    · rcases List.mem_cons.1 hy with rfl | hy'
      · exact absurd rfl hne
      · exact h1 _ hy'
    · rcases List.mem_cons.1 hy with rfl | hy'
      · exact (h1 _ hx').symm
      · exact ih hx' hy'
theorem inOrder_unique {key : ByteArray} {l : List ComV} {a b : List Dn} (ha : InOrder key l a) (hb : InOrder key l b) : a = b := by
  have hnd : ((onceA l).filter fun x => decide (x.o.key = key)).Pairwise (fun x y => x.dot ≠ y.dot) := by
    have := onceA_nodup l; rw [List.Nodup, List.pairwise_map] at this; exact this.filter _
  have hp := ha.1.trans hb.1.symm; have hda : a.Pairwise (fun x y => x.dot ≠ y.dot) := hnd.perm ha.1.symm (fun h e => h e.symm); refine hp.eq_of_pairwise ?_ ha.2 hb.2; intro x y hx hy h1 h2; have e := ltN_total h2 h1
  by_cases hne : x = y
  · exact hne
  · exact absurd e (pairwise_ne hda hx (hp.mem_iff.2 hy) hne)
end Go.Proofs.YtdnebclemngdcaaGreatDoor
namespace Go.Proofs.YtdnebclemngdcaaGreatDoor
open Go.RowKit Go.Sort Go.Maps
set_option maxRecDepth 100000
set_option linter.unusedSectionVars false
variable [Inhabited ComV] [DecidableEq D3] [Inhabited D3] [Inhabited Dd] [Inhabited Dn] [Inhabited OpV]

def OpsRet (key : ByteArray) (l : List ComV) (w : World) (e : Ending) (w' : World) : Prop :=
  ∃ v xs, e = .returned (.tuple #[v, .nilIface]) ∧ RowD w' (w.heap.size + 1) v xs ∧ IsOps key l (xs.map Dd.abs) ∧ (∀ x ∈ xs, GoodD w' x) ∧ xs.length ≤ 1000000 ∧ Below w.heap.size w w'

theorem GoodD.mono {w w' : World} {x : Dd} {B : Nat} (h : GoodD w x) (hb : Below B w w') (hB : w.heap.size ≤ B) : GoodD w' x := DotsAt.mono h hb hB
theorem kind_cell {w : World} {g : Nat} {xs : List Dd} (h : HoldsK Dd.enc 11 w g 0 xs.toArray) (h0 : 0 < xs.length) : w.cell? ⟨g, 2, none⟩ = some (.int .i64 xs[0]!.kind) := by
  have := (holdsK_iff.1 h 0 (by simpa using h0) 2 (by omega)).1
  simpa [Dd.enc, h0] using this
theorem map_filter_abs (xs : List Dd) (p : Dn → Bool) : (xs.filter fun x => p x.abs).map Dd.abs = (xs.map Dd.abs).filter p := by
  rw [List.filter_map]; rfl

theorem addDn_len (acc : List Dn) (d : Dn) : (addDn acc d).length ≤ acc.length + 1 := by unfold addDn; split <;> simp
theorem foldl_addDn_len (ds : List Dn) : ∀ (acc : List Dn), (ds.foldl addDn acc).length ≤ acc.length + ds.length := by
  induction ds with
  | nil => intro acc; simp
  | cons d r ih => intro acc; have h1 := ih (addDn acc d); have h2 := addDn_len acc d; simp only [List.foldl_cons, List.length_cons]; omega
theorem onceA_len (l : List ComV) (h : ∀ c ∈ l, c.ops.length ≤ 12) : (onceA l).length ≤ 12 * l.length := by
  unfold onceA
  suffices hh : ∀ (l : List ComV) (acc : List Dn), (∀ c ∈ l, c.ops.length ≤ 12) → (l.foldl addCom acc).length ≤ acc.length + 12 * l.length by simpa using hh l [] h
  intro l
  induction l with
  | nil => intro acc _; simp
  | cons c r ih =>
    intro acc h; have h1 := ih (addCom acc c) (fun c hc => h c (List.mem_cons_of_mem _ hc)); have h2 := foldl_addDn_len (c.ops.map (dnOf c)) acc; have h3 := h c (List.mem_cons_self ..); simp only [List.length_map] at h2; simp only [List.foldl_cons, List.length_cons]; unfold addCom at h1 ⊢; omega
theorem RowD.shape {w : World} {B : Nat} {v : Value} {xs : List Dd} (h : RowD w B v xs) : ∃ a c, v = .slice a xs.length c := by
  rcases h with ⟨rfl, rfl⟩ | ⟨g, cap, rfl, _⟩
  · exact ⟨_, _, rfl⟩
  · exact ⟨_, _, rfl⟩
theorem RowD.block {w : World} {B : Nat} {v : Value} {xs : List Dd} (h : RowD w B v xs) {g n c : Nat} (e : v = .slice (some ⟨g, 0, none⟩) n c) : B ≤ g ∧ g < w.heap.size := by
  rcases h with ⟨rfl, _⟩ | ⟨g', cap, rfl, h1, h2, _⟩
  · cases e
  · cases e; exact ⟨h1, h2⟩

theorem checkName_ok (w : World) (key : ByteArray) (hk : nameB key = true) : Calls Tryz.prog 75 #[.string key] w fun e w' => e = .returned .nilIface ∧ w' = w := by
  have K32 := fun W => isName_any W key
  rw [hk] at K32; go_enter Tryz.func75, Tryz.ntmps75
  go_wp2_with (go_at_call 93; refine (K32 _).mono ?_; rintro e w' ⟨rfl, rfl⟩)
  go_ret; exact ⟨rfl, rfl⟩
set_option maxHeartbeats 4000000 in
theorem opsOn_ok (A : Nat → Addr) (w : World) (hE : E4 A w) (h4 : 12 ≤ w.heap.size) (key : ByteArray) (hk : nameB key = true) (v : Value) (l : List ComV) (hv : ComsAt w v l) (hl : l.length ≤ 1000) (hsm : ∀ c ∈ l, SmallC c) (hok : ∀ i, i < l.length → listBad l i = 0) :
    Calls Tryz.prog 76 #[.string key, v] w fun e w' => OpsRet key l w e w' := by
  have hco : ∀ i, i < l.length → ComOk l[i]! := fun i hi => comOk_of (by
    have := hok i hi; unfold listBad at this
    split at this
    · rename_i h; exact absurd this h
    · rename_i h; simpa using h)
  have K32 := fun W => checkName_ok W key hk
  obtain ⟨w1, hw1⟩ : ∃ w1, w1 = w.alloc (.cells #[.string key] 9) := ⟨_, rfl⟩; have b1 : Below w.heap.size w w1 := by rw [hw1]; exact below_alloc _ _
  have s1 : w1.heap.size = w.heap.size + 1 := by rw [hw1]; simp
  have c1 : w1.cell? ⟨w.heap.size, 0, none⟩ = some (.string key) := by rw [hw1]; simp
  have K53 := hid (checkList_ok A w1 (hE.below b1 h4) (by omega) v l (hv.mono b1 (Nat.le_refl _)) (by omega) hsm hok); have hE1 := hid (hE.below b1 h4); have hV1 := hid (hv.mono b1 (Nat.le_refl _)); have HO := hid hco; have HW1 := hid hw1; have B1 := hid b1; have S1 := hid s1; have C1 := hid c1; obtain ⟨a, n, cp, rfl⟩ : ∃ a n cp, v = .slice a n cp := by obtain ⟨a, cp, rfl, _⟩ := hv.shape; exact ⟨_, _, _, rfl⟩
  clear hco hk b1 s1 c1 hE hv hsm hok; go_enter Tryz.func76, Tryz.ntmps76
  go_wp2_with (go_at_call 75; refine (K32 _).mono ?_; rintro e w' ⟨rfl, rfl⟩)
  rw [← hw1]; clear hw1; refine K53.out.mono ?_; rintro e w2 ⟨rfl, h2⟩; have K54 := once_any A w2 (hE1.out.below h2 (by have := S1.out; omega)) (by have := h2.size; have := S1.out; omega) (.slice a n cp) l (hV1.out.mono h2 (Nat.le_refl _)) hl HO.out; have H2 := hid h2; clear h2; go_wp2_with fail; refine K54.mono ?_; rintro e w3 ⟨v, nn, rfl, hI⟩; obtain ⟨xs, hrow, habs, hgood⟩ := hI.row; have h2 := H2.out; have s1 := S1.out; have hs2 : w.heap.size + 1 ≤ w2.heap.size := by have := h2.size; omega
  have hR3 : RowD w3 (w2.heap.size + 1) v xs := rowD_of_owns hrow
  have hxl : xs.length ≤ 1000000 := by
    have h1 := onceA_len l (fun c hc => by obtain ⟨i, hi, rfl⟩ := List.getElem_of_mem hc; have := (HO.out i hi).few; rwa [getElem!_pos l i hi] at this); have h2 : xs.length = (onceA l).length := by rw [← habs]; simp
    omega
  have c3 : w3.cell? ⟨w.heap.size, 0, none⟩ = some (.string key) := by
    rw [hI.below.cell (p := ⟨w.heap.size, 0, none⟩) (by show w.heap.size < w2.heap.size; omega), h2.cell (p := ⟨w.heap.size, 0, none⟩) (by show w.heap.size < w1.heap.size; omega)]; exact C1.out
  have K55 := deleteFunc_row w3 (w2.heap.size + 1) 111 w.heap.size (.string key) (fun x => !decide (x.key = key)) v xs (enters_of Tryz.func111 (by kernel_rfl) rfl) (fun W x h => keyNe W x w.heap.size key h) c3 hR3 (fun g n c e => by have := (hR3.block e).1; omega) hxl; obtain ⟨av, cv, rfl⟩ := hR3.shape; have b3 := hid hI.below; have s3 := hid hI.size; have HG := hid hgood; have HAB := hid habs; have HXL := hid hxl; clear hI hrow habs hgood h2 s1 c3 hR3 hxl; go_wp2_with fail; refine K55.mono ?_; rintro e w4 ⟨v4, rfl, hR4, hb4, _⟩; simp only [Bool.not_not] at hR4; have hx4 : (xs.filter fun x => decide (x.key = key)).length ≤ 1000000 := Nat.le_trans (List.length_filter_le _ _) HXL.out; have K57 := sortFunc_row w4 (w2.heap.size + 1) v4 _ hR4 hx4; obtain ⟨a4, c4, rfl⟩ := hR4.shape; obtain ⟨n4, hn4⟩ : ∃ n4, n4 = (xs.filter fun x => decide (x.key = key)).length := ⟨_, rfl⟩; rw [← hn4] at K57 ⊢
  have HN4 := hid hn4; have hb4' := hid hb4; clear K55 hR4 hb4 hn4 hx4; go_wp2_with fail; refine K57.mono ?_; rintro e w5 ⟨rfl, ys, hperm, hpw, hR5, hb5⟩; have hys : ys.length = n4 := by rw [HN4.out]; exact hperm.length_eq
  have B5 : Hid (Below w2.heap.size w2 w5) := (b3.out.trans (hb4'.out.mono (by omega))).trans (hb5.mono (by omega))
  have hord : InOrder key l (ys.map Dd.abs) := by
    refine ⟨?_, ?_⟩
    · rw [← HAB.out]; exact (hperm.map Dd.abs).trans (List.Perm.of_eq (map_filter_abs xs (fun x => decide (x.o.key = key))))
    · rw [List.pairwise_map]; exact hpw
  have HORD := hid hord; have BW : Hid (Below w.heap.size w w2) := B1.out.trans (H2.out.mono (by have := S1.out; omega)); have HPM := hid hperm; have hyl : ys.length ≤ 1000000 := by rw [hperm.length_eq]; exact Nat.le_trans (List.length_filter_le _ _) HXL.out
  clear K57 K54 hpw hord hperm
  by_cases h0 : ys = []
  · subst h0; have hn0 : n4 = 0 := by rw [← hys]; rfl
    subst hn0; clear hys; go_wp2
    go_ret2
    exact ⟨_, [], rfl, .inl ⟨rfl, rfl⟩, ⟨[], HORD.out, rfl⟩, fun x hx => by simp at hx, by simp, BW.out.trans (B5.out.mono (by omega))⟩
  · have hy0 : 0 < ys.length := List.length_pos_iff.2 h0; rcases hR5 with ⟨_, h⟩ | ⟨g, cap, hve, hBg, hg5, hcap, hH⟩
    · exact absurd h h0
    · have hk := kind_cell hH hy0; have hR5 : RowD w5 (w2.heap.size + 1) (.slice (some ⟨g, 0, none⟩) ys.length cap) ys := .inr ⟨g, cap, rfl, hBg, hg5, hcap, hH⟩; obtain ⟨kd, hkd⟩ : ∃ kd, kd = ys[0]!.kind := ⟨_, rfl⟩; rw [← hkd] at hk; have hRk : RowD (w5.alloc (.cells #[.int .i64 kd] 3)) (w2.heap.size + 1) (.slice (some ⟨g, 0, none⟩) ys.length cap) ys := .inr ⟨g, cap, rfl, hBg, by simp; omega, hcap, holdsK_below hH (below_alloc _ _) hg5⟩; have K55 := deleteFunc_row (w5.alloc (.cells #[.int .i64 kd] 3)) (w2.heap.size + 1) 115 w5.heap.size (.int .i64 kd) (fun x => !decide (x.kind = kd)) _ ys (enters_of Tryz.func115 (by kernel_rfl) rfl) (fun W x h => kindNe W x w5.heap.size kd h) (by simp) hRk (fun g' n' c' e => by cases e; omega) hyl; rw [hys] at hve K55; cases hve; have hn0 : ((n4 : Int) == 0) = false := by rw [beq_eq_false_iff_ne]; omega
      have hp4 : 0 < n4 := by omega
      have HKD := hid hkd; have HYS := hid hys; clear hR5 hRk hH hkd hys; go_wp2_with fail; refine K55.mono ?_; rintro e w6 ⟨v6, rfl, hR6, hb6, _⟩; simp only [Bool.not_not] at hR6; have HR6 := hid hR6; have HB6 := hid hb6; clear K55 hR6 hb6; go_wp2
      go_ret2
      have B6 : Below w2.heap.size w2 w6 := (B5.out.alloc (by omega) _).trans (HB6.out.mono (by omega)); refine ⟨_, _, rfl, HR6.out.mono (by omega), ⟨_, HORD.out, ?_⟩, fun x hx => ?_, Nat.le_trans (List.length_filter_le _ _) hyl, BW.out.trans (B6.mono (by omega))⟩
      · unfold ofKind
        have e0 : (ys.map Dd.abs)[0]!.o.kind = kd := by
          rw [HKD.out, getElem!_pos (ys.map Dd.abs) 0 (by simpa using hy0), getElem!_pos ys 0 hy0, List.getElem_map]; rfl
        rw [e0]; exact map_filter_abs ys (fun x => decide (x.o.kind = kd))
      · have h1 := (List.mem_filter.1 hx).1; have h2 := (List.mem_filter.1 (HPM.out.mem_iff.1 h1)).1; exact (HG.out x h2).mono B6 (Nat.le_refl _)
end Go.Proofs.YtdnebclemngdcaaGreatDoor
namespace Go.Proofs.YtdnebclemngdcaaGreatDoor
open Go.RowKit Go.Maps
set_option linter.unusedSectionVars false
variable [Inhabited ComV] [DecidableEq D3] [Inhabited D3] [Inhabited Dd] [Inhabited Dn] [Inhabited OpV]

theorem Tryz.underlying3 : Tryz.prog.underlying 3 = some (.int .i64) := by kernel_rfl
theorem Tryz.zero3 (w : World) : (zeroValue 3).run Tryz.prog w = .ok (.int .i64 0) w := by kernel_rfl
theorem idxE_mk (k : Nat) (h : k ≤ 100000) : plainElem (H := Unit) Tryz.prog 3 (.int .i64 k) = some (.lit (.int .i64 k), []) := plainElem_int Tryz.underlying3 (WalkArith.wf_i64 (by omega))

def upd (M : D3 → Option ByteArray) (d : D3) (t : Option ByteArray) : D3 → Option ByteArray := fun e => if e = d then t else M e
def updI (I : D3 → Option Nat) (d : D3) (t : Option Nat) : D3 → Option Nat := fun e => if e = d then t else I e
def IdxIs (D : DataW Unit) (I : D3 → Option Nat) : Prop := ∀ d, wf3 d → Maps.has D (klD d) = (I d).isSome ∧ D.atKey (klD d) (.lit (.int .i64 0)) = .lit (.int .i64 ((I d).getD 0 : Nat))
theorem IdxIs.start : IdxIs (.map []) (fun _ => none) := fun _ _ => ⟨rfl, rfl⟩
theorem IdxIs.put {D : DataW Unit} {I : D3 → Option Nat} (h : IdxIs D I) (hD : IsMap D) {d : D3} (hd : wf3 d) (t : Nat) : IdxIs (D.put (klD d) (.lit (.int .i64 t))) (updI I d (some t)) := fun e he => by
  unfold updI
  by_cases q : e = d
  · subst q; rw [if_pos rfl, has_put_same hD (klD_key _), atKey_put_same hD (klD_key _)]; exact ⟨rfl, rfl⟩
  · rw [if_neg q, has_put_other (fun x => q (klD_inj he hd x)), atKey_put_other (fun x => q (klD_inj he hd x))]; exact h e he
theorem IdxIs.del {D : DataW Unit} {I : D3 → Option Nat} (h : IdxIs D I) {d : D3} (hd : wf3 d) : IdxIs (D.del (klD d)) (updI I d none) := fun e he => by
  unfold updI
  by_cases q : e = d
  · subst q; rw [if_pos rfl, has_del_same, atKey_del_same]; exact ⟨rfl, rfl⟩
  · rw [if_neg q, has_del_other (fun x => q (klD_inj he hd x)), atKey_del_other (fun x => q (klD_inj he hd x))]; exact h e he
def TextsBy (xs : List Dd) (I : D3 → Option Nat) (M : D3 → Option ByteArray) : Prop := ∀ d, M d = (I d).map (fun i => xs[i]!.text) ∧ ∀ i, I d = some i → i < xs.length
theorem TextsBy.put {xs : List Dd} {I : D3 → Option Nat} {M : D3 → Option ByteArray} (h : TextsBy xs I M) (d : D3) {k : Nat} (hk : k < xs.length) {t : ByteArray} (ht : xs[k]!.text = t) : TextsBy xs (updI I d (some k)) (upd M d (some t)) := fun e => by
  unfold updI upd
  by_cases q : e = d
  · rw [if_pos q, if_pos q]; exact ⟨by rw [← ht]; rfl, fun i hi => by cases hi; exact hk⟩
  · rw [if_neg q, if_neg q]; exact h e
theorem TextsBy.del {xs : List Dd} {I : D3 → Option Nat} {M : D3 → Option ByteArray} (h : TextsBy xs I M) (d : D3) : TextsBy xs (updI I d none) (upd M d none) := fun e => by
  unfold updI upd
  by_cases q : e = d
  · rw [if_pos q, if_pos q]; exact ⟨rfl, fun i hi => by cases hi⟩
  · rw [if_neg q, if_neg q]; exact h e

def addStep (M : D3 → Option ByteArray) (x : Dn) : D3 → Option ByteArray := if x.o.rem = true then M else upd M x.dot (some x.o.text)
def delStep (t : ByteArray) (M : D3 → Option ByteArray) (d : D3) : D3 → Option ByteArray := if (M d).getD ByteArray.empty = t then upd M d none else M
theorem delStep_none {t : ByteArray} {M : D3 → Option ByteArray} {d : D3} (h : M d = none) : delStep t M d = M := by
  unfold delStep
  split
  · funext e
    unfold upd
    split
    · rename_i q; rw [q, h]
    · rfl
  · rfl
def remStep (M : D3 → Option ByteArray) (y : Dn) : D3 → Option ByteArray := y.o.dots.foldl (delStep y.o.text) M
def finalMap (ds : List Dn) : D3 → Option ByteArray := ds.foldl remStep (ds.foldl addStep fun _ => none)
def standA (ds : List Dn) : List Dn := ds.filter fun x => (finalMap ds x.dot).isSome

theorem foldl_take_succ {α β : Type} [Inhabited α] (f : β → α → β) (b : β) (l : List α) {k : Nat} (h : k < l.length) : (l.take (k + 1)).foldl f b = f ((l.take k).foldl f b) l[k]! := by
  rw [List.take_succ_eq_append_getElem h, List.foldl_append, getElem!_pos l k h]; rfl
theorem map_get_abs (xs : List Dd) {k : Nat} (h : k < xs.length) : (xs.map Dd.abs)[k]! = xs[k]!.abs := by
  rw [getElem!_pos _ k (by simpa using h), getElem!_pos xs k h, List.getElem_map]

structure StInv (xs : List Dd) (w wr : World) (M : D3 → Option ByteArray) (n : Nat) : Prop where
  map : ∃ (D : DataW Unit) (I : D3 → Option Nat), wr.ownsMap Tryz.prog 87 (plainElem Tryz.prog 3) w.heap.size n D ∧ IdxIs D I ∧ TextsBy xs I M
  below : Below w.heap.size w wr
  size : w.heap.size + 1 ≤ wr.heap.size
section
variable {xs : List Dd}
theorem StInv.start (w : World) : StInv xs w (w.alloc (.map #[] 0)) (fun _ => none) 0 where
  map := ⟨.map [], fun _ => none, World.ownsMap_made _ _ _ _, IdxIs.start, fun _ => ⟨rfl, fun i hi => by cases hi⟩⟩
  below := below_alloc _ _
  size := by simp
theorem StInv.alloc {w wr : World} {M : D3 → Option ByteArray} {n : Nat} (h : StInv xs w wr M n) (o : Obj) : StInv xs w (wr.alloc o) M n where
  map := let ⟨D, I, h1, h2⟩ := h.map; ⟨D, I, h1.alloc o, h2⟩
  below := h.below.alloc (by have := h.size; omega) o
  size := by have := h.size; simp; omega
theorem StInv.draw {w wr : World} {M : D3 → Option ByteArray} {n : Nat} (h : StInv xs w wr M n) (q : Nat) : StInv xs w (wr.drewN q) M n where
  map := h.map
  below := below_draws h.below q
  size := h.size
theorem StInv.mono {w wr : World} {M : D3 → Option ByteArray} {n n' : Nat} (h : StInv xs w wr M n) (hn : n ≤ n') : StInv xs w wr M n' where
  map := let ⟨D, I, h1, h2⟩ := h.map; ⟨D, I, h1.mono hn, h2⟩
  below := h.below
  size := h.size
theorem StInv.turned {w wr w1 : World} {M M' : D3 → Option ByteArray} {n n' : Nat} {D : DataW Unit} {I : D3 → Option Nat} (h : StInv xs w wr M n) (hg : wr.grownBy w1 (some w.heap.size)) (hm : w1.ownsMap Tryz.prog 87 (plainElem Tryz.prog 3) w.heap.size n' D) (hI : IdxIs D I) (hM : TextsBy xs I M') : StInv xs w w1 M' n' where
  map := ⟨D, I, hm, hI, hM⟩
  below := h.below.grown hg (by have := h.size; omega) (fun j hj => by cases hj; exact Nat.le_refl _)
  size := Nat.le_trans h.size hg.size
theorem StInv.beside {w wr w1 : World} {M : D3 → Option ByteArray} {n : Nat} {r : Option Nat} (h : StInv xs w wr M n) (hg : wr.grownBy w1 r) (hr : ∀ j, r = some j → w.heap.size + 1 ≤ j) : StInv xs w w1 M n where
  map := let ⟨D, I, h1, h2⟩ := h.map; ⟨D, I, h1.kept hg (fun e => by have := hr _ e.symm; omega), h2⟩
  below := h.below.grown hg (by have := h.size; omega) (fun j hj => by have := hr _ hj; omega)
  size := Nat.le_trans h.size hg.size
end
end Go.Proofs.YtdnebclemngdcaaGreatDoor
namespace Go.Proofs.YtdnebclemngdcaaGreatDoor
open Go.RowKit Go.Sort Go.Maps
set_option maxRecDepth 100000
set_option linter.unusedSectionVars false
variable [Inhabited ComV] [DecidableEq D3] [Inhabited D3] [Inhabited Dd] [Inhabited Dn] [Inhabited OpV]

def DotsWf (x : Dd) : Prop := wf3 x.dot ∧ (∀ d ∈ x.ds, wf3 d) ∧ x.ds.length = x.dl ∧ x.ds.length ≤ 1000
def StandRet (xs : List Dd) (w : World) (e : Ending) (w' : World) : Prop :=
  ∃ v, e = .returned v ∧ w'.ownsRow (w.heap.size + 1) 131 11 v (xs.filter fun x => (finalMap (xs.map Dd.abs) x.dot).isSome).length ((xs.filter fun x => (finalMap (xs.map Dd.abs) x.dot).isSome).flatMap Dd.enc) ∧ Below w.heap.size w w'

theorem dots_at {w : World} {dp : Option Addr} {dl dc : Nat} {ds : List D3} (h : DotsAt w (.slice dp dl dc) ds) {j : Nat} (hj : j < ds.length) : ∃ b off, dp = some ⟨b, off, none⟩ ∧ w.cell? ⟨b, off + j * 3, none⟩ = some (.int .i64 ds[j]!.p) ∧ w.cell? ⟨b, off + j * 3 + 1, none⟩ = some (.int .i64 ds[j]!.t) ∧ w.cell? ⟨b, off + j * 3 + 2, none⟩ = some (.int .i64 ds[j]!.a) := by
  obtain ⟨ad, cap, he, _, _, h⟩ := h; cases he; rcases h with h | ⟨b, off, rfl, h⟩
  · have : ds = [] := by simpa using h
    rw [this] at hj; simp at hj
  · have hc := (h j (D3.cells ds[j]!) (by rw [List.getElem?_map, List.getElem?_eq_getElem hj, getElem!_pos ds j hj]; rfl)).2; exact ⟨b, off, rfl, hc 0 _ rfl, hc 1 _ rfl, hc 2 _ rfl⟩
theorem cells11 (w : World) (x1 : Int) (x2 : ByteArray) (x3 : Int) (x4 : ByteArray) (x5 : Int) (x6 : Bool) (x7 : Value) (x8 x9 x10 x11 : Int) (t : TypeId) (cs : Array Value) (h : cs = #[.int .i64 x1, .string x2, .int .i64 x3, .string x4, .int .i64 x5, .bool x6, x7, .int .i64 x8, .int .i64 x9, .int .i64 x10, .int .i64 x11]) :
    (w.alloc (.cells cs t)).cell? ⟨w.heap.size, 3, none⟩ = some (.string x4) ∧ (w.alloc (.cells cs t)).cell? ⟨w.heap.size, 6, none⟩ = some x7 := by
  subst h; refine ⟨?_, ?_⟩ <;> (rw [World.cell?_alloc_at _ _ _ _ rfl]; rfl)

set_option maxHeartbeats 8000000 in
theorem standing_n (w : World) (g m cap : Nat) (xs : List Dd) (hm : xs.length = m) (hl : m ≤ 100000) (hg : g < w.heap.size) (hH : HoldsK Dd.enc 11 w g 0 xs.toArray) (hgd : ∀ x ∈ xs, GoodD w x) (hwf : ∀ x ∈ xs, DotsWf x) :
    Calls Tryz.prog 78 #[.slice (some ⟨g, 0, none⟩) m cap] w fun e w' => StandRet xs w e w' := by
  have hmm := run_makeMap_room Tryz.underlying170 m; obtain ⟨i0, hi, hz0, hz1, hz2⟩ := info_parts Tryz.info131; have HH := hid hH; have HM := hid hm; have HG := hid hgd; have HWF := hid hwf; have hat : Hid (∀ k, k < m → xs[k]! ∈ xs) := fun k hk => by rw [getElem!_pos xs k (by have := HM.out; omega)]; exact List.getElem_mem _
  clear hH hm hgd hwf; go_enter Tryz.func78, Tryz.ntmps78; go_wp2
  go_loopw [22] (fun i wr => ∃ k : Nat, k ≤ m ∧ i = .int .i64 k ∧ Hid (StInv xs w wr (((xs.map Dd.abs).take k).foldl addStep fun _ => none) k)) (fun i _ => m - (intOf i).toNat)
  case atStart => exact ⟨0, Nat.zero_le _, rfl, StInv.start w⟩
  case round =>
    obtain ⟨k, hk, rfl, HI⟩ := hrel; have hsz := HI.out.size
    by_cases hlt : k < m
    · obtain ⟨u, hu⟩ : ∃ u, u = xs[k]! := ⟨_, rfl⟩; obtain ⟨c0, c1, c2, c3, c4, c5, c6, c7, c8, c9, c10⟩ := holdsK_cells (holdsK_below HH.out HI.out.below hg) (j := k) (u := u) (by have := HM.out; simp; omega) (by rw [hu]; have := HM.out; rw [getElem!_pos xs.toArray k (by simp; omega), getElem!_pos xs k (by omega)]; simp); have hwu := HWF.out u (by rw [hu]; exact hat.out k hlt)
      have hstep : ((xs.map Dd.abs).take (k + 1)).foldl addStep (fun _ => none) = addStep (((xs.map Dd.abs).take k).foldl addStep fun _ => none) u.abs := by
        rw [foldl_take_succ _ _ _ (by have := HM.out; simp; omega), map_get_abs xs (by have := HM.out; omega), hu]
      have HST := hid hstep; have HU := hid hu; clear hu hstep; obtain ⟨x1, x2, x3, x4, x5, x6, dp, dl, dc, ⟨x8, x9, x10⟩, x11, ds⟩ := u; simp only at c0 c1 c2 c3 c4 c5 c6 c7 c8 c9 c10; have hkey := key_dot ⟨x8, x9, x10⟩ hwu.1; obtain ⟨D, I, hown, hD, hT⟩ := HI.out.map; have his := hown.isMap; have HD := hid hD; have HTX := hid hT; clear hD hT
      cases x6 with
      | true =>
        go_wp2; go_roundw
        case rel =>
          refine ⟨k + 1, by omega, by go_num, ?_⟩; rw [HST.out]; exact (HI.out.alloc _).mono (Nat.le_succ _)
        case measure => simp [intOf]; omega
      | false =>
        go_wp2_with (at_mapUpdate; refine wpList_mapUpdate_own _ rfl _ _ _ 170 rfl 87 3 keyed65 Tryz.underlying170 (plainElem Tryz.prog 3) w.heap.size k _ rfl (hown.alloc _) ?hmx _ _ _ rfl rfl hkey _ [] (idxE_mk k (by omega)) ?_; (case hmx => unfold maxLen; omega); intro w1 hown1 hgrow1)
        go_roundw
        case rel =>
          refine ⟨k + 1, by omega, by go_num, ?_⟩; rw [HST.out]; exact (HI.out.alloc _).turned hgrow1 hown1 (HD.out.put his hwu.1 k) (HTX.out.put ⟨x8, x9, x10⟩ (by have := HM.out; omega) (congrArg Dd.text HU.out.symm))
        case measure => simp [intOf]; omega
    · have hkm : m = k := by omega
      subst hkm; have ht : (xs.map Dd.abs).take m = xs.map Dd.abs := List.take_of_length_le (by have := HM.out; simp; omega); rw [ht] at HI; obtain ⟨M0, hM0⟩ : ∃ M0, M0 = (xs.map Dd.abs).foldl addStep fun _ => none := ⟨_, rfl⟩
      rw [← hM0] at HI; have HM0 := hid hM0; obtain ⟨wo, hwo⟩ : ∃ wo : World, wo = wr := ⟨wr, rfl⟩; subst hwo; clear hM0 ht hlt hk hsz; go_wp2
      go_loopw [38] (fun i wr => ∃ k : Nat, k ≤ m ∧ i = .int .i64 k ∧ Hid (StInv xs w wr (((xs.map Dd.abs).take k).foldl remStep M0) m)) (fun i _ => m - (intOf i).toNat)
      case atStart => exact ⟨0, Nat.zero_le _, rfl, HI.out⟩
      case round =>
        obtain ⟨k, hk, rfl, HJ⟩ := hrel; have hsz := HJ.out.size
        by_cases hlt : k < m
        · obtain ⟨u, hu⟩ : ∃ u, u = xs[k]! := ⟨_, rfl⟩; obtain ⟨c0, c1, c2, c3, c4, c5, c6, c7, c8, c9, c10⟩ := holdsK_cells (holdsK_below HH.out HJ.out.below hg) (j := k) (u := u) (by have := HM.out; simp; omega) (by rw [hu]; have := HM.out; rw [getElem!_pos xs.toArray k (by simp; omega), getElem!_pos xs k (by omega)]; simp); have hwu := HWF.out u (by rw [hu]; exact hat.out k hlt); have hgu := HG.out u (by rw [hu]; exact hat.out k hlt)
          have hstep : ((xs.map Dd.abs).take (k + 1)).foldl remStep M0 = remStep (((xs.map Dd.abs).take k).foldl remStep M0) u.abs := by
            rw [foldl_take_succ _ _ _ (by have := HM.out; simp; omega), map_get_abs xs (by have := HM.out; omega), hu]
          have HST := hid hstep; have HU := hid hu; clear hu hstep; obtain ⟨x1, x2, x3, x4, x5, x6, dp, dl, dc, ⟨x8, x9, x10⟩, x11, ds⟩ := u; simp only at c0 c1 c2 c3 c4 c5 c6 c7 c8 c9 c10; have hdl : ds.length = dl := hwu.2.2.1; have hdm : dl ≤ 1000 := by rw [← hdl]; exact hwu.2.2.2
          have HDW : Hid (∀ d ∈ ds, wf3 d) := hwu.2.1; have HGU : Hid (DotsAt w (.slice dp dl dc) ds) := hgu; have HDL := hid hdl; obtain ⟨Mk, hMk⟩ : ∃ Mk, Mk = ((xs.map Dd.abs).take k).foldl remStep M0 := ⟨_, rfl⟩; rw [← hMk] at HJ HST; obtain ⟨wb, hwb⟩ : ∃ wb : World, wb = wr := ⟨wr, rfl⟩; subst hwb; clear hwu hgu hdl hMk; go_wp2; obtain ⟨w1, hw1⟩ : ∃ w1, w1 = wb.alloc (.cells #[.int .i64 x1, .string x2, .int .i64 x3, .string x4, .int .i64 x5, .bool x6, .slice dp dl dc, .int .i64 x8, .int .i64 x9, .int .i64 x10, .int .i64 x11] 131) := ⟨_, rfl⟩; have T1 : Hid (w1.cell? ⟨wb.heap.size, 3, none⟩ = some (.string x4)) := by rw [hw1]; exact (cells11 wb x1 x2 x3 x4 x5 x6 (.slice dp dl dc) x8 x9 x10 x11 131 _ rfl).1
          have S1 : Hid (wb.heap.size + 1 ≤ w1.heap.size) := hid (by rw [hw1]; simp); have I1 : Hid (StInv xs w w1 Mk m) := by rw [hw1]; exact HJ.out.alloc _
          rw [← hw1]; clear hw1 c0 c1 c2 c3 c4 c5 c6 c7 c8 c9 c10
          go_loopw [46] (fun i wj => ∃ j : Nat, j ≤ dl ∧ i = .int .i64 j ∧ Hid (StInv xs w wj ((ds.take j).foldl (delStep x4) Mk) m) ∧ Hid (wj.cell? ⟨wb.heap.size, 3, none⟩ = some (.string x4)) ∧ Hid (wb.heap.size + 1 ≤ wj.heap.size)) (fun i _ => dl - (intOf i).toNat)
          case atStart => exact ⟨0, Nat.zero_le _, rfl, I1.out, T1.out, S1.out⟩
          case round =>
            obtain ⟨j, hj, rfl, JI, JT, JS⟩ := hrel
            by_cases hjl : j < dl
            · have hjd : j < ds.length := by have := HDL.out; omega
              obtain ⟨bd, od, rfl, q0, q1, q2⟩ := dots_at HGU.out hjd; have up : ∀ {a : Addr} {v : Value}, w.cell? a = some v → wr.cell? a = some v := fun {a v} h => by rw [JI.out.below.cell (lt_of_cell h)]; exact h
              have r0 := up q0; have r1 := up q1; have r2 := up q2; have hwd := HDW.out ds[j]! (by rw [getElem!_pos ds j hjd]; exact List.getElem_mem _); have hfold : (ds.take (j + 1)).foldl (delStep x4) Mk = delStep x4 ((ds.take j).foldl (delStep x4) Mk) ds[j]! := foldl_take_succ _ _ _ hjd; obtain ⟨Mj, hMj⟩ : ∃ Mj, Mj = (ds.take j).foldl (delStep x4) Mk := ⟨_, rfl⟩; rw [← hMj] at hfold JI; obtain ⟨d, hd⟩ : ∃ d, d = ds[j]! := ⟨_, rfl⟩; rw [← hd] at r0 r1 r2 hwd hfold; obtain ⟨d1, d2, d3⟩ := d; simp only at r0 r1 r2; have hkey := key_dot ⟨d1, d2, d3⟩ hwd; simp only at hkey; have HF := hid hfold; clear q0 q1 q2 up hMj hd hfold; obtain ⟨wq, hwq⟩ : ∃ wq, wq = wr.alloc (.cells #[.int .i64 d1, .int .i64 d2, .int .i64 d3] 87) := ⟨_, rfl⟩; have IQ : StInv xs w wq Mj m := by rw [hwq]; exact JI.out.alloc _
              obtain ⟨D, I, hown, hD, hT⟩ := IQ.map; have hdD := hD _ hwd; have hdT := hT ⟨d1, d2, d3⟩; have t0 : wq.cell? ⟨wr.heap.size, 0, none⟩ = some (.int .i64 d1) := by rw [hwq]; simp
              have t1 : wq.cell? ⟨wr.heap.size, 1, none⟩ = some (.int .i64 d2) := by rw [hwq]; simp
              have t2 : wq.cell? ⟨wr.heap.size, 2, none⟩ = some (.int .i64 d3) := by rw [hwq]; simp
              have t3 : wq.cell? ⟨wb.heap.size, 3, none⟩ = some (.string x4) := by rw [hwq]; exact cell_alloc JT.out _
              have hsq : wb.heap.size + 1 ≤ wq.heap.size := by rw [hwq]; have := JS.out; simp; omega
              have hwbn : wb.heap.size ≠ w.heap.size := by omega
              have HIQ := hid IQ; have HDD := hid hD; have HTT := hid hT; have HSQ := hid hsq; have hbq := IQ.below; clear IQ hD hT hsq; go_upto_region 14 with (fail); rw [← hwq]; clear hwq r0 r1 r2
              cases hI : I ⟨d1, d2, d3⟩ with
              | none =>
                rw [hI] at hdD hdT; have hdh : Maps.has D (klD ⟨d1, d2, d3⟩) = false := hdD.1; have HN : Hid (Mj ⟨d1, d2, d3⟩ = none) := hdT.1; clear hdD hdT hI hbq
                go_wp2_with (at_lookup; refine wpList_lookup_own_ok_int _ rfl _ _ 170 rfl 87 3 .i64 keyed65 Tryz.underlying170 Tryz.underlying3 (Tryz.zero3 _) w.heap.size m D rfl hown _ _ rfl hkey ?_; intro c _ _)
                go_quiet (fail)
                go_wp2; refine ⟨⟨j + 1, by omega, by go_num, ?_, t3, HSQ.out⟩, by simp [intOf]; omega⟩
                rw [HF.out, delStep_none HN.out]; exact HIQ.out.draw _
              | some i =>
                rw [hI] at hdD hdT; have hdh : Maps.has D (klD ⟨d1, d2, d3⟩) = true := hdD.1; have hdv : D.atKey (klD ⟨d1, d2, d3⟩) (.lit (.int .i64 0)) = .lit (.int .i64 (i : Int)) := hdD.2; have hix : i < m := by rw [← HM.out]; exact hdT.2 i rfl
                obtain ⟨y, hy⟩ : ∃ y, y = xs[i]! := ⟨_, rfl⟩; obtain ⟨_, _, _, e3, _⟩ := holdsK_cells (holdsK_below HH.out hbq hg) (j := i) (u := y) (by have := HM.out; simp; omega) (by rw [hy]; have := HM.out; rw [getElem!_pos xs.toArray i (by simp; omega), getElem!_pos xs i (by omega)]; simp); have HN : Hid (Mj ⟨d1, d2, d3⟩ = some y.text) := by rw [hy]; exact hdT.1
                obtain ⟨y4, hy4⟩ : ∃ y4, y4 = y.text := ⟨_, rfl⟩; rw [← hy4] at e3 HN; clear hdD hdT hI hbq hy hy4
                by_cases he : y4 = x4
                · subst he; have heq : (y4.toList == y4.toList) = true := by simp
                  go_wp2_with (at_lookup; refine wpList_lookup_own_ok_int _ rfl _ _ 170 rfl 87 3 .i64 keyed65 Tryz.underlying170 Tryz.underlying3 (Tryz.zero3 _) w.heap.size m D rfl hown _ _ rfl hkey ?_; intro c hc _; rw [hdv] at hc; obtain rfl : (i : Int) = c := by injection hc with hc; injection hc)
                  go_quiet (fail)
                  go_wp2_with (at_delete; refine wpList_delete_own _ rfl _ _ 170 87 rfl 3 keyed65 Tryz.underlying170 (plainElem Tryz.prog 3) w.heap.size m D rfl hown _ _ rfl hkey ?_; intro w2 hown2 hturn2)
                  have hg2 := hturn2.grown; have hst : StInv xs w w2 (upd Mj ⟨d1, d2, d3⟩ none) m := (HIQ.out.draw _).turned hg2 hown2 (HDD.out.del hwd) (HTT.out.del _); refine ⟨⟨j + 1, by omega, by go_num, ?_, hg2.cell (w := wq.drewN _) t3 (fun e => hwbn (Option.some.inj e)), Nat.le_trans HSQ.out hg2.size⟩, by simp [intOf]; omega⟩; rw [HF.out]; unfold delStep; rw [if_pos (by rw [HN.out]; rfl)]; exact hst
                · have hne : (y4.toList == x4.toList) = false := beq_eq_false_iff_ne.2 (ne_toList he)
                  go_wp2_with (at_lookup; refine wpList_lookup_own_ok_int _ rfl _ _ 170 rfl 87 3 .i64 keyed65 Tryz.underlying170 Tryz.underlying3 (Tryz.zero3 _) w.heap.size m D rfl hown _ _ rfl hkey ?_; intro c hc _; rw [hdv] at hc; obtain rfl : (i : Int) = c := by injection hc with hc; injection hc)
                  go_quiet (fail)
                  go_wp2; refine ⟨⟨j + 1, by omega, by go_num, ?_, t3, HSQ.out⟩, by simp [intOf]; omega⟩
                  rw [HF.out]; unfold delStep; rw [if_neg (by rw [HN.out]; exact he)]; exact HIQ.out.draw _
            · have hjm : dl = j := by omega
              subst hjm; go_wp2; refine ⟨⟨k + 1, by omega, by go_num, ?_⟩, by simp [intOf]; omega⟩; rw [HST.out]; have := JI.out; rw [List.take_of_length_le (by have := HDL.out; omega)] at this; exact this
        · have hkm : m = k := by omega
          subst hkm; have ht : (xs.map Dd.abs).take m = xs.map Dd.abs := List.take_of_length_le (by have := HM.out; simp; omega); rw [ht, HM0.out] at HJ; have HJ2 : Hid (StInv xs w wr (finalMap (xs.map Dd.abs)) m) := HJ; obtain ⟨Mf, hMf⟩ : ∃ Mf, Mf = finalMap (xs.map Dd.abs) := ⟨_, rfl⟩; rw [← hMf] at HJ2; have HMF := hid hMf; obtain ⟨wb, hwb⟩ : ∃ wb : World, wb = wr := ⟨wr, rfl⟩; subst hwb; clear hMf ht hlt hk hsz HJ; go_wp2
          go_loopw [12, 75] (fun v i wr => ∃ k : Nat, k ≤ m ∧ i = .int .i64 k ∧ Hid (StInv xs w wr Mf m) ∧ Hid (wr.ownsRow (w.heap.size + 1) 131 11 v ((xs.take k).filter fun x => (Mf x.dot).isSome).length (((xs.take k).filter fun x => (Mf x.dot).isSome).flatMap Dd.enc))) (fun _ i _ => m - (intOf i).toNat)
          case atStart => exact ⟨0, Nat.zero_le _, rfl, HJ2.out, World.ownsRow_nil _ _ _ _⟩
          case round =>
            obtain ⟨k, hk, rfl, HK, HR⟩ := hrel; have hsz := HK.out.size
            by_cases hlt : k < m
            · obtain ⟨u, hu⟩ : ∃ u, u = xs[k]! := ⟨_, rfl⟩; obtain ⟨c0, c1, c2, c3, c4, c5, c6, c7, c8, c9, c10⟩ := holdsK_cells (holdsK_below HH.out HK.out.below hg) (j := k) (u := u) (by have := HM.out; simp; omega) (by rw [hu]; have := HM.out; rw [getElem!_pos xs.toArray k (by simp; omega), getElem!_pos xs k (by omega)]; simp); have hwu := HWF.out u (by rw [hu]; exact hat.out k hlt)
              have hfil : (xs.take (k + 1)).filter (fun x => (Mf x.dot).isSome) = (xs.take k).filter (fun x => (Mf x.dot).isSome) ++ (if (Mf u.dot).isSome = true then [u] else []) := by
                rw [List.take_succ_eq_append_getElem (by have := HM.out; omega), List.filter_append, hu, getElem!_pos xs k (by have := HM.out; omega)]
                congr 1
                simp [List.filter_cons]
              have hfl : ((xs.take k).filter (fun x => (Mf x.dot).isSome)).length ≤ m := Nat.le_trans (List.length_filter_le _ _) (by simp; omega); have HF := hid hfil; clear hu hfil; obtain ⟨x1, x2, x3, x4, x5, x6, dp, dl, dc, ⟨x8, x9, x10⟩, x11, ds⟩ := u; simp only at c0 c1 c2 c3 c4 c5 c6 c7 c8 c9 c10; have hkey := key_dot ⟨x8, x9, x10⟩ hwu.1; simp only at hkey; obtain ⟨D, I, hown, hD, hT⟩ := HK.out.map; have hdD := (hD _ hwu.1).1; have hdI : (I ⟨x8, x9, x10⟩).isSome = (Mf ⟨x8, x9, x10⟩).isSome := by rw [(hT ⟨x8, x9, x10⟩).1]; cases I ⟨x8, x9, x10⟩ <;> rfl
              rw [hdI] at hdD; clear hdI hT; have hrow := HR.out; obtain ⟨fs, hfs⟩ : ∃ fs, fs = (xs.take k).filter fun x => (Mf x.dot).isSome := ⟨_, rfl⟩
              rw [← hfs] at hrow HF hfl; clear hfs hD hwu HR
              cases hb : (Mf ⟨x8, x9, x10⟩).isSome with
              | false =>
                rw [hb] at hdD
                go_wp2_with (at_lookup; refine wpList_lookup_own_ok_int _ rfl _ _ 170 rfl 87 3 .i64 keyed65 Tryz.underlying170 Tryz.underlying3 (Tryz.zero3 _) w.heap.size m D rfl (hown.alloc _) _ _ rfl hkey ?_; intro c _ _)
                refine ⟨⟨k + 1, by omega, by go_num, HK.out.alloc _, ?_⟩, by simp [intOf]; omega⟩; rw [HF.out]; simp only [hb, Bool.false_eq_true, if_false, List.append_nil]; exact hrow.alloc _
              | true =>
                rw [hb] at hdD
                go_wp2_with (first
                  | (at_lookup; refine wpList_lookup_own_ok_int _ rfl _ _ 170 rfl 87 3 .i64 keyed65 Tryz.underlying170 Tryz.underlying3 (Tryz.zero3 _) w.heap.size m D rfl (hown.alloc _) _ _ rfl hkey ?_; intro c _ _)
                  | (at_builtin; refine wpList_append_own _ rfl _ _ 127 rfl (w.heap.size + 1) 131 i0 _ 11 120 Tryz.underlying127 hi hz0 hz1 hz2 rfl (by decide) _ _ _ rfl ((hrow.alloc _).alloc _) ⟨wr.heap.size + 1, 0, none⟩ 1 1 [.int .i64 x1, .string x2, .int .i64 x3, .string x4, .int .i64 x5, .bool x6, .slice dp dl dc, .int .i64 x8, .int .i64 x9, .int .i64 x10, .int .i64 x11] rfl rfl (cells11_new _ _ _ _ (by simp)) ?ho1 ?ho2 ?ho3 ?ho4 ?_; (case ho1 => exact Dd.enc_one ⟨x1, x2, x3, x4, x5, x6, dp, dl, dc, ⟨x8, x9, x10⟩, x11, ds⟩); (case ho2 => unfold maxLen; omega); (case ho3 => omega); (case ho4 => simp; omega); intro v' w2 hown' hgrow2 hnil2)
                  | go_in)
                refine ⟨⟨k + 1, by omega, by go_num, ((HK.out.alloc _).alloc _).beside hgrow2 (fun j hj => (hrow.lt j hj).1), ?_⟩, by simp [intOf]; omega⟩; rw [HF.out]; simp only [hb, if_true, List.length_append, List.length_singleton, List.flatMap_append, List.flatMap_singleton]; exact hown'
            · have hkm : m = k := by omega
              subst hkm; go_wp2; go_ret; have := HR.out; rw [List.take_of_length_le (by have := HM.out; omega), HMF.out] at this; exact ⟨_, rfl, this, HK.out.below⟩
end Go.Proofs.YtdnebclemngdcaaGreatDoor
