/- once by its contract, where nothing is wrong; From a row that the call owns to a row that is sorted and cut; the order of ops. -/
import Derived.Test.YtefpnojanldkeaaGreatDoorJVOnceM
import Derived.Test.YtefpnojanldkeaaGreatDoorJVMap
import Derived.Test.YtefpnojanldkeaaGreatDoorJVVec
import Derived.Test.YtefpnojanldkeaaGreatDoorJVOp
import Derived.Deep.RegionHeld
import Derived.Laws.MakeOwn
namespace Go.Proofs.YtefpnojanldkeaaGreatDoor
open Go.RowKit Go.Maps
set_option maxRecDepth 100000
set_option linter.unusedSectionVars false
variable [Inhabited ComV] [DecidableEq D3] [Inhabited D3] [Inhabited Dd] [Inhabited Dn] [Inhabited OpV]

/-- A commit in which nothing is wrong. -/
structure ComOk (c : ComV) : Prop where
  chk : chk c.when_ = 0
  lo : 0 ≤ c.place
  hi : c.place < c.when_.length
  time : c.when_.getD c.place.toNat 0 ≠ 0
  few : c.ops.length ≤ 12
  some_ : c.ops ≠ []
  ops : ∀ i, i < c.ops.length → opBad c.when_.length c.ops i = 0
theorem comOk_of {c : ComV} (h : (comErr c).1 = 0) : ComOk c := by
  unfold comErr at h
  split at h
  · rename_i hc
    rcases chk_cases c.when_ with e | e | e
    · exact absurd e hc
    · rw [e] at h; exact absurd h (by decide)
    · rw [e] at h; exact absurd h (by decide)
  · rename_i hc
    split at h
    · exact absurd h (by decide)
    · rename_i hb
      split at h
      · exact absurd h (by decide)
      · rename_i h0
        exact ⟨by simpa using hc, by omega, by omega, fun e => hb (.inr (.inr (.inl e))), by omega, h0, scan_zero h⟩
theorem opErr_of_bad {n : Int} {os : List OpV} {i : Nat} (h : opBad n os i = 0) : opErr os[i]! n = 0 := by
  unfold opBad at h
  split at h
  · rename_i e; exact absurd h e
  · rename_i e; simpa using e
theorem at_of_opErr {o : OpV} {n : Int} (h : opErr o n = 0) : 0 ≤ o.at_ ∧ o.at_ < 12 := by
  unfold opErr at h
  split at h
  · exact absurd h (by decide)
  · rename_i e; omega
theorem wf_i64 {n : Int} (h1 : 0 ≤ n) (h2 : n ≤ 1099511627776) : (Lit.int .i64 n).wf = true := WalkArith.wf_i64 (by omega)
theorem Tryz.info148 : (Tryz.prog.info? 148).map (fun i => (i.zero, i.size, i.bytes)) = some (some (.agg #[.int .i64 0, .string ByteArray.empty, .int .i64 0, .string ByteArray.empty, .int .i64 0, .bool false, .slice none 0 0, .int .i64 0, .int .i64 0, .int .i64 0, .int .i64 0]), 11, 120) := by kernel_rfl
theorem zero136 (w : World) : (zeroValue 110).run Tryz.prog w = .ok (.agg #[]) w := by kernel_rfl
theorem cell_g {w w1 : World} {o : Obj} {mb : Nat} {a : Addr} {v : Value} (hg : (w.alloc o).grownBy w1 (some mb)) (h : w.cell? a = some v) (hne : a.block ≠ mb) : w1.cell? a = some v :=
  hg.cell (cell_alloc h o) (fun e => hne (Option.some.inj e))
theorem row_ne {w : World} {base : Nat} {e : TypeId} {size : Nat} {v : Value} {n : Nat} {xs : List Value} (h : w.ownsRow base e size v n xs) {b : Nat} (hb : b < base) : some b ≠ v.ownBlock := fun e1 => by
  have := (h.lt b e1.symm).1
  omega
theorem cells11_new (w : World) (cs : List Value) (t : TypeId) (n : Nat) (hn : n = w.heap.size) : ∀ j u, cs[j]? = some u → (w.alloc (.cells cs.toArray t)).cell? ((⟨n, 0, none⟩ : Addr).add j) = some u := by
  intro j u hj
  rw [Addr.add_lit, Nat.zero_add, World.cell?_alloc_at _ _ _ _ hn]
  simpa using hj
theorem once_size {n : Nat} {wz w1 : World} {o o2 : Obj} {r : Option Nat} (h : (wz.alloc o).grownBy w1 r) (hs : n + 1 ≤ wz.heap.size) : n + 1 ≤ (w1.alloc o2).heap.size := by
  have := h.size
  simp at this ⊢
  omega
theorem cells7 (w : World) (x1 : Int) (x2 : ByteArray) (x3 : Int) (x4 : ByteArray) (x5 : Int) (x6 : Bool) (x7 : Value) (t : TypeId) : (w.alloc (.cells #[.int .i64 x1, .string x2, .int .i64 x3, .string x4, .int .i64 x5, .bool x6, x7] t)).cell? ⟨w.heap.size, 0, none⟩ = some (.int .i64 x1) ∧
    (w.alloc (.cells #[.int .i64 x1, .string x2, .int .i64 x3, .string x4, .int .i64 x5, .bool x6, x7] t)).cell? ⟨w.heap.size, 1, none⟩ = some (.string x2) ∧ (w.alloc (.cells #[.int .i64 x1, .string x2, .int .i64 x3, .string x4, .int .i64 x5, .bool x6, x7] t)).cell? ⟨w.heap.size, 2, none⟩ = some (.int .i64 x3) ∧
    (w.alloc (.cells #[.int .i64 x1, .string x2, .int .i64 x3, .string x4, .int .i64 x5, .bool x6, x7] t)).cell? ⟨w.heap.size, 3, none⟩ = some (.string x4) ∧ (w.alloc (.cells #[.int .i64 x1, .string x2, .int .i64 x3, .string x4, .int .i64 x5, .bool x6, x7] t)).cell? ⟨w.heap.size, 4, none⟩ = some (.int .i64 x5) ∧
    (w.alloc (.cells #[.int .i64 x1, .string x2, .int .i64 x3, .string x4, .int .i64 x5, .bool x6, x7] t)).cell? ⟨w.heap.size, 5, none⟩ = some (.bool x6) ∧ (w.alloc (.cells #[.int .i64 x1, .string x2, .int .i64 x3, .string x4, .int .i64 x5, .bool x6, x7] t)).cell? ⟨w.heap.size, 6, none⟩ = some x7 := by
  refine ⟨?_, ?_, ?_, ?_, ?_, ?_, ?_⟩ <;> (rw [World.cell?_alloc_at _ _ _ _ rfl]; rfl)
set_option maxHeartbeats 4000000 in
theorem once_n (A : Nat → Addr) (w : World) (hE : E4 A w) (h4 : 12 ≤ w.heap.size) (b off m c : Nat) (l : List ComV) (hm : l.length = m) (hl : m ≤ 1000) (hok : ∀ i, i < m → ComOk l[i]!)
    (ho : ∀ j, j < m → ∃ wv ov, IntsAt w wv l[j]!.when_ ∧ OpsAt w ov l[j]!.ops ∧ w.cell? ⟨b, off + j * 3, none⟩ = some wv ∧ w.cell? ⟨b, off + j * 3 + 1, none⟩ = some (.int .i64 l[j]!.place) ∧ w.cell? ⟨b, off + j * 3 + 2, none⟩ = some ov) :
    Calls Tryz.prog 104 #[.slice (some ⟨b, off, none⟩) m c] w fun e w' => ∃ v n, e = .returned (.tuple #[v, .nilIface]) ∧ OnceInv w w' v (onceA l) n := by
  have hmm := run_makeMap_room Tryz.underlying107 m
  obtain ⟨i0, hi, hz0, hz1, hz2⟩ := info_parts Tryz.info148
  obtain ⟨wm, hms, hmr, hmg⟩ := run_make_own (P := Tryz.prog) (w.alloc (.map #[] 0)) (w.heap.size + 1) 144 148 i0 _ 11 Tryz.underlying144 hi hz0 hz1 .i64 .i64 m (by rw [hz2]; omega) (by unfold maxLen; omega) (by simp)
  have hsm : Hid (OnceInv w wm _ [] 0) := OnceInv.start w wm _ hmr hmg
  clear hmr hmg
  simp only [World.size_alloc] at hms hsm
  have HO := hid ho
  have HE := hid hE
  have HM := hid hm
  have HK := hid hok
  clear ho hE hm hok
  go_enter Tryz.func104, Tryz.ntmps104
  go_wp2
  go_loopw [5, 23] (fun v i wr => ∃ k : Nat, k ≤ m ∧ i = .int .i64 k ∧ Hid (OnceInv w wr v ((l.take k).foldl addCom []) (12 * k))) (fun _ i _ => m - (intOf i).toNat)
  case atStart => exact ⟨0, Nat.zero_le _, rfl, hsm.out⟩
  case round =>
    obtain ⟨k, hk, rfl, HI⟩ := hrel
    have hsz := HI.out.size
    by_cases hlt : k < m
    · obtain ⟨wv, ov, hi', hop, q0, q1, q2⟩ := HO.out k hlt
      have up : ∀ {a : Addr} {v : Value}, w.cell? a = some v → wr.cell? a = some v := fun {a v} h => by rw [HI.out.below.cell (lt_of_cell h)]; exact h
      have r0 := up q0
      have r1 := up q1
      have r2 := up q2
      have hC := HK.out k hlt
      obtain ⟨x, hx⟩ : ∃ x, x = l[k]! := ⟨_, rfl⟩
      rw [← hx] at r1 hC hi' hop
      have HX := hid hx
      have KW := fun o => Weight_ok A (wr.alloc o) ((HE.out.below HI.out.below h4).below (below_alloc wr o) (by omega)) wv x.when_ ((hi'.mono HI.out.below (Nat.le_refl _)).mono (below_alloc wr o) (Nat.le_refl _)) hC.chk
      have hi0 := hi'
      obtain ⟨a1, c1, rfl, _, hw⟩ := hi'
      obtain ⟨a2, c2, rfl, _, _, hos⟩ := hop.shape
      obtain ⟨b1, o1, rfl, hw2⟩ : ∃ b1 o1, a1 = some ⟨b1, o1, none⟩ ∧ ∀ t, t < x.when_.length → w.cell? ⟨b1, o1 + t, none⟩ = some (.int .i64 (x.when_.getD t 0)) := by
        rcases hw with h | h
        · have := (chk_zero.1 hC.chk).1
          rw [h] at this
          simp at this
        · exact h
      obtain ⟨b2, o2, rfl, hos2⟩ := hos.resolve_left hC.some_
      obtain ⟨p, hp⟩ : ∃ p : Nat, x.place = p := ⟨x.place.toNat, by have := hC.lo; omega⟩
      have hplt : p < x.when_.length := by have := hC.hi; omega
      have ct := hw2 p hplt
      obtain ⟨T, hT⟩ : ∃ T, T = x.when_.getD p 0 := ⟨_, rfl⟩
      rw [← hT] at ct
      rw [hp] at r1
      have HW := hid hw2
      have HOS := hid hos2
      have HT := hid hT
      have HP := hid hp
      have HC := hid hC
      obtain ⟨n, hn⟩ : ∃ n, n = x.when_.length := ⟨_, rfl⟩
      rw [← hn] at KW r0 hplt
      obtain ⟨mo, hmo⟩ : ∃ mo, mo = x.ops.length := ⟨_, rfl⟩
      rw [← hmo] at r2
      have hmo12 : mo ≤ 12 := by rw [hmo]; exact hC.few
      have HMO := hid hmo
      obtain ⟨sw, hsw⟩ : ∃ sw, sw = sum x.when_ := ⟨_, rfl⟩
      rw [← hsw] at KW
      have HSW := hid hsw
      have hn6 : n ≤ 6 := by rw [hn]; exact (chk_zero.1 hC.chk).2.1
      clear q0 q1 q2 hi0 hop hx hw hos hw2 hos2 hT hp hC hn hmo hsw up
      go_wp2_with (go_at_call 119; refine (KW _).mono ?_; rintro e w' ⟨rfl, rfl⟩)
      obtain ⟨wo, hwo⟩ : ∃ wo : World, wo = wr := ⟨wr, rfl⟩
      subst hwo
      obtain ⟨acc, hacc⟩ : ∃ acc, acc = (l.take k).foldl addCom [] := ⟨_, rfl⟩
      rw [← hacc] at HI
      have HA := hid hacc
      clear KW hacc
      obtain ⟨w1, hw1⟩ : ∃ w1, w1 = wo.alloc (.cells #[.slice (some ⟨b1, o1, none⟩) n c1, .int .i64 p, .slice (some ⟨b2, o2, none⟩) mo c2] 36) := ⟨_, rfl⟩
      have C0 : Hid (w1.cell? ⟨wo.heap.size, 0, none⟩ = some (.slice (some ⟨b1, o1, none⟩) n c1)) := hid (by rw [hw1]; simp)
      have C1 : Hid (w1.cell? ⟨wo.heap.size, 1, none⟩ = some (.int .i64 p)) := hid (by rw [hw1]; simp)
      have S1 : Hid (w1.heap.size = wo.heap.size + 1) := hid (by rw [hw1]; simp)
      have I1 : Hid (OnceInv w w1 u5 acc (12 * k)) := by rw [hw1]; exact HI.out.alloc _
      have N1 : Hid (u5.ownBlock ≠ some wo.heap.size) := fun e => by
        obtain ⟨xs, hrow, _⟩ := HI.out.row
        have := (hrow.lt _ e).2
        omega
      rw [← hw1]
      clear hw1 r0 r1 r2
      go_loopw [5, 39] (fun v i wj => ∃ j : Nat, j ≤ mo ∧ i = .int .i64 j ∧ Hid (OnceInv w wj v (addTo acc x j) (12 * k + j)) ∧ Hid (v.ownBlock ≠ some wo.heap.size) ∧ Hid (wo.heap.size + 1 ≤ wj.heap.size) ∧ Hid (wj.cell? ⟨wo.heap.size, 0, none⟩ = some (.slice (some ⟨b1, o1, none⟩) n c1)) ∧ Hid (wj.cell? ⟨wo.heap.size, 1, none⟩ = some (.int .i64 p))) (fun _ i _ => mo - (intOf i).toNat)
      case atStart => exact ⟨0, Nat.zero_le _, rfl, by rw [addTo_zero]; exact I1.out, N1.out, Nat.le_of_eq S1.out.symm, C0.out, C1.out⟩
      case round =>
        obtain ⟨j, hj, rfl, JI, JN, JS, J0, J1⟩ := hrel
        by_cases hjl : j < mo
        · obtain ⟨dp, dc, hd, q0, q1, q2, q3, q4, q5, q6⟩ := HOS.out j (by have := HMO.out; omega)
          have up : ∀ {a : Addr} {v : Value}, w.cell? a = some v → wr.cell? a = some v := fun {a v} h => by rw [JI.out.below.cell (lt_of_cell h)]; exact h
          have r0 := up q0
          have r1 := up q1
          have r2 := up q2
          have r3 := up q3
          have r4 := up q4
          have r5 := up q5
          have r6 := up q6
          have ct' := up ct
          have hoe := opErr_of_bad (HC.out.ops j (by have := HMO.out; omega))
          obtain ⟨y, hy⟩ : ∃ y, y = x.ops[j]! := ⟨_, rfl⟩
          rw [← hy] at r0 r1 r2 r3 r4 r5 r6 hd hoe
          have HY := hid hy
          have hat := at_of_opErr hoe
          obtain ⟨x1, x2, x3, x4, x5, x6, ds⟩ := y
          simp only at r0 r1 r2 r3 r4 r5 r6 hd hat
          obtain ⟨dl, hdl⟩ : ∃ dl, dl = ds.length := ⟨_, rfl⟩
          rw [← hdl] at r6 hd
          have hwf : Hid (wf3 ⟨p, T, x1⟩) := ⟨wf_i64 (by simp only; omega) (by simp only; omega), wf_i64 (by have := (chk_zero.1 HC.out.chk).2.2 p (by have := HC.out.hi; have := HP.out; omega); rw [← HT.out] at this; exact this.1) (by have := (chk_zero.1 HC.out.chk).2.2 p (by have := HC.out.hi; have := HP.out; omega); rw [← HT.out] at this; exact this.2), wf_i64 hat.1 (by simp only; omega)⟩
          have HD := hid hd
          have hblt : b1 < wr.heap.size := lt_of_cell ct'
          have hcb : wo.heap.size < wr.heap.size := by have := JS.out; omega
          have c0 := J0.out
          have c1' := J1.out
          clear q0 q1 q2 q3 q4 q5 q6 hoe hy hat hdl hd up
          obtain ⟨wq, hwq⟩ : ∃ wq, wq = wr.alloc (.cells #[.int .i64 x1, .string x2, .int .i64 x3, .string x4, .int .i64 x5, .bool x6, .slice dp dl dc] 34) := ⟨_, rfl⟩
          go_upto_region 12 with (fail)
          rw [← hwq]
          have s0 : wq.cell? ⟨wr.heap.size, 0, none⟩ = some (.int .i64 x1) := by rw [hwq]; exact (cells7 wr x1 x2 x3 x4 x5 x6 (.slice dp dl dc) 34).1
          have s1 : wq.cell? ⟨wo.heap.size, 0, none⟩ = some (.slice (some ⟨b1, o1, none⟩) n c1) := by rw [hwq]; exact cell_alloc c0 _
          have s2 : wq.cell? ⟨wo.heap.size, 1, none⟩ = some (.int .i64 p) := by rw [hwq]; exact cell_alloc c1' _
          have s3 : wq.cell? ⟨b1, o1 + p, none⟩ = some (.int .i64 T) := by rw [hwq]; exact cell_alloc ct' _
          have HWQ := hid hwq
          clear hwq
          go_region_held (fun w' => w'.cell? ⟨wr.heap.size, 0, none⟩ = some (.int .i64 x1) ∧ w'.cell? ⟨wo.heap.size, 0, none⟩ = some (.slice (some ⟨b1, o1, none⟩) n c1) ∧ w'.cell? ⟨wo.heap.size, 1, none⟩ = some (.int .i64 p) ∧ w'.cell? ⟨b1, o1 + p, none⟩ = some (.int .i64 T)) (go_keep) (fail)
          obtain ⟨wz, hwz⟩ : ∃ wz, wz = (wq.alloc (.cells #[.int .i64 p, .int .i64 T, .int .i64 x1] 90)).drew := ⟨_, rfl⟩
          rw [← hwz]
          obtain ⟨y0, y1, y2, y3, y4, y5, y6⟩ := cells7 wr x1 x2 x3 x4 x5 x6 (.slice dp dl dc) 34
          rw [← HWQ.out] at y0 y1 y2 y3 y4 y5 y6
          have upz : ∀ {a : Addr} {v : Value}, wq.cell? a = some v → wz.cell? a = some v := fun {a v} h => by rw [hwz]; exact cell_alloc h _
          have e0 := upz y0
          have e1 := upz y1
          have e2 := upz y2
          have e3 := upz y3
          have e4 := upz y4
          have e5 := upz y5
          have e6 := upz y6
          have t0 := upz s1
          have t1 := upz s2
          have z0 : wz.cell? ⟨wq.heap.size, 0, none⟩ = some (.int .i64 p) := by rw [hwz]; exact (World.cell?_alloc_at _ _ _ _ rfl).trans rfl
          have z1 : wz.cell? ⟨wq.heap.size, 1, none⟩ = some (.int .i64 T) := by rw [hwz]; exact (World.cell?_alloc_at _ _ _ _ rfl).trans rfl
          have z2 : wz.cell? ⟨wq.heap.size, 2, none⟩ = some (.int .i64 x1) := by rw [hwz]; exact (World.cell?_alloc_at _ _ _ _ rfl).trans rfl
          have sq : wq.heap.size = wr.heap.size + 1 := by rw [HWQ.out]; simp
          have sz : wz.heap.size = wq.heap.size + 1 := by rw [hwz]; show (wq.alloc _).heap.size = _; simp
          have IZ : OnceInv w wz u5 (addTo acc x j) (12 * k + j) := by rw [hwz, HWQ.out]; exact ((JI.out.alloc _).alloc _).draw 1
          have hn1 : wr.heap.size ≠ w.heap.size := by have := JI.out.size; omega
          have hn2 : wq.heap.size ≠ w.heap.size := by have := JI.out.size; omega
          have hn3 : wo.heap.size ≠ w.heap.size := by omega
          have SQ := hid sq
          have SZ := hid sz
          clear sq sz
          obtain ⟨D, hown, hD⟩ := IZ.map
          obtain ⟨xs, hrow, habs, hgood⟩ := IZ.row
          have hlen := IZ.len
          have his := hown.isMap
          have hdD := hD _ hwf.out
          have hkey := key_dot _ hwf.out
          have HGD := hid hgood
          have HAB := hid habs
          have HHD := hid hD
          have HWZ := hid hwz
          have hxl : xs.length ≤ 12 * k + j := by have : xs.length = (addTo acc x j).length := by rw [← habs]; simp
                                                  omega
          clear upz y0 y1 y2 y3 y4 y5 y6 s0 s1 s2 s3 r0 r1 r2 r3 r4 r5 r6 hwz hgood habs hD
          have hdn : (dnOf x ⟨x1, x2, x3, x4, x5, x6, ds⟩).dot = ⟨p, T, x1⟩ := by unfold dnOf; rw [HP.out, Int.toNat_natCast, ← HT.out]
          cases hb : hasDot (addTo acc x j) ⟨p, T, x1⟩ with
          | true =>
            rw [hb] at hdD
            go_wp2_with (at_lookup; refine wpList_lookup_own_unit _ rfl _ _ 107 rfl 90 110 keyed65 Tryz.underlying107 (zero136 _) w.heap.size _ D rfl hown _ _ rfl hkey ?_)
            refine ⟨⟨j + 1, by omega, by go_num, ?_, JN.out, ?_, cell_alloc t0 _, cell_alloc t1 _⟩, by simp [intOf]; omega⟩
            · rw [addTo_succ _ _ (by have := HMO.out; omega), ← HY.out]
              unfold addDn
              rw [hdn, if_pos hb]
              exact (IZ.alloc _).mono (by omega)
            · have e1 := SZ.out
              have e2 := SQ.out
              exact (show wo.heap.size + 1 ≤ (wz.alloc _).heap.size by simp; omega)
          | false =>
            rw [hb] at hdD
            have f0 := fun o => cell_alloc z0 o
            have f1 := fun o => cell_alloc z1 o
            have f2 := fun o => cell_alloc z2 o
            go_wp2_with (first
              | (at_lookup; refine wpList_lookup_own_unit _ rfl _ _ 107 rfl 90 110 keyed65 Tryz.underlying107 (zero136 _) w.heap.size _ D rfl hown _ _ rfl hkey ?_)
              | (at_mapUpdate; refine wpList_mapUpdate_own _ rfl _ _ _ 107 rfl 90 110 keyed65 Tryz.underlying107 (unitElem (H := Unit)) w.heap.size (12 * k + j) _ rfl (hown.alloc _) ?hmx _ _ _ rfl rfl hkey _ [] unitElem_mk ?_; (case hmx => unfold maxLen; omega); intro w1 hown1 hgrow1; have g0 := cell_g hgrow1 e0 hn1; have g1 := cell_g hgrow1 e1 hn1; have g2 := cell_g hgrow1 e2 hn1; have g3 := cell_g hgrow1 e3 hn1; have g4 := cell_g hgrow1 e4 hn1; have g5 := cell_g hgrow1 e5 hn1; have g6 := cell_g hgrow1 e6 hn1; have k0 := cell_g hgrow1 z0 hn2; have k1 := cell_g hgrow1 z1 hn2; have k2 := cell_g hgrow1 z2 hn2)
              | (at_builtin; refine wpList_append_own_at _ rfl _ _ 144 rfl (w.heap.size + 1) 148 i0 _ 11 120 Tryz.underlying144 hi hz0 hz1 hz2 rfl (by decide) _ _ _ rfl (((hrow.alloc _).kept hgrow1 (Or.inr (row_ne hrow (Nat.lt_succ_self _)).symm)).alloc _) ⟨w1.heap.size, 0, none⟩ 1 1 [.int .i64 x1, .string x2, .int .i64 x3, .string x4, .int .i64 x5, .bool x6, .slice dp dl dc, .int .i64 p, .int .i64 T, .int .i64 x1, .int .i64 sw] rfl rfl (cells11_new _ _ _ _ rfl) ?ho1 ?ho2 ?ho3 ?ho4 ?_; (case ho1 => exact Dd.enc_one ⟨x1, x2, x3, x4, x5, x6, dp, dl, dc, ⟨p, T, x1⟩, sw, ds⟩); (case ho2 => unfold maxLen; omega); (case ho3 => omega); (case ho4 => exact once_size hgrow1 IZ.size); intro v' w2 hown' hgrow2 hnil2 hloc)
              | go_in)
            have hxe : Dd.enc ⟨x1, x2, x3, x4, x5, x6, dp, dl, dc, ⟨p, T, x1⟩, sw, ds⟩ = [.int .i64 x1, .string x2, .int .i64 x3, .string x4, .int .i64 x5, .bool x6, .slice dp dl dc, .int .i64 p, .int .i64 T, .int .i64 x1, .int .i64 sw] := rfl
            have hstep := OnceInv.step (x := ⟨x1, x2, x3, x4, x5, x6, dp, dl, dc, ⟨p, T, x1⟩, sw, ds⟩) HD.out IZ.size IZ.below hlen hrow HAB.out HGD.out HHD.out hwf.out his hgrow1 hown1 hgrow2 (by rw [hxe]; exact hown')
            have hsz2 : wo.heap.size + 1 ≤ w2.heap.size := by
              have q1 := hgrow1.size
              have q2 := hgrow2.size
              have q3 := SZ.out
              have q4 := SQ.out
              simp at q1 q2
              omega
            have hcw : ∀ {a : Addr} {v : Value}, wz.cell? a = some v → a.block = wo.heap.size → w2.cell? a = some v := fun {a v} h e => by
              refine hgrow2.cell (cell_alloc (cell_g hgrow1 h (by rw [e]; exact hn3)) _) ?_
              rw [e]
              exact fun h => JN.out h.symm
            refine ⟨⟨j + 1, by omega, by go_num, ?_, ?_, hsz2, hcw t0 rfl, hcw t1 rfl⟩, by simp [intOf]; omega⟩
            · rw [addTo_succ _ _ (by have := HMO.out; omega), ← HY.out]
              unfold addDn
              rw [hdn, if_neg (by rw [hb]; decide)]
              have e1 : dnOf x ⟨x1, x2, x3, x4, x5, x6, ds⟩ = Dd.abs ⟨x1, x2, x3, x4, x5, x6, dp, dl, dc, ⟨p, T, x1⟩, sw, ds⟩ := by
                unfold dnOf Dd.abs
                rw [HP.out, Int.toNat_natCast, ← HT.out, ← HSW.out]
              rw [e1]
              exact hstep
            · have q1 := hgrow1.size
              have q3 := SZ.out
              have q4 := SQ.out
              simp at q1
              rcases hloc with h | h
              · rw [h]; exact JN.out
              · rw [h]
                intro e
                have := Option.some.inj e
                simp at this
                omega
        · obtain rfl : j = mo := by omega
          go_wp2
          refine ⟨⟨k + 1, by omega, by go_num, ?_⟩, by simp [intOf]; omega⟩
          rw [once_succ (by have := HM.out; omega), ← HX.out, ← HA.out, ← addTo_all, ← HMO.out]
          exact JI.out.mono (by omega)
    · obtain rfl : k = m := by omega
      go_wp2
      go_ret2
      exact ⟨_, _, rfl, by have := HI.out; rw [← HM.out, List.take_length] at this; exact this⟩
end Go.Proofs.YtefpnojanldkeaaGreatDoor
namespace Go.Proofs.YtefpnojanldkeaaGreatDoor
open Go.RowKit Go.Sort Go.Maps
set_option linter.unusedSectionVars false
variable [Inhabited ComV] [DecidableEq D3] [Inhabited D3] [Inhabited Dd] [Inhabited Dn] [Inhabited OpV]

set_option maxRecDepth 100000 in
theorem once_none (w : World) (a : Option Addr) (c : Nat) : Calls Tryz.prog 104 #[.slice a 0 c] w fun e w' => ∃ v, e = .returned (.tuple #[v, .nilIface]) ∧ OnceInv w w' v [] 0 := by
  have hmm : ∀ W, (Instr.makeMap 107 (some (.int .i64 0))).run Tryz.prog W = .ok (.map (some W.heap.size)) (W.alloc (.map #[] 0)) := run_makeMap_room Tryz.underlying107 0
  obtain ⟨i0, hi, hz0, hz1, hz2⟩ := info_parts Tryz.info148
  obtain ⟨wm, hms, hmr, hmg⟩ := run_make_own (P := Tryz.prog) (w.alloc (.map #[] 0)) (w.heap.size + 1) 144 148 i0 _ 11 Tryz.underlying144 hi hz0 hz1 .i64 .i64 0 (by omega) (by unfold maxLen; omega) (by simp)
  have hsm : Hid (OnceInv w wm _ [] 0) := OnceInv.start w wm _ hmr hmg
  clear hmr hmg
  simp only [World.size_alloc, Int.cast_ofNat_Int] at hms hsm
  go_enter Tryz.func104, Tryz.ntmps104
  go_wp2
  refine wp_loop_rounds 1 ?_
  rw [rounds_succ]
  go_wp2
  go_ret2
  exact ⟨_, rfl, hsm.out⟩
/-- once, where nothing is wrong. -/
theorem once_any (A : Nat → Addr) (w : World) (hE : E4 A w) (h4 : 12 ≤ w.heap.size) (v : Value) (l : List ComV) (hv : ComsAt w v l) (hl : l.length ≤ 1000) (hok : ∀ i, i < l.length → ComOk l[i]!) :
    Calls Tryz.prog 104 #[v] w fun e w' => ∃ v n, e = .returned (.tuple #[v, .nilIface]) ∧ OnceInv w w' v (onceA l) n := by
  obtain ⟨ad, cap, rfl, _, _, h⟩ := hv.shape
  by_cases h0 : l = []
  · subst h0
    refine (once_none w ad cap).mono ?_
    rintro e w' ⟨v, rfl, h⟩
    exact ⟨_, _, rfl, h⟩
  · obtain ⟨b, off, rfl, h2⟩ := h.resolve_left h0
    exact once_n A w hE h4 b off l.length cap l rfl hl hok h2
theorem flat_get (xs : List Dd) : ∀ (j i : Nat), j < xs.length → i < 11 → (xs.flatMap Dd.enc)[j * 11 + i]? = some (xs[j]!.enc[i]!) := by
  induction xs with
  | nil => intro j i hj; simp at hj
  | cons x r ih =>
    intro j i hj hi
    rw [List.flatMap_cons]
    cases j with
    | zero =>
      rw [List.getElem?_append_left (by rw [Dd.enc_length]; omega), Nat.zero_mul, Nat.zero_add, List.getElem?_eq_getElem (by rw [Dd.enc_length]; exact hi)]
      show some _ = some (x.enc[i]!)
      rw [getElem!_pos x.enc i (by rw [Dd.enc_length]; exact hi)]
    | succ j =>
      rw [List.getElem?_append_right (by rw [Dd.enc_length]; omega), Dd.enc_length, show (j + 1) * 11 + i - 11 = j * 11 + i by omega, ih j i (by simpa using hj) hi]
      simp
theorem rowD_of_owns {w : World} {base : Nat} {v : Value} {xs : List Dd} (h : w.ownsRow base 148 11 v xs.length (xs.flatMap Dd.enc)) : RowD w base v xs := by
  obtain ⟨_, h2⟩ := h
  rcases h2 with ⟨rfl, h0⟩ | ⟨g, cap, cur, rfl, hb, hh, hn, hm, hs, ht⟩
  · exact .inl ⟨rfl, List.eq_nil_of_length_eq_zero h0⟩
  · refine .inr ⟨g, cap, rfl, hb, (Array.getElem?_eq_some_iff.1 hh).1, hn, ?_⟩
    rw [holdsK_iff]
    intro j hj i hi
    have hj' : j < xs.length := by simpa using hj
    have e := flat_get xs j i hj' hi
    rw [← ht, List.getElem?_take, if_pos (by omega), Array.getElem?_toList] at e
    refine ⟨?_, ?_⟩
    · simp only [World.cell?, hh]
      rw [e]
      simp
    · simp only [World.frozen?, hh]
      simp
theorem RowD.mono {w : World} {B B' : Nat} {v : Value} {xs : List Dd} (h : RowD w B v xs) (hB : B' ≤ B) : RowD w B' v xs := by
  rcases h with h | ⟨g, cap, h1, h2, h3⟩
  · exact .inl h
  · exact .inr ⟨g, cap, h1, Nat.le_trans hB h2, h3⟩
/-- Which of two ops counts first. -/
def ltN (x y : Dn) : Bool := decide (x.wt < y.wt ∨ x.wt = y.wt ∧ ltD x.dot y.dot = true)
/-- All ops on a key, in the order in which they count. -/
def InOrder (key : ByteArray) (l : List ComV) (ys : List Dn) : Prop := ys.Perm ((onceA l).filter fun x => decide (x.o.key = key)) ∧ ys.Pairwise (fun a b => ltN b a = false)
/-- Those of the first one's kind. -/
def ofKind (ys : List Dn) : List Dn := ys.filter fun x => decide (x.o.kind = ys[0]!.o.kind)
def IsOps (key : ByteArray) (l : List ComV) (ds : List Dn) : Prop := ∃ ys, InOrder key l ys ∧ ds = ofKind ys
theorem addDn_nodup {acc : List Dn} (h : (acc.map (·.dot)).Nodup) (d : Dn) : ((addDn acc d).map (·.dot)).Nodup := by
  unfold addDn
  split
  · exact h
  · rename_i hn
    rw [List.map_append, List.nodup_append]
    refine ⟨h, by simp, fun a ha b hb e => hn ?_⟩
    simp only [List.map_cons, List.map_nil, List.mem_singleton] at hb
    subst hb
    subst e
    obtain ⟨x, hx, hxe⟩ := List.mem_map.1 ha
    exact List.any_eq_true.2 ⟨x, hx, decide_eq_true hxe⟩
theorem foldl_addDn_nodup (ds : List Dn) : ∀ {acc : List Dn}, (acc.map (·.dot)).Nodup → ((ds.foldl addDn acc).map (·.dot)).Nodup := by
  induction ds with
  | nil => intro acc h; exact h
  | cons d r ih => intro acc h; exact ih (addDn_nodup h d)
theorem onceA_nodup (l : List ComV) : ((onceA l).map (·.dot)).Nodup := by
  unfold onceA
  suffices h : ∀ (l : List ComV) (acc : List Dn), (acc.map (·.dot)).Nodup → ((l.foldl addCom acc).map (·.dot)).Nodup from h l [] (by simp)
  intro l
  induction l with
  | nil => intro acc h; exact h
  | cons c r ih => intro acc h; exact ih _ (foldl_addDn_nodup _ h)
theorem ltN_total {x y : Dn} (h1 : ltN x y = false) (h2 : ltN y x = false) : x.dot = y.dot := by
  obtain ⟨_, ⟨p, t, a⟩, wx⟩ := x
  obtain ⟨_, ⟨p', t', a'⟩, wy⟩ := y
  simp only [ltN, ltD, decide_eq_false_iff_not, decide_eq_true_eq] at h1 h2
  simp only [D3.mk.injEq]
  omega
theorem pairwise_ne {l : List Dn} (h : l.Pairwise (fun x y => x.dot ≠ y.dot)) {x y : Dn} (hx : x ∈ l) (hy : y ∈ l) (hne : x ≠ y) : x.dot ≠ y.dot := by
  induction h with
  | nil => simp at hx
  | cons h1 _ ih =>
    rcases List.mem_cons.1 hx with rfl | hx'
    · rcases List.mem_cons.1 hy with rfl | hy'
      · exact absurd rfl hne
      · exact h1 _ hy'
    · rcases List.mem_cons.1 hy with rfl | hy'
      · exact (h1 _ hx').symm
      · exact ih hx' hy'
/-- Two that are in order are one. -/
theorem inOrder_unique {key : ByteArray} {l : List ComV} {a b : List Dn} (ha : InOrder key l a) (hb : InOrder key l b) : a = b := by
  have hnd : ((onceA l).filter fun x => decide (x.o.key = key)).Pairwise (fun x y => x.dot ≠ y.dot) := by
    have := onceA_nodup l
    rw [List.Nodup, List.pairwise_map] at this
    exact this.filter _
  have hp := ha.1.trans hb.1.symm
  have hda : a.Pairwise (fun x y => x.dot ≠ y.dot) := hnd.perm ha.1.symm (fun h e => h e.symm)
  refine hp.eq_of_pairwise ?_ ha.2 hb.2
  intro x y hx hy h1 h2
  have e := ltN_total h2 h1
  by_cases hne : x = y
  · exact hne
  · exact absurd e (pairwise_ne hda hx (hp.mem_iff.2 hy) hne)
end Go.Proofs.YtefpnojanldkeaaGreatDoor
