/- What a transaction reads behind one op of its own. -/
import Derived.Test.YtepnghacjggkkaaGreatDoorJYE
import Derived.Test.YtepnghacjggkkaaGreatDoorJHU
import Derived.Deep.RegionHeld
import Derived.Deep.DeepCutAuto
import Derived.Deep.CutBlock
namespace Go.Proofs.YtepnghacjggkkaaGreatDoor
open Go.RowKit Go.Maps
set_option maxRecDepth 100000
set_option linter.unusedSectionVars false
variable [Inhabited ComV] [DecidableEq D3] [Inhabited D3] [Inhabited Dd] [Inhabited Dn] [Inhabited OpV]

theorem row_cellsY {w : World} {base e size n c b : Nat} {xs : List Value} (h : w.ownsRow base e size (.slice (some ⟨b, 0, none⟩) (n + 1) c) (n + 1) xs) : ∀ j u, xs[j]? = some u → w.cell? ⟨b, j, none⟩ = some u := by
  obtain ⟨b', cs, ha, _, hh, ht, _⟩ := owns_cellsY h
  obtain rfl : b = b' := by injection ha with ha; injection ha
  intro j u hj
  rw [← ht, List.getElem?_take] at hj
  rw [cell_of hh]
  split at hj
  · rw [← Array.getElem?_toList]; exact hj
  · cases hj
set_option maxHeartbeats 8000000 in
theorem value_reg0 (w : World) (xb pb : Nat) (aa : Option Addr) (an ac : Nat) (key : ByteArray) (n0 : Int) (Q : ByteArray → Prop) (ob oc : Nat) (y1 : Int) (y4 : ByteArray) (y5 : Int) (y6 : Bool) (da : Option Addr) (dn dc : Nat) (ho : ∀ j u, [Value.int .i64 y1, .string key, .int .i64 1, .string y4, .int .i64 y5, .bool y6, .slice da dn dc][j]? = some u → w.cell? ⟨ob, j, none⟩ = some u) (hn : -9223372036854775808 ≤ n0 + y5 ∧ n0 + y5 ≤ 9223372036854775807) (h : TraBox w xb pb (.slice aa an ac) (.slice (some ⟨ob, 0, none⟩) 1 oc)) (K52 : ∀ W, Below w.heap.size w W → Calls Tryz.prog 52 #[.pointer (some ⟨pb, 0, none⟩), .string key, .slice aa an ac] W (ReadRet 0 n0 Q W)) : Calls Tryz.prog 33 #[.pointer (some ⟨xb, 0, none⟩), .string key] w (ReadRet 1 n0 (fun x => x = y4) w) := by
  obtain ⟨w0, hw0⟩ : ∃ w0, w0 = w.alloc (.cells #[.int .i64 0, .string ⟨#[]⟩, .int .i64 0, .slice none 0 0] 41) := ⟨_, rfl⟩
  have b0 : Below w.heap.size w w0 := by rw [hw0]; exact below_alloc _ _
  have r0 : w0.heap[w.heap.size]? = some (.cells #[.int .i64 0, .string ⟨#[]⟩, .int .i64 0, .slice none 0 0] 41 (0, 0)) := by rw [hw0]; exact heap_new _ _
  have tb : TraBox w0 xb pb (.slice aa an ac) (.slice (some ⟨ob, 0, none⟩) 1 oc) := (b0.block _ (lt_of_heap h)).trans h
  have t0' : w0.cell? ⟨xb, 0, none⟩ = some (.pointer (some ⟨pb, 0, none⟩)) := (cell_of tb).trans rfl
  have t1' : w0.cell? ⟨xb, 1, none⟩ = some (.slice aa an ac) := (cell_of tb).trans rfl
  have TB := hid tb
  have R0 := hid r0
  have B0 := hid b0
  have hx0 : xb < w0.heap.size := lt_of_heap tb
  have hxr : xb ≠ w0.heap.size := by omega
  have HK : Hid (∀ W, Below w0.heap.size w0 W → Calls Tryz.prog 52 #[.pointer (some ⟨pb, 0, none⟩), .string key, .slice aa an ac] W (ReadRet 0 n0 Q W)) := (show ∀ W, _ → _ from fun W hW => K52 W (b0.trans (hW.mono b0.size)))
  have hwr : w.heap.size < w0.heap.size := lt_of_heap r0
  have BD : Hid (Below w0.heap.size w0 w0.drew) := (show Below _ _ _ from (Below.refl w0.heap.size w0).drew)
  have BA : Hid (Below w0.heap.size w0 (w0.alloc (.cells #[.int .i64 0, .string ⟨#[]⟩, .int .i64 0, .slice none 0 0] 41)).drew) := (show Below _ _ _ from (below_alloc w0 _).drew)
  have HA0 : Hid (w0.heap.size < (w0.alloc (.cells #[.int .i64 0, .string ⟨#[]⟩, .int .i64 0, .slice none 0 0] 41)).drew.heap.size) := (show _ < _ from lt_of_heap (heap_new w0 _))
  have HA1 : Hid ((w0.alloc (.cells #[.int .i64 0, .string ⟨#[]⟩, .int .i64 0, .slice none 0 0] 41)).drew.heap[w0.heap.size]? = some (.cells #[.int .i64 0, .string ⟨#[]⟩, .int .i64 0, .slice none 0 0] 41 (0, 0))) := (show _ = _ from heap_new w0 _)
  clear h K52 tb r0 b0
  go_enter Tryz.func33, Tryz.ntmps33
  go_upto_region 1 with (fail)
  rw [← hw0]
  clear hw0
  go_cut [6, 7] (fun vp er wx => ∃ (vb : Nat) (t0 : ByteArray) (sa : Option Addr) (sn sc : Nat), vp = .pointer (some ⟨vb, 0, none⟩) ∧ er = .nilIface ∧ w0.heap.size ≤ vb ∧ Hid (Q t0) ∧ Hid (wx.heap[vb]? = some (.cells #[.int .i64 0, .string t0, .int .i64 n0, .slice sa sn sc] 41 (0, 0))) ∧ Hid (Below w0.heap.size w0 wx))
  case first =>
    go_region_held (fun u => u.cell? ⟨xb, 0, none⟩ = some (.pointer (some ⟨pb, 0, none⟩)) ∧ u.cell? ⟨xb, 1, none⟩ = some (.slice aa an ac)) (first | (refine ⟨?_, ?_⟩ <;> (with_reducible refine keep4 ?_ ?_ <;> with_reducible assumption)) | exact ⟨q0, q1⟩ | go_keep) (first | (go_at_call 52; (with_reducible refine (HK.out w0.drew ?hb).mono ?_); (case hb => exact BD.out); rintro e w6 ⟨t0, sa, sn, sc, hQ, rfl, hb6⟩; have HQ := hid hQ; clear hQ; have hb6' : Below w0.heap.size w0 w6 := (BD.out).trans (hb6.mono (BD.out).size); have q0 := (hb6'.cell (p := ⟨xb, 0, none⟩) hx0).trans t0'; have q1 := (hb6'.cell (p := ⟨xb, 1, none⟩) hx0).trans t1'; have HB6 := hid hb6'; clear hb6 hb6') | (go_at_call 52; (with_reducible refine (HK.out (w0.alloc (.cells #[.int .i64 0, .string ⟨#[]⟩, .int .i64 0, .slice none 0 0] 41)).drew ?hb).mono ?_); (case hb => exact BA.out); rintro e w6 ⟨t0, sa, sn, sc, hQ, rfl, hb6⟩; have HQ := hid hQ; clear hQ; have hb6' : Below w0.heap.size w0 w6 := (BA.out).trans (hb6.mono (BA.out).size); have q0 := (hb6'.cell (p := ⟨xb, 0, none⟩) hx0).trans t0'; have q1 := (hb6'.cell (p := ⟨xb, 1, none⟩) hx0).trans t1'; have hz6 : w6.heap[w0.heap.size]? = some (.cells #[.int .i64 0, .string ⟨#[]⟩, .int .i64 0, .slice none 0 0] 41 (0, 0)) := (hb6.block _ (HA0.out)).trans HA1.out; have z0 : w6.cell? ⟨w0.heap.size, 0, none⟩ = some (.int .i64 0) := (by simp only [World.cell?, hz6]; rfl); have z1 : w6.cell? ⟨w0.heap.size, 1, none⟩ = some (.string ⟨#[]⟩) := (by simp only [World.cell?, hz6]; rfl); have z2 : w6.cell? ⟨w0.heap.size, 2, none⟩ = some (.int .i64 0) := (by simp only [World.cell?, hz6]; rfl); have z3 : w6.cell? ⟨w0.heap.size, 3, none⟩ = some (.slice none 0 0) := (by simp only [World.cell?, hz6]; rfl); have zf : ∀ j, w6.frozen? ⟨w0.heap.size, j, none⟩ = false := (fun j => by simp only [World.frozen?, hz6]; simp); have HB6 := hid hb6'; clear hb6 hb6'))
    all_goals clear HK
    · go_wp2_with fail
      obtain ⟨wn, hwn⟩ : ∃ wn, wn = w6.alloc (.cells #[.int .i64 0, .string t0, .int .i64 n0, .slice sa sn sc] 41) := ⟨_, rfl⟩
      have F1 : Hid (wn.heap[w6.heap.size]? = some (.cells #[.int .i64 0, .string t0, .int .i64 n0, .slice sa sn sc] 41 (0, 0))) := (show _ = _ from by rw [hwn]; exact (MapKept.heap_alloc _ _).1)
      have F3 : Hid (Below w0.heap.size w0 wn) := (show Below _ _ _ from by rw [hwn]; exact HB6.out.alloc HB6.out.size _)
      rw [← hwn]
      clear hwn
      go_meet
      exact ⟨w6.heap.size, t0, sa, sn, sc, rfl, rfl, HB6.out.size, HQ, F1, F3⟩
    · go_wp2_with fail
      obtain ⟨wn, hwn⟩ : ∃ wn, wn = ((((w6.setCell ⟨w0.heap.size, 0, none⟩ (.int .i64 0)).setCell ⟨w0.heap.size, 1, none⟩ (.string t0)).setCell ⟨w0.heap.size, 2, none⟩ (.int .i64 n0)).setCell ⟨w0.heap.size, 3, none⟩ (.slice sa sn sc)) := ⟨_, rfl⟩
      have F1 : Hid (wn.heap[w0.heap.size]? = some (.cells #[.int .i64 0, .string t0, .int .i64 n0, .slice sa sn sc] 41 (0, 0))) := (show _ = _ from by rw [hwn]; exact (fill4 hz6 _ _ _ _).1)
      have F3 : Hid (Below w0.heap.size w0 wn) := (show Below _ _ _ from by rw [hwn]; exact (fill4 hz6 _ _ _ _).2 _ _ HB6.out (Nat.le_refl _))
      rw [← hwn]
      clear hwn
      go_meet
      exact ⟨w0.heap.size, t0, sa, sn, sc, rfl, rfl, Nat.le_refl _, HQ, F1, F3⟩
  case rest =>
    obtain ⟨vb, t0, sa, sn, sc, rfl, rfl, hvb, HQ, HV, HB⟩ := hcut
    have ho' : ∀ j u, [Value.int .i64 y1, .string key, .int .i64 1, .string y4, .int .i64 y5, .bool y6, .slice da dn dc][j]? = some u → wc.cell? ⟨ob, j, none⟩ = some u := fun j u hj => by
      have h1 := ho j u hj
      have h2 := (B0.out.cell (p := ⟨ob, j, none⟩) (lt_of_cell h1)).trans h1
      exact (HB.out.cell (p := ⟨ob, j, none⟩) (lt_of_cell h2)).trans h2
    have K53 := hid (opsOn_one wc xb pb ob oc (.slice aa an ac) y1 key 1 y4 y5 y6 da dn dc ((HB.out.block _ hx0).trans TB.out) ho')
    have hwrp := wrap_64 (k := n0 + y5) ⟨by omega, by omega⟩
    clear HK t0' t1' BD BA HA0 HA1 ho ho'
    have x0 : wc.cell? ⟨vb, 0, none⟩ = some (.int .i64 0) := (cell_of HV.out).trans rfl
    go_wp2_with (fail)
    refine K53.out.mono ?_
    rintro e w5 ⟨ob2, oc2, rfl, hge, hrow, hb5⟩
    have hvl := lt_of_heap HV.out
    have hv5 : w5.heap[vb]? = some (.cells #[.int .i64 0, .string t0, .int .i64 n0, .slice sa sn sc] 41 (0, 0)) := (hb5.block _ hvl).trans HV.out
    have hr5 : w5.heap[w.heap.size]? = some (.cells #[.int .i64 0, .string ⟨#[]⟩, .int .i64 0, .slice none 0 0] 41 (0, 0)) := (hb5.block _ (Nat.lt_of_lt_of_le hwr HB.out.size)).trans ((HB.out.block _ hwr).trans R0.out)
    have hp5 : ∀ j u, [Value.int .i64 y1, .string key, .int .i64 1, .string y4, .int .i64 y5, .bool y6, .slice da dn dc][j]? = some u → w5.cell? ⟨ob2, j, none⟩ = some u := row_cellsY hrow
    have hov : ob2 ≠ vb := by omega
    have hrv : w.heap.size ≠ vb := by omega
    have hvw : w.heap.size ≤ vb := by omega
    have b5 : Below w.heap.size w w5 := B0.out.trans ((HB.out.trans (hb5.mono HB.out.size)).mono B0.out.size)
    clear K53 hrow hb5 x0 HV HB TB R0 B0 hge
    have c0 : w5.cell? ⟨vb, 0, none⟩ = some (.int .i64 0) := (cell_of hv5).trans rfl
    have f0 : w5.frozen? ⟨vb, 0, none⟩ = false := by simp only [World.frozen?, hv5]; simp
    have p2 : w5.cell? ⟨ob2, 2, none⟩ = some (.int .i64 1) := hp5 2 _ rfl
    obtain ⟨w6, hw6⟩ : ∃ w6, w6 = w5.setCell ⟨vb, 0, none⟩ (.int .i64 1) := ⟨_, rfl⟩
    have hv6 : w6.heap[vb]? = some (.cells #[.int .i64 1, .string t0, .int .i64 n0, .slice sa sn sc] 41 (0, 0)) := by rw [hw6]; exact heap_set hv5 _
    have hr6 : w6.heap[w.heap.size]? = some (.cells #[.int .i64 0, .string ⟨#[]⟩, .int .i64 0, .slice none 0 0] 41 (0, 0)) := by rw [hw6]; exact (Below.heap_setCell _ _ _ _ hrv).trans hr5
    have hp6 : ∀ j u, [Value.int .i64 y1, .string key, .int .i64 1, .string y4, .int .i64 y5, .bool y6, .slice da dn dc][j]? = some u → w6.cell? ⟨ob2, j, none⟩ = some u := fun j u hj => by rw [hw6]; exact (World.cell?_of_block (a := ⟨ob2, j, none⟩) (Below.heap_setCell _ _ _ _ hov)).trans (hp5 j u hj)
    have b6 : Below w.heap.size w w6 := by rw [hw6]; exact b5.setCell hvw _
    have K54 := hid (deleteFunc_keep w6 vb ob2 oc2 y1 key 1 y4 y5 y6 da dn dc hp6 ((cell_of hv6).trans rfl))
    have HV6 := hid hv6
    have HR6 := hid hr6
    have HP6 := hid hp6
    have HB6 := hid b6
    clear hv5 hr5 hp5 b5 hv6 hr6 hp6 b6
    go_wp2_with (fail)
    rw [← hw6]
    clear hw6 c0 f0 p2
    refine K54.out.mono ?_
    rintro e w7 ⟨rfl, hb7⟩
    have hv7 : w7.heap[vb]? = some (.cells #[.int .i64 1, .string t0, .int .i64 n0, .slice sa sn sc] 41 (0, 0)) := (hb7.block _ (lt_of_heap HV6.out)).trans HV6.out
    have hr7 : w7.heap[w.heap.size]? = some (.cells #[.int .i64 0, .string ⟨#[]⟩, .int .i64 0, .slice none 0 0] 41 (0, 0)) := (hb7.block _ (lt_of_heap HR6.out)).trans HR6.out
    have hp7 : ∀ j u, [Value.int .i64 y1, .string key, .int .i64 1, .string y4, .int .i64 y5, .bool y6, .slice da dn dc][j]? = some u → w7.cell? ⟨ob2, j, none⟩ = some u := fun j u hj => (hb7.cell (p := ⟨ob2, j, none⟩) (lt_of_cell (HP6.out j u hj))).trans (HP6.out j u hj)
    have b7 : Below w.heap.size w w7 := HB6.out.trans (hb7.mono HB6.out.size)
    have c7 : w7.cell? ⟨vb, 0, none⟩ = some (.int .i64 1) := (cell_of hv7).trans rfl
    clear K54 HV6 HR6 HP6 HB6 hb7
    have d7 : w7.cell? ⟨vb, 1, none⟩ = some (.string t0) := (cell_of hv7).trans rfl
    have f7 : w7.frozen? ⟨vb, 1, none⟩ = false := by simp only [World.frozen?, hv7]; simp
    have p7 : w7.cell? ⟨ob2, 3, none⟩ = some (.string y4) := hp7 3 _ rfl
    obtain ⟨w8, hw8⟩ : ∃ w8, w8 = w7.setCell ⟨vb, 1, none⟩ (.string y4) := ⟨_, rfl⟩
    have hv8 : w8.heap[vb]? = some (.cells #[.int .i64 1, .string y4, .int .i64 n0, .slice sa sn sc] 41 (0, 0)) := by rw [hw8]; exact heap_set hv7 _
    have hr8 : w8.heap[w.heap.size]? = some (.cells #[.int .i64 0, .string ⟨#[]⟩, .int .i64 0, .slice none 0 0] 41 (0, 0)) := by rw [hw8]; exact (Below.heap_setCell _ _ _ _ hrv).trans hr7
    have b8 : Below w.heap.size w w8 := by rw [hw8]; exact b7.setCell hvw _
    go_upto_region 21 with (fail)
    rw [← hw8]
    have e0 : w8.cell? ⟨vb, 0, none⟩ = some (.int .i64 1) := (cell_of hv8).trans rfl
    have e1 : w8.cell? ⟨vb, 1, none⟩ = some (.string y4) := (cell_of hv8).trans rfl
    have e2 : w8.cell? ⟨vb, 2, none⟩ = some (.int .i64 n0) := (cell_of hv8).trans rfl
    have e3 : w8.cell? ⟨vb, 3, none⟩ = some (.slice sa sn sc) := (cell_of hv8).trans rfl
    have R8 := hid (row4 hr8)
    have S8 := hid (set4 hr8 [.int .i64 1, .string y4, .int .i64 n0, .slice sa sn sc] rfl)
    have B8 := hid b8
    clear hw8 hv8 hr8 b8
    go_wp2_with (refine wpList_store_k _ rfl (.tmp 4) (.tmp 94) 41 rfl w.heap.size 0 [.int .i64 1, .string y4, .int .i64 n0, .slice sa sn sc] rfl rfl 4 rfl Tryz.sizeOf41 rfl _ ?hW R8.out.1 R8.out.2 ?_; case hW => rfl)
    exact bodyPost_ret (ret_cell_tmp (k := 4) Tryz.results33 Tryz.isAgg41 Tryz.sizeOf41 _ _ w.heap.size [.int .i64 1, .string y4, .int .i64 n0, .slice sa sn sc] _ rfl rfl rfl S8.out) rfl ⟨_, sa, sn, sc, rfl, rfl, below_setCells (Nat.le_refl _) _ _ B8.out⟩
set_option maxHeartbeats 8000000 in
theorem value_ctr0 (w : World) (xb pb : Nat) (aa : Option Addr) (an ac : Nat) (key : ByteArray) (n0 : Int) (Q : ByteArray → Prop) (ob oc : Nat) (y1 : Int) (y4 : ByteArray) (y5 : Int) (y6 : Bool) (da : Option Addr) (dn dc : Nat) (ho : ∀ j u, [Value.int .i64 y1, .string key, .int .i64 2, .string y4, .int .i64 y5, .bool y6, .slice da dn dc][j]? = some u → w.cell? ⟨ob, j, none⟩ = some u) (hn : -9223372036854775808 ≤ n0 + y5 ∧ n0 + y5 ≤ 9223372036854775807) (h : TraBox w xb pb (.slice aa an ac) (.slice (some ⟨ob, 0, none⟩) 1 oc)) (K52 : ∀ W, Below w.heap.size w W → Calls Tryz.prog 52 #[.pointer (some ⟨pb, 0, none⟩), .string key, .slice aa an ac] W (ReadRet 0 n0 Q W)) : Calls Tryz.prog 33 #[.pointer (some ⟨xb, 0, none⟩), .string key] w (ReadRet 2 (n0 + y5) Q w) := by
  obtain ⟨w0, hw0⟩ : ∃ w0, w0 = w.alloc (.cells #[.int .i64 0, .string ⟨#[]⟩, .int .i64 0, .slice none 0 0] 41) := ⟨_, rfl⟩
  have b0 : Below w.heap.size w w0 := by rw [hw0]; exact below_alloc _ _
  have r0 : w0.heap[w.heap.size]? = some (.cells #[.int .i64 0, .string ⟨#[]⟩, .int .i64 0, .slice none 0 0] 41 (0, 0)) := by rw [hw0]; exact heap_new _ _
  have tb : TraBox w0 xb pb (.slice aa an ac) (.slice (some ⟨ob, 0, none⟩) 1 oc) := (b0.block _ (lt_of_heap h)).trans h
  have t0' : w0.cell? ⟨xb, 0, none⟩ = some (.pointer (some ⟨pb, 0, none⟩)) := (cell_of tb).trans rfl
  have t1' : w0.cell? ⟨xb, 1, none⟩ = some (.slice aa an ac) := (cell_of tb).trans rfl
  have TB := hid tb
  have R0 := hid r0
  have B0 := hid b0
  have hx0 : xb < w0.heap.size := lt_of_heap tb
  have hxr : xb ≠ w0.heap.size := by omega
  have HK : Hid (∀ W, Below w0.heap.size w0 W → Calls Tryz.prog 52 #[.pointer (some ⟨pb, 0, none⟩), .string key, .slice aa an ac] W (ReadRet 0 n0 Q W)) := (show ∀ W, _ → _ from fun W hW => K52 W (b0.trans (hW.mono b0.size)))
  have hwr : w.heap.size < w0.heap.size := lt_of_heap r0
  have BD : Hid (Below w0.heap.size w0 w0.drew) := (show Below _ _ _ from (Below.refl w0.heap.size w0).drew)
  have BA : Hid (Below w0.heap.size w0 (w0.alloc (.cells #[.int .i64 0, .string ⟨#[]⟩, .int .i64 0, .slice none 0 0] 41)).drew) := (show Below _ _ _ from (below_alloc w0 _).drew)
  have HA0 : Hid (w0.heap.size < (w0.alloc (.cells #[.int .i64 0, .string ⟨#[]⟩, .int .i64 0, .slice none 0 0] 41)).drew.heap.size) := (show _ < _ from lt_of_heap (heap_new w0 _))
  have HA1 : Hid ((w0.alloc (.cells #[.int .i64 0, .string ⟨#[]⟩, .int .i64 0, .slice none 0 0] 41)).drew.heap[w0.heap.size]? = some (.cells #[.int .i64 0, .string ⟨#[]⟩, .int .i64 0, .slice none 0 0] 41 (0, 0))) := (show _ = _ from heap_new w0 _)
  clear h K52 tb r0 b0
  go_enter Tryz.func33, Tryz.ntmps33
  go_upto_region 1 with (fail)
  rw [← hw0]
  clear hw0
  go_cut [6, 7] (fun vp er wx => ∃ (vb : Nat) (t0 : ByteArray) (sa : Option Addr) (sn sc : Nat), vp = .pointer (some ⟨vb, 0, none⟩) ∧ er = .nilIface ∧ w0.heap.size ≤ vb ∧ Hid (Q t0) ∧ Hid (wx.heap[vb]? = some (.cells #[.int .i64 0, .string t0, .int .i64 n0, .slice sa sn sc] 41 (0, 0))) ∧ Hid (Below w0.heap.size w0 wx))
  case first =>
    go_region_held (fun u => u.cell? ⟨xb, 0, none⟩ = some (.pointer (some ⟨pb, 0, none⟩)) ∧ u.cell? ⟨xb, 1, none⟩ = some (.slice aa an ac)) (first | (refine ⟨?_, ?_⟩ <;> (with_reducible refine keep4 ?_ ?_ <;> with_reducible assumption)) | exact ⟨q0, q1⟩ | go_keep) (first | (go_at_call 52; (with_reducible refine (HK.out w0.drew ?hb).mono ?_); (case hb => exact BD.out); rintro e w6 ⟨t0, sa, sn, sc, hQ, rfl, hb6⟩; have HQ := hid hQ; clear hQ; have hb6' : Below w0.heap.size w0 w6 := (BD.out).trans (hb6.mono (BD.out).size); have q0 := (hb6'.cell (p := ⟨xb, 0, none⟩) hx0).trans t0'; have q1 := (hb6'.cell (p := ⟨xb, 1, none⟩) hx0).trans t1'; have HB6 := hid hb6'; clear hb6 hb6') | (go_at_call 52; (with_reducible refine (HK.out (w0.alloc (.cells #[.int .i64 0, .string ⟨#[]⟩, .int .i64 0, .slice none 0 0] 41)).drew ?hb).mono ?_); (case hb => exact BA.out); rintro e w6 ⟨t0, sa, sn, sc, hQ, rfl, hb6⟩; have HQ := hid hQ; clear hQ; have hb6' : Below w0.heap.size w0 w6 := (BA.out).trans (hb6.mono (BA.out).size); have q0 := (hb6'.cell (p := ⟨xb, 0, none⟩) hx0).trans t0'; have q1 := (hb6'.cell (p := ⟨xb, 1, none⟩) hx0).trans t1'; have hz6 : w6.heap[w0.heap.size]? = some (.cells #[.int .i64 0, .string ⟨#[]⟩, .int .i64 0, .slice none 0 0] 41 (0, 0)) := (hb6.block _ (HA0.out)).trans HA1.out; have z0 : w6.cell? ⟨w0.heap.size, 0, none⟩ = some (.int .i64 0) := (by simp only [World.cell?, hz6]; rfl); have z1 : w6.cell? ⟨w0.heap.size, 1, none⟩ = some (.string ⟨#[]⟩) := (by simp only [World.cell?, hz6]; rfl); have z2 : w6.cell? ⟨w0.heap.size, 2, none⟩ = some (.int .i64 0) := (by simp only [World.cell?, hz6]; rfl); have z3 : w6.cell? ⟨w0.heap.size, 3, none⟩ = some (.slice none 0 0) := (by simp only [World.cell?, hz6]; rfl); have zf : ∀ j, w6.frozen? ⟨w0.heap.size, j, none⟩ = false := (fun j => by simp only [World.frozen?, hz6]; simp); have HB6 := hid hb6'; clear hb6 hb6'))
    all_goals clear HK
    · go_wp2_with fail
      obtain ⟨wn, hwn⟩ : ∃ wn, wn = w6.alloc (.cells #[.int .i64 0, .string t0, .int .i64 n0, .slice sa sn sc] 41) := ⟨_, rfl⟩
      have F1 : Hid (wn.heap[w6.heap.size]? = some (.cells #[.int .i64 0, .string t0, .int .i64 n0, .slice sa sn sc] 41 (0, 0))) := (show _ = _ from by rw [hwn]; exact (MapKept.heap_alloc _ _).1)
      have F3 : Hid (Below w0.heap.size w0 wn) := (show Below _ _ _ from by rw [hwn]; exact HB6.out.alloc HB6.out.size _)
      rw [← hwn]
      clear hwn
      go_meet
      exact ⟨w6.heap.size, t0, sa, sn, sc, rfl, rfl, HB6.out.size, HQ, F1, F3⟩
    · go_wp2_with fail
      obtain ⟨wn, hwn⟩ : ∃ wn, wn = ((((w6.setCell ⟨w0.heap.size, 0, none⟩ (.int .i64 0)).setCell ⟨w0.heap.size, 1, none⟩ (.string t0)).setCell ⟨w0.heap.size, 2, none⟩ (.int .i64 n0)).setCell ⟨w0.heap.size, 3, none⟩ (.slice sa sn sc)) := ⟨_, rfl⟩
      have F1 : Hid (wn.heap[w0.heap.size]? = some (.cells #[.int .i64 0, .string t0, .int .i64 n0, .slice sa sn sc] 41 (0, 0))) := (show _ = _ from by rw [hwn]; exact (fill4 hz6 _ _ _ _).1)
      have F3 : Hid (Below w0.heap.size w0 wn) := (show Below _ _ _ from by rw [hwn]; exact (fill4 hz6 _ _ _ _).2 _ _ HB6.out (Nat.le_refl _))
      rw [← hwn]
      clear hwn
      go_meet
      exact ⟨w0.heap.size, t0, sa, sn, sc, rfl, rfl, Nat.le_refl _, HQ, F1, F3⟩
  case rest =>
    obtain ⟨vb, t0, sa, sn, sc, rfl, rfl, hvb, HQ, HV, HB⟩ := hcut
    have ho' : ∀ j u, [Value.int .i64 y1, .string key, .int .i64 2, .string y4, .int .i64 y5, .bool y6, .slice da dn dc][j]? = some u → wc.cell? ⟨ob, j, none⟩ = some u := fun j u hj => by
      have h1 := ho j u hj
      have h2 := (B0.out.cell (p := ⟨ob, j, none⟩) (lt_of_cell h1)).trans h1
      exact (HB.out.cell (p := ⟨ob, j, none⟩) (lt_of_cell h2)).trans h2
    have K53 := hid (opsOn_one wc xb pb ob oc (.slice aa an ac) y1 key 2 y4 y5 y6 da dn dc ((HB.out.block _ hx0).trans TB.out) ho')
    have hwrp := wrap_64 (k := n0 + y5) ⟨by omega, by omega⟩
    clear HK t0' t1' BD BA HA0 HA1 ho ho'
    have x0 : wc.cell? ⟨vb, 0, none⟩ = some (.int .i64 0) := (cell_of HV.out).trans rfl
    go_wp2_with (fail)
    refine K53.out.mono ?_
    rintro e w5 ⟨ob2, oc2, rfl, hge, hrow, hb5⟩
    have hvl := lt_of_heap HV.out
    have hv5 : w5.heap[vb]? = some (.cells #[.int .i64 0, .string t0, .int .i64 n0, .slice sa sn sc] 41 (0, 0)) := (hb5.block _ hvl).trans HV.out
    have hr5 : w5.heap[w.heap.size]? = some (.cells #[.int .i64 0, .string ⟨#[]⟩, .int .i64 0, .slice none 0 0] 41 (0, 0)) := (hb5.block _ (Nat.lt_of_lt_of_le hwr HB.out.size)).trans ((HB.out.block _ hwr).trans R0.out)
    have hp5 : ∀ j u, [Value.int .i64 y1, .string key, .int .i64 2, .string y4, .int .i64 y5, .bool y6, .slice da dn dc][j]? = some u → w5.cell? ⟨ob2, j, none⟩ = some u := row_cellsY hrow
    have hov : ob2 ≠ vb := by omega
    have hrv : w.heap.size ≠ vb := by omega
    have hvw : w.heap.size ≤ vb := by omega
    have b5 : Below w.heap.size w w5 := B0.out.trans ((HB.out.trans (hb5.mono HB.out.size)).mono B0.out.size)
    clear K53 hrow hb5 x0 HV HB TB R0 B0 hge
    have c0 : w5.cell? ⟨vb, 0, none⟩ = some (.int .i64 0) := (cell_of hv5).trans rfl
    have f0 : w5.frozen? ⟨vb, 0, none⟩ = false := by simp only [World.frozen?, hv5]; simp
    have p2 : w5.cell? ⟨ob2, 2, none⟩ = some (.int .i64 2) := hp5 2 _ rfl
    obtain ⟨w6, hw6⟩ : ∃ w6, w6 = w5.setCell ⟨vb, 0, none⟩ (.int .i64 2) := ⟨_, rfl⟩
    have hv6 : w6.heap[vb]? = some (.cells #[.int .i64 2, .string t0, .int .i64 n0, .slice sa sn sc] 41 (0, 0)) := by rw [hw6]; exact heap_set hv5 _
    have hr6 : w6.heap[w.heap.size]? = some (.cells #[.int .i64 0, .string ⟨#[]⟩, .int .i64 0, .slice none 0 0] 41 (0, 0)) := by rw [hw6]; exact (Below.heap_setCell _ _ _ _ hrv).trans hr5
    have hp6 : ∀ j u, [Value.int .i64 y1, .string key, .int .i64 2, .string y4, .int .i64 y5, .bool y6, .slice da dn dc][j]? = some u → w6.cell? ⟨ob2, j, none⟩ = some u := fun j u hj => by rw [hw6]; exact (World.cell?_of_block (a := ⟨ob2, j, none⟩) (Below.heap_setCell _ _ _ _ hov)).trans (hp5 j u hj)
    have b6 : Below w.heap.size w w6 := by rw [hw6]; exact b5.setCell hvw _
    have K54 := hid (deleteFunc_keep w6 vb ob2 oc2 y1 key 2 y4 y5 y6 da dn dc hp6 ((cell_of hv6).trans rfl))
    have HV6 := hid hv6
    have HR6 := hid hr6
    have HP6 := hid hp6
    have HB6 := hid b6
    clear hv5 hr5 hp5 b5 hv6 hr6 hp6 b6
    go_wp2_with (fail)
    rw [← hw6]
    clear hw6 c0 f0 p2
    refine K54.out.mono ?_
    rintro e w7 ⟨rfl, hb7⟩
    have hv7 : w7.heap[vb]? = some (.cells #[.int .i64 2, .string t0, .int .i64 n0, .slice sa sn sc] 41 (0, 0)) := (hb7.block _ (lt_of_heap HV6.out)).trans HV6.out
    have hr7 : w7.heap[w.heap.size]? = some (.cells #[.int .i64 0, .string ⟨#[]⟩, .int .i64 0, .slice none 0 0] 41 (0, 0)) := (hb7.block _ (lt_of_heap HR6.out)).trans HR6.out
    have hp7 : ∀ j u, [Value.int .i64 y1, .string key, .int .i64 2, .string y4, .int .i64 y5, .bool y6, .slice da dn dc][j]? = some u → w7.cell? ⟨ob2, j, none⟩ = some u := fun j u hj => (hb7.cell (p := ⟨ob2, j, none⟩) (lt_of_cell (HP6.out j u hj))).trans (HP6.out j u hj)
    have b7 : Below w.heap.size w w7 := HB6.out.trans (hb7.mono HB6.out.size)
    have c7 : w7.cell? ⟨vb, 0, none⟩ = some (.int .i64 2) := (cell_of hv7).trans rfl
    clear K54 HV6 HR6 HP6 HB6 hb7
    have d7 : w7.cell? ⟨vb, 2, none⟩ = some (.int .i64 n0) := (cell_of hv7).trans rfl
    have q0 : w7.cell? ⟨ob2, 0, none⟩ = some (.int .i64 y1) := hp7 0 _ rfl
    have q1 := hp7 1 _ rfl
    have q2 := hp7 2 _ rfl
    have q3 := hp7 3 _ rfl
    have q4 := hp7 4 _ rfl
    have q5 := hp7 5 _ rfl
    have q6 := hp7 6 _ rfl
    obtain ⟨X, hX⟩ : ∃ X, X = w7.heap.size := ⟨_, rfl⟩
    obtain ⟨wa, hwa⟩ : ∃ wa, wa = w7.alloc (.cells #[.int .i64 y1, .string key, .int .i64 2, .string y4, .int .i64 y5, .bool y6, .slice da dn dc] 97) := ⟨_, rfl⟩
    have va : wa.heap[vb]? = some (.cells #[.int .i64 2, .string t0, .int .i64 n0, .slice sa sn sc] 41 (0, 0)) := by rw [hwa]; exact heap_old hv7 _
    have ra : wa.heap[w.heap.size]? = some (.cells #[.int .i64 0, .string ⟨#[]⟩, .int .i64 0, .slice none 0 0] 41 (0, 0)) := by rw [hwa]; exact heap_old hr7 _
    have ba : Below w.heap.size w wa := by rw [hwa]; exact b7.alloc b7.size _
    have u2 : wa.cell? ⟨vb, 2, none⟩ = some (.int .i64 n0) := (cell_of va).trans rfl
    have uf : wa.frozen? ⟨vb, 2, none⟩ = false := by simp only [World.frozen?, va]; simp
    have u4 : wa.cell? ⟨X, 4, none⟩ = some (.int .i64 y5) := by rw [hwa, hX]; exact (cell_of (heap_new _ _)).trans rfl
    obtain ⟨w8, hw8⟩ : ∃ w8, w8 = wa.setCell ⟨vb, 2, none⟩ (.int .i64 (n0 + y5)) := ⟨_, rfl⟩
    have hv8 : w8.heap[vb]? = some (.cells #[.int .i64 2, .string t0, .int .i64 (n0 + y5), .slice sa sn sc] 41 (0, 0)) := by rw [hw8]; exact heap_set va _
    have hr8 : w8.heap[w.heap.size]? = some (.cells #[.int .i64 0, .string ⟨#[]⟩, .int .i64 0, .slice none 0 0] 41 (0, 0)) := by rw [hw8]; exact (Below.heap_setCell _ _ _ _ hrv).trans ra
    have b8 : Below w.heap.size w w8 := by rw [hw8]; exact ba.setCell hvw _
    clear hp7
    go_wp2
    refine wp_loop_rounds 2 ?_
    rw [rounds_succ]
    go_upto_region 17 with (fail)
    rw [← hwa, ← hX]
    clear hwa hX q0 q1 q2 q3 q4 q5 q6 d7 c7
    go_wp2
    rw [← hw8]
    rw [rounds_succ]
    have e0 : w8.cell? ⟨vb, 0, none⟩ = some (.int .i64 2) := (cell_of hv8).trans rfl
    have e1 : w8.cell? ⟨vb, 1, none⟩ = some (.string t0) := (cell_of hv8).trans rfl
    have e2 : w8.cell? ⟨vb, 2, none⟩ = some (.int .i64 (n0 + y5)) := (cell_of hv8).trans rfl
    have e3 : w8.cell? ⟨vb, 3, none⟩ = some (.slice sa sn sc) := (cell_of hv8).trans rfl
    have R8 := hid (row4 hr8)
    have S8 := hid (set4 hr8 [.int .i64 2, .string t0, .int .i64 (n0 + y5), .slice sa sn sc] rfl)
    have B8 := hid b8
    clear hw8 hv8 hr8 b8
    go_wp2_with (refine wpList_store_k _ rfl (.tmp 4) (.tmp 94) 41 rfl w.heap.size 0 [.int .i64 2, .string t0, .int .i64 (n0 + y5), .slice sa sn sc] rfl rfl 4 rfl Tryz.sizeOf41 rfl _ ?hW R8.out.1 R8.out.2 ?_; case hW => rfl)
    exact bodyPost_ret (ret_cell_tmp (k := 4) Tryz.results33 Tryz.isAgg41 Tryz.sizeOf41 _ _ w.heap.size [.int .i64 2, .string t0, .int .i64 (n0 + y5), .slice sa sn sc] _ rfl rfl rfl S8.out) rfl ⟨_, sa, sn, sc, HQ.out, rfl, below_setCells (Nat.le_refl _) _ _ B8.out⟩
set_option maxHeartbeats 8000000 in
theorem value_ctr2 (w : World) (xb pb : Nat) (aa : Option Addr) (an ac : Nat) (key : ByteArray) (n0 : Int) (Q : ByteArray → Prop) (ob oc : Nat) (y1 : Int) (y4 : ByteArray) (y5 : Int) (y6 : Bool) (da : Option Addr) (dn dc : Nat) (ho : ∀ j u, [Value.int .i64 y1, .string key, .int .i64 2, .string y4, .int .i64 y5, .bool y6, .slice da dn dc][j]? = some u → w.cell? ⟨ob, j, none⟩ = some u) (hn : -9223372036854775808 ≤ n0 + y5 ∧ n0 + y5 ≤ 9223372036854775807) (h : TraBox w xb pb (.slice aa an ac) (.slice (some ⟨ob, 0, none⟩) 1 oc)) (K52 : ∀ W, Below w.heap.size w W → Calls Tryz.prog 52 #[.pointer (some ⟨pb, 0, none⟩), .string key, .slice aa an ac] W (ReadRet 2 n0 Q W)) : Calls Tryz.prog 33 #[.pointer (some ⟨xb, 0, none⟩), .string key] w (ReadRet 2 (n0 + y5) Q w) := by
  obtain ⟨w0, hw0⟩ : ∃ w0, w0 = w.alloc (.cells #[.int .i64 0, .string ⟨#[]⟩, .int .i64 0, .slice none 0 0] 41) := ⟨_, rfl⟩
  have b0 : Below w.heap.size w w0 := by rw [hw0]; exact below_alloc _ _
  have r0 : w0.heap[w.heap.size]? = some (.cells #[.int .i64 0, .string ⟨#[]⟩, .int .i64 0, .slice none 0 0] 41 (0, 0)) := by rw [hw0]; exact heap_new _ _
  have tb : TraBox w0 xb pb (.slice aa an ac) (.slice (some ⟨ob, 0, none⟩) 1 oc) := (b0.block _ (lt_of_heap h)).trans h
  have t0' : w0.cell? ⟨xb, 0, none⟩ = some (.pointer (some ⟨pb, 0, none⟩)) := (cell_of tb).trans rfl
  have t1' : w0.cell? ⟨xb, 1, none⟩ = some (.slice aa an ac) := (cell_of tb).trans rfl
  have TB := hid tb
  have R0 := hid r0
  have B0 := hid b0
  have hx0 : xb < w0.heap.size := lt_of_heap tb
  have hxr : xb ≠ w0.heap.size := by omega
  have HK : Hid (∀ W, Below w0.heap.size w0 W → Calls Tryz.prog 52 #[.pointer (some ⟨pb, 0, none⟩), .string key, .slice aa an ac] W (ReadRet 2 n0 Q W)) := (show ∀ W, _ → _ from fun W hW => K52 W (b0.trans (hW.mono b0.size)))
  have hwr : w.heap.size < w0.heap.size := lt_of_heap r0
  have BD : Hid (Below w0.heap.size w0 w0.drew) := (show Below _ _ _ from (Below.refl w0.heap.size w0).drew)
  have BA : Hid (Below w0.heap.size w0 (w0.alloc (.cells #[.int .i64 0, .string ⟨#[]⟩, .int .i64 0, .slice none 0 0] 41)).drew) := (show Below _ _ _ from (below_alloc w0 _).drew)
  have HA0 : Hid (w0.heap.size < (w0.alloc (.cells #[.int .i64 0, .string ⟨#[]⟩, .int .i64 0, .slice none 0 0] 41)).drew.heap.size) := (show _ < _ from lt_of_heap (heap_new w0 _))
  have HA1 : Hid ((w0.alloc (.cells #[.int .i64 0, .string ⟨#[]⟩, .int .i64 0, .slice none 0 0] 41)).drew.heap[w0.heap.size]? = some (.cells #[.int .i64 0, .string ⟨#[]⟩, .int .i64 0, .slice none 0 0] 41 (0, 0))) := (show _ = _ from heap_new w0 _)
  clear h K52 tb r0 b0
  go_enter Tryz.func33, Tryz.ntmps33
  go_upto_region 1 with (fail)
  rw [← hw0]
  clear hw0
  go_cut [6, 7] (fun vp er wx => ∃ (vb : Nat) (t0 : ByteArray) (sa : Option Addr) (sn sc : Nat), vp = .pointer (some ⟨vb, 0, none⟩) ∧ er = .nilIface ∧ w0.heap.size ≤ vb ∧ Hid (Q t0) ∧ Hid (wx.heap[vb]? = some (.cells #[.int .i64 2, .string t0, .int .i64 n0, .slice sa sn sc] 41 (0, 0))) ∧ Hid (Below w0.heap.size w0 wx))
  case first =>
    go_region_held (fun u => u.cell? ⟨xb, 0, none⟩ = some (.pointer (some ⟨pb, 0, none⟩)) ∧ u.cell? ⟨xb, 1, none⟩ = some (.slice aa an ac)) (first | (refine ⟨?_, ?_⟩ <;> (with_reducible refine keep4 ?_ ?_ <;> with_reducible assumption)) | exact ⟨q0, q1⟩ | go_keep) (first | (go_at_call 52; (with_reducible refine (HK.out w0.drew ?hb).mono ?_); (case hb => exact BD.out); rintro e w6 ⟨t0, sa, sn, sc, hQ, rfl, hb6⟩; have HQ := hid hQ; clear hQ; have hb6' : Below w0.heap.size w0 w6 := (BD.out).trans (hb6.mono (BD.out).size); have q0 := (hb6'.cell (p := ⟨xb, 0, none⟩) hx0).trans t0'; have q1 := (hb6'.cell (p := ⟨xb, 1, none⟩) hx0).trans t1'; have HB6 := hid hb6'; clear hb6 hb6') | (go_at_call 52; (with_reducible refine (HK.out (w0.alloc (.cells #[.int .i64 0, .string ⟨#[]⟩, .int .i64 0, .slice none 0 0] 41)).drew ?hb).mono ?_); (case hb => exact BA.out); rintro e w6 ⟨t0, sa, sn, sc, hQ, rfl, hb6⟩; have HQ := hid hQ; clear hQ; have hb6' : Below w0.heap.size w0 w6 := (BA.out).trans (hb6.mono (BA.out).size); have q0 := (hb6'.cell (p := ⟨xb, 0, none⟩) hx0).trans t0'; have q1 := (hb6'.cell (p := ⟨xb, 1, none⟩) hx0).trans t1'; have hz6 : w6.heap[w0.heap.size]? = some (.cells #[.int .i64 0, .string ⟨#[]⟩, .int .i64 0, .slice none 0 0] 41 (0, 0)) := (hb6.block _ (HA0.out)).trans HA1.out; have z0 : w6.cell? ⟨w0.heap.size, 0, none⟩ = some (.int .i64 0) := (by simp only [World.cell?, hz6]; rfl); have z1 : w6.cell? ⟨w0.heap.size, 1, none⟩ = some (.string ⟨#[]⟩) := (by simp only [World.cell?, hz6]; rfl); have z2 : w6.cell? ⟨w0.heap.size, 2, none⟩ = some (.int .i64 0) := (by simp only [World.cell?, hz6]; rfl); have z3 : w6.cell? ⟨w0.heap.size, 3, none⟩ = some (.slice none 0 0) := (by simp only [World.cell?, hz6]; rfl); have zf : ∀ j, w6.frozen? ⟨w0.heap.size, j, none⟩ = false := (fun j => by simp only [World.frozen?, hz6]; simp); have HB6 := hid hb6'; clear hb6 hb6'))
    all_goals clear HK
    · go_wp2_with fail
      obtain ⟨wn, hwn⟩ : ∃ wn, wn = w6.alloc (.cells #[.int .i64 2, .string t0, .int .i64 n0, .slice sa sn sc] 41) := ⟨_, rfl⟩
      have F1 : Hid (wn.heap[w6.heap.size]? = some (.cells #[.int .i64 2, .string t0, .int .i64 n0, .slice sa sn sc] 41 (0, 0))) := (show _ = _ from by rw [hwn]; exact (MapKept.heap_alloc _ _).1)
      have F3 : Hid (Below w0.heap.size w0 wn) := (show Below _ _ _ from by rw [hwn]; exact HB6.out.alloc HB6.out.size _)
      rw [← hwn]
      clear hwn
      go_meet
      exact ⟨w6.heap.size, t0, sa, sn, sc, rfl, rfl, HB6.out.size, HQ, F1, F3⟩
    · go_wp2_with fail
      obtain ⟨wn, hwn⟩ : ∃ wn, wn = ((((w6.setCell ⟨w0.heap.size, 0, none⟩ (.int .i64 2)).setCell ⟨w0.heap.size, 1, none⟩ (.string t0)).setCell ⟨w0.heap.size, 2, none⟩ (.int .i64 n0)).setCell ⟨w0.heap.size, 3, none⟩ (.slice sa sn sc)) := ⟨_, rfl⟩
      have F1 : Hid (wn.heap[w0.heap.size]? = some (.cells #[.int .i64 2, .string t0, .int .i64 n0, .slice sa sn sc] 41 (0, 0))) := (show _ = _ from by rw [hwn]; exact (fill4 hz6 _ _ _ _).1)
      have F3 : Hid (Below w0.heap.size w0 wn) := (show Below _ _ _ from by rw [hwn]; exact (fill4 hz6 _ _ _ _).2 _ _ HB6.out (Nat.le_refl _))
      rw [← hwn]
      clear hwn
      go_meet
      exact ⟨w0.heap.size, t0, sa, sn, sc, rfl, rfl, Nat.le_refl _, HQ, F1, F3⟩
  case rest =>
    obtain ⟨vb, t0, sa, sn, sc, rfl, rfl, hvb, HQ, HV, HB⟩ := hcut
    have ho' : ∀ j u, [Value.int .i64 y1, .string key, .int .i64 2, .string y4, .int .i64 y5, .bool y6, .slice da dn dc][j]? = some u → wc.cell? ⟨ob, j, none⟩ = some u := fun j u hj => by
      have h1 := ho j u hj
      have h2 := (B0.out.cell (p := ⟨ob, j, none⟩) (lt_of_cell h1)).trans h1
      exact (HB.out.cell (p := ⟨ob, j, none⟩) (lt_of_cell h2)).trans h2
    have K53 := hid (opsOn_one wc xb pb ob oc (.slice aa an ac) y1 key 2 y4 y5 y6 da dn dc ((HB.out.block _ hx0).trans TB.out) ho')
    have hwrp := wrap_64 (k := n0 + y5) ⟨by omega, by omega⟩
    clear HK t0' t1' BD BA HA0 HA1 ho ho'
    have x0 : wc.cell? ⟨vb, 0, none⟩ = some (.int .i64 2) := (cell_of HV.out).trans rfl
    go_wp2_with (fail)
    refine K53.out.mono ?_
    rintro e w5 ⟨ob2, oc2, rfl, hge, hrow, hb5⟩
    have hvl := lt_of_heap HV.out
    have hv5 : w5.heap[vb]? = some (.cells #[.int .i64 2, .string t0, .int .i64 n0, .slice sa sn sc] 41 (0, 0)) := (hb5.block _ hvl).trans HV.out
    have hr5 : w5.heap[w.heap.size]? = some (.cells #[.int .i64 0, .string ⟨#[]⟩, .int .i64 0, .slice none 0 0] 41 (0, 0)) := (hb5.block _ (Nat.lt_of_lt_of_le hwr HB.out.size)).trans ((HB.out.block _ hwr).trans R0.out)
    have hp5 : ∀ j u, [Value.int .i64 y1, .string key, .int .i64 2, .string y4, .int .i64 y5, .bool y6, .slice da dn dc][j]? = some u → w5.cell? ⟨ob2, j, none⟩ = some u := row_cellsY hrow
    have hov : ob2 ≠ vb := by omega
    have hrv : w.heap.size ≠ vb := by omega
    have hvw : w.heap.size ≤ vb := by omega
    have b5 : Below w.heap.size w w5 := B0.out.trans ((HB.out.trans (hb5.mono HB.out.size)).mono B0.out.size)
    clear K53 hrow hb5 x0 HV HB TB R0 B0 hge
    have c0 : w5.cell? ⟨vb, 0, none⟩ = some (.int .i64 2) := (cell_of hv5).trans rfl
    have K54 := hid (deleteFunc_keep w5 vb ob2 oc2 y1 key 2 y4 y5 y6 da dn dc hp5 ((cell_of hv5).trans rfl))
    have HV6 := hid hv5
    have HR6 := hid hr5
    have HP6 := hid hp5
    have HB6 := hid b5
    clear hv5 hr5 hp5 b5
    go_wp2_with (fail)
    clear c0
    refine K54.out.mono ?_
    rintro e w7 ⟨rfl, hb7⟩
    have hv7 : w7.heap[vb]? = some (.cells #[.int .i64 2, .string t0, .int .i64 n0, .slice sa sn sc] 41 (0, 0)) := (hb7.block _ (lt_of_heap HV6.out)).trans HV6.out
    have hr7 : w7.heap[w.heap.size]? = some (.cells #[.int .i64 0, .string ⟨#[]⟩, .int .i64 0, .slice none 0 0] 41 (0, 0)) := (hb7.block _ (lt_of_heap HR6.out)).trans HR6.out
    have hp7 : ∀ j u, [Value.int .i64 y1, .string key, .int .i64 2, .string y4, .int .i64 y5, .bool y6, .slice da dn dc][j]? = some u → w7.cell? ⟨ob2, j, none⟩ = some u := fun j u hj => (hb7.cell (p := ⟨ob2, j, none⟩) (lt_of_cell (HP6.out j u hj))).trans (HP6.out j u hj)
    have b7 : Below w.heap.size w w7 := HB6.out.trans (hb7.mono HB6.out.size)
    have c7 : w7.cell? ⟨vb, 0, none⟩ = some (.int .i64 2) := (cell_of hv7).trans rfl
    clear K54 HV6 HR6 HP6 HB6 hb7
    have d7 : w7.cell? ⟨vb, 2, none⟩ = some (.int .i64 n0) := (cell_of hv7).trans rfl
    have q0 : w7.cell? ⟨ob2, 0, none⟩ = some (.int .i64 y1) := hp7 0 _ rfl
    have q1 := hp7 1 _ rfl
    have q2 := hp7 2 _ rfl
    have q3 := hp7 3 _ rfl
    have q4 := hp7 4 _ rfl
    have q5 := hp7 5 _ rfl
    have q6 := hp7 6 _ rfl
    obtain ⟨X, hX⟩ : ∃ X, X = w7.heap.size := ⟨_, rfl⟩
    obtain ⟨wa, hwa⟩ : ∃ wa, wa = w7.alloc (.cells #[.int .i64 y1, .string key, .int .i64 2, .string y4, .int .i64 y5, .bool y6, .slice da dn dc] 97) := ⟨_, rfl⟩
    have va : wa.heap[vb]? = some (.cells #[.int .i64 2, .string t0, .int .i64 n0, .slice sa sn sc] 41 (0, 0)) := by rw [hwa]; exact heap_old hv7 _
    have ra : wa.heap[w.heap.size]? = some (.cells #[.int .i64 0, .string ⟨#[]⟩, .int .i64 0, .slice none 0 0] 41 (0, 0)) := by rw [hwa]; exact heap_old hr7 _
    have ba : Below w.heap.size w wa := by rw [hwa]; exact b7.alloc b7.size _
    have u2 : wa.cell? ⟨vb, 2, none⟩ = some (.int .i64 n0) := (cell_of va).trans rfl
    have uf : wa.frozen? ⟨vb, 2, none⟩ = false := by simp only [World.frozen?, va]; simp
    have u4 : wa.cell? ⟨X, 4, none⟩ = some (.int .i64 y5) := by rw [hwa, hX]; exact (cell_of (heap_new _ _)).trans rfl
    obtain ⟨w8, hw8⟩ : ∃ w8, w8 = wa.setCell ⟨vb, 2, none⟩ (.int .i64 (n0 + y5)) := ⟨_, rfl⟩
    have hv8 : w8.heap[vb]? = some (.cells #[.int .i64 2, .string t0, .int .i64 (n0 + y5), .slice sa sn sc] 41 (0, 0)) := by rw [hw8]; exact heap_set va _
    have hr8 : w8.heap[w.heap.size]? = some (.cells #[.int .i64 0, .string ⟨#[]⟩, .int .i64 0, .slice none 0 0] 41 (0, 0)) := by rw [hw8]; exact (Below.heap_setCell _ _ _ _ hrv).trans ra
    have b8 : Below w.heap.size w w8 := by rw [hw8]; exact ba.setCell hvw _
    clear hp7
    go_wp2
    refine wp_loop_rounds 2 ?_
    rw [rounds_succ]
    go_upto_region 17 with (fail)
    rw [← hwa, ← hX]
    clear hwa hX q0 q1 q2 q3 q4 q5 q6 d7 c7
    go_wp2
    rw [← hw8]
    rw [rounds_succ]
    have e0 : w8.cell? ⟨vb, 0, none⟩ = some (.int .i64 2) := (cell_of hv8).trans rfl
    have e1 : w8.cell? ⟨vb, 1, none⟩ = some (.string t0) := (cell_of hv8).trans rfl
    have e2 : w8.cell? ⟨vb, 2, none⟩ = some (.int .i64 (n0 + y5)) := (cell_of hv8).trans rfl
    have e3 : w8.cell? ⟨vb, 3, none⟩ = some (.slice sa sn sc) := (cell_of hv8).trans rfl
    have R8 := hid (row4 hr8)
    have S8 := hid (set4 hr8 [.int .i64 2, .string t0, .int .i64 (n0 + y5), .slice sa sn sc] rfl)
    have B8 := hid b8
    clear hw8 hv8 hr8 b8
    go_wp2_with (refine wpList_store_k _ rfl (.tmp 4) (.tmp 94) 41 rfl w.heap.size 0 [.int .i64 2, .string t0, .int .i64 (n0 + y5), .slice sa sn sc] rfl rfl 4 rfl Tryz.sizeOf41 rfl _ ?hW R8.out.1 R8.out.2 ?_; case hW => rfl)
    exact bodyPost_ret (ret_cell_tmp (k := 4) Tryz.results33 Tryz.isAgg41 Tryz.sizeOf41 _ _ w.heap.size [.int .i64 2, .string t0, .int .i64 (n0 + y5), .slice sa sn sc] _ rfl rfl rfl S8.out) rfl ⟨_, sa, sn, sc, HQ.out, rfl, below_setCells (Nat.le_refl _) _ _ B8.out⟩
end Go.Proofs.YtepnghacjggkkaaGreatDoor
