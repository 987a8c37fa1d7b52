/- A session reads; a session without ops of its own, and with one; A session writes its first op: Add, Set; The closed fact of the laws of sessions: opened; errors.Is and errors.As by their contracts, at errors of errors.New's make and at one api.Fault around such an error; Closed facts on the model's entries for internal/reflectlite at this program's types, and three small laws on those that read or write memory. -/
import Derived.Test.YtepnghacjggkkaaGreatDoorGYE
import Derived.Deep.RegionHeld
import Derived.Test.YtepnghacjggkkaaGreatDoorGYH
import Derived.Test.YtepnghacjggkkaaGreatDoorGHF
import Derived.Test.YtepnghacjggkkaaGreatDoorGYF
import Derived.Test.YtepnghacjggkkaaGreatDoorGKU
import Derived.Test.YtepnghacjggkkaaGreatDoorGLG
import Derived.Test.YtepnghacjggkkaaGreatDoorGWMath2
import Derived.BigQuiet
import Derived.Deep.Draws
import Derived.Deep.QuietTactic
import Derived.DeepKeys5
import Derived.Ground.SlsfProg
import Derived.Handy
import Derived.LaidEql
import Derived.Laws.MakeOwn
import Derived.Lib.SlKept
import Derived.Lib.SliceRun
import Derived.Maps.AppendAt
import Derived.Maps.OwnSet
import Derived.RowKitTokens
import Derived.Shelf.GgSortFunc.RowK
import Derived.Shelf.SlGeneric
import Derived.Shelf.SlicesE.DeleteFunc
import Derived.Shelf.SlicesQ.IndexFunc
import Derived.Sort.Grow
import Derived.StillTailTactics
import Derived.Stop.Asserts
import Derived.Test.YtepnghacjggkkaaGreatDoorChecked
import Derived.Test.YtepnghacjggkkaaGreatDoorProg
import Derived.WalkKit
namespace Go.Proofs.YtepnghacjggkkaaGreatDoor
open Go.RowKit Go.Maps
set_option maxRecDepth 100000
set_option linter.unusedSectionVars false
variable [Inhabited ComV] [DecidableEq D3] [Inhabited D3] [Inhabited Dd] [Inhabited Dn] [Inhabited OpV]

set_option maxHeartbeats 4000000 in
theorem read_ses (w : World) (sb xb : Nat) (tv : Value) (key : ByteArray) (k0 n0 : Int) (Q : ByteArray → Prop) (h : SesBox w sb tv (some ⟨xb, 0, none⟩)) (K33 : ∀ W, Below w.heap.size w W → Calls Tryz.prog 33 #[.pointer (some ⟨xb, 0, none⟩), .string key] W (ReadRet k0 n0 Q W)) : Calls Tryz.prog 12 #[.pointer (some ⟨sb, 0, none⟩), .string key] w (ReadRet k0 n0 Q w) := by
  obtain ⟨w0, hw0⟩ : ∃ w0, w0 = w.alloc (.cells #[.int .i64 0, .string ⟨#[]⟩, .int .i64 0, .slice none 0 0] 41) := ⟨_, rfl⟩
  have b0 : Below w.heap.size w w0 := by rw [hw0]; exact below_alloc _ _
  have r0 : w0.heap[w.heap.size]? = some (.cells #[.int .i64 0, .string ⟨#[]⟩, .int .i64 0, .slice none 0 0] 41 (0, 0)) := by rw [hw0]; exact heap_new _ _
  have s0 : SesBox w0 sb tv (some ⟨xb, 0, none⟩) := (b0.block _ (lt_of_heap h)).trans h
  have t1 : w0.cell? ⟨sb, 1, none⟩ = some (.pointer (some ⟨xb, 0, none⟩)) := (cell_of s0).trans rfl
  have K20 := hid (open_yes w0 sb tv _ s0)
  have K33' := hid (K33 w0 b0)
  have B0 := hid b0
  have R0 := hid r0
  clear h K33 b0 s0 r0
  go_enter Tryz.func12, Tryz.ntmps12
  go_upto_region 1 with (fail)
  rw [← hw0]
  clear hw0
  go_wp2_with (go_at_call 20; refine K20.out.mono ?_; rintro e w' ⟨rfl, hw'⟩; rw [hw']; clear hw')
  refine K33'.out.mono ?_
  rintro e w5 ⟨t0, sa, sn, sc, hQ, rfl, hb5⟩
  have HQ := hid hQ
  have hr5 : w5.heap[w.heap.size]? = some (.cells #[.int .i64 0, .string ⟨#[]⟩, .int .i64 0, .slice none 0 0] 41 (0, 0)) := (hb5.block _ (lt_of_heap R0.out)).trans R0.out
  have R5 := hid (row4 hr5)
  have S5 := hid (set4 hr5 [.int .i64 k0, .string t0, .int .i64 n0, .slice sa sn sc] rfl)
  have B5 := hid (B0.out.trans (hb5.mono B0.out.size))
  clear hb5 hr5 K20 K33' hQ
  go_wp2_with (refine wpList_store_k _ rfl (.tmp 4) (.tmp 17) 41 rfl w.heap.size 0 [.int .i64 k0, .string t0, .int .i64 n0, .slice sa sn sc] rfl rfl 4 rfl Tryz.sizeOf41 rfl _ ?hW R5.out.1 R5.out.2 ?_; case hW => rfl)
  exact bodyPost_ret (ret_cell_tmp (k := 4) Tryz.results12 Tryz.isAgg41 Tryz.sizeOf41 _ _ w.heap.size [.int .i64 k0, .string t0, .int .i64 n0, .slice sa sn sc] _ rfl rfl rfl S5.out) rfl ⟨t0, sa, sn, sc, HQ.out, rfl, below_setCells (Nat.le_refl _) _ _ B5.out⟩
end Go.Proofs.YtepnghacjggkkaaGreatDoor
namespace Go.Proofs.YtepnghacjggkkaaGreatDoor
open Go.RowKit Go.Maps
set_option maxRecDepth 100000
set_option linter.unusedSectionVars false
variable [Inhabited ComV] [DecidableEq D3] [Inhabited D3] [Inhabited Dd] [Inhabited Dn] [Inhabited OpV]

structure WriteRet (w : World) (sb xb pb : Nat) (tv av : Value) (cs : List Value) (e : Ending) (w' : World) : Prop where
  ret : ∃ (ob oc : Nat), e = .returned .nilIface ∧ w.heap.size ≤ ob ∧ SesBox w' sb tv (some ⟨xb, 0, none⟩) ∧ TraBox w' xb pb av (.slice (some ⟨ob, 0, none⟩) 1 oc) ∧ w'.ownsRow w.heap.size 97 7 (.slice (some ⟨ob, 0, none⟩) 1 oc) 1 cs ∧ Only xb w w'
theorem base_le {w : World} {b b' e size n : Nat} {v : Value} {xs : List Value} (h : w.ownsRow b e size v n xs) (hb : b' ≤ b) : w.ownsRow b' e size v n xs := by
  refine ⟨h.1, ?_⟩
  rcases h.2 with h0 | ⟨g, cap, cur, hv, hg, r⟩
  · exact .inl h0
  · exact .inr ⟨g, cap, cur, hv, Nat.le_trans hb hg, r⟩
set_option maxHeartbeats 8000000 in
theorem write_first (A : Nat → Addr) (w : World) (hE : E4 A w) (h12 : 12 ≤ w.heap.size) (sb xb pb : Nat) (tv : Value) (aa : Option Addr) (an ac : Nat) (y1 : Int) (y2 : ByteArray) (y3 : Int) (y4 : ByteArray) (y5 : Int) (hs : SesBox w sb tv (some ⟨xb, 0, none⟩)) (h : TraBox w xb pb (.slice aa an ac) (.slice none 0 0)) (h0 : opErr ⟨y1, y2, y3, y4, y5, false, []⟩ an = 0) (ht : y4.size ≤ 1000000) : Calls Tryz.prog 34 #[.pointer (some ⟨sb, 0, none⟩), .agg #[.int .i64 y1, .string y2, .int .i64 y3, .string y4, .int .i64 y5, .bool false, .slice none 0 0]] w (WriteRet w sb xb pb tv (.slice aa an ac) [.int .i64 y1, .string y2, .int .i64 y3, .string y4, .int .i64 y5, .bool false, .slice none 0 0]) := by
  obtain ⟨w0, hw0⟩ : ∃ w0, w0 = w.alloc (.cells #[.int .i64 y1, .string y2, .int .i64 y3, .string y4, .int .i64 y5, .bool false, .slice none 0 0] 97) := ⟨_, rfl⟩
  have b0 : Below w.heap.size w w0 := by rw [hw0]; exact below_alloc _ _
  have tb : TraBox w0 xb pb (.slice aa an ac) (.slice none 0 0) := (b0.block _ (lt_of_heap h)).trans h
  have s0 : SesBox w0 sb tv (some ⟨xb, 0, none⟩) := (b0.block _ (lt_of_heap hs)).trans hs
  have ob0 : w0.heap[w.heap.size]? = some (.cells #[.int .i64 y1, .string y2, .int .i64 y3, .string y4, .int .i64 y5, .bool false, .slice none 0 0] 97 (0, 0)) := by rw [hw0]; exact heap_new _ _
  have K20 := hid (open_yes w0 sb tv _ s0)
  have K57 := hid (more_first A w0.drew (hE.below (b0.drew) h12) (Nat.le_trans h12 b0.size) xb pb aa an ac y1 y2 y3 y4 y5 tb h0 ht)
  have t1 : w0.cell? ⟨sb, 1, none⟩ = some (.pointer (some ⟨xb, 0, none⟩)) := (cell_of s0).trans rfl
  have o0 : w0.cell? ⟨w.heap.size, 0, none⟩ = some (.int .i64 y1) := (cell_of ob0).trans rfl
  have o1 : w0.cell? ⟨w.heap.size, 1, none⟩ = some (.string y2) := (cell_of ob0).trans rfl
  have o2 : w0.cell? ⟨w.heap.size, 2, none⟩ = some (.int .i64 y3) := (cell_of ob0).trans rfl
  have o3 : w0.cell? ⟨w.heap.size, 3, none⟩ = some (.string y4) := (cell_of ob0).trans rfl
  have o4 : w0.cell? ⟨w.heap.size, 4, none⟩ = some (.int .i64 y5) := (cell_of ob0).trans rfl
  have o5 : w0.cell? ⟨w.heap.size, 5, none⟩ = some (.bool false) := (cell_of ob0).trans rfl
  have o6 : w0.cell? ⟨w.heap.size, 6, none⟩ = some (.slice none 0 0) := (cell_of ob0).trans rfl
  have S0 := hid s0
  have B0 := hid b0
  have hsx : sb ≠ xb := cell_ne hs h (by decide)
  have hwl : w.heap.size < w0.heap.size := lt_of_heap ob0
  have hxw : xb < w.heap.size := lt_of_heap h
  clear hs h tb s0 ob0 b0 hE h12 h0
  go_enter Tryz.func34, Tryz.ntmps34
  go_upto_region 1 with (fail)
  rw [← hw0]
  clear hw0
  go_upto_region 3 with (go_at_call 20; refine K20.out.mono ?_; rintro e w' ⟨rfl, hw'⟩; rw [hw']; clear hw')
  go_region_held (fun u => u.cell? ⟨sb, 1, none⟩ = some (.pointer (some ⟨xb, 0, none⟩)) ∧ u.cell? ⟨w.heap.size, 0, none⟩ = some (.int .i64 y1) ∧ u.cell? ⟨w.heap.size, 1, none⟩ = some (.string y2) ∧ u.cell? ⟨w.heap.size, 2, none⟩ = some (.int .i64 y3) ∧ u.cell? ⟨w.heap.size, 3, none⟩ = some (.string y4) ∧ u.cell? ⟨w.heap.size, 4, none⟩ = some (.int .i64 y5) ∧ u.cell? ⟨w.heap.size, 5, none⟩ = some (.bool false) ∧ u.cell? ⟨w.heap.size, 6, none⟩ = some (.slice none 0 0)) (first | go_keep | exact ⟨t1, o0, o1, o2, o3, o4, o5, o6⟩ | exact ⟨t1', p0, p1, p2, p3, p4, p5, p6⟩) ((go_at_call 57; refine K57.out.mono ?_; rintro e w5 ⟨ob, oc, rfl, hob, hT5, hR5, hO5⟩; have c5 : ∀ (b j : Nat) (v : Value), b ≠ xb → w0.cell? ⟨b, j, none⟩ = some v → w5.cell? ⟨b, j, none⟩ = some v := (fun b j v hne hc => (World.cell?_of_block (a := ⟨b, j, none⟩) (hO5.block b (lt_of_cell hc) hne)).trans hc); have t1' := c5 _ _ _ hsx t1; have p0 := c5 _ _ _ (by omega) o0; have p1 := c5 _ _ _ (by omega) o1; have p2 := c5 _ _ _ (by omega) o2; have p3 := c5 _ _ _ (by omega) o3; have p4 := c5 _ _ _ (by omega) o4; have p5 := c5 _ _ _ (by omega) o5; have p6 := c5 _ _ _ (by omega) o6; have F5 : Hid (w.heap.size ≤ ob ∧ SesBox w5 sb tv (some ⟨xb, 0, none⟩) ∧ TraBox w5 xb pb (.slice aa an ac) (.slice (some ⟨ob, 0, none⟩) 1 oc) ∧ w5.ownsRow w.heap.size 97 7 (.slice (some ⟨ob, 0, none⟩) 1 oc) 1 [.int .i64 y1, .string y2, .int .i64 y3, .string y4, .int .i64 y5, .bool false, .slice none 0 0] ∧ Only xb w w5) := (show _ ∧ _ from ⟨Nat.le_trans (Nat.le_of_lt hwl) hob, (hO5.block _ (lt_of_heap S0.out) hsx).trans S0.out, hT5, base_le hR5 (Nat.le_of_lt hwl), (Only.of B0.out).trans ⟨hO5.os, hO5.tape, hO5.output, hO5.size, hO5.block⟩⟩); clear hob hT5 hR5 hO5 c5))
  go_wp2
  go_ret
  exact ⟨⟨ob, oc, rfl, F5.out⟩⟩
set_option maxHeartbeats 2000000 in
theorem add_first (A : Nat → Addr) (w : World) (hE : E4 A w) (h12 : 12 ≤ w.heap.size) (sb xb pb : Nat) (tv : Value) (aa : Option Addr) (an ac : Nat) (key : ByteArray) (x : Int) (hs : SesBox w sb tv (some ⟨xb, 0, none⟩)) (h : TraBox w xb pb (.slice aa an ac) (.slice none 0 0)) (h0 : opErr ⟨0, key, 2, ByteArray.empty, x, false, []⟩ an = 0) : Calls Tryz.prog 13 #[.pointer (some ⟨sb, 0, none⟩), .string key, .int .i64 x] w (WriteRet w sb xb pb tv (.slice aa an ac) [.int .i64 0, .string key, .int .i64 2, .string ⟨#[]⟩, .int .i64 x, .bool false, .slice none 0 0]) := by
  have K34 := hid (write_first A w hE h12 sb xb pb tv aa an ac 0 key 2 ⟨#[]⟩ x hs h h0 (by decide))
  clear hE h12 hs h h0
  go_enter Tryz.func13, Tryz.ntmps13
  go_wp2_with (fail)
  refine K34.out.mono ?_
  rintro e w5 ⟨ob, oc, rfl, F5⟩
  have F := hid F5
  clear F5
  go_wp2
  go_ret
  exact ⟨⟨ob, oc, rfl, F.out⟩⟩
set_option maxHeartbeats 2000000 in
theorem set_first (A : Nat → Addr) (w : World) (hE : E4 A w) (h12 : 12 ≤ w.heap.size) (sb xb pb : Nat) (tv : Value) (aa : Option Addr) (an ac : Nat) (key x : ByteArray) (hs : SesBox w sb tv (some ⟨xb, 0, none⟩)) (h : TraBox w xb pb (.slice aa an ac) (.slice none 0 0)) (h0 : opErr ⟨0, key, 1, x, 0, false, []⟩ an = 0) (hx : x.size ≤ 1000000) : Calls Tryz.prog 15 #[.pointer (some ⟨sb, 0, none⟩), .string key, .string x] w (WriteRet w sb xb pb tv (.slice aa an ac) [.int .i64 0, .string key, .int .i64 1, .string x, .int .i64 0, .bool false, .slice none 0 0]) := by
  have K34 := hid (write_first A w hE h12 sb xb pb tv aa an ac 0 key 1 x 0 hs h h0 hx)
  clear hE h12 hs h h0
  go_enter Tryz.func15, Tryz.ntmps15
  go_wp2_with (fail)
  refine K34.out.mono ?_
  rintro e w5 ⟨ob, oc, rfl, F5⟩
  have F := hid F5
  clear F5
  go_wp2
  go_ret
  exact ⟨⟨ob, oc, rfl, F.out⟩⟩
end Go.Proofs.YtepnghacjggkkaaGreatDoor
namespace Go.Proofs.YtepnghacjggkkaaGreatDoor
open Go.RowKit Go.Maps
set_option maxRecDepth 100000
set_option linter.unusedSectionVars false
variable [Inhabited ComV] [DecidableEq D3] [Inhabited D3] [Inhabited Dd] [Inhabited Dn] [Inhabited OpV]

theorem PlAt.only {W W' : World} {h : PlH} {v : PlV} (a : PlAt W h v) {g : Nat} {cs : Array Value} {ty : TypeId} (hg : W.heap[g]? = some (.cells cs ty (0, 0))) (h1 : 3 ≠ ty) (h2 : 97 ≠ ty) (h3 : 175 ≠ ty) (hf : ¬ h.foot v g) (o : Only g W W') : PlAt W' h v :=
  a.keep (fun b hb => o.block b (a.lt hb) fun e => hf (e ▸ hb)) (keeps_only hg h1 h2 h3 o)
theorem snap11 : snapV (pv0 0 1 1) = [0] := by decide
theorem snap_ret {w : World} {h : PlH} {v : PlV} (a : PlAt w h v) : Calls Tryz.prog 29 #[.pointer (some ⟨h.pb, 0, none⟩)] w (SnapRet (snapV v) w) := by
  refine (snapshot_any w h v a).mono ?_
  rintro e w' ⟨he, h1, h2⟩
  exact ⟨by rw [he, snapV_len], h1, h2⟩
set_option maxHeartbeats 8000000 in
theorem opened_ok (A : Nat → Addr) (B : Nat) (w : World) (hS : Sen A B w) : Calls Tryz.prog 5 #[] w fun e w' => e = .returned (.bool true) ∧ Below w.heap.size w w' := by
  have hgl := hS.gl
  have hsz := hS.size
  have K7 := hid (new_any w 0 1 1 (by decide) (by decide) (by decide) (by decide))
  have HE := hid hS.e4
  have H12 : Hid (13 ≤ w.heap.size) := (show _ ≤ _ from Nat.le_trans hgl hsz)
  clear hgl hsz hS
  go_enter Tryz.func5, Tryz.ntmps5
  go_wp2_with (fail)
  refine K7.out.mono ?_
  rintro e w1 ⟨h, rfl, hP, hf, hb1, hnn, hX⟩
  go_wp2_with (fail)
  refine (sesNew_ok w1 1 (by decide) (by decide)).mono ?_
  rintro e w2 ⟨sb, tb, rfl, hsb, htb, hs2, ht2, hb2⟩
  have P2 : PlAt w2 h (pv0 0 1 1) := hP.below hb2
  have nf : ¬ h.foot (pv0 0 1 1) sb := fun q => by have := hP.lt q; omega
  have B2 : Hid (Below w.heap.size w w2) := (show Below _ _ _ from hb1.trans (hb2.mono hb1.size))
  have E2 := HE.out.below B2.out (by have := H12.out; omega)
  have K10 := hid (begin_ok A w2 E2 (by have := H12.out; have := B2.out.size; omega) sb h.pb _ [0] [0] hs2 (ints_heapY (zs := [0]) ht2) (by decide) (by decide) (by have := snap_ret P2; rw [snap11] at this; exact this))
  have hw1 : w.heap.size ≤ w1.heap.size := hb1.size
  have H2 := hid P2
  have HS2 := hid hs2
  clear hP hb1 hb2 hs2 ht2 htb K7 hX hnn P2 E2
  go_wp2_with (fail)
  refine K10.out.mono ?_
  rintro e w3 ⟨a3, c3, ta, tc, xb, rfl, hs3, hx3, hT3, hg3, hxl, hO3⟩
  have P3 : PlAt w3 h (pv0 0 1 1) := H2.out.only HS2.out (by decide) (by decide) (by decide) nf hO3
  have b3 : Below w.heap.size w w3 := ⟨hO3.os.trans B2.out.os, hO3.tape.trans B2.out.tape, hO3.output.trans B2.out.output, Nat.le_trans B2.out.size hO3.size, fun b hb => (hO3.block b (Nat.lt_of_lt_of_le hb B2.out.size) (by omega)).trans (B2.out.block b hb)⟩
  have E3 := HE.out.below b3 (by have := H12.out; omega)
  have nfx : ¬ h.foot (pv0 0 1 1) xb := fun q => by have := H2.out.lt q; omega
  have HG3 := hid hg3
  have K15 := hid (set_first A w3 E3 (by have := H12.out; have := b3.size; omega) sb xb h.pb _ (some ⟨w2.heap.size, 0, none⟩) 1 1 ⟨#[107]⟩ ⟨#[120]⟩ hs3 hx3 (by decide) (by decide))
  have H3 := hid P3
  have B3 := hid b3
  have HX3 := hid hx3
  have hw2 : w.heap.size ≤ w2.heap.size := B2.out.size
  clear hs3 hx3 hT3 hg3 hO3 P3 b3 E3 K10 H2 HS2 B2
  go_wp2_with (fail)
  refine K15.out.mono ?_
  rintro e w4 ⟨ob, oc, rfl, hob, hs4, hx4, hr4, hO4⟩
  have P4 : PlAt w4 h (pv0 0 1 1) := H3.out.only HX3.out (by decide) (by decide) (by decide) nfx hO4
  have b4 : Below w.heap.size w w4 := ⟨hO4.os.trans B3.out.os, hO4.tape.trans B3.out.tape, hO4.output.trans B3.out.output, Nat.le_trans B3.out.size hO4.size, fun b hb => (hO4.block b (Nat.lt_of_lt_of_le hb B3.out.size) (by omega)).trans (B3.out.block b hb)⟩
  have hg4 := (keeps_only HX3.out (by decide) (by decide) (by decide) hO4 3 (.inl rfl) _ _ HG3.out).trans HG3.out
  have K33 := hid (fun W (hW : Below w4.heap.size w4 W) => value_reg0 W xb h.pb (some ⟨w2.heap.size, 0, none⟩) 1 1 ⟨#[107]⟩ 0 (fun _ => True) ob oc 0 ⟨#[120]⟩ 0 false none 0 0 (fun j u hj => (hW.cell (p := ⟨ob, j, none⟩) (lt_of_cell (row_cellsY hr4 j u hj))).trans (row_cellsY hr4 j u hj)) (by decide) ((hW.block _ (lt_of_heap hx4)).trans hx4) (fun W2 hW2 => by
    have bw := hW.trans (hW2.mono hW.size)
    have P := P4.below bw
    have b5 : Below w.heap.size w W2 := b4.trans (bw.mono b4.size)
    refine (read_any A W2 (HE.out.below b5 (by have := H12.out; omega)) (by have := H12.out; have := b5.size; omega) h (pv0 0 1 1) P ⟨#[107]⟩ (by decide) (some ⟨w2.heap.size, 0, none⟩) 1 1 [0] (ints_heapY (zs := [0]) ((bw.block _ (lt_of_heap hg4)).trans hg4)) (by decide) (by decide) (stOf_ok (KeptL.nil 1) (by decide) (by decide) (fun c hc => by simp at hc)) (by first | decide | exact Nat.zero_le _) (by first | decide | exact Nat.zero_le _)).mono ?_
    rintro e W3 ⟨v, ds, he, hI, ⟨sv, hv', hsv⟩, hb⟩
    have hd : ds = [] := isOps_nil hI
    subst hd
    obtain ⟨sa, sc, hsa, _⟩ := hsv
    rw [hv', hsa] at he
    exact ⟨_, sa, _, sc, trivial, he, hb⟩))
  have K12 := hid (read_ses w4 sb xb _ ⟨#[107]⟩ 1 0 (fun x => x = ⟨#[120]⟩) hs4 K33.out)
  have S4 := hid hs4
  have B4 := hid b4
  clear hs4 hx4 hr4 hO4 P4 b4 hg4 K15 H3 HX3 HG3 B3 K33
  go_wp2_with (fail)
  refine K12.out.mono ?_
  rintro e w5 ⟨t0, sa, sn, sc, rfl, rfl, hb5⟩
  have s5 : Hid (SesBox w5 sb _ (some ⟨xb, 0, none⟩)) := (show _ = _ from (hb5.block _ (lt_of_heap S4.out)).trans S4.out)
  have K20 := hid (fun W (hW : Below w5.heap.size w5 W) => open_yes W sb _ _ ((hW.block _ (lt_of_heap s5.out)).trans s5.out))
  have B5 := hid (B4.out.trans (hb5.mono B4.out.size))
  clear hb5 S4 B4 K12 s5
  go_wp2_with (fail)
  refine (K20.out _ (below_alloc _ _)).mono ?_
  rintro e w' ⟨rfl, hw'⟩
  rw [hw']
  clear hw' K20
  go_wp2_with (fail)
  go_ret
  exact ⟨rfl, B5.out.alloc B5.out.size _⟩
end Go.Proofs.YtepnghacjggkkaaGreatDoor
namespace Go.Proofs.YtepnghacjggkkaaGreatDoor
open Go.RowKit Go.Extern.Stop Go.Stop Go.Extern

def ent (f : Func) : Array Value → Sem Value := (Extern.find f).getD fun _ => pure .nilIface
theorem Tryz.isTypeOf (v : Value) (w : World) : (Extern.ReflectliteType.typeOf #[.iface 276 v]).run Tryz.prog w = .ok (.iface 180 (.agg #[.pointer (some ⟨13, 276, none⟩)])) w := by kernel_rfl
theorem Tryz.isComparable (w : World) : ((ent Tryz.f213) #[.agg #[.pointer (some ⟨13, 276, none⟩)]]).run Tryz.prog w = .ok (.bool true) w := by kernel_rfl
theorem Tryz.isMethodComparable (v : Value) (w : World) : (Go.method 407 180 v "Comparable").run Tryz.prog w = .ok (213, v) w := by kernel_rfl
theorem Tryz.isComp : (Tryz.prog.info? 276).map (·.comparable) = some true := by kernel_rfl
theorem Tryz.isSize : (Tryz.prog.info? 296).map (·.size) = some 1 := by kernel_rfl
theorem Tryz.noIsE (v : Value) (xT : TypeId) (w : World) : (Instr.typeAssert (.iface 276 v) xT 190 true).run Tryz.prog w = .ok (.tuple #[.nilIface, .bool false]) w := run_typeAssert_lacksB Tryz.underlying190 (by kernel_rfl) (by kernel_rfl) v xT w
theorem Tryz.noUnwrapE (v : Value) (xT : TypeId) (w : World) : (Instr.typeAssert (.iface 276 v) xT 187 true).run Tryz.prog w = .ok (.tuple #[.nilIface, .bool false]) w := run_typeAssert_lacksB Tryz.underlying187 (by kernel_rfl) (by kernel_rfl) v xT w
theorem Tryz.noUnwrapsE (v : Value) (xT : TypeId) (w : World) : (Instr.typeAssert (.iface 276 v) xT 188 true).run Tryz.prog w = .ok (.tuple #[.nilIface, .bool false]) w := run_typeAssert_lacksB Tryz.underlying188 (by kernel_rfl) (by kernel_rfl) v xT w
theorem Tryz.noAsE (v : Value) (xT : TypeId) (w : World) : (Instr.typeAssert (.iface 276 v) xT 184 true).run Tryz.prog w = .ok (.tuple #[.nilIface, .bool false]) w := run_typeAssert_lacksB Tryz.underlying184 (by kernel_rfl) (by kernel_rfl) v xT w
theorem Tryz.noIsF (v : Value) (xT : TypeId) (w : World) : (Instr.typeAssert (.iface 116 v) xT 190 true).run Tryz.prog w = .ok (.tuple #[.nilIface, .bool false]) w := run_typeAssert_lacksB Tryz.underlying190 (by kernel_rfl) (by kernel_rfl) v xT w
theorem Tryz.hasUnwrapF (v : Value) (xT : TypeId) (w : World) : (Instr.typeAssert (.iface 116 v) xT 187 true).run Tryz.prog w = .ok (.tuple #[.iface 116 v, .bool true]) w := run_typeAssert_hasB Tryz.underlying187 (by kernel_rfl) v xT w
theorem Tryz.methodUnwrap (v : Value) (w : World) : (Go.method 407 116 v "Unwrap").run Tryz.prog w = .ok (207, v) w := by kernel_rfl
theorem is_same (a : Addr) (w : World) :
    Calls Tryz.prog 51 #[.iface 276 (.pointer (some a)), .iface 276 (.pointer (some a))] w fun e w' => e = .returned (.bool true) ∧ w' = w := by
  obtain ⟨i, hi, hcmp⟩ := Option.map_eq_some_iff.1 Tryz.isComp
  obtain ⟨j, hj, hjs⟩ := Option.map_eq_some_iff.1 Tryz.isSize
  have h50 := @run_callFunc_extern Tryz.prog 76 _ Extern.ReflectliteType.typeOf Tryz.func76 (by kernel_rfl) (by kernel_rfl) (by kernel_rfl) (by kernel_rfl)
  have h130 := @run_callFunc_extern Tryz.prog 213 _ (ent Tryz.f213) Tryz.func213 (by kernel_rfl) (by kernel_rfl) (by kernel_rfl) (by kernel_rfl)
  have tT := Tryz.isTypeOf
  have cT := Tryz.isComparable
  have mR := Tryz.isMethodComparable
  have nE := Tryz.noIsE
  have uE := Tryz.noUnwrapE
  have vE := Tryz.noUnwrapsE
  have nF := Tryz.noIsF
  have uF := Tryz.hasUnwrapF
  have mU := Tryz.methodUnwrap
  have heq := run_eql_iface_ptr_same (P := Tryz.prog) w a Tryz.underlying26 Tryz.underlying276 hi hcmp hj
  go_enter Tryz.func51, Tryz.ntmps51
  go_wp2
  refine wp_loop_rounds 1 ?_
  rw [rounds_succ]
  go_wp2
  go_ret
  exact ⟨rfl, rfl⟩
theorem is_other (a b : Addr) (ca cb : Array Value) (ta tb : TypeId) (w : World) (hne : a ≠ b) (ha : w.heap[a.block]? = some (.cells ca ta (0, 0))) (hb : w.heap[b.block]? = some (.cells cb tb (0, 0))) :
    Calls Tryz.prog 51 #[.iface 276 (.pointer (some a)), .iface 276 (.pointer (some b))] w fun e w' => e = .returned (.bool false) ∧ w' = w := by
  obtain ⟨i, hi, hcmp⟩ := Option.map_eq_some_iff.1 Tryz.isComp
  obtain ⟨j, hj, hjs⟩ := Option.map_eq_some_iff.1 Tryz.isSize
  have h50 := @run_callFunc_extern Tryz.prog 76 _ Extern.ReflectliteType.typeOf Tryz.func76 (by kernel_rfl) (by kernel_rfl) (by kernel_rfl) (by kernel_rfl)
  have h130 := @run_callFunc_extern Tryz.prog 213 _ (ent Tryz.f213) Tryz.func213 (by kernel_rfl) (by kernel_rfl) (by kernel_rfl) (by kernel_rfl)
  have tT := Tryz.isTypeOf
  have cT := Tryz.isComparable
  have mR := Tryz.isMethodComparable
  have nE := Tryz.noIsE
  have uE := Tryz.noUnwrapE
  have vE := Tryz.noUnwrapsE
  have nF := Tryz.noIsF
  have uF := Tryz.hasUnwrapF
  have mU := Tryz.methodUnwrap
  have heq := run_eql_iface_ptr_other (P := Tryz.prog) w Tryz.underlying26 Tryz.underlying276 hi hcmp hj (by rw [hjs]; decide) hne ha hb
  go_enter Tryz.func51, Tryz.ntmps51
  go_wp2
  refine wp_loop_rounds 1 ?_
  rw [rounds_succ]
  go_wp2
  go_ret
  exact ⟨rfl, rfl⟩
end Go.Proofs.YtepnghacjggkkaaGreatDoor
namespace Go.Proofs.YtepnghacjggkkaaGreatDoor
open Go.RowKit Go.Extern.Stop Go.Stop Go.Extern

theorem Tryz.valueOf118 (t : Addr) (w : World) : (ent Tryz.f72 #[.iface 118 (.pointer (some t))]).run Tryz.prog w
    = .ok (.agg #[.pointer (some ⟨13, 118, none⟩), .pointer (some ⟨w.heap.size, 0, none⟩), .int .u64 150]) (w.alloc (.cells #[.pointer (some t)] 118)) := by kernel_rfl
theorem Tryz.valueOf116 (e : Addr) (w : World) : (ent Tryz.f72 #[.iface 116 (.pointer (some e))]).run Tryz.prog w
    = .ok (.agg #[.pointer (some ⟨13, 116, none⟩), .pointer (some ⟨w.heap.size, 0, none⟩), .int .u64 150]) (w.alloc (.cells #[.pointer (some e)] 116)) := by kernel_rfl
theorem Tryz.type118 (a : Addr) (w : World) : (ent Tryz.f73 #[.agg #[.pointer (some ⟨13, 118, none⟩), .pointer (some a), .int .u64 150]]).run Tryz.prog w
    = .ok (.iface 180 (.agg #[.pointer (some ⟨13, 118, none⟩)])) w := by kernel_rfl
theorem Tryz.methodKind (h : Value) (w : World) : (Go.method 407 180 (.agg #[h]) "Kind").run Tryz.prog w = .ok (201, h) w := by kernel_rfl
theorem Tryz.methodElem (h : Value) (w : World) : (Go.method 407 180 (.agg #[h]) "Elem").run Tryz.prog w = .ok (214, .agg #[h]) w := by kernel_rfl
theorem Tryz.methodImplements (h : Value) (w : World) : (Go.method 407 180 (.agg #[h]) "Implements").run Tryz.prog w = .ok (215, .agg #[h]) w := by kernel_rfl
theorem Tryz.methodAssignableTo (h : Value) (w : World) : (Go.method 407 180 (.agg #[h]) "AssignableTo").run Tryz.prog w = .ok (212, .agg #[h]) w := by kernel_rfl
theorem Tryz.kind118 (w : World) : (ent Tryz.f201 #[.pointer (some ⟨13, 118, none⟩)]).run Tryz.prog w = .ok (.int .u8 22) w := by kernel_rfl
theorem Tryz.kind116 (w : World) : (ent Tryz.f201 #[.pointer (some ⟨13, 116, none⟩)]).run Tryz.prog w = .ok (.int .u8 22) w := by kernel_rfl
theorem Tryz.elem118 (w : World) : (ent Tryz.f214 #[.agg #[.pointer (some ⟨13, 118, none⟩)]]).run Tryz.prog w = .ok (.iface 180 (.agg #[.pointer (some ⟨13, 116, none⟩)])) w := by kernel_rfl
theorem Tryz.implements116 (w : World) : (ent Tryz.f215 #[.agg #[.pointer (some ⟨13, 116, none⟩)], .iface 180 (.agg #[.pointer (some ⟨13, 26, none⟩)])]).run Tryz.prog w = .ok (.bool true) w := by kernel_rfl
theorem Tryz.typeOf116 (v : Value) (w : World) : (ent Tryz.f76 #[.iface 116 v]).run Tryz.prog w = .ok (.iface 180 (.agg #[.pointer (some ⟨13, 116, none⟩)])) w := by kernel_rfl
theorem Tryz.typeOf276 (v : Value) (w : World) : (ent Tryz.f76 #[.iface 276 v]).run Tryz.prog w = .ok (.iface 180 (.agg #[.pointer (some ⟨13, 276, none⟩)])) w := by kernel_rfl
theorem Tryz.assignable116 (w : World) : (ent Tryz.f212 #[.agg #[.pointer (some ⟨13, 116, none⟩)], .iface 180 (.agg #[.pointer (some ⟨13, 116, none⟩)])]).run Tryz.prog w = .ok (.bool true) w := by kernel_rfl
theorem Tryz.assignable276 (w : World) : (ent Tryz.f212 #[.agg #[.pointer (some ⟨13, 276, none⟩)], .iface 180 (.agg #[.pointer (some ⟨13, 116, none⟩)])]).run Tryz.prog w = .ok (.bool false) w := by kernel_rfl
theorem Tryz.ent74 : ent Tryz.f74 = ReflectliteValue.method (ReflectliteValue.valueError "reflectlite.Value.IsNil" 0) ReflectliteValue.isNil := by kernel_rfl
theorem Tryz.ent97 : ent Tryz.f97 = ReflectliteValue.method (ReflectliteValue.valueError "reflectlite.Value.Elem" 0) ReflectliteValue.elem := by kernel_rfl
theorem Tryz.ent98 : ent Tryz.f98 = ReflectliteValue.set := by kernel_rfl
theorem Tryz.parts118 (a : Addr) (w : World) : (ReflectliteValue.parts (.agg #[.pointer (some ⟨13, 118, none⟩), .pointer (some a), .int .u64 150])).run Tryz.prog w = .ok (some (118, a, 150)) w := by kernel_rfl
theorem Tryz.parts116a (a : Addr) (w : World) : (ReflectliteValue.parts (.agg #[.pointer (some ⟨13, 116, none⟩), .pointer (some a), .int .u64 406])).run Tryz.prog w = .ok (some (116, a, 406)) w := by kernel_rfl
theorem Tryz.parts116 (a : Addr) (w : World) : (ReflectliteValue.parts (.agg #[.pointer (some ⟨13, 116, none⟩), .pointer (some a), .int .u64 150])).run Tryz.prog w = .ok (some (116, a, 150)) w := by kernel_rfl
theorem Tryz.elemOf118 (w : World) : (Rtype.elem? 118).run Tryz.prog w = .ok (some 116) w := by kernel_rfl
theorem Tryz.mk116 (p : Addr) (w : World) : (ReflectliteValue.mk 116 p ReflectliteValue.flagAddr).run Tryz.prog w = .ok (.agg #[.pointer (some ⟨13, 116, none⟩), .pointer (some p), .int .u64 406]) w := by kernel_rfl
theorem Tryz.direct116 (w : World) : (Rtype.directlyAssignable 116 116).run Tryz.prog w = .ok true w := by kernel_rfl
theorem Tryz.isNil118 (a p : Addr) (W : World) (ha : W.cell? a = some (.pointer (some p))) :
    (ent Tryz.f74 #[.agg #[.pointer (some ⟨13, 118, none⟩), .pointer (some a), .int .u64 150]]).run Tryz.prog W = .ok (.bool false) W := by
  rw [Tryz.ent74]
  show (ReflectliteValue.parts (.agg #[.pointer (some ⟨13, 118, none⟩), .pointer (some a), .int .u64 150]) >>= _).run _ _ = _
  simp only [Sem.run_bind, Tryz.parts118, Result.andThen]
  simp [ReflectliteValue.isNil, loadVar, isAgg, underlying, Tryz.underlying118, ha, Result.andThen]
theorem Tryz.elemV118 (a p : Addr) (W : World) (ha : W.cell? a = some (.pointer (some p))) :
    (ent Tryz.f97 #[.agg #[.pointer (some ⟨13, 118, none⟩), .pointer (some a), .int .u64 150]]).run Tryz.prog W
      = .ok (.agg #[.pointer (some ⟨13, 116, none⟩), .pointer (some p), .int .u64 406]) W := by
  rw [Tryz.ent97]
  show (ReflectliteValue.parts (.agg #[.pointer (some ⟨13, 118, none⟩), .pointer (some a), .int .u64 150]) >>= _).run _ _ = _
  simp only [Sem.run_bind, Tryz.parts118, Result.andThen]
  simp [ReflectliteValue.elem, loadVar, isAgg, underlying, Tryz.underlying118, ha, Result.andThen, Tryz.elemOf118, Tryz.mk116]
theorem Tryz.set116 (ta b e : Addr) (old : Value) (W : World) (hb : W.cell? b = some (.pointer (some e))) (ht : W.cell? ta = some old) (hf : W.frozen? ta = false) :
    (ent Tryz.f98 #[.agg #[.pointer (some ⟨13, 116, none⟩), .pointer (some ta), .int .u64 406], .agg #[.pointer (some ⟨13, 116, none⟩), .pointer (some b), .int .u64 150]]).run Tryz.prog W
      = .ok (.tuple #[]) (W.setCell ta (.pointer (some e))) := by
  rw [Tryz.ent98]
  show (ReflectliteValue.parts (.agg #[.pointer (some ⟨13, 116, none⟩), .pointer (some ta), .int .u64 406]) >>= fun x => ReflectliteValue.parts (.agg #[.pointer (some ⟨13, 116, none⟩), .pointer (some b), .int .u64 150]) >>= _).run _ _ = _
  simp only [Sem.run_bind, Tryz.parts116a, Tryz.parts116, Result.andThen]
  simp [ReflectliteValue.flagAddr, loadVar, isAgg, underlying, Tryz.underlying116, hb, Result.andThen, Tryz.direct116, storeVar, Value.cells, storeCells, Addr.add]
  rw [run_store Tryz.prog W ta _ _ (by rfl)]
  simp [ht, hf]
end Go.Proofs.YtepnghacjggkkaaGreatDoor
