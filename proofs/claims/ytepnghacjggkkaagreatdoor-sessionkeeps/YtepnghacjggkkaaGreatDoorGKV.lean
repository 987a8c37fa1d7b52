/- A session reads: what it reads, or that the key is no name; A session writes an op, right or wrong: Set, Add, Put, Drop; What the one place tells: Read, Dots. -/
import Derived.Test.YtepnghacjggkkaaGreatDoorGKJ
import Derived.Test.YtepnghacjggkkaaGreatDoorGKF
import Derived.Test.YtepnghacjggkkaaGreatDoorGKO
import Derived.Deep.RegionHeld
import Derived.Deep.DeepCutAuto
import Derived.Deep.CutBlock
import Derived.Test.YtepnghacjggkkaaGreatDoorGYC
import Derived.Test.YtepnghacjggkkaaGreatDoorGLJ
import Derived.Test.YtepnghacjggkkaaGreatDoorGKT
import Derived.Test.YtepnghacjggkkaaGreatDoorGWMath2
namespace Go.Proofs.YtepnghacjggkkaaGreatDoor
open Go.RowKit Go.Sort Go.Maps
set_option maxRecDepth 100000
set_option linter.unusedSectionVars false
variable [Inhabited ComV] [DecidableEq D3] [Inhabited D3] [Inhabited Dd] [Inhabited Dn] [Inhabited OpV]

theorem checkName_no (A : Nat → Addr) (w : World) (hE : E4 A w) (key : ByteArray) (hk : nameB key = false) : Calls Tryz.prog 99 #[.string key] w fun e w' => e = .returned (.iface 276 (.pointer (some (A 3)))) ∧ w' = w := by
  have K := hid (isName_any w key)
  rw [hk] at K
  have hn := hE.name
  clear hE hk
  go_enter Tryz.func99, Tryz.ntmps99
  go_wp2_with (go_at_call 109; refine K.out.mono ?_; rintro e w' ⟨rfl, hw'⟩; rw [hw']; clear hw')
  go_ret
  exact ⟨rfl, rfl⟩
theorem checkAsked_no (A : Nat → Addr) (w : World) (hE : E4 A w) (pb : Nat) (key : ByteArray) (hk : nameB key = false) (va : Option Addr) (vn vc : Nat) : Calls Tryz.prog 78 #[.pointer (some ⟨pb, 0, none⟩), .string key, .slice va vn vc] w fun e w' => e = .returned (.iface 276 (.pointer (some (A 3)))) ∧ w' = w := by
  have K69 := hid (checkName_no A w hE key hk)
  clear hE hk
  go_enter Tryz.func78, Tryz.ntmps78
  go_wp2_with (go_at_call 99; refine K69.out.mono ?_; rintro e w' ⟨rfl, hw'⟩; rw [hw']; clear hw')
  go_ret
  exact ⟨rfl, rfl⟩
def RdN (A : Nat → Addr) (W : World) (e : Ending) (w' : World) : Prop := e = .returned (.tuple #[.agg #[.int .i64 0, .string ⟨#[]⟩, .int .i64 0, .slice none 0 0], .iface 276 (.pointer (some (A 3)))]) ∧ Below W.heap.size W w'
set_option maxHeartbeats 2000000 in
theorem readP_no (A : Nat → Addr) (w : World) (hE : E4 A w) (h12 : 12 ≤ w.heap.size) (pb : Nat) (key : ByteArray) (hk : nameB key = false) (va : Option Addr) (vn vc : Nat) :
    Calls Tryz.prog 52 #[.pointer (some ⟨pb, 0, none⟩), .string key, .slice va vn vc] w (RdN A w) := by
  obtain ⟨w1, hw1⟩ : ∃ w1, w1 = w.alloc (.cells #[.int .i64 0, .string ⟨#[]⟩, .int .i64 0, .slice none 0 0] 41) := ⟨_, rfl⟩
  have b1 : Below w.heap.size w w1 := by rw [hw1]; exact below_alloc _ _
  have g1 : w1.heap[w.heap.size]? = some (.cells #[.int .i64 0, .string ⟨#[]⟩, .int .i64 0, .slice none 0 0] 41 (0, 0)) := by rw [hw1]; exact heap_new _ _
  have K39 := hid (checkAsked_no A w1 (hE.below b1 h12) pb key hk va vn vc)
  have B1 := hid b1
  have G1 := hid g1
  clear hE hk b1 g1
  go_enter Tryz.func52, Tryz.ntmps52
  go_wp2_with fail
  rw [← hw1]
  clear hw1
  refine K39.out.mono ?_
  rintro e w2 ⟨rfl, hw2⟩
  rw [hw2]
  clear hw2
  have R4 := hid (row4 G1.out)
  have S4 := hid (set4 G1.out [.int .i64 0, .string ⟨#[]⟩, .int .i64 0, .slice none 0 0] rfl)
  clear K39
  go_wp2_with (refine wpList_store_k _ rfl (.tmp 6) (.tmp 15) 41 rfl w.heap.size 0 [.int .i64 0, .string ⟨#[]⟩, .int .i64 0, .slice none 0 0] rfl rfl 4 rfl Tryz.sizeOf41 rfl _ ?hW R4.out.1 R4.out.2 ?_; case hW => rfl)
  refine bodyPost_ret (ret_cell_tmp (k := 4) Tryz.results52 Tryz.isAgg41 Tryz.sizeOf41 _ _ w.heap.size [.int .i64 0, .string ⟨#[]⟩, .int .i64 0, .slice none 0 0] _ rfl rfl rfl S4.out) rfl ⟨rfl, below_setCells (Nat.le_refl _) _ _ B1.out⟩
set_option maxHeartbeats 8000000 in
theorem value_no (A : Nat → Addr) (w : World) (hE : E4 A w) (h12 : 12 ≤ w.heap.size) (xb pb : Nat) (aa : Option Addr) (an ac : Nat) (ov : Value) (key : ByteArray) (hk : nameB key = false) (h : TraBox w xb pb (.slice aa an ac) ov) : Calls Tryz.prog 33 #[.pointer (some ⟨xb, 0, none⟩), .string key] w (RdN A w) := by
  obtain ⟨w0, hw0⟩ : ∃ w0, w0 = w.alloc (.cells #[.int .i64 0, .string ⟨#[]⟩, .int .i64 0, .slice none 0 0] 41) := ⟨_, rfl⟩
  have b0 : Below w.heap.size w w0 := by rw [hw0]; exact below_alloc _ _
  have r0 : w0.heap[w.heap.size]? = some (.cells #[.int .i64 0, .string ⟨#[]⟩, .int .i64 0, .slice none 0 0] 41 (0, 0)) := by rw [hw0]; exact heap_new _ _
  have tb : TraBox w0 xb pb (.slice aa an ac) ov := (b0.block _ (lt_of_heap h)).trans h
  have t0' : w0.cell? ⟨xb, 0, none⟩ = some (.pointer (some ⟨pb, 0, none⟩)) := (cell_of tb).trans rfl
  have t1' : w0.cell? ⟨xb, 1, none⟩ = some (.slice aa an ac) := (cell_of tb).trans rfl
  have R0 := hid r0
  have B0 := hid b0
  have hx0 : xb < w0.heap.size := lt_of_heap tb
  have hxr : xb ≠ w0.heap.size := by omega
  have HK : Hid (∀ W, Below w0.heap.size w0 W → Calls Tryz.prog 52 #[.pointer (some ⟨pb, 0, none⟩), .string key, .slice aa an ac] W (RdN A W)) := (show ∀ W, _ → _ from fun W hW => readP_no A W ((hE.below b0 h12).below hW (Nat.le_trans h12 b0.size)) (Nat.le_trans h12 (Nat.le_trans b0.size hW.size)) pb key hk aa an ac)
  have hwr : w.heap.size < w0.heap.size := lt_of_heap r0
  have BD : Hid (Below w0.heap.size w0 w0.drew) := (show Below _ _ _ from (Below.refl w0.heap.size w0).drew)
  have BA : Hid (Below w0.heap.size w0 (w0.alloc (.cells #[.int .i64 0, .string ⟨#[]⟩, .int .i64 0, .slice none 0 0] 41)).drew) := (show Below _ _ _ from (below_alloc w0 _).drew)
  have HA0 : Hid (w0.heap.size < (w0.alloc (.cells #[.int .i64 0, .string ⟨#[]⟩, .int .i64 0, .slice none 0 0] 41)).drew.heap.size) := (show _ < _ from lt_of_heap (heap_new w0 _))
  have HA1 : Hid ((w0.alloc (.cells #[.int .i64 0, .string ⟨#[]⟩, .int .i64 0, .slice none 0 0] 41)).drew.heap[w0.heap.size]? = some (.cells #[.int .i64 0, .string ⟨#[]⟩, .int .i64 0, .slice none 0 0] 41 (0, 0))) := (show _ = _ from heap_new w0 _)
  clear h tb r0 b0 hE h12 hk
  go_enter Tryz.func33, Tryz.ntmps33
  go_upto_region 1 with (fail)
  rw [← hw0]
  clear hw0
  go_cut [6, 7] (fun vp er wx => ∃ (vb : Nat), vp = .pointer (some ⟨vb, 0, none⟩) ∧ er = .iface 276 (.pointer (some (A 3))) ∧ Hid (Below w0.heap.size w0 wx))
  case first =>
    go_region_held (fun u => u.cell? ⟨xb, 0, none⟩ = some (.pointer (some ⟨pb, 0, none⟩)) ∧ u.cell? ⟨xb, 1, none⟩ = some (.slice aa an ac)) (first | (refine ⟨?_, ?_⟩ <;> (with_reducible refine keep4 ?_ ?_ <;> with_reducible assumption)) | exact ⟨q0, q1⟩ | go_keep) (first | (go_at_call 52; (with_reducible refine (HK.out w0.drew ?hb).mono ?_); (case hb => exact BD.out); rintro e w6 ⟨rfl, hb6⟩; have hb6' : Below w0.heap.size w0 w6 := (BD.out).trans (hb6.mono (BD.out).size); have q0 := (hb6'.cell (p := ⟨xb, 0, none⟩) hx0).trans t0'; have q1 := (hb6'.cell (p := ⟨xb, 1, none⟩) hx0).trans t1'; have HB6 := hid hb6'; clear hb6 hb6') | (go_at_call 52; (with_reducible refine (HK.out (w0.alloc (.cells #[.int .i64 0, .string ⟨#[]⟩, .int .i64 0, .slice none 0 0] 41)).drew ?hb).mono ?_); (case hb => exact BA.out); rintro e w6 ⟨rfl, hb6⟩; have hb6' : Below w0.heap.size w0 w6 := (BA.out).trans (hb6.mono (BA.out).size); have q0 := (hb6'.cell (p := ⟨xb, 0, none⟩) hx0).trans t0'; have q1 := (hb6'.cell (p := ⟨xb, 1, none⟩) hx0).trans t1'; have hz6 : w6.heap[w0.heap.size]? = some (.cells #[.int .i64 0, .string ⟨#[]⟩, .int .i64 0, .slice none 0 0] 41 (0, 0)) := (hb6.block _ (HA0.out)).trans HA1.out; have z0 : w6.cell? ⟨w0.heap.size, 0, none⟩ = some (.int .i64 0) := (by simp only [World.cell?, hz6]; rfl); have z1 : w6.cell? ⟨w0.heap.size, 1, none⟩ = some (.string ⟨#[]⟩) := (by simp only [World.cell?, hz6]; rfl); have z2 : w6.cell? ⟨w0.heap.size, 2, none⟩ = some (.int .i64 0) := (by simp only [World.cell?, hz6]; rfl); have z3 : w6.cell? ⟨w0.heap.size, 3, none⟩ = some (.slice none 0 0) := (by simp only [World.cell?, hz6]; rfl); have zf : ∀ j, w6.frozen? ⟨w0.heap.size, j, none⟩ = false := (fun j => by simp only [World.frozen?, hz6]; simp); have HB6 := hid hb6'; clear hb6 hb6'))
    all_goals clear HK
    · go_wp2_with fail
      obtain ⟨wn, hwn⟩ : ∃ wn, wn = w6.alloc (.cells #[.int .i64 0, .string ⟨#[]⟩, .int .i64 0, .slice none 0 0] 41) := ⟨_, rfl⟩
      have F3 : Hid (Below w0.heap.size w0 wn) := (show Below _ _ _ from by rw [hwn]; exact HB6.out.alloc HB6.out.size _)
      rw [← hwn]
      clear hwn
      go_meet
      exact ⟨w6.heap.size, rfl, rfl, F3⟩
    · go_wp2_with fail
      obtain ⟨wn, hwn⟩ : ∃ wn, wn = ((((w6.setCell ⟨w0.heap.size, 0, none⟩ (.int .i64 0)).setCell ⟨w0.heap.size, 1, none⟩ (.string ⟨#[]⟩)).setCell ⟨w0.heap.size, 2, none⟩ (.int .i64 0)).setCell ⟨w0.heap.size, 3, none⟩ (.slice none 0 0)) := ⟨_, rfl⟩
      have F3 : Hid (Below w0.heap.size w0 wn) := (show Below _ _ _ from by rw [hwn]; exact (fill4 hz6 _ _ _ _).2 _ _ HB6.out (Nat.le_refl _))
      rw [← hwn]
      clear hwn
      go_meet
      exact ⟨w0.heap.size, rfl, rfl, F3⟩
  case rest =>
    obtain ⟨vb, rfl, rfl, HB⟩ := hcut
    have hr := (HB.out.block _ hwr).trans R0.out
    have R4 := hid (row4 hr)
    have S4 := hid (set4 hr [.int .i64 0, .string ⟨#[]⟩, .int .i64 0, .slice none 0 0] rfl)
    clear HK t0' t1' BD BA HA0 HA1 hr
    go_wp2_with (refine wpList_store_k _ rfl (.tmp 4) (.tmp 26) 41 rfl w.heap.size 0 [.int .i64 0, .string ⟨#[]⟩, .int .i64 0, .slice none 0 0] rfl rfl 4 rfl Tryz.sizeOf41 rfl _ ?hW R4.out.1 R4.out.2 ?_; case hW => rfl)
    exact bodyPost_ret (ret_cell_tmp (k := 4) Tryz.results33 Tryz.isAgg41 Tryz.sizeOf41 _ _ w.heap.size [.int .i64 0, .string ⟨#[]⟩, .int .i64 0, .slice none 0 0] _ rfl rfl rfl S4.out) rfl ⟨rfl, below_setCells (Nat.le_refl _) _ _ (B0.out.trans (HB.out.mono B0.out.size))⟩
set_option maxHeartbeats 4000000 in
theorem readS_yes (w : World) (sb xb : Nat) (tv : Value) (key : ByteArray) (x : ValV) (h : SesBox w sb tv (some ⟨xb, 0, none⟩)) (K33 : ∀ W, Below w.heap.size w W → Calls Tryz.prog 33 #[.pointer (some ⟨xb, 0, none⟩), .string key] W (RdK x W)) :
    Calls Tryz.prog 12 #[.pointer (some ⟨sb, 0, none⟩), .string key] w (RdK x w) := by
  obtain ⟨w0, hw0⟩ : ∃ w0, w0 = w.alloc (.cells #[.int .i64 0, .string ⟨#[]⟩, .int .i64 0, .slice none 0 0] 41) := ⟨_, rfl⟩
  have b0 : Below w.heap.size w w0 := by rw [hw0]; exact below_alloc _ _
  have r0 : w0.heap[w.heap.size]? = some (.cells #[.int .i64 0, .string ⟨#[]⟩, .int .i64 0, .slice none 0 0] 41 (0, 0)) := by rw [hw0]; exact heap_new _ _
  have s0 : SesBox w0 sb tv (some ⟨xb, 0, none⟩) := (b0.block _ (lt_of_heap h)).trans h
  have t1 : w0.cell? ⟨sb, 1, none⟩ = some (.pointer (some ⟨xb, 0, none⟩)) := (cell_of s0).trans rfl
  have K20 := hid (open_yes w0 sb tv _ s0)
  have K33' := hid (K33 w0 b0)
  have B0 := hid b0
  have R0 := hid r0
  clear h K33 b0 s0 r0
  go_enter Tryz.func12, Tryz.ntmps12
  go_upto_region 1 with (fail)
  rw [← hw0]
  clear hw0
  go_wp2_with (go_at_call 20; refine K20.out.mono ?_; rintro e w' ⟨rfl, hw'⟩; rw [hw']; clear hw')
  refine K33'.out.mono ?_
  rintro e wx ⟨v5, rfl, ⟨sv, rfl, hst⟩, hb5⟩
  obtain ⟨zp, zn, zm, hsv⟩ : ∃ zp zn zm, sv = .slice zp zn zm := by obtain ⟨zp, zm, q, _⟩ := hst; exact ⟨_, _, _, q⟩
  subst hsv
  have HST := hid hst
  obtain ⟨za, zb, zc, zs⟩ := x
  simp only at HST ⊢
  clear hst
  have hr5 : wx.heap[w.heap.size]? = some (.cells #[.int .i64 0, .string ⟨#[]⟩, .int .i64 0, .slice none 0 0] 41 (0, 0)) := (hb5.block _ (lt_of_heap R0.out)).trans R0.out
  have R5 := hid (row4 hr5)
  have S5 := hid (set4 hr5 [.int .i64 za, .string zb, .int .i64 zc, .slice zp zn zm] rfl)
  have B5 := hid (B0.out.trans (hb5.mono B0.out.size))
  have HR5 := hid hr5
  clear hb5 hr5 K20 K33'
  go_wp2_with (refine wpList_store_k _ rfl (.tmp 4) (.tmp 17) 41 rfl w.heap.size 0 [.int .i64 za, .string zb, .int .i64 zc, .slice zp zn zm] rfl rfl 4 rfl Tryz.sizeOf41 rfl _ ?hW R5.out.1 R5.out.2 ?_; case hW => rfl)
  exact bodyPost_ret (ret_cell_tmp (k := 4) Tryz.results12 Tryz.isAgg41 Tryz.sizeOf41 _ _ w.heap.size [.int .i64 za, .string zb, .int .i64 zc, .slice zp zn zm] _ rfl rfl rfl S5.out) rfl ⟨_, rfl, ⟨_, rfl, strs_keep HST.out fun q hq t => World.cell?_setCells_out _ _ _ _ _ (fun e _ => absurd e (fun e => by
    obtain ⟨y, hy⟩ := hq
    have e' : q = w.heap.size := e
    rw [e', cell_of HR5.out] at hy
    cases hy))⟩, below_setCells (Nat.le_refl _) _ _ B5.out⟩
set_option maxHeartbeats 4000000 in
theorem readS_no (A : Nat → Addr) (w : World) (sb xb : Nat) (tv : Value) (key : ByteArray) (h : SesBox w sb tv (some ⟨xb, 0, none⟩)) (K33 : ∀ W, Below w.heap.size w W → Calls Tryz.prog 33 #[.pointer (some ⟨xb, 0, none⟩), .string key] W (RdN A W)) :
    Calls Tryz.prog 12 #[.pointer (some ⟨sb, 0, none⟩), .string key] w (RdN A w) := by
  obtain ⟨w0, hw0⟩ : ∃ w0, w0 = w.alloc (.cells #[.int .i64 0, .string ⟨#[]⟩, .int .i64 0, .slice none 0 0] 41) := ⟨_, rfl⟩
  have b0 : Below w.heap.size w w0 := by rw [hw0]; exact below_alloc _ _
  have r0 : w0.heap[w.heap.size]? = some (.cells #[.int .i64 0, .string ⟨#[]⟩, .int .i64 0, .slice none 0 0] 41 (0, 0)) := by rw [hw0]; exact heap_new _ _
  have s0 : SesBox w0 sb tv (some ⟨xb, 0, none⟩) := (b0.block _ (lt_of_heap h)).trans h
  have t1 : w0.cell? ⟨sb, 1, none⟩ = some (.pointer (some ⟨xb, 0, none⟩)) := (cell_of s0).trans rfl
  have K20 := hid (open_yes w0 sb tv _ s0)
  have K33' := hid (K33 w0 b0)
  have B0 := hid b0
  have R0 := hid r0
  clear h K33 b0 s0 r0
  go_enter Tryz.func12, Tryz.ntmps12
  go_upto_region 1 with (fail)
  rw [← hw0]
  clear hw0
  go_wp2_with (go_at_call 20; refine K20.out.mono ?_; rintro e w' ⟨rfl, hw'⟩; rw [hw']; clear hw')
  refine K33'.out.mono ?_
  rintro e wx ⟨rfl, hb5⟩
  have hr5 : wx.heap[w.heap.size]? = some (.cells #[.int .i64 0, .string ⟨#[]⟩, .int .i64 0, .slice none 0 0] 41 (0, 0)) := (hb5.block _ (lt_of_heap R0.out)).trans R0.out
  have R5 := hid (row4 hr5)
  have S5 := hid (set4 hr5 [.int .i64 0, .string ⟨#[]⟩, .int .i64 0, .slice none 0 0] rfl)
  have B5 := hid (B0.out.trans (hb5.mono B0.out.size))
  clear hb5 hr5 K20 K33'
  go_wp2_with (refine wpList_store_k _ rfl (.tmp 4) (.tmp 17) 41 rfl w.heap.size 0 [.int .i64 0, .string ⟨#[]⟩, .int .i64 0, .slice none 0 0] rfl rfl 4 rfl Tryz.sizeOf41 rfl _ ?hW R5.out.1 R5.out.2 ?_; case hW => rfl)
  exact bodyPost_ret (ret_cell_tmp (k := 4) Tryz.results12 Tryz.isAgg41 Tryz.sizeOf41 _ _ w.heap.size [.int .i64 0, .string ⟨#[]⟩, .int .i64 0, .slice none 0 0] _ rfl rfl rfl S5.out) rfl ⟨rfl, below_setCells (Nat.le_refl _) _ _ B5.out⟩
end Go.Proofs.YtepnghacjggkkaaGreatDoor
namespace Go.Proofs.YtepnghacjggkkaaGreatDoor
open Go.RowKit Go.Sort Go.Maps
set_option maxRecDepth 100000
set_option linter.unusedSectionVars false
variable [Inhabited ComV] [DecidableEq D3] [Inhabited D3] [Inhabited Dd] [Inhabited Dn] [Inhabited OpV]

set_option maxHeartbeats 8000000 in
theorem write_any (A : Nat → Addr) (B : Nat) (w : World) (hE : E4 A w) (h12 : 12 ≤ w.heap.size) (fv : Value) (hF : w.cell? ⟨9, 0, none⟩ = some fv) (C : List ComV) (hC : KpC C) (hCl : C.length ≤ 100) (sb xb pb : Nat) (tv : Value) (aa : Option Addr) (ac : Nat) (ov : Value) (os : List OpV) (y2 : ByteArray) (y3 : Int) (y4 : ByteArray) (y5 : Int) (y6 : Bool) (hs : SesBox w sb tv (some ⟨xb, 0, none⟩)) (h : TraBox w xb pb (.slice aa 1 ac) ov) (hxB : B ≤ xb) (hO : OpsO B w xb ov os) (hok : OwnOk C os) (hl : os.length ≤ 12) (ht : y4.size ≤ 1000000)
    (K86 : nameB y2 = true → ∀ W, Below w.heap.size w W → Calls Tryz.prog 86 #[.pointer (some ⟨pb, 0, none⟩), .string y2, .string y4, .slice aa 1 ac] W (DotsB y4 (opsK C y2) W)) :
    Calls Tryz.prog 34 #[.pointer (some ⟨sb, 0, none⟩), .agg #[.int .i64 0, .string y2, .int .i64 y3, .string y4, .int .i64 y5, .bool y6, .slice none 0 0]] w (MrRet C B w xb pb (.slice aa 1 ac) ov) := by
  obtain ⟨w0, hw0⟩ : ∃ w0, w0 = w.alloc (.cells #[.int .i64 0, .string y2, .int .i64 y3, .string y4, .int .i64 y5, .bool y6, .slice none 0 0] 97) := ⟨_, rfl⟩
  have b0 : Below w.heap.size w w0 := by rw [hw0]; exact below_alloc _ _
  have tb : TraBox w0 xb pb (.slice aa 1 ac) ov := (b0.block _ (lt_of_heap h)).trans h
  have s0 : SesBox w0 sb tv (some ⟨xb, 0, none⟩) := (b0.block _ (lt_of_heap hs)).trans hs
  have ob0 : w0.heap[w.heap.size]? = some (.cells #[.int .i64 0, .string y2, .int .i64 y3, .string y4, .int .i64 y5, .bool y6, .slice none 0 0] 97 (0, 0)) := by rw [hw0]; exact heap_new _ _
  have K20 := hid (open_yes w0 sb tv _ s0)
  have K57 := hid (more_any A B w0.drew (hE.below b0.drew h12) (Nat.le_trans h12 b0.size) fv ((b0.cell (p := ⟨9, 0, none⟩) (lt_of_cell hF)).trans hF) C hC hCl xb pb aa ac ov os y2 y3 y4 y5 y6 tb hxB (hO.below b0.drew) hok hl ht (fun hn W hW => K86 hn W (b0.drew.trans (hW.mono b0.size))))
  have t1 : w0.cell? ⟨sb, 1, none⟩ = some (.pointer (some ⟨xb, 0, none⟩)) := (cell_of s0).trans rfl
  have o0 : w0.cell? ⟨w.heap.size, 0, none⟩ = some (.int .i64 0) := (cell_of ob0).trans rfl
  have o1 : w0.cell? ⟨w.heap.size, 1, none⟩ = some (.string y2) := (cell_of ob0).trans rfl
  have o2 : w0.cell? ⟨w.heap.size, 2, none⟩ = some (.int .i64 y3) := (cell_of ob0).trans rfl
  have o3 : w0.cell? ⟨w.heap.size, 3, none⟩ = some (.string y4) := (cell_of ob0).trans rfl
  have o4 : w0.cell? ⟨w.heap.size, 4, none⟩ = some (.int .i64 y5) := (cell_of ob0).trans rfl
  have o5 : w0.cell? ⟨w.heap.size, 5, none⟩ = some (.bool y6) := (cell_of ob0).trans rfl
  have o6 : w0.cell? ⟨w.heap.size, 6, none⟩ = some (.slice none 0 0) := (cell_of ob0).trans rfl
  have B0 := hid b0
  have hsx : sb ≠ xb := cell_ne hs h (by decide)
  have hwl : w.heap.size < w0.heap.size := lt_of_heap ob0
  have hxw : xb < w.heap.size := lt_of_heap h
  have hBw : B ≤ w.heap.size := by omega
  have hvs : ov.ownBlock ≠ some sb := fun e => by
    obtain ⟨xs, h1, _⟩ := hO.row
    obtain ⟨c1, q1⟩ := own_type h1 e
    have hs' : w.heap[sb]? = some (.cells #[tv, .pointer (some ⟨xb, 0, none⟩)] 60 (0, 0)) := hs
    rw [hs'] at q1
    injection q1 with q1
    injection q1 with _ q1
    exact absurd q1 (by decide)
  have hvb : ov.ownBlock ≠ some w.heap.size := fun e => by
    obtain ⟨xs, h1, _⟩ := hO.row
    have := (h1.lt _ e).2
    omega
  clear hs h tb s0 ob0 b0 hE h12 hF K86 hO hok hC
  go_enter Tryz.func34, Tryz.ntmps34
  go_upto_region 1 with (fail)
  rw [← hw0]
  clear hw0
  go_upto_region 3 with (go_at_call 20; refine K20.out.mono ?_; rintro e w' ⟨rfl, hw'⟩; rw [hw']; clear hw')
  go_region_held (fun u => u.cell? ⟨sb, 1, none⟩ = some (.pointer (some ⟨xb, 0, none⟩)) ∧ u.cell? ⟨w.heap.size, 0, none⟩ = some (.int .i64 0) ∧ u.cell? ⟨w.heap.size, 1, none⟩ = some (.string y2) ∧ u.cell? ⟨w.heap.size, 2, none⟩ = some (.int .i64 y3) ∧ u.cell? ⟨w.heap.size, 3, none⟩ = some (.string y4) ∧ u.cell? ⟨w.heap.size, 4, none⟩ = some (.int .i64 y5) ∧ u.cell? ⟨w.heap.size, 5, none⟩ = some (.bool y6) ∧ u.cell? ⟨w.heap.size, 6, none⟩ = some (.slice none 0 0)) (first | go_keep | exact ⟨t1, o0, o1, o2, o3, o4, o5, o6⟩ | exact ⟨t1', p0, p1, p2, p3, p4, p5, p6⟩) ((go_at_call 57; refine K57.out.mono ?_; rintro e w5 ⟨rv, ov5, os5, rfl, hT5, hO5, hk5, hl5, hb5, hq5, hst5⟩; have c5 : ∀ (b j : Nat) (v : Value), b ≠ xb → ov.ownBlock ≠ some b → w0.cell? ⟨b, j, none⟩ = some v → w5.cell? ⟨b, j, none⟩ = some v := (fun b j v hne hno hc => (World.cell?_of_block (a := ⟨b, j, none⟩) (hst5 b (lt_of_cell hc) hne hno)).trans hc); have t1' := c5 _ _ _ hsx hvs t1; have p0 := c5 _ _ _ (by omega) hvb o0; have p1 := c5 _ _ _ (by omega) hvb o1; have p2 := c5 _ _ _ (by omega) hvb o2; have p3 := c5 _ _ _ (by omega) hvb o3; have p4 := c5 _ _ _ (by omega) hvb o4; have p5 := c5 _ _ _ (by omega) hvb o5; have p6 := c5 _ _ _ (by omega) hvb o6; have F5 : Hid (MrRet C B w xb pb (.slice aa 1 ac) ov (.returned rv) w5) := (show MrRet _ _ _ _ _ _ _ _ _ from ⟨⟨rv, ov5, os5, rfl, hT5, hO5, hk5, hl5, (B0.out.mono hBw).drew.trans hb5, (Other.of B0.out.drew).trans hq5, fun b q1 q2 q3 => (hst5 b (Nat.lt_trans q1 hwl) q2 q3).trans (B0.out.block b q1)⟩⟩); clear hT5 hO5 hk5 hl5 hb5 hq5 hst5 c5))
  go_wp2
  go_ret
  exact F5.out
set_option maxHeartbeats 2000000 in
theorem set_any (A : Nat → Addr) (B : Nat) (w : World) (hE : E4 A w) (h12 : 12 ≤ w.heap.size) (fv : Value) (hF : w.cell? ⟨9, 0, none⟩ = some fv) (C : List ComV) (hC : KpC C) (hCl : C.length ≤ 100) (sb xb pb : Nat) (tv : Value) (aa : Option Addr) (ac : Nat) (ov : Value) (os : List OpV) (key text : ByteArray) (hs : SesBox w sb tv (some ⟨xb, 0, none⟩)) (h : TraBox w xb pb (.slice aa 1 ac) ov) (hxB : B ≤ xb) (hO : OpsO B w xb ov os) (hok : OwnOk C os) (hl : os.length ≤ 12) (ht : text.size ≤ 1000000)
    (K86 : nameB key = true → ∀ text W, Below w.heap.size w W → Calls Tryz.prog 86 #[.pointer (some ⟨pb, 0, none⟩), .string key, .string text, .slice aa 1 ac] W (DotsB text (opsK C key) W)) :
    Calls Tryz.prog 15 #[.pointer (some ⟨sb, 0, none⟩), .string key, .string text] w (MrRet C B w xb pb (.slice aa 1 ac) ov) := by
  have K34 := hid (write_any A B w hE h12 fv hF C hC hCl sb xb pb tv aa ac ov os key 1 text 0 false hs h hxB hO hok hl ht (fun hn W hW => K86 hn _ W hW))
  clear hE h12 hF hC hs h hO hok hl K86
  go_enter Tryz.func15, Tryz.ntmps15
  go_wp2_with (fail)
  refine K34.out.mono ?_
  rintro e w5 ⟨rv, ov5, os5, rfl, F5⟩
  have F := hid F5
  clear F5 K34
  go_wp2
  go_ret
  exact ⟨⟨rv, ov5, os5, rfl, F.out⟩⟩
set_option maxHeartbeats 2000000 in
theorem add_any (A : Nat → Addr) (B : Nat) (w : World) (hE : E4 A w) (h12 : 12 ≤ w.heap.size) (fv : Value) (hF : w.cell? ⟨9, 0, none⟩ = some fv) (C : List ComV) (hC : KpC C) (hCl : C.length ≤ 100) (sb xb pb : Nat) (tv : Value) (aa : Option Addr) (ac : Nat) (ov : Value) (os : List OpV) (key : ByteArray) (x : Int) (hs : SesBox w sb tv (some ⟨xb, 0, none⟩)) (h : TraBox w xb pb (.slice aa 1 ac) ov) (hxB : B ≤ xb) (hO : OpsO B w xb ov os) (hok : OwnOk C os) (hl : os.length ≤ 12)
    (K86 : nameB key = true → ∀ text W, Below w.heap.size w W → Calls Tryz.prog 86 #[.pointer (some ⟨pb, 0, none⟩), .string key, .string text, .slice aa 1 ac] W (DotsB text (opsK C key) W)) :
    Calls Tryz.prog 13 #[.pointer (some ⟨sb, 0, none⟩), .string key, .int .i64 x] w (MrRet C B w xb pb (.slice aa 1 ac) ov) := by
  have K34 := hid (write_any A B w hE h12 fv hF C hC hCl sb xb pb tv aa ac ov os key 2 ⟨#[]⟩ x false hs h hxB hO hok hl (by decide) (fun hn W hW => K86 hn _ W hW))
  clear hE h12 hF hC hs h hO hok hl K86
  go_enter Tryz.func13, Tryz.ntmps13
  go_wp2_with (fail)
  refine K34.out.mono ?_
  rintro e w5 ⟨rv, ov5, os5, rfl, F5⟩
  have F := hid F5
  clear F5 K34
  go_wp2
  go_ret
  exact ⟨⟨rv, ov5, os5, rfl, F.out⟩⟩
set_option maxHeartbeats 2000000 in
theorem put_any (A : Nat → Addr) (B : Nat) (w : World) (hE : E4 A w) (h12 : 12 ≤ w.heap.size) (fv : Value) (hF : w.cell? ⟨9, 0, none⟩ = some fv) (C : List ComV) (hC : KpC C) (hCl : C.length ≤ 100) (sb xb pb : Nat) (tv : Value) (aa : Option Addr) (ac : Nat) (ov : Value) (os : List OpV) (key text : ByteArray) (hs : SesBox w sb tv (some ⟨xb, 0, none⟩)) (h : TraBox w xb pb (.slice aa 1 ac) ov) (hxB : B ≤ xb) (hO : OpsO B w xb ov os) (hok : OwnOk C os) (hl : os.length ≤ 12) (ht : text.size ≤ 1000000)
    (K86 : nameB key = true → ∀ text W, Below w.heap.size w W → Calls Tryz.prog 86 #[.pointer (some ⟨pb, 0, none⟩), .string key, .string text, .slice aa 1 ac] W (DotsB text (opsK C key) W)) :
    Calls Tryz.prog 16 #[.pointer (some ⟨sb, 0, none⟩), .string key, .string text] w (MrRet C B w xb pb (.slice aa 1 ac) ov) := by
  have K34 := hid (write_any A B w hE h12 fv hF C hC hCl sb xb pb tv aa ac ov os key 3 text 0 false hs h hxB hO hok hl ht (fun hn W hW => K86 hn _ W hW))
  clear hE h12 hF hC hs h hO hok hl K86
  go_enter Tryz.func16, Tryz.ntmps16
  go_wp2_with (fail)
  refine K34.out.mono ?_
  rintro e w5 ⟨rv, ov5, os5, rfl, F5⟩
  have F := hid F5
  clear F5 K34
  go_wp2
  go_ret
  exact ⟨⟨rv, ov5, os5, rfl, F.out⟩⟩
set_option maxHeartbeats 2000000 in
theorem drop_any (A : Nat → Addr) (B : Nat) (w : World) (hE : E4 A w) (h12 : 12 ≤ w.heap.size) (fv : Value) (hF : w.cell? ⟨9, 0, none⟩ = some fv) (C : List ComV) (hC : KpC C) (hCl : C.length ≤ 100) (sb xb pb : Nat) (tv : Value) (aa : Option Addr) (ac : Nat) (ov : Value) (os : List OpV) (key text : ByteArray) (hs : SesBox w sb tv (some ⟨xb, 0, none⟩)) (h : TraBox w xb pb (.slice aa 1 ac) ov) (hxB : B ≤ xb) (hO : OpsO B w xb ov os) (hok : OwnOk C os) (hl : os.length ≤ 12) (ht : text.size ≤ 1000000)
    (K86 : nameB key = true → ∀ text W, Below w.heap.size w W → Calls Tryz.prog 86 #[.pointer (some ⟨pb, 0, none⟩), .string key, .string text, .slice aa 1 ac] W (DotsB text (opsK C key) W)) :
    Calls Tryz.prog 17 #[.pointer (some ⟨sb, 0, none⟩), .string key, .string text] w (MrRet C B w xb pb (.slice aa 1 ac) ov) := by
  have K34 := hid (write_any A B w hE h12 fv hF C hC hCl sb xb pb tv aa ac ov os key 3 text 0 true hs h hxB hO hok hl ht (fun hn W hW => K86 hn _ W hW))
  clear hE h12 hF hC hs h hO hok hl K86
  go_enter Tryz.func17, Tryz.ntmps17
  go_wp2_with (fail)
  refine K34.out.mono ?_
  rintro e w5 ⟨rv, ov5, os5, rfl, F5⟩
  have F := hid F5
  clear F5 K34
  go_wp2
  go_ret
  exact ⟨⟨rv, ov5, os5, rfl, F.out⟩⟩
end Go.Proofs.YtepnghacjggkkaaGreatDoor
namespace Go.Proofs.YtepnghacjggkkaaGreatDoor
open Go.RowKit Go.Maps
set_option maxRecDepth 100000
set_option linter.unusedSectionVars false
variable [Inhabited ComV] [DecidableEq D3] [Inhabited D3] [Inhabited Dd] [Inhabited Dn] [Inhabited OpV]

theorem KpC.small {C : List ComV} (h : KpC C) : ∀ c ∈ C, SmallC c := fun c hc => by
  have hw : c.when_.length = 1 := h.kept.len c hc
  have hf := (h.ok c hc).few
  refine ⟨by omega, by omega, fun o ho => ?_⟩
  obtain ⟨j, hj, rfl⟩ := List.getElem_of_mem ho
  have := opErr_of_bad ((h.ok c hc).ops j hj)
  rw [hw, getElem!_pos c.ops j hj] at this
  have := opErr_light this
  exact ⟨by omega, by omega⟩
theorem KpI.le {B : Nat} {w : World} {h : PlH} {v : PlV} {C : List ComV} (i : KpI B w h v C) : ∀ c ∈ C, leB c.when_ [(C.length : Int)] = true := fun c hc => by
  obtain ⟨j, hj⟩ := List.getElem?_of_mem hc
  have hl := (List.getElem?_eq_some_iff.1 hj).1
  rw [i.kp.when_ j c hj]
  simp [leB]
  omega
theorem KpI.ok {B : Nat} {w : World} {h : PlH} {v : PlV} {C : List ComV} (i : KpI B w h v C) : StOk v.st v.n := by
  rw [i.st, i.n]
  exact stOf_ok i.kp.kept (by decide) (by decide) i.kp.small
theorem KpI.base {B : Nat} {w : World} {h : PlH} {v : PlV} {C : List ComV} (i : KpI B w h v C) : leB v.st.base [(C.length : Int)] = true := by
  rw [i.st]
  simp [leB, stOf]
theorem readP_K (A : Nat → Addr) (B : Nat) (w : World) (hE : E4 A w) (h12 : 12 ≤ w.heap.size) (h : PlH) (v : PlV) (C : List ComV) (i : KpI B w h v C) (hl : C.length ≤ 50) (key : ByteArray) (hk : nameB key = true) (aa : Option Addr) (ac : Nat) (hI : IntsAt w (.slice aa 1 ac) [(C.length : Int)]) :
    Calls Tryz.prog 52 #[.pointer (some ⟨h.pb, 0, none⟩), .string key, .slice aa 1 ac] w (RdK (valA (opsK C key)) w) := by
  have t2 := two_self (n := C.length) (by omega)
  refine (read_any A w hE h12 h v i.at_ key hk aa 1 ac _ hI (by rw [i.snap]; exact t2.1) (by rw [i.snap]; exact t2.2.1) i.ok i.base (by rw [i.st]; exact rowOf_few i.kp.kept (by omega) key)).mono ?_
  rintro e w' ⟨x, ds, rfl, hi, hx, hb⟩
  rw [i.st] at hi
  rw [i.kp.isOps i.le hi] at hx
  exact ⟨x, rfl, hx, hb⟩
theorem flatK_len : ∀ {C : List ComV}, (∀ c ∈ C, c.ops.length ≤ 12) → (flatA C).length ≤ 12 * C.length
  | [], _ => by simp [flatA]
  | c :: C, h => by
    have h1 := flatK_len (C := C) fun x hx => h x (by simp [hx])
    have h2 := h c (by simp)
    show (c.ops.map (dnOf c) ++ flatA C).length ≤ _
    rw [List.length_append, List.length_map, List.length_cons]
    omega
theorem opsK_len {C : List ComV} (h : KpC C) (key : ByteArray) : (opsK C key).length ≤ 12 * C.length := by
  have h1 : (opsK C key).length ≤ (flatA C).length := Nat.le_trans (List.length_filter_le _ _) (List.length_filter_le _ _)
  exact Nat.le_trans h1 (flatK_len fun c hc => (h.ok c hc).few)
theorem dotsP_K (A : Nat → Addr) (B : Nat) (w : World) (hE : E4 A w) (h12 : 12 ≤ w.heap.size) (h : PlH) (v : PlV) (C : List ComV) (i : KpI B w h v C) (hl : C.length ≤ 5) (key text : ByteArray) (hk : nameB key = true) (aa : Option Addr) (ac : Nat) (hI : IntsAt w (.slice aa 1 ac) [(C.length : Int)]) :
    Calls Tryz.prog 86 #[.pointer (some ⟨h.pb, 0, none⟩), .string key, .string text, .slice aa 1 ac] w (DotsB text (opsK C key) w) := by
  have t2 := two_self (n := C.length) (by omega)
  refine (dotsP_any A w hE h12 h v i.at_ key text hk aa 1 ac _ hI (by rw [i.snap]; exact t2.1) (by rw [i.snap]; exact t2.2.1) i.ok i.base (by rw [i.st]; exact rowOf_few i.kp.kept (by omega) key)).mono ?_
  rintro e w' ⟨x, ds, out, rfl, hi, hd, hx, hb, hf⟩
  rw [i.st] at hi
  rw [i.kp.isOps i.le hi] at hd
  have hsub : ∀ d ∈ out, ∃ y ∈ flatA C, y.dot = d := fun d hdo => by
    rcases hd with ⟨_, e⟩ | ⟨_, hp, _⟩
    · rw [e] at hdo; simp at hdo
    · obtain ⟨y, hy, e⟩ := List.mem_map.1 (hp.mem_iff.1 hdo)
      exact ⟨y, standK_mem (List.mem_filter.1 hy).1, e⟩
  refine ⟨x, out, rfl, hd, fun d hdo => ?_, ?_, hx, hb, hf⟩
  · obtain ⟨y, hy, rfl⟩ := hsub d hdo
    have := i.kp.dotOk (by omega) hy
    simp only [dotB, Bool.and_eq_true, decide_eq_true_eq] at this
    exact ⟨wf_i64 this.1 (by omega), wf_i64 (by omega) this.2.2.2.1, wf_i64 this.2.2.2.2.1 (by omega)⟩
  · rcases hd with ⟨_, e⟩ | ⟨_, hp, _⟩
    · rw [e]; simp
    · rw [hp.length_eq]
      unfold dotsUp standA
      rw [List.length_map]
      have h1 := List.length_filter_le (fun x : Dn => decide (x.o.text = text)) ((opsK C key).filter fun x => (finalMap (opsK C key) x.dot).isSome)
      have h2 := List.length_filter_le (fun x : Dn => (finalMap (opsK C key) x.dot).isSome) (opsK C key)
      have h3 := opsK_len i.kp key
      omega
theorem opsK_kind {C : List ComV} (h : KpC C) (key : ByteArray) (h0 : opsK C key ≠ []) : (opsK C key)[0]!.o.kind = 1 ∨ (opsK C key)[0]!.o.kind = 2 ∨ (opsK C key)[0]!.o.kind = 3 := by
  have hp := List.length_pos_iff.2 h0
  rw [getElem!_pos _ 0 hp]
  have hm : (opsK C key)[0] ∈ flatA C := (List.mem_filter.1 (ofKind_mem (List.getElem_mem hp)).1).1
  obtain ⟨c, hc, hd⟩ := flat_mem.1 hm
  obtain ⟨o, ho, e⟩ := List.mem_map.1 hd
  obtain ⟨j, hj, rfl⟩ := List.getElem_of_mem ho
  have := opErr_of_bad ((h.ok c hc).ops j hj)
  rw [h.kept.len c hc, getElem!_pos c.ops j hj] at this
  rw [← e]
  exact op_kind this
theorem opsK_n {C : List ComV} (h : KpC C) (hl : C.length ≤ 50) (key : ByteArray) : -(1099511627776 * 1000) ≤ (valA (opsK C key)).n ∧ (valA (opsK C key)).n ≤ 1099511627776 * 1000 := by
  have hb : ∀ d ∈ opsK C key, -1099511627776 ≤ d.o.n ∧ d.o.n ≤ 1099511627776 := fun d hd => by
    have hm : d ∈ flatA C := (List.mem_filter.1 (ofKind_mem hd).1).1
    obtain ⟨c, hc, hd⟩ := flat_mem.1 hm
    obtain ⟨o, ho, rfl⟩ := List.mem_map.1 hd
    obtain ⟨j, hj, rfl⟩ := List.getElem_of_mem ho
    have := opErr_of_bad ((h.ok c hc).ops j hj)
    rw [h.kept.len c hc, getElem!_pos c.ops j hj] at this
    exact ⟨(opOk this).2.1, (opOk this).2.2.1⟩
  have hsum : ∀ ds : List Dn, (∀ d ∈ ds, -1099511627776 ≤ d.o.n ∧ d.o.n ≤ 1099511627776) → -(1099511627776 * (ds.length : Int)) ≤ sumN ds ∧ sumN ds ≤ 1099511627776 * (ds.length : Int) := fun ds => by
    induction ds with
    | nil => intro _; simp [sumN]
    | cons d ds ih =>
      intro hd
      have h1 := ih fun x hx => hd x (by simp [hx])
      have h2 := hd d (by simp)
      have e : sumN (d :: ds) = d.o.n + sumN ds := by
        show List.foldl _ (0 + d.o.n) ds = _
        rw [sum_shift]
        omega
      rw [e, List.length_cons]
      omega
  have h1 := hsum _ hb
  have h2 := opsK_len h key
  unfold valA
  split
  · simp
  · split
    · simp
    · split
      · show _ ≤ sumN _ ∧ sumN _ ≤ _
        omega
      · simp
theorem opsK_set {C : List ComV} (h : KpC C) (hl : C.length ≤ 50) (key : ByteArray) : (valA (opsK C key)).set.length ≤ 100000 := by
  have h2 := opsK_len h key
  unfold valA
  split
  · simp
  · split
    · simp
    · split
      · simp
      · show (setA _).length ≤ _
        have h3 : (setA ((standA (opsK C key)).map (·.o.text))).length ≤ ((standA (opsK C key)).map (·.o.text)).length := by
          unfold setA
          refine Nat.le_trans (compact_le _) ?_
          rw [List.length_mergeSort]
          simp
        have h4 : (standA (opsK C key)).length ≤ (opsK C key).length := List.length_filter_le _ _
        rw [List.length_map] at h3
        omega
theorem own_nil (ds : List Dn) (x : ValV) : ownVal ds x [] = x := by
  unfold ownVal ownOf ownKind
  obtain ⟨k, t, n, s⟩ := x
  by_cases h : k = 0
  · subst h; rfl
  · simp [h]
end Go.Proofs.YtepnghacjggkkaaGreatDoor
