/- send, of one op, to the one line; A commit's rows, typed; Shard, the reference's ShardOf, Clock. -/
import Derived.Test.YtefpnojanldkeaaDoorJPK
import Derived.Deep.DeepCutAuto
import Derived.Deep.CutBlock
namespace Go.Proofs.YtefpnojanldkeaaDoor
open Go.RowKit Go.Maps
set_option maxRecDepth 100000
set_option linter.unusedSectionVars false
variable [Inhabited ComV] [DecidableEq D3] [Inhabited D3] [Inhabited Dn] [Inhabited OpV]

theorem set_other {w : World} {g k b j : Nat} {v u : Value} (h : w.cell? ⟨b, j, none⟩ = some u) (hn : b ≠ g) : (w.setCell ⟨g, k, none⟩ v).cell? ⟨b, j, none⟩ = some u := (World.cell?_of_block (Below.heap_setCell _ _ _ _ hn)).trans h
/-- Behind the parts: the variable's box, the parts' row, the part's op. -/
structure SdI (w wx : World) (vb pr : Nat) (a3 a5 a6 : Option Addr) (c3 c5 c6 : Nat) : Prop where
  box : wx.heap[vb]? = some (.cells #[.slice (some ⟨pr, 0, none⟩) 1 1] 104 (0, 0))
  parts : wx.heap[pr]? = some (.cells #[.slice a3 2 c3, .int .i64 0, .slice a6 1 c6] 37 (0, 0))
  row : wx.ownsRow 0 43 7 (.slice a6 1 c6) 1 [.int .i64 0, .string ⟨#[107]⟩, .int .i64 2, .string ⟨#[]⟩, .int .i64 5, .bool false, .slice a5 0 c5]
  below : Below w.heap.size w wx
set_option maxHeartbeats 4000000 in
theorem send_one (A : Nat → Addr) (B : Nat) (w : World) (hS : Sents A B w) {pb p lb b g gr gm : Nat} {ck : Int} (h : PlA w pb p lb b g gr gm ck) (a3 a4 : Option Addr) (c3 c4 : Nat) (ho : ComOwn 0 w (.slice a3 2 c3) (.slice a4 1 c4) comK) :
    Calls Tryd.prog 23 #[.pointer (some ⟨pb, 0, none⟩), .agg #[.slice a3 2 c3, .int .i64 0, .slice a4 1 c4]] w fun e w' => ∃ (v : Value) (r : Raw), e = .returned v ∧ w'.ownsRow w.heap.size 45 9 v 1 r.cells ∧ r.x2 = 1 ∧ OnlyG g w w' := by
  obtain ⟨hwh, rows, hro, hrf⟩ := ho
  obtain ⟨b4, cs4, hb4e, _, h4, ht4, hz4⟩ := owns_cells hro (by decide)
  subst hb4e
  obtain ⟨r0, hr0⟩ : ∃ r0, rows = [r0] := by
    match rows, hrf with
    | [r], _ => exact ⟨r, rfl⟩
  subst hr0
  obtain ⟨⟨dv, hdv, hdo⟩, _⟩ := hrf
  obtain ⟨a5, c5, hd5⟩ := row_shape hdo
  subst hd5 hdv
  have hc : ∀ (j : Nat) (u : Value), ([.int .i64 0, .string ⟨#[107]⟩, .int .i64 2, .string ⟨#[]⟩, .int .i64 5, .bool false, .slice a5 0 c5] : List Value)[j]? = some u → cs4[j]? = some u := fun j u hj => by
    have hlt : j < 7 := (List.getElem?_eq_some_iff.1 hj).1
    have e : (cs4.toList.take (1 * 7))[j]? = some u := by rw [ht4]; exact hj
    rw [List.getElem?_take, if_pos (by omega), Array.getElem?_toList] at e
    exact e
  have HWH := hid hwh
  have HDO := hid hdo
  have HS := hid hS
  clear hwh hro ht4 hz4 hdo hS
  obtain ⟨w1, hw1⟩ : ∃ w1, w1 = w.alloc (.cells #[.slice a3 2 c3, .int .i64 0, .slice (some ⟨b4, 0, none⟩) 1 c4] 37) := ⟨_, rfl⟩
  have b1 : Below w.heap.size w w1 := by rw [hw1]; exact below_alloc _ _
  have G1 : w1.heap[w.heap.size]? = some (.cells #[.slice a3 2 c3, .int .i64 0, .slice (some ⟨b4, 0, none⟩) 1 c4] 37 (0, 0)) := by rw [hw1]; exact heap_new _ _
  have h1 := h.moved b1
  have q0 : w1.cell? ⟨w.heap.size, 0, none⟩ = some (.slice a3 2 c3) := (cell_of G1).trans rfl
  have q1 : w1.cell? ⟨w.heap.size, 1, none⟩ = some (.int .i64 0) := (cell_of G1).trans rfl
  have q2 : w1.cell? ⟨w.heap.size, 2, none⟩ = some (.slice (some ⟨b4, 0, none⟩) 1 c4) := (cell_of G1).trans rfl
  have q3 : w1.cell? ⟨pb, 1, none⟩ = some (.int .i64 1) := (cell_of h1.box).trans rfl
  have K41 := hid (fun W (hW : Below w1.heap.size w1 W) => partsOf_one W a3 c3 b4 c4 c5 a5 cs4 (((b1.trans (hW.mono b1.size)).block _ (lt_of_heap h4)).trans h4) hc)
  have hn0 : w.heap.size ≠ w1.heap.size := fun e => by have := lt_of_heap G1; omega
  have hn1 : pb ≠ w1.heap.size := fun e => by have := lt_of_heap h1.box; omega
  have H1' := hid h
  have B1 := hid b1
  clear b1 G1 h1 h h4 hc
  go_enter Tryd.func23, Tryd.ntmps23
  go_upto_region 1 with (fail)
  rw [← hw1]
  clear hw1
  go_cut [5] (fun v wx => ∃ (vb pr : Nat) (a6 : Option Addr) (c6 : Nat), v = .pointer (some ⟨vb, 0, none⟩) ∧ Hid (SdI w wx vb pr a3 a5 a6 c3 c5 c6))
  case first =>
    go_region_held (fun u => u.cell? ⟨w.heap.size, 0, none⟩ = some (.slice a3 2 c3) ∧ u.cell? ⟨w.heap.size, 1, none⟩ = some (.int .i64 0) ∧ u.cell? ⟨w.heap.size, 2, none⟩ = some (.slice (some ⟨b4, 0, none⟩) 1 c4) ∧ u.cell? ⟨pb, 1, none⟩ = some (.int .i64 1)) (first | go_keep | exact ⟨set_other t0 hn0, set_other t1 hn0, set_other t2 hn0, set_other t3 hn1⟩) ((go_at_call 41; refine (K41.out _ ?hb).mono ?_; (case hb => first | exact (Below.refl w1.heap.size w1).drew | exact (below_alloc w1 _).drew); rintro e w2 ⟨a6, c6, rfl, hP2, hR2, hb2⟩; have hb2' : Below w1.heap.size w1 w2 := (by first | exact (below_draws (Below.refl w1.heap.size w1) 1).trans hb2 | exact (below_draws (below_alloc w1 _) 1).trans (hb2.mono (by show w1.heap.size ≤ (w1.alloc _).heap.size; simp))); have kp : ∀ (b j : Nat) (u : Value), w1.cell? ⟨b, j, none⟩ = some u → w2.cell? ⟨b, j, none⟩ = some u := (fun b j u hc => (hb2'.cell (p := ⟨b, j, none⟩) (lt_of_cell hc)).trans hc); have t0 := kp _ _ _ q0; have t1 := kp _ _ _ q1; have t2 := kp _ _ _ q2; have t3 := kp _ _ _ q3; (try (have hz : w2.heap[w1.heap.size]? = some (.cells #[.slice none 0 0] 104 (0, 0)) := (hb2.block _ (by show w1.heap.size < (w1.alloc _).heap.size; simp)).trans (MapKept.heap_alloc w1 _).1; have z0 : w2.cell? ⟨w1.heap.size, 0, none⟩ = some (.slice none 0 0) := (cell_of hz).trans rfl; have zf : w2.frozen? ⟨w1.heap.size, 0, none⟩ = false := free_of hz; have HZ := hid hz)); have hm0 : w.heap.size ≠ w2.heap.size := (fun e => by have := lt_of_cell t0; have e' : w.heap.size < w2.heap.size := this; omega); have hm1 : pb ≠ w2.heap.size := (fun e => by have := lt_of_cell t3; have e' : pb < w2.heap.size := this; omega); have P2 := hid hP2; have R2 := hid hR2; have B2 := hid hb2'; clear hP2 hR2 hb2 hb2' kp))
    · have F : Hid (SdI w (w2.alloc (.cells #[.slice (some ⟨w1.heap.size + 1, 0, none⟩) 1 1] 104)) w2.heap.size (w1.heap.size + 1) a3 a5 a6 c3 c5 c6) := (show SdI _ _ _ _ _ _ _ _ _ _ from ⟨heap_new _ _, heap_old P2.out _, owns_baseS (owns_at R2.out fun q _ hq => Below.heap_alloc _ _ _ hq) (Nat.zero_le _), (B1.out.trans (B2.out.mono B1.out.size)).alloc (Nat.le_trans B1.out.size B2.out.size) _⟩)
      clear q0 q1 q2 q3 t0 t1 t2 t3
      go_wp2_with fail
      go_meet
      exact ⟨w2.heap.size, w1.heap.size + 1, a6, c6, rfl, F⟩
    · have F : Hid (SdI w (w2.setCell ⟨w1.heap.size, 0, none⟩ (.slice (some ⟨w1.heap.size + 1 + 1, 0, none⟩) 1 1)) w1.heap.size (w1.heap.size + 1 + 1) a3 a5 a6 c3 c5 c6) := (show SdI _ _ _ _ _ _ _ _ _ _ from ⟨(heap_set HZ.out _).trans rfl, (Below.heap_setCell _ _ _ _ (by show w1.heap.size + 1 + 1 ≠ w1.heap.size; omega)).trans (by have h := P2.out; rw [show (w1.alloc (.cells #[.slice none 0 0] 104)).drew.heap.size = w1.heap.size + 1 from World.size_alloc _ _] at h; exact h), owns_baseS (own_keep R2.out fun q hq => Below.heap_setCell _ _ _ _ fun e => by
        have h1 := (R2.out.lt q hq).1
        have e' : q = w1.heap.size := e
        have h2 : (w1.alloc (.cells #[.slice none 0 0] 104)).heap.size ≤ q := h1
        simp at h2
        omega) (Nat.zero_le _), (B1.out.trans (B2.out.mono B1.out.size)).setCell B1.out.size _⟩)
      clear q0 q1 q2 q3 t0 t1 t2 t3
      go_wp2_with fail
      go_meet
      exact ⟨w1.heap.size, w1.heap.size + 1 + 1, a6, c6, rfl, F⟩
  case rest =>
    obtain ⟨vb, pr, a6, c6, hv, HI⟩ := hcut
    rw [hv]
    clear hv
    have h0 := HI.out
    have K42 := hid (gather_one A B wc (HS.out.below (h0.below.mono HS.out.size)) (H1'.out.moved h0.below) vb pr a3 a6 c3 c6 h0.box h0.parts ⟨owns_at HWH.out fun q _ hq => h0.below.block q hq, [[.int .i64 0, .string ⟨#[107]⟩, .int .i64 2, .string ⟨#[]⟩, .int .i64 5, .bool false, .slice a5 0 c5]], h0.row, ⟨⟨.slice a5 0 c5, rfl, owns_at HDO.out fun q _ hq => h0.below.block q hq⟩, trivial⟩⟩)
    have B0 := hid h0.below
    clear h0
    go_wp2_with fail
    refine K42.out.mono ?_
    rintro e w9 ⟨v9, r, rfl, hr9, hx9, hO9⟩
    obtain ⟨a9, c9, hv9⟩ := row_shape hr9
    subst hv9
    have R9 := hid (owns_baseS hr9 B0.out.size)
    have X9 := hid hx9
    have O9 := hid (OnlyG.ahead B0.out hO9)
    clear hr9 hx9 hO9
    go_wp2
    go_ret
    exact ⟨_, r, rfl, R9.out, X9.out, O9.out⟩
end Go.Proofs.YtefpnojanldkeaaDoor
namespace Go.Proofs.YtefpnojanldkeaaDoor
open Go.RowKit Go.Maps
set_option maxRecDepth 100000
set_option linter.unusedSectionVars false
variable [Inhabited ComV] [DecidableEq D3] [Inhabited D3] [Inhabited Dn] [Inhabited OpV]

theorem comT_own {base : Nat} {w : World} {wv ov : Value} {c : ComV} (h : ComOwn base w wv ov c) : ComT w [wv, .int .i64 c.place, ov] c := by
  obtain ⟨h1, rows, h2, h3⟩ := h
  refine ⟨wv, ov, rfl, intsT_of_owns h1, rows, rowT_of_owns h2 (f2_len h3).symm (rows7 (f2_opRow h3)), f2_mono (fun r o q => ?_) h3⟩
  obtain ⟨dv, rfl, hd⟩ := q
  exact ⟨dv, rfl, rowT_of_owns (by rw [← List.flatMap_def]; exact hd) (by simp) (fun r hr => by obtain ⟨d, _, rfl⟩ := List.mem_map.1 hr; rfl)⟩
theorem comK_comErr : comErr comK = (0, none) := by kernel_rfl
end Go.Proofs.YtefpnojanldkeaaDoor
namespace Go.Proofs.YtefpnojanldkeaaDoor
open Go.RowKit Go.Maps
set_option maxRecDepth 100000
set_option linter.unusedSectionVars false
variable [Inhabited ComV] [DecidableEq D3] [Inhabited D3] [Inhabited Dn] [Inhabited OpV]

theorem bytes_list (s : ByteArray) : s = ⟨s.data.toList.toArray⟩ := by simp
theorem len_list {s : ByteArray} (hs : s.size ≤ 200) : s.data.toList.length ≤ 7000 := by
  have h : s.data.toList.length = s.size := Array.length_toList
  omega
/-- A right key, a right number of shards. -/
theorem Shard_ok (w : World) (s : ByteArray) (hs : s.size ≤ 200) (hn : nameB s = true) (k : Int) (h1 : 1 ≤ k) (h6 : k ≤ 6) : Calls Tryd.prog 5 #[.string s, .int .i64 k] w fun e w' => e = .returned (.tuple #[.int .i64 ((sumNX s.data.toList : Nat) % k), .nilIface]) ∧ w' = w := by
  have K13 := hid (checkName_ok w s hn)
  have K15 := hid (shardOf_any w s.data.toList (len_list hs) k h1 h6)
  rw [← bytes_list] at K15
  have K14 := hid (isShards_any k w)
  rw [show shB k = true from decide_eq_true ⟨h1, h6⟩] at K14
  obtain ⟨z, hz⟩ : ∃ z : Int, z = (sumNX s.data.toList : Nat) % k := ⟨_, rfl⟩
  rw [← hz] at K15 ⊢
  clear hz
  go_enter Tryd.func5, Tryd.ntmps5
  go_wp2_with (first | (go_at_call 13; refine K13.out.mono ?_; rintro e w' ⟨rfl, hw'⟩; rw [hw']; clear hw') | (go_at_call 14; refine K14.out.mono ?_; rintro e w' ⟨rfl, hw'⟩; rw [hw']; clear hw') | (go_at_call 15; refine K15.out.mono ?_; rintro e w' ⟨rfl, hw'⟩; rw [hw']; clear hw'))
  go_ret2
  exact ⟨rfl, rfl⟩
theorem ShardOf_ok (w : World) (s : ByteArray) (hs : s.size ≤ 200) (k : Int) (h1 : 1 ≤ k) (h6 : k ≤ 6) : Calls Tryd.prog 8 #[.string s, .int .i64 k] w fun e w' => e = .returned (.int .i64 ((sumNX s.data.toList : Nat) % k)) ∧ w' = w := by
  have K17 := hid (rsum_any w s.data.toList (len_list hs))
  rw [← bytes_list] at K17
  obtain ⟨n, hn⟩ : ∃ n : Nat, n = sumNX s.data.toList := ⟨_, rfl⟩
  have hlt : sumNX s.data.toList < 4294967296 := Nat.xor_lt_two_pow (n := 32) (crcOf_lt _) (by decide)
  rw [← hn] at K17 hlt ⊢
  clear hn
  have b1 : 0 ≤ (n : Int) % k := Int.emod_nonneg _ (by omega)
  have b2 : (n : Int) % k < 6 := Int.lt_of_lt_of_le (Int.emod_lt_of_pos _ (by omega)) h6
  go_enter Tryd.func8, Tryd.ntmps8
  go_wp2_with (go_at_call 17; refine K17.out.mono ?_; rintro e w' ⟨rfl, hw'⟩; rw [hw']; clear hw')
  go_ret
  exact ⟨rfl, rfl⟩
theorem clock_ok (w : World) {pb : Nat} {cs : Array Value} {ck : Int} (h : w.heap[pb]? = some (.cells cs 60 (0, 0))) (hc : cs[2]? = some (.int .i64 ck)) : Calls Tryd.prog 12 #[.pointer (some ⟨pb, 0, none⟩)] w fun e w' => e = .returned (.int .i64 ck) ∧ w' = w := by
  have q : w.cell? ⟨pb, 2, none⟩ = some (.int .i64 ck) := (cell_of h).trans hc
  clear h hc
  go_enter Tryd.func12, Tryd.ntmps12
  go_wp2
  go_ret
  exact ⟨rfl, rfl⟩
end Go.Proofs.YtefpnojanldkeaaDoor
