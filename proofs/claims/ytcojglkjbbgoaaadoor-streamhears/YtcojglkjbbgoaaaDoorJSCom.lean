/- come: what has its turn; Hear: a beat; Hear: a beat that is new; What a receiver keeps of so many beats: plain mathematics; sent: a beat goes out; A sender, a row of what it sent, a receiver: what the walks of the laws carry. -/
import Derived.Test.YtcojglkjbbgoaaaDoorJSKno
import Derived.Deep.RegionHeld
namespace Go.Proofs.YtcojglkjbbgoaaaDoor
open Go.RowKit Go.Maps
set_option maxRecDepth 100000

theorem wrap_num {k : Int} (h : num k) : IntKind.i64.wrap k = k := by
  obtain ⟨h1, h2⟩ := h
  simp [IntKind.wrap, IntKind.bits, IntKind.signed]
  omega
theorem joined {p q : Prop} (h : p → q) (hp : p) : q := h hp
/-- What is kept once c of them have come. -/
def comeM (M : Int → Option Int) (seq : Int) (c : Nat) : Int → Option Int := fun j => if seq < j ∧ j ≤ seq + c then none else M j
/-- What comes: numbers and times. -/
def comeL (seq : Int) (ts : Nat → Int) (c : Nat) : List (Int × Int) := (List.range c).map fun i => (seq + (i + 1 : Nat), ts i)
def lastT (time : Int) (ts : Nat → Int) : Nat → Int
  | 0 => time
  | c + 1 => ts c
/-- Only blocks g and m may have turned. -/
structure OnlyR (g m : Nat) (w w' : World) : Prop where
  os : w'.os = w.os
  tape : w'.tape = w.tape
  output : w'.output = w.output
  size : w.heap.size ≤ w'.heap.size
  block : ∀ k, k < w.heap.size → k ≠ g → k ≠ m → w'.heap[k]? = w.heap[k]?
theorem OnlyR.refl (g m : Nat) (w : World) : OnlyR g m w w := ⟨rfl, rfl, rfl, Nat.le_refl _, fun _ _ _ _ => rfl⟩
theorem comeL_len (seq : Int) (ts : Nat → Int) (c : Nat) : (comeL seq ts c).length = c := by simp [comeL]
theorem comeL_succ (seq : Int) (ts : Nat → Int) (c : Nat) : comeL seq ts (c + 1) = comeL seq ts c ++ [(seq + (c + 1 : Nat), ts c)] := by simp [comeL, List.range_succ]
theorem comeM_zero (M : Int → Option Int) (seq : Int) : comeM M seq 0 = M := by
  funext j
  unfold comeM
  rw [if_neg (by omega)]
theorem comeM_succ (M : Int → Option Int) (seq : Int) (c : Nat) : updB (comeM M seq c) (seq + (c + 1 : Nat)) none = comeM M seq (c + 1) := by
  funext j
  unfold comeM updB
  by_cases h : j = seq + (c + 1 : Nat)
  · rw [if_pos h, if_pos (by omega)]
  · rw [if_neg h]
    show (if seq < j ∧ j ≤ seq + c then none else M j) = _
    by_cases h2 : seq < j ∧ j ≤ seq + c
    · rw [if_pos h2, if_pos (by omega)]
    · rw [if_neg h2, if_neg (by omega)]
theorem comeM_next (M : Int → Option Int) (seq : Int) (c : Nat) : comeM M seq c (seq + (c + 1 : Nat)) = M (seq + (c + 1 : Nat)) := by
  unfold comeM
  rw [if_neg (by omega)]
/-- The look-up, in whatever world that has the map as it is. -/
theorem look_beat {wr : World} {mb n : Nat} {f t s : Int} {D : DataW Unit} {M : Int → Option Int} (hm : wr.ownsMap Tryd.prog 3 bareElem mb n D) (hM : MapB f t s D M) {k : Int} (hk : num k) {tm : Int} (hs : M k = some tm) (u : World) (hu : u.heap[mb]? = wr.heap[mb]?) :
    (Instr.lookup 87 (.map (some mb)) (.int .i64 k) true).run Tryd.prog u = .ok (.tuple #[.agg #[.int .i64 f, .int .i64 t, .int .i64 s, .int .i64 k, .int .i64 tm, .bool true, .slice none 0 0, .int .i64 0, .slice none 0 0], .bool true]) u := by
  have hm' : u.ownsMap Tryd.prog 3 bareElem mb n D := by
    obtain ⟨es, clock, hb, r⟩ := hm
    exact ⟨es, clock, by rw [hu]; exact hb, r⟩
  obtain ⟨v, ps, hrun, hv⟩ := hm'.look_ok keyed3 Tryd.underlying87 (zero37 _) (bareElem_mk 0 0 0 0 0 false) (key_num hk)
  obtain ⟨y1, y2, y3, y4, y5, y6, rfl, he⟩ := bareElem_inv hv
  have h2 := (hM k hk).2 (six 0 0 0 0 0 false)
  rw [hs] at h2
  have h3 := six_inj ((congrArg Prod.fst he).symm.trans h2)
  obtain ⟨e1, e2, e3, e4, e5, e6⟩ := h3
  rw [hrun, (hM k hk).1, hs, e1, e2, e3, e4, e5, e6]
  rfl
theorem look_none {wr : World} {mb n : Nat} {f t s : Int} {D : DataW Unit} {M : Int → Option Int} (hm : wr.ownsMap Tryd.prog 3 bareElem mb n D) (hM : MapB f t s D M) {k : Int} (hk : num k) (hs : M k = none) (u : World) (hu : u.heap[mb]? = wr.heap[mb]?) :
    (Instr.lookup 87 (.map (some mb)) (.int .i64 k) true).run Tryd.prog u = .ok (.tuple #[.agg #[.int .i64 0, .int .i64 0, .int .i64 0, .int .i64 0, .int .i64 0, .bool false, .slice none 0 0, .int .i64 0, .slice none 0 0], .bool false]) u := by
  have hm' : u.ownsMap Tryd.prog 3 bareElem mb n D := by
    obtain ⟨es, clock, hb, r⟩ := hm
    exact ⟨es, clock, by rw [hu]; exact hb, r⟩
  obtain ⟨v, ps, hrun, hv⟩ := hm'.look_ok keyed3 Tryd.underlying87 (zero37 _) (bareElem_mk 0 0 0 0 0 false) (key_num hk)
  obtain ⟨y1, y2, y3, y4, y5, y6, rfl, he⟩ := bareElem_inv hv
  have h2 := (hM k hk).2 (six 0 0 0 0 0 false)
  rw [hs] at h2
  have h3 := six_inj ((congrArg Prod.fst he).symm.trans h2)
  obtain ⟨e1, e2, e3, e4, e5, e6⟩ := h3
  rw [hrun, (hM k hk).1, hs, e1, e2, e3, e4, e5, e6]
  rfl
theorem Rcv.moved {w u : World} {g mb n : Nat} {f t s seq time : Int} {M : Int → Option Int} (h : Rcv w g mb n f t s seq time M) (hg : u.heap[g]? = w.heap[g]?) (hm : u.heap[mb]? = w.heap[mb]?) : Rcv u g mb n f t s seq time M := by
  obtain ⟨D, ⟨es, clock, hb, r⟩, hM⟩ := h.map
  exact ⟨hg.trans h.box, D, ⟨es, clock, hm.trans hb, r⟩, hM⟩
theorem OnlyR.below {g m : Nat} {w w1 w2 : World} (h : OnlyR g m w w1) (hb : Below w1.heap.size w1 w2) : OnlyR g m w w2 := ⟨hb.os.trans h.os, hb.tape.trans h.tape, hb.output.trans h.output, Nat.le_trans h.size hb.size, fun k h1 h2 h3 => by rw [hb.block k (Nat.lt_of_lt_of_le h1 h.size)]; exact h.block k h1 h2 h3⟩
def lenV : Value → Nat
  | .slice _ n _ => n
  | _ => 0
set_option maxHeartbeats 2000000 in
theorem come_ok (w : World) (g mb n c : Nat) (f t s seq time : Int) (M : Int → Option Int) (ts : Nat → Int) (h : Rcv w g mb n f t s seq time M) (hgm : g ≠ mb) (h0 : 0 ≤ seq) (h1 : seq + c ≤ 1000) (hM : ∀ i, i < c → M (seq + (i + 1 : Nat)) = some (ts i)) (hz : M (seq + (c + 1 : Nat)) = none) :
    Calls Tryd.prog 38 #[.pointer (some ⟨g, 0, none⟩)] w fun e w' => ∃ v, e = .returned v ∧ w'.ownsRow w.heap.size 37 9 v c (beats f t s (comeL seq ts c)) ∧ Rcv w' g mb n f t s (seq + c) (lastT time ts c) (comeM M seq c) ∧ OnlyR g mb w w' := by
  obtain ⟨i37, hi, hz0, hz1, hz2⟩ := info_parts Tryd.info37
  have H := hid h
  have HM := hid hM
  have HZ := hid hz
  have hgl := lt_of_heap h.box
  have hml : mb < w.heap.size := by obtain ⟨D, hm, _⟩ := h.map; exact hm.lt
  clear h hM hz
  go_enter Tryd.func38, Tryd.ntmps38
  go_wp2
  go_loopw [3] (fun x wr => ∃ (k : Nat) (xv : Value), k ≤ c ∧ x = xv ∧ Hid (wr.ownsRow w.heap.size 37 9 xv k (beats f t s (comeL seq ts k))) ∧ Hid (Rcv wr g mb n f t s (seq + k) (lastT time ts k) (comeM M seq k)) ∧ Hid (OnlyR g mb w wr)) (fun x _ => c - lenV x)
  case atStart =>
    refine ⟨0, _, Nat.zero_le _, rfl, World.ownsRow_nil _ _ _ _, ?_, OnlyR.refl _ _ _⟩
    show Rcv _ _ _ _ _ _ _ _ _ _
    rw [comeM_zero, show seq + ((0 : Nat) : Int) = seq by omega]
    exact H.out
  case round =>
    obtain ⟨k, xv, hk, rfl, HX, HR, HO⟩ := hrel
    obtain ⟨D, hD, hMB⟩ := HR.out.map
    have c3 : ∀ u : World, u.heap[g]? = wr.heap[g]? → u.cell? ⟨g, 3, none⟩ = some (.int .i64 (seq + k)) := fun u hu => (cell_of (hu.trans HR.out.box)).trans rfl
    have c5 : ∀ u : World, u.heap[g]? = wr.heap[g]? → u.cell? ⟨g, 5, none⟩ = some (.map (some mb)) := fun u hu => (cell_of (hu.trans HR.out.box)).trans rfl
    have hnum : num (seq + k + 1) := ⟨by omega, by omega⟩
    have hnx : comeM M seq k (seq + k + 1) = M (seq + (k + 1 : Nat)) := by
      rw [← comeM_next M seq k]; congr 1; omega
    have hrs : w.heap.size ≤ wr.heap.size := HO.out.size
    have g1 : g ≠ wr.heap.size := by omega
    have g2 : mb ≠ wr.heap.size := by omega
    have g3 : g < wr.heap.size := by omega
    have g4 : mb < wr.heap.size := by omega
    have w1 := wrap_num hnum
    by_cases hlt : k < c
    · have hts := HM.out k hlt
      obtain ⟨tm, htm⟩ : ∃ tm, tm = ts k := ⟨_, rfl⟩
      rw [← htm] at hts
      have HTM := hid htm
      clear htm
      have LK := fun u hu => look_beat hD hMB hnum (hnx.trans hts) u hu
      have HELD : Hid (∀ u : World, u.heap[g]? = wr.heap[g]? → u.heap[mb]? = wr.heap[mb]? → u.cell? ⟨g, 3, none⟩ = some (.int .i64 (seq + k)) ∧ u.cell? ⟨g, 5, none⟩ = some (.map (some mb)) ∧ (Instr.lookup 87 (.map (some mb)) (.int .i64 (seq + k + 1)) true).run Tryd.prog u = .ok (.tuple #[.agg #[.int .i64 f, .int .i64 t, .int .i64 s, .int .i64 (seq + k + 1), .int .i64 tm, .bool true, .slice none 0 0, .int .i64 0, .slice none 0 0], .bool true]) u) := fun u h1 h2 => ⟨c3 u h1, c5 u h1, LK u h2⟩
      have HD := hid hD
      have HMB := hid hMB
      clear c3 c5 LK hD hMB hnx hts
      go_upto_region 2 with (fail)
      refine joined (p := ?gOne) (fun hp => ?main) ?later
      case main =>
        go_region_held (fun u => u.cell? ⟨g, 3, none⟩ = some (.int .i64 (seq + k)) ∧ u.cell? ⟨g, 5, none⟩ = some (.map (some mb)) ∧ (Instr.lookup 87 (.map (some mb)) (.int .i64 (seq + k + 1)) true).run Tryd.prog u = .ok (.tuple #[.agg #[.int .i64 f, .int .i64 t, .int .i64 s, .int .i64 (seq + k + 1), .int .i64 tm, .bool true, .slice none 0 0, .int .i64 0, .slice none 0 0], .bool true]) u) ((refine HELD.out _ ?_ ?_ <;> simp [Below.heap_alloc, drew_heap, g3, g4])) (fail)
        all_goals exact hp
      case later =>
        have hba := (below_alloc wr (.cells #[.int .i64 f, .int .i64 t, .int .i64 s, .int .i64 (seq + k + 1), .int .i64 tm, .bool true, .slice none 0 0, .int .i64 0, .slice none 0 0] 37)).drew
        have hnew := heap_new wr (.cells #[.int .i64 f, .int .i64 t, .int .i64 s, .int .i64 (seq + k + 1), .int .i64 tm, .bool true, .slice none 0 0, .int .i64 0, .slice none 0 0] 37)
        generalize hwa : World.drew _ = wa
        rw [hwa] at hba
        have hbox : wa.heap[wr.heap.size]? = some (.cells #[.int .i64 f, .int .i64 t, .int .i64 s, .int .i64 (seq + k + 1), .int .i64 tm, .bool true, .slice none 0 0, .int .i64 0, .slice none 0 0] 37 (0, 0)) := by rw [← hwa]; exact hnew
        clear hwa hnew HELD
        have hDa : wa.drew.ownsMap Tryd.prog 3 bareElem mb n D := by
          obtain ⟨es, clock, hb, r⟩ := HD.out
          exact ⟨es, clock, (hba.block _ g4).trans hb, r⟩
        obtain ⟨w5, hrun5, hown5, hturn5⟩ := hDa.drop keyed3 Tryd.underlying87 (key_num hnum) 0
        have q5 : wa.cell? ⟨g, 5, none⟩ = some (.map (some mb)) := (cell_of ((hba.block _ g3).trans HR.out.box)).trans rfl
        have q3 : wa.cell? ⟨wr.heap.size, 3, none⟩ = some (.int .i64 (seq + k + 1)) := (cell_of hbox).trans rfl
        have BA := hid hba
        have BX := hid hbox
        have OW5 := hid hown5
        have TU5 := hid hturn5
        clear hba hbox hown5 hturn5 hDa
        go_upto_region 5 with (fail)
        go_region
        have hg5 := TU5.out.grown
        have hsz5 : wa.heap.size ≤ w5.heap.size := hg5.size
        have hblk5 : ∀ q, q < wa.heap.size → q ≠ mb → w5.heap[q]? = wa.heap[q]? := fun q h1 h2 => hg5.block q h1 fun he => h2 (Option.some.inj he)
        have hsa : wr.heap.size < wa.heap.size := lt_of_heap BX.out
        have hX5 : w5.heap[wr.heap.size]? = some (.cells #[.int .i64 f, .int .i64 t, .int .i64 s, .int .i64 (seq + k + 1), .int .i64 tm, .bool true, .slice none 0 0, .int .i64 0, .slice none 0 0] 37 (0, 0)) := (hblk5 _ hsa g2.symm).trans BX.out
        have hG5 : w5.heap[g]? = some (.cells #[.int .i64 f, .int .i64 t, .int .i64 s, .int .i64 (seq + k), .int .i64 (lastT time ts k), .map (some mb)] 89 (0, 0)) := (hblk5 _ (by omega) hgm).trans ((BA.out.block _ g3).trans HR.out.box)
        have x3 : w5.cell? ⟨wr.heap.size, 3, none⟩ = some (.int .i64 (seq + k + 1)) := (cell_of hX5).trans rfl
        have x4 : w5.cell? ⟨wr.heap.size, 4, none⟩ = some (.int .i64 tm) := (cell_of hX5).trans rfl
        have y3 : w5.cell? ⟨g, 3, none⟩ = some (.int .i64 (seq + k)) := (cell_of hG5).trans rfl
        have y4 : w5.cell? ⟨g, 4, none⟩ = some (.int .i64 (lastT time ts k)) := (cell_of hG5).trans rfl
        have z3 : w5.frozen? ⟨g, 3, none⟩ = false := free_of hG5
        have z4 : w5.frozen? ⟨g, 4, none⟩ = false := free_of hG5
        have O5 : Hid (OnlyR g mb wr w5) := (show OnlyR _ _ _ _ from ⟨hg5.os.trans BA.out.os, hg5.tape.trans BA.out.tape, hg5.output.trans BA.out.output, by omega, fun q h1 h2 h3 => (hblk5 q (by omega) h3).trans (BA.out.block q h1)⟩)
        have X5 := hid hX5
        have G5 := hid hG5
        clear hg5 hblk5 hX5 hG5 q5 q3 hrun5 TU5
        go_upto_region 6 with (fail)
        go_region
        generalize hw6 : World.drew _ = w6
        have hG6 : w6.heap[g]? = some (.cells #[.int .i64 f, .int .i64 t, .int .i64 s, .int .i64 (seq + k + 1), .int .i64 tm, .map (some mb)] 89 (0, 0)) := by
          rw [← hw6]
          exact heap_set (j := 4) (heap_set (j := 3) G5.out (.int .i64 (seq + k + 1))) (.int .i64 tm)
        have hblk6 : ∀ q, q ≠ g → w6.heap[q]? = w5.heap[q]? := fun q hq => by
          rw [← hw6]
          show ((w5.setCell _ _).setCell _ _).heap[q]? = _
          rw [Below.heap_setCell _ _ _ _ hq, Below.heap_setCell _ _ _ _ hq]
        have hsz6 : w6.heap.size = w5.heap.size := by
          rw [← hw6]
          show ((w5.setCell _ _).setCell _ _).heap.size = _
          rw [size_set, size_set]
        have hos6 : w6.os = w5.os ∧ w6.tape = w5.tape ∧ w6.output = w5.output := by rw [← hw6]; exact ⟨rfl, rfl, rfl⟩
        clear hw6
        have hX6 : w6.heap[wr.heap.size]? = some (.cells #[.int .i64 f, .int .i64 t, .int .i64 s, .int .i64 (seq + k + 1), .int .i64 tm, .bool true, .slice none 0 0, .int .i64 0, .slice none 0 0] 37 (0, 0)) := (hblk6 _ g1.symm).trans X5.out
        have e0 : w6.cell? ⟨wr.heap.size, 0, none⟩ = some (.int .i64 f) := (cell_of hX6).trans rfl
        have e1 : w6.cell? ⟨wr.heap.size, 1, none⟩ = some (.int .i64 t) := (cell_of hX6).trans rfl
        have e2 : w6.cell? ⟨wr.heap.size, 2, none⟩ = some (.int .i64 s) := (cell_of hX6).trans rfl
        have e3 : w6.cell? ⟨wr.heap.size, 3, none⟩ = some (.int .i64 (seq + k + 1)) := (cell_of hX6).trans rfl
        have e4 : w6.cell? ⟨wr.heap.size, 4, none⟩ = some (.int .i64 tm) := (cell_of hX6).trans rfl
        have e5 : w6.cell? ⟨wr.heap.size, 5, none⟩ = some (.bool true) := (cell_of hX6).trans rfl
        have e6 : w6.cell? ⟨wr.heap.size, 6, none⟩ = some (.slice none 0 0) := (cell_of hX6).trans rfl
        have e7 : w6.cell? ⟨wr.heap.size, 7, none⟩ = some (.int .i64 0) := (cell_of hX6).trans rfl
        have e8 : w6.cell? ⟨wr.heap.size, 8, none⟩ = some (.slice none 0 0) := (cell_of hX6).trans rfl
        have O6 : Hid (OnlyR g mb wr w6) := (show OnlyR _ _ _ _ from ⟨hos6.1.trans O5.out.os, hos6.2.1.trans O5.out.tape, hos6.2.2.trans O5.out.output, by omega, fun q h1 h2 h3 => (hblk6 q h2).trans (O5.out.block q h1 h2 h3)⟩)
        have M6 : Hid (w6.ownsMap Tryd.prog 3 bareElem mb n (D.del (.int .i64 (seq + k + 1)))) := (show World.ownsMap _ _ _ _ _ _ _ from by
          obtain ⟨es, clock, hb, r⟩ := OW5.out
          exact ⟨es, clock, (hblk6 _ hgm.symm).trans hb, r⟩)
        have X8 := hid (owns_at HX.out fun q h1 h2 => O6.out.block q h2 (by omega) (by omega))
        have G6 := hid hG6
        obtain ⟨xa, xc, hxv⟩ := row_shape HX.out
        subst hxv
        have hsr6 : wr.heap.size ≤ w6.heap.size := O6.out.size
        clear hsz6 hG6 hX6 hblk6 hos6 x3 x4 y3 y4 z3 z4
        go_wp2_with (at_builtin; refine wpList_append_own _ rfl _ _ 32 rfl w.heap.size 37 i37 _ 9 104 Tryd.underlying32 hi hz0 hz1 hz2 rfl (by decide) _ _ _ rfl (X8.out.alloc _) ⟨w6.heap.size, 0, none⟩ 1 1 [.int .i64 f, .int .i64 t, .int .i64 s, .int .i64 (seq + k + 1), .int .i64 tm, .bool true, .slice none 0 0, .int .i64 0, .slice none 0 0] rfl rfl (cells3_new _ _ _) (one9 _ _ _ _ _) ?hm2 ?hm3 ?hm4 ?_; (case hm2 => unfold maxLen; omega); (case hm3 => omega); (case hm4 => simp; omega); intro v9 w9 hown9 hgr9 _; have B9 : Hid (∀ q, q < w.heap.size → w9.heap[q]? = w6.heap[q]?) := (show ∀ q, q < w.heap.size → w9.heap[q]? = w6.heap[q]? from fun q hq => by rw [hgr9.block q (by simp; omega) (fun e => by have := (X8.out.lt q e.symm).1; omega), Below.heap_alloc _ _ _ (by omega)]); have S9 : Hid (w9.os = w6.os ∧ w9.tape = w6.tape ∧ w9.output = w6.output ∧ w6.heap.size ≤ w9.heap.size) := (show _ ∧ _ from ⟨hgr9.os, hgr9.tape, hgr9.output, by have := hgr9.size; simp at *; omega⟩); have X9 := hid hown9; clear hown9 hgr9)
        have hseq : seq + (k : Int) + 1 = seq + ((k + 1 : Nat) : Int) := by omega
        refine ⟨⟨k + 1, _, by omega, rfl, ?_, ?_, ?_⟩, ?_⟩
        · show World.ownsRow _ _ _ _ _ _ _
          rw [comeL_succ, beats_snoc, ← hseq, ← HTM.out]
          exact X9.out
        · show Rcv _ _ _ _ _ _ _ _ _ _
          rw [← comeM_succ, ← hseq]
          refine ⟨?_, _, ?_, HMB.out.del _⟩
          · rw [B9.out g hgl, G6.out, HTM.out]
            rfl
          · obtain ⟨es, clock, hb, r⟩ := M6.out
            exact ⟨es, clock, (B9.out mb hml).trans hb, r⟩
        · show OnlyR _ _ _ _
          exact ⟨S9.out.1.trans (O6.out.os.trans HO.out.os), S9.out.2.1.trans (O6.out.tape.trans HO.out.tape), S9.out.2.2.1.trans (O6.out.output.trans HO.out.output), by have := S9.out.2.2.2; omega, fun q h1 h2 h3 => by rw [B9.out q h1, O6.out.block q (by omega) h2 h3]; exact HO.out.block q h1 h2 h3⟩
        · obtain ⟨ya, yc, hyv⟩ := row_shape X9.out
          rw [hyv]
          show c - (k + 1) < c - k
          omega
    · obtain rfl : k = c := by omega
      have LK := fun u hu => look_none hD hMB hnum (hnx.trans HZ.out) u hu
      have HELD : Hid (∀ u : World, u.heap[g]? = wr.heap[g]? → u.heap[mb]? = wr.heap[mb]? → u.cell? ⟨g, 3, none⟩ = some (.int .i64 (seq + k)) ∧ u.cell? ⟨g, 5, none⟩ = some (.map (some mb)) ∧ (Instr.lookup 87 (.map (some mb)) (.int .i64 (seq + k + 1)) true).run Tryd.prog u = .ok (.tuple #[.agg #[.int .i64 0, .int .i64 0, .int .i64 0, .int .i64 0, .int .i64 0, .bool false, .slice none 0 0, .int .i64 0, .slice none 0 0], .bool false]) u) := fun u h1 h2 => ⟨c3 u h1, c5 u h1, LK u h2⟩
      clear c3 c5 LK hD hMB hnx
      go_upto_region 2 with (fail)
      go_region_held (fun u => u.cell? ⟨g, 3, none⟩ = some (.int .i64 (seq + k)) ∧ u.cell? ⟨g, 5, none⟩ = some (.map (some mb)) ∧ (Instr.lookup 87 (.map (some mb)) (.int .i64 (seq + k + 1)) true).run Tryd.prog u = .ok (.tuple #[.agg #[.int .i64 0, .int .i64 0, .int .i64 0, .int .i64 0, .int .i64 0, .bool false, .slice none 0 0, .int .i64 0, .slice none 0 0], .bool false]) u) ((refine HELD.out _ ?_ ?_ <;> simp [Below.heap_alloc, drew_heap, g3, g4])) (fail)
      all_goals go_wp2
      all_goals go_ret
      all_goals
        have hb := (below_alloc wr (.cells #[.int .i64 0, .int .i64 0, .int .i64 0, .int .i64 0, .int .i64 0, .bool false, .slice none 0 0, .int .i64 0, .slice none 0 0] 37)).drew
        exact ⟨_, rfl, owns_at HX.out fun q _ h2 => hb.block q h2, HR.out.moved (hb.block _ g3) (hb.block _ g4), HO.out.below hb⟩
end Go.Proofs.YtcojglkjbbgoaaaDoor
namespace Go.Proofs.YtcojglkjbbgoaaaDoor
open Go.RowKit Go.Maps
set_option maxRecDepth 100000

set_option maxHeartbeats 2000000 in
theorem hear_known (w : World) (g mb n : Nat) (f t s seq time k tm : Int) (M : Int → Option Int) (h : Rcv w g mb n f t s seq time M) (hk : num k) (hk1 : 1 ≤ k) (ht0 : 0 ≤ tm) (ht1 : tm ≤ 1099511627776) (hkn : ((M k).isSome || decide (k ≤ seq)) = true) :
    Calls Tryd.prog 11 #[.pointer (some ⟨g, 0, none⟩), .agg (beat9 f t s k tm).toArray] w fun e w' => e = .returned (.tuple #[.slice none 0 0, .nilIface]) ∧ Below w.heap.size w w' := by
  have BE := hid (fun u => bears_yes u f t s k tm)
  have IT := hid (fun u => isTime_yes tm u ht0 ht1)
  have KN := hid (fun u (hu : Below w.heap.size w u) => knows_ok u g mb n f t s seq time k M (h.moved (hu.block _ (lt_of_heap h.box)) (hu.block _ (by obtain ⟨D, hm, _⟩ := h.map; exact hm.lt))) hk)
  rw [hkn] at KN
  have c0 : ∀ u, Below w.heap.size w u → u.cell? ⟨g, 0, none⟩ = some (.int .i64 f) := fun u hu => (cell_of ((hu.block _ (lt_of_heap h.box)).trans h.box)).trans rfl
  have c1 : ∀ u, Below w.heap.size w u → u.cell? ⟨g, 1, none⟩ = some (.int .i64 t) := fun u hu => (cell_of ((hu.block _ (lt_of_heap h.box)).trans h.box)).trans rfl
  have c2 : ∀ u, Below w.heap.size w u → u.cell? ⟨g, 2, none⟩ = some (.int .i64 s) := fun u hu => (cell_of ((hu.block _ (lt_of_heap h.box)).trans h.box)).trans rfl
  obtain ⟨wa, hwa⟩ : ∃ wa, wa = w.alloc (.cells #[.int .i64 f, .int .i64 t, .int .i64 s, .int .i64 k, .int .i64 tm, .bool true, .slice none 0 0, .int .i64 0, .slice none 0 0] 37) := ⟨_, rfl⟩
  have hba : Below w.heap.size w wa := by rw [hwa]; exact below_alloc _ _
  have a0 := c0 wa hba
  have a1 := c1 wa hba
  have a2 := c2 wa hba
  unfold beat9 at BE ⊢
  have C0 := hid c0
  have C1 := hid c1
  have C2 := hid c2
  clear h hk c0 c1 c2 hkn
  go_enter Tryd.func11, Tryd.ntmps11
  go_wp2_with fail
  rw [← hwa]
  have hX : wa.heap[w.heap.size]? = some (.cells #[.int .i64 f, .int .i64 t, .int .i64 s, .int .i64 k, .int .i64 tm, .bool true, .slice none 0 0, .int .i64 0, .slice none 0 0] 37 (0, 0)) := by rw [hwa]; exact heap_new _ _
  have HELD : Hid (∀ u, Below wa.heap.size wa u → u.cell? ⟨g, 0, none⟩ = some (.int .i64 f) ∧ u.cell? ⟨g, 1, none⟩ = some (.int .i64 t) ∧ u.cell? ⟨g, 2, none⟩ = some (.int .i64 s) ∧ u.cell? ⟨w.heap.size, 0, none⟩ = some (.int .i64 f) ∧ u.cell? ⟨w.heap.size, 1, none⟩ = some (.int .i64 t) ∧ u.cell? ⟨w.heap.size, 2, none⟩ = some (.int .i64 s) ∧ u.cell? ⟨w.heap.size, 3, none⟩ = some (.int .i64 k) ∧ u.cell? ⟨w.heap.size, 4, none⟩ = some (.int .i64 tm) ∧ u.cell? ⟨w.heap.size, 5, none⟩ = some (.bool true) ∧ u.cell? ⟨w.heap.size, 6, none⟩ = some (.slice none 0 0) ∧ u.cell? ⟨w.heap.size, 7, none⟩ = some (.int .i64 0) ∧ u.cell? ⟨w.heap.size, 8, none⟩ = some (.slice none 0 0)) := fun u hu => by
    have hq := (hu.block _ (lt_of_heap hX)).trans hX
    have hz : Below w.heap.size w u := hba.trans (hu.mono hba.size)
    exact ⟨C0.out u hz, C1.out u hz, C2.out u hz, (cell_of hq).trans rfl, (cell_of hq).trans rfl, (cell_of hq).trans rfl, (cell_of hq).trans rfl, (cell_of hq).trans rfl, (cell_of hq).trans rfl, (cell_of hq).trans rfl, (cell_of hq).trans rfl, (cell_of hq).trans rfl⟩
  have hdr : Below wa.heap.size wa wa.drew := (Below.refl _ _).drew
  have BA := hid hba
  clear hwa hX a0 a1 a2 hba
  go_region_held (fun u => u.cell? ⟨g, 0, none⟩ = some (.int .i64 f) ∧ u.cell? ⟨g, 1, none⟩ = some (.int .i64 t) ∧ u.cell? ⟨g, 2, none⟩ = some (.int .i64 s) ∧ u.cell? ⟨w.heap.size, 0, none⟩ = some (.int .i64 f) ∧ u.cell? ⟨w.heap.size, 1, none⟩ = some (.int .i64 t) ∧ u.cell? ⟨w.heap.size, 2, none⟩ = some (.int .i64 s) ∧ u.cell? ⟨w.heap.size, 3, none⟩ = some (.int .i64 k) ∧ u.cell? ⟨w.heap.size, 4, none⟩ = some (.int .i64 tm) ∧ u.cell? ⟨w.heap.size, 5, none⟩ = some (.bool true) ∧ u.cell? ⟨w.heap.size, 6, none⟩ = some (.slice none 0 0) ∧ u.cell? ⟨w.heap.size, 7, none⟩ = some (.int .i64 0) ∧ u.cell? ⟨w.heap.size, 8, none⟩ = some (.slice none 0 0)) ((refine HELD.out _ ?_; with_reducible assumption)) (first | (go_at_call 35; refine (BE.out _).mono ?_; rintro e w' ⟨rfl, hbw⟩; replace hbw : Below wa.heap.size wa w' := below_undrew hbw))
  obtain ⟨_, _, _, _, _, _, d3, d4, _, _, _, _⟩ := HELD.out _ hbw
  have B1 := hid hbw
  clear hbw hdr
  have h1k : ¬ k < 1 := by omega
  go_wp2_with (first | (go_at_call 33; refine (IT.out _).mono ?_; rintro e w2 ⟨rfl, rfl⟩))
  have hb2 := BA.out.trans (B1.out.mono BA.out.size)
  refine (KN.out _ hb2).mono ?_
  rintro e w3 ⟨rfl, hb3⟩
  have B3 := hid (hb2.trans (hb3.mono hb2.size))
  clear hb2 hb3
  go_wp2
  go_ret2
  exact ⟨rfl, B3.out⟩
end Go.Proofs.YtcojglkjbbgoaaaDoor
namespace Go.Proofs.YtcojglkjbbgoaaaDoor
open Go.RowKit Go.Maps
set_option maxRecDepth 100000

set_option maxHeartbeats 2000000 in
theorem hear_new (w : World) (g mb n : Nat) (f t s seq time k tm : Int) (M : Int → Option Int) (h : Rcv w g mb n f t s seq time M) (hk : num k) (hk1 : 1 ≤ k) (ht0 : 0 ≤ tm) (ht1 : tm ≤ 1099511627776) (hkn : ((M k).isSome || decide (k ≤ seq)) = false) (h0 : 0 ≤ seq) (h1 : seq ≤ 1000) (hgm : g ≠ mb) (hn : n ≤ 1000) (c : Nat) (ts : Nat → Int) (hc1 : seq + c ≤ 1000) (hcM : ∀ i, i < c → updB M k (some tm) (seq + (i + 1 : Nat)) = some (ts i)) (hcz : updB M k (some tm) (seq + (c + 1 : Nat)) = none) (hks : seq < k) (hne : k - (seq + 1) ≤ 200) :
    Calls Tryd.prog 11 #[.pointer (some ⟨g, 0, none⟩), .agg (beat9 f t s k tm).toArray] w fun e w' => ∃ v, e = .returned (.tuple #[v, .nilIface]) ∧ w'.ownsRow w.heap.size 37 9 v c (beats f t s (comeL seq ts c)) ∧ Rcv w' g mb (n + 1) f t s (seq + c) (lastT time ts c) (comeM (updB M k (some tm)) seq c) ∧ OnlyR g mb w w' := by
  have BE := hid (fun u => bears_yes u f t s k tm)
  have IT := hid (fun u => isTime_yes tm u ht0 ht1)
  have KN := hid (fun u (hu : Below w.heap.size w u) => knows_ok u g mb n f t s seq time k M (h.moved (hu.block _ (lt_of_heap h.box)) (hu.block _ (by obtain ⟨D, hm, _⟩ := h.map; exact hm.lt))) hk)
  rw [hkn] at KN
  have c0 : ∀ u, Below w.heap.size w u → u.cell? ⟨g, 0, none⟩ = some (.int .i64 f) := fun u hu => (cell_of ((hu.block _ (lt_of_heap h.box)).trans h.box)).trans rfl
  have c1 : ∀ u, Below w.heap.size w u → u.cell? ⟨g, 1, none⟩ = some (.int .i64 t) := fun u hu => (cell_of ((hu.block _ (lt_of_heap h.box)).trans h.box)).trans rfl
  have c2 : ∀ u, Below w.heap.size w u → u.cell? ⟨g, 2, none⟩ = some (.int .i64 s) := fun u hu => (cell_of ((hu.block _ (lt_of_heap h.box)).trans h.box)).trans rfl
  have C3 : Hid (∀ u, Below w.heap.size w u → u.cell? ⟨g, 3, none⟩ = some (.int .i64 seq)) := (show ∀ u, Below w.heap.size w u → _ from fun u hu => (cell_of ((hu.block _ (lt_of_heap h.box)).trans h.box)).trans rfl)
  obtain ⟨wa, hwa⟩ : ∃ wa, wa = w.alloc (.cells #[.int .i64 f, .int .i64 t, .int .i64 s, .int .i64 k, .int .i64 tm, .bool true, .slice none 0 0, .int .i64 0, .slice none 0 0] 37) := ⟨_, rfl⟩
  have hba : Below w.heap.size w wa := by rw [hwa]; exact below_alloc _ _
  have a0 := c0 wa hba
  have a1 := c1 wa hba
  have a2 := c2 wa hba
  have CB := hid (fun u => copy_beat f t s k tm u)
  have HR := hid h
  have HK := hid hk
  have HCM := hid hcM
  have HCZ := hid hcz
  unfold beat9 at BE CB ⊢
  have C0 := hid c0
  have C1 := hid c1
  have C2 := hid c2
  clear h hk c0 c1 c2 hkn hcM hcz
  go_enter Tryd.func11, Tryd.ntmps11
  go_wp2_with fail
  rw [← hwa]
  have hX : wa.heap[w.heap.size]? = some (.cells #[.int .i64 f, .int .i64 t, .int .i64 s, .int .i64 k, .int .i64 tm, .bool true, .slice none 0 0, .int .i64 0, .slice none 0 0] 37 (0, 0)) := by rw [hwa]; exact heap_new _ _
  have HELD : Hid (∀ u, Below wa.heap.size wa u → u.cell? ⟨g, 0, none⟩ = some (.int .i64 f) ∧ u.cell? ⟨g, 1, none⟩ = some (.int .i64 t) ∧ u.cell? ⟨g, 2, none⟩ = some (.int .i64 s) ∧ u.cell? ⟨w.heap.size, 0, none⟩ = some (.int .i64 f) ∧ u.cell? ⟨w.heap.size, 1, none⟩ = some (.int .i64 t) ∧ u.cell? ⟨w.heap.size, 2, none⟩ = some (.int .i64 s) ∧ u.cell? ⟨w.heap.size, 3, none⟩ = some (.int .i64 k) ∧ u.cell? ⟨w.heap.size, 4, none⟩ = some (.int .i64 tm) ∧ u.cell? ⟨w.heap.size, 5, none⟩ = some (.bool true) ∧ u.cell? ⟨w.heap.size, 6, none⟩ = some (.slice none 0 0) ∧ u.cell? ⟨w.heap.size, 7, none⟩ = some (.int .i64 0) ∧ u.cell? ⟨w.heap.size, 8, none⟩ = some (.slice none 0 0)) := fun u hu => by
    have hq := (hu.block _ (lt_of_heap hX)).trans hX
    have hz : Below w.heap.size w u := hba.trans (hu.mono hba.size)
    exact ⟨C0.out u hz, C1.out u hz, C2.out u hz, (cell_of hq).trans rfl, (cell_of hq).trans rfl, (cell_of hq).trans rfl, (cell_of hq).trans rfl, (cell_of hq).trans rfl, (cell_of hq).trans rfl, (cell_of hq).trans rfl, (cell_of hq).trans rfl, (cell_of hq).trans rfl⟩
  have hdr : Below wa.heap.size wa wa.drew := (Below.refl _ _).drew
  have BA := hid hba
  have XA := hid hX
  clear hwa hX a0 a1 a2 hba
  go_region_held (fun u => u.cell? ⟨g, 0, none⟩ = some (.int .i64 f) ∧ u.cell? ⟨g, 1, none⟩ = some (.int .i64 t) ∧ u.cell? ⟨g, 2, none⟩ = some (.int .i64 s) ∧ u.cell? ⟨w.heap.size, 0, none⟩ = some (.int .i64 f) ∧ u.cell? ⟨w.heap.size, 1, none⟩ = some (.int .i64 t) ∧ u.cell? ⟨w.heap.size, 2, none⟩ = some (.int .i64 s) ∧ u.cell? ⟨w.heap.size, 3, none⟩ = some (.int .i64 k) ∧ u.cell? ⟨w.heap.size, 4, none⟩ = some (.int .i64 tm) ∧ u.cell? ⟨w.heap.size, 5, none⟩ = some (.bool true) ∧ u.cell? ⟨w.heap.size, 6, none⟩ = some (.slice none 0 0) ∧ u.cell? ⟨w.heap.size, 7, none⟩ = some (.int .i64 0) ∧ u.cell? ⟨w.heap.size, 8, none⟩ = some (.slice none 0 0)) ((refine HELD.out _ ?_; with_reducible assumption)) (first | (go_at_call 35; refine (BE.out _).mono ?_; rintro e w' ⟨rfl, hbw⟩; replace hbw : Below wa.heap.size wa w' := below_undrew hbw))
  obtain ⟨_, _, _, _, _, _, d3, d4, _, _, _, _⟩ := HELD.out _ hbw
  have B1 := hid hbw
  clear hbw hdr
  have h1k : ¬ k < 1 := by omega
  go_wp2_with (first | (go_at_call 33; refine (IT.out _).mono ?_; rintro e w2 ⟨rfl, rfl⟩))
  have hb2 := BA.out.trans (B1.out.mono BA.out.size)
  refine (KN.out _ hb2).mono ?_
  rintro e w3 ⟨rfl, hb3⟩
  have B3 := hid (hb2.trans (hb3.mono hb2.size))
  have D3 : Hid (w3.cell? ⟨w.heap.size, 3, none⟩ = some (.int .i64 k)) := (show _ = _ from by rw [hb3.cell (p := ⟨w.heap.size, 3, none⟩) (lt_of_cell d3)]; exact d3)
  have BB3 := hid (B1.out.trans (hb3.mono B1.out.size))
  clear hb2 hb3
  have c3 : w3.cell? ⟨g, 3, none⟩ = some (.int .i64 seq) := C3.out _ B3.out
  have d3' : w3.cell? ⟨w.heap.size, 3, none⟩ = some (.int .i64 k) := D3.out
  have wr1 : IntKind.i64.wrap (seq + 1) = seq + 1 := wrap_num ⟨by omega, by omega⟩
  have wr2 : IntKind.i64.wrap (k - (seq + 1)) = k - (seq + 1) := wrap_num ⟨by omega, by omega⟩
  have wr3 : ¬ 200 < k - (seq + 1) := by omega
  go_wp2_with fail
  go_region
  generalize hw4 : World.drew _ = w4
  have B4 : Hid (Below w.heap.size w w4) := (show Below _ _ _ from by rw [← hw4]; exact B3.out.drew)
  have hX4 : w4.heap[w.heap.size]? = some (.cells #[.int .i64 f, .int .i64 t, .int .i64 s, .int .i64 k, .int .i64 tm, .bool true, .slice none 0 0, .int .i64 0, .slice none 0 0] 37 (0, 0)) := by
    rw [← hw4]
    exact (BB3.out.block _ (lt_of_heap XA.out)).trans XA.out
  clear hw4 c3 d3'
  have hgl := lt_of_heap HR.out.box
  have hml : mb < w.heap.size := by obtain ⟨D, hm, _⟩ := HR.out.map; exact hm.lt
  have hG4 := (B4.out.block _ hgl).trans HR.out.box
  have hsz4 := B4.out.size
  have hl4 := lt_of_heap hX4
  have HELD : Hid (∀ u : World, u.heap[g]? = w4.heap[g]? → u.heap[w.heap.size]? = w4.heap[w.heap.size]? → u.cell? ⟨g, 5, none⟩ = some (.map (some mb)) ∧ u.cell? ⟨w.heap.size, 0, none⟩ = some (.int .i64 f) ∧ u.cell? ⟨w.heap.size, 1, none⟩ = some (.int .i64 t) ∧ u.cell? ⟨w.heap.size, 2, none⟩ = some (.int .i64 s) ∧ u.cell? ⟨w.heap.size, 3, none⟩ = some (.int .i64 k) ∧ u.cell? ⟨w.heap.size, 4, none⟩ = some (.int .i64 tm) ∧ u.cell? ⟨w.heap.size, 5, none⟩ = some (.bool true) ∧ u.cell? ⟨w.heap.size, 6, none⟩ = some (.slice none 0 0) ∧ u.cell? ⟨w.heap.size, 7, none⟩ = some (.int .i64 0) ∧ u.cell? ⟨w.heap.size, 8, none⟩ = some (.slice none 0 0)) := (show ∀ u : World, _ from fun u p1 p2 => by
    have hq := p2.trans hX4
    have hg := p1.trans hG4
    exact ⟨(cell_of hg).trans rfl, (cell_of hq).trans rfl, (cell_of hq).trans rfl, (cell_of hq).trans rfl, (cell_of hq).trans rfl, (cell_of hq).trans rfl, (cell_of hq).trans rfl, (cell_of hq).trans rfl, (cell_of hq).trans rfl, (cell_of hq).trans rfl⟩)
  have ST : Hid (∀ u, Below w4.heap.size w4 u → ∃ w6, (Instr.mapUpdate 87 (.map (some mb)) (.int .i64 k) (.agg #[.int .i64 f, .int .i64 t, .int .i64 s, .int .i64 k, .int .i64 tm, .bool true, .slice none 0 0, .int .i64 0, .slice none 0 0])).run Tryd.prog u = .ok () w6 ∧ Rcv w6 g mb (n + 1) f t s seq time (updB M k (some tm)) ∧ OnlyR g mb w w6 ∧ w6.heap[g]? = w4.heap[g]? ∧ w6.heap[w.heap.size]? = w4.heap[w.heap.size]?) := (show ∀ u, _ → _ from fun u hu => by
    have hbu := B4.out.trans (hu.mono hsz4)
    obtain ⟨D, hD, hMB⟩ := (HR.out.moved (hbu.block _ hgl) (hbu.block _ hml)).map
    obtain ⟨w6, r1, r2, r3⟩ := hD.store keyed3 Tryd.underlying87 (by unfold maxLen; omega) (key_num HK.out) (bareElem_mk f t s k tm true)
    have hgr := r3.grown
    have hus := hu.size
    have hbl : ∀ q, q < u.heap.size → q ≠ mb → w6.heap[q]? = u.heap[q]? := fun q q1 q2 => hgr.block q q1 fun he => q2 (Option.some.inj he)
    have e1 : w6.heap[g]? = w4.heap[g]? := (hbl g (by omega) hgm).trans (hu.block _ (by omega))
    refine ⟨w6, r1, ⟨e1.trans hG4, _, r2, hMB.put hD.isMap k tm⟩, ⟨hgr.os.trans hbu.os, hgr.tape.trans hbu.tape, hgr.output.trans hbu.output, by have := hgr.size; have := hbu.size; omega, fun q q1 q2 q3 => (hbl q (by omega) q3).trans (hbu.block q q1)⟩, e1, (hbl _ (by omega) (by omega)).trans (hu.block _ hl4)⟩)
  clear hX4 hG4 hsz4
  go_wp2_with fail
  go_region_held (fun u => u.cell? ⟨g, 5, none⟩ = some (.map (some mb)) ∧ u.cell? ⟨w.heap.size, 0, none⟩ = some (.int .i64 f) ∧ u.cell? ⟨w.heap.size, 1, none⟩ = some (.int .i64 t) ∧ u.cell? ⟨w.heap.size, 2, none⟩ = some (.int .i64 s) ∧ u.cell? ⟨w.heap.size, 3, none⟩ = some (.int .i64 k) ∧ u.cell? ⟨w.heap.size, 4, none⟩ = some (.int .i64 tm) ∧ u.cell? ⟨w.heap.size, 5, none⟩ = some (.bool true) ∧ u.cell? ⟨w.heap.size, 6, none⟩ = some (.slice none 0 0) ∧ u.cell? ⟨w.heap.size, 7, none⟩ = some (.int .i64 0) ∧ u.cell? ⟨w.heap.size, 8, none⟩ = some (.slice none 0 0)) ((refine HELD.out _ ?_ ?_ <;> first | with_reducible assumption | rfl)) (first | (go_at_call 37; refine (CB.out _).mono ?_; rintro e w5 ⟨rfl, hb5⟩; obtain ⟨w6, hrun6, hrc6, hon6, s3, s4⟩ := ST.out w5 (below_undrew hb5); have s1 : w5.heap[g]? = w4.heap[g]? := hb5.block _ (show g < w4.heap.size by omega); have s2 : w5.heap[w.heap.size]? = w4.heap[w.heap.size]? := hb5.block _ hl4; have RC6 := hid hrc6; have ON6 := hid hon6; clear hrc6 hon6 hb5))
  have CO := hid (come_ok w6 g mb (n + 1) c f t s seq time (updB M k (some tm)) ts RC6.out hgm h0 hc1 HCM.out HCZ.out)
  clear hrun6 s1 s2 s3 s4
  go_wp2_with fail
  refine CO.out.mono ?_
  rintro e w7 ⟨v7, rfl, hr7, hc7, ho7⟩
  have R7 := hid hr7
  have C7 := hid hc7
  have O7 := hid ho7
  clear hr7 hc7 ho7
  go_wp2
  go_ret2
  exact ⟨_, rfl, owns_base R7.out ON6.out.size, C7.out, ⟨O7.out.os.trans ON6.out.os, O7.out.tape.trans ON6.out.tape, O7.out.output.trans ON6.out.output, Nat.le_trans ON6.out.size O7.out.size, fun q q1 q2 q3 => (O7.out.block q (Nat.lt_of_lt_of_le q1 ON6.out.size) q2 q3).trans (ON6.out.block q q1 q2 q3)⟩⟩
end Go.Proofs.YtcojglkjbbgoaaaDoor
namespace Go.Proofs.YtcojglkjbbgoaaaDoor
open Go.RowKit Go.Maps
set_option maxRecDepth 100000

/-- What is kept, where c of n have come: numbers above c, each with its time; the next one is not there. -/
structure Kept (n c : Nat) (M : Int → Option Int) : Prop where
  cn : c ≤ n
  real : ∀ j tm, M j = some tm → (c : Int) < j ∧ j ≤ (n : Int) ∧ tm = j - 1
  next : M ((c : Int) + 1) = none
theorem Kept.start (n : Nat) : Kept n 0 fun _ => none := ⟨Nat.zero_le _, (fun _ _ h => by cases h), rfl⟩
/-- How many come in a row. -/
theorem run_of (M : Int → Option Int) (n : Nat) (hM : ∀ j tm, M j = some tm → j ≤ (n : Int) ∧ tm = j - 1) : ∀ (d c : Nat), c + d = n → ∃ x : Nat, c + x ≤ n ∧ (∀ i : Nat, i < x → M ((c : Int) + (i + 1 : Nat)) = some ((c : Int) + i)) ∧ M ((c : Int) + (x + 1 : Nat)) = none
  | 0, c, h => ⟨0, by omega, fun i hi => by omega, by
    cases e : M ((c : Int) + (0 + 1 : Nat)) with
    | none => rfl
    | some tm => have := (hM _ _ e).1; omega⟩
  | d + 1, c, h => by
    cases e : M ((c : Int) + 1) with
    | none => exact ⟨0, by omega, fun i hi => by omega, e⟩
    | some tm =>
      obtain ⟨x, h1, h2, h3⟩ := run_of M n hM d (c + 1) (by omega)
      refine ⟨x + 1, by omega, fun i hi => ?_, ?_⟩
      · cases i with
        | zero =>
          have := (hM _ _ e).2
          rw [show (c : Int) + (0 + 1 : Nat) = (c : Int) + 1 by omega, e]
          congr 1
          omega
        | succ i =>
          rw [show (c : Int) + (i + 1 + 1 : Nat) = ((c + 1 : Nat) : Int) + (i + 1 : Nat) by omega, h2 i (by omega)]
          congr 1
          omega
      · rw [show (c : Int) + (x + 1 + 1 : Nat) = ((c + 1 : Nat) : Int) + (x + 1 : Nat) by omega]
        exact h3
/-- All of 1 to m have come, or are kept. -/
def Heard (m c : Nat) (M : Int → Option Int) : Prop := ∀ j : Int, 1 ≤ j → j ≤ (m : Int) → j ≤ (c : Int) ∨ (M j).isSome = true
theorem Kept.hear {n c : Nat} {M : Int → Option Int} (h : Kept n c M) (k : Nat) (hk : k < n) (hnew : ((M ((k : Int) + 1)).isSome || decide ((k : Int) + 1 ≤ c)) = false) :
    ∃ x : Nat, c + x ≤ n ∧ (∀ i : Nat, i < x → updB M ((k : Int) + 1) (some (k : Int)) ((c : Int) + (i + 1 : Nat)) = some ((c : Int) + i)) ∧ updB M ((k : Int) + 1) (some (k : Int)) ((c : Int) + (x + 1 : Nat)) = none ∧ Kept n (c + x) (comeM (updB M ((k : Int) + 1) (some (k : Int))) c x) ∧
      (∀ j : Int, 1 ≤ j → (j ≤ (c : Int) ∨ (M j).isSome = true ∨ j = (k : Int) + 1) → j ≤ ((c + x : Nat) : Int) ∨ (comeM (updB M ((k : Int) + 1) (some (k : Int))) c x j).isSome = true) := by
  have hM : ∀ j tm, updB M ((k : Int) + 1) (some (k : Int)) j = some tm → j ≤ (n : Int) ∧ tm = j - 1 := fun j tm e => by
    unfold updB at e
    by_cases q : j = (k : Int) + 1
    · rw [if_pos q] at e
      have := Option.some.inj e
      omega
    · rw [if_neg q] at e
      exact (h.real j tm e).2
  have hkc : ¬ (k : Int) + 1 ≤ c := by
    intro hc
    rw [decide_eq_true hc, Bool.or_true] at hnew
    cases hnew
  obtain ⟨x, h1, h2, h3⟩ := run_of _ n hM (n - c) c (by have := h.cn; omega)
  refine ⟨x, h1, h2, h3, ⟨h1, fun j tm e => ?_, ?_⟩, fun j hj hor => ?_⟩
  · unfold comeM at e
    by_cases q : (c : Int) < j ∧ j ≤ (c : Int) + x
    · rw [if_pos q] at e; cases e
    · rw [if_neg q] at e
      have h5 := hM _ _ e
      refine ⟨?_, h5⟩
      have : (c : Int) < j := by
        unfold updB at e
        by_cases q2 : j = (k : Int) + 1
        · omega
        · rw [if_neg q2] at e
          exact (h.real j tm e).1
      omega
  · rw [show ((c + x : Nat) : Int) + 1 = (c : Int) + (x + 1 : Nat) by omega, comeM_next]
    exact h3
  · by_cases q : j ≤ ((c + x : Nat) : Int)
    · exact .inl q
    · right
      unfold comeM
      rw [if_neg (by omega)]
      unfold updB
      by_cases q2 : j = (k : Int) + 1
      · rw [if_pos q2]; rfl
      · rw [if_neg q2]
        rcases hor with h6 | h6 | h6
        · omega
        · exact h6
        · exact absurd h6 q2
theorem Kept.all {n c : Nat} {M : Int → Option Int} (h : Kept n c M) (ha : Heard n c M) : c = n := by
  have := h.cn
  by_cases q : c = n
  · exact q
  · rcases ha ((c : Int) + 1) (by omega) (by omega) with h1 | h1
    · omega
    · rw [h.next] at h1; cases h1
/-- What is sent: number i + 1 at time i. -/
def sentL (n : Nat) : List (Int × Int) := (List.range n).map fun i : Nat => ((i : Int) + 1, (i : Int))
theorem sentL_len (n : Nat) : (sentL n).length = n := by simp [sentL]
theorem sentL_succ (n : Nat) : sentL (n + 1) = sentL n ++ [((n : Int) + 1, (n : Int))] := by simp [sentL, List.range_succ]
theorem sentL_at {n k : Nat} (h : k < n) : (sentL n)[k]? = some ((k : Int) + 1, (k : Int)) := by simp [sentL, h]
theorem comeL_at {c x j : Nat} (h : j < x) : (comeL (c : Int) (fun i : Nat => (c : Int) + i) x)[j]? = some ((c : Int) + (j + 1 : Nat), (c : Int) + j) := by simp [comeL, h]
end Go.Proofs.YtcojglkjbbgoaaaDoor
namespace Go.Proofs.YtcojglkjbbgoaaaDoor
open Go.RowKit Go.Maps
set_option maxRecDepth 100000

theorem way010 : WayOk 0 1 0 := ⟨by omega, by omega, by omega, by omega, by omega, by omega, by omega⟩
theorem snd_start {w : World} {g : Nat} {f t s : Int} (h : SndBox w g f t s 0 0 (.slice none 0 0)) : Snd w g f t s 0 0 (.slice none 0 0) [] := ⟨h, World.ownsRow_nil _ _ _ _⟩
set_option maxHeartbeats 2000000 in
theorem sent_ok (w : World) : Calls Tryd.prog 7 #[] w fun e w' => e = .returned (.bool true) ∧ Below w.heap.size w w' := by
  go_enter Tryd.func7, Tryd.ntmps7
  go_wp2_with fail
  refine (newSender_ok 0 1 0 _ way010).mono ?_
  rintro e w1 ⟨g, hg, rfl, hs1, hb1⟩
  have S1 := hid (snd_start hs1)
  have B1 := hid hb1
  clear hs1 hb1
  go_wp2_with fail
  refine (beat_ok w1 g 0 1 0 0 0 5 _ [] S1.out (by simp) (by omega) (by omega) (by omega) (by omega) (by omega)).mono ?_
  rintro e w2 ⟨v2, rfl, hs2, ho2, hv2⟩
  have S2 := hid hs2
  have B2 : Hid (Below w.heap.size w w2) := (show Below _ _ _ from ⟨ho2.os.trans B1.out.os, ho2.tape.trans B1.out.tape, ho2.output.trans B1.out.output, Nat.le_trans B1.out.size ho2.size, fun k hk => (ho2.block k (Nat.lt_of_lt_of_le hk B1.out.size) (by omega) (by intro h; cases h)).trans (B1.out.block k hk)⟩)
  clear hs2 ho2 hv2
  unfold beat9
  go_wp2_with fail
  refine (again_ok _ g 0 1 0 (0 + 1) 5 v2 _ (S2.out.moved (below_alloc _ _)) (by simp)).mono ?_
  rintro e w3 ⟨v3, rfl, hr3, hb3⟩
  obtain ⟨a3, c3, rfl⟩ := row_shape hr3
  have hb3' : Below w.heap.size w w3 := by
    have hba := B2.out.alloc B2.out.size (.cells #[.int .i64 0, .int .i64 1, .int .i64 0, .int .i64 1, .int .i64 5, .bool true, .slice none 0 0, .int .i64 0, .slice none 0 0] 37)
    exact hba.trans (hb3.mono hba.size)
  have B3 := hid hb3'
  clear hr3 hb3 hb3'
  go_wp2
  go_ret
  exact ⟨rfl, B3.out⟩
end Go.Proofs.YtcojglkjbbgoaaaDoor
namespace Go.Proofs.YtcojglkjbbgoaaaDoor
open Go.RowKit Go.Maps
set_option maxRecDepth 100000

/-- The slice v reads, in the world w, as the numbers zs. -/
def IntsAt (w : World) (v : Value) (zs : List Int) : Prop :=
  ∃ ad cap, v = .slice ad zs.length cap ∧ (ad = none → cap = 0) ∧ (zs = [] ∨ ∃ b off, ad = some ⟨b, off, none⟩ ∧ ∀ t, t < zs.length → w.cell? ⟨b, off + t, none⟩ = some (.int .i64 (zs.getD t 0)))
/-- w: the world of the call. B: what lies at B or above is a row. g: the sender, g2: the receiver, mb: its map; a: so many were sent; b: so many lie in the row xv; c have come, M is kept. -/
structure Com (w : World) (B g g2 mb : Nat) (f t s : Int) (a b q : Nat) (c : Int) (M : Int → Option Int) (sv xv : Value) (wr : World) : Prop where
  g0 : w.heap.size ≤ g
  g1 : g < B
  h0 : w.heap.size ≤ g2
  h1 : g2 < B
  m0 : w.heap.size ≤ mb
  m1 : mb < B
  n1 : g ≠ g2
  n2 : g ≠ mb
  n3 : g2 ≠ mb
  bs : B ≤ wr.heap.size
  snd : ∃ tm, 0 ≤ tm ∧ tm ≤ (a : Int) ∧ Snd wr g f t s a tm sv (sentL a)
  sb : ∀ k, sv.ownBlock = some k → B ≤ k
  row : wr.ownsRow B 37 9 xv b (beats f t s (sentL b))
  apart : ∀ k, sv.ownBlock = some k → xv.ownBlock ≠ some k
  rcv : ∃ tm, Rcv wr g2 mb q f t s c tm M
  below : Below w.heap.size w wr
theorem Rcv.mlt {w : World} {g mb n : Nat} {f t s seq time : Int} {M : Int → Option Int} (h : Rcv w g mb n f t s seq time M) : mb < w.heap.size := by obtain ⟨D, hm, _⟩ := h.map; exact hm.lt
theorem Com.moved {w : World} {B g g2 mb : Nat} {f t s : Int} {a b q : Nat} {c : Int} {M : Int → Option Int} {sv xv : Value} {wr w' : World} (h : Com w B g g2 mb f t s a b q c M sv xv wr) (hb : Below wr.heap.size wr w') : Com w B g g2 mb f t s a b q c M sv xv w' := by
  obtain ⟨g0, g1, h0, h1, m0, m1, n1, n2, n3, bs, ⟨tm, t0, t1, snd⟩, sb, row, apart, ⟨tr, rcv⟩, below⟩ := h
  exact ⟨g0, g1, h0, h1, m0, m1, n1, n2, n3, Nat.le_trans bs hb.size, ⟨tm, t0, t1, snd.moved hb⟩, sb, owns_at row fun k _ h2 => hb.block k h2, apart, ⟨tr, rcv.moved (hb.block _ (lt_of_heap rcv.box)) (hb.block _ rcv.mlt)⟩, below.trans (hb.mono below.size)⟩
/-- Once more the sender sends. -/
theorem Com.beat {w : World} {B g g2 mb : Nat} {f t s : Int} {a b q : Nat} {c : Int} {M : Int → Option Int} {sv sv' xv : Value} {wr w' : World} (h : Com w B g g2 mb f t s a b q c M sv xv wr) (hs : Snd w' g f t s ((a : Int) + 1) a sv' (sentL a ++ [((a : Int) + 1, (a : Int))])) (ho : OnlyS g sv wr w') (hv : sv'.ownBlock = sv.ownBlock ∨ ∃ k, sv'.ownBlock = some k ∧ wr.heap.size ≤ k) :
    Com w B g g2 mb f t s (a + 1) b q c M sv' xv w' := by
  obtain ⟨g0, g1, h0, h1, m0, m1, n1, n2, n3, bs, ⟨tm, t0, t1, snd⟩, sb, row, apart, ⟨tr, rcv⟩, below⟩ := h
  have hr : ∀ k, k < B → sv.ownBlock ≠ some k := fun k hk e => by have := sb k e; omega
  refine ⟨g0, g1, h0, h1, m0, m1, n1, n2, n3, Nat.le_trans bs ho.size, ⟨a, by omega, by omega, ?_⟩, fun k hk => ?_, ?_, fun k hk => ?_, ⟨tr, rcv.moved (ho.block _ (lt_of_heap rcv.box) n1.symm (hr _ h1)) (ho.block _ rcv.mlt n2.symm (hr _ m1))⟩, ⟨ho.os.trans below.os, ho.tape.trans below.tape, ho.output.trans below.output, Nat.le_trans below.size ho.size, fun k hk => (ho.block k (Nat.lt_of_lt_of_le hk below.size) (by omega) (hr k (by omega))).trans (below.block k hk)⟩⟩
  · rw [sentL_succ]; exact hs
  · rcases hv with hv | ⟨j, hv, hj⟩
    · exact sb k (hv.symm.trans hk)
    · have := Option.some.inj (hv.symm.trans hk); omega
  · refine owns_own row fun k hk => ?_
    have hl := row.lt k hk
    exact ho.block k hl.2 (by omega) fun e => apart k e hk
  · rcases hv with hv | ⟨j, hv, hj⟩
    · exact apart k (hv.symm.trans hk)
    · intro e
      have h3 := Option.some.inj (hv.symm.trans hk)
      have hl := row.lt k e
      omega
/-- What was sent is put behind the row. -/
theorem Com.put {w : World} {B g g2 mb : Nat} {f t s : Int} {a b q : Nat} {c : Int} {M : Int → Option Int} {sv xv xv' : Value} {wr w' : World} {o : Obj} (h : Com w B g g2 mb f t s a b q c M sv xv wr) (hr : w'.ownsRow B 37 9 xv' (b + 1) (beats f t s (sentL b) ++ beat9 f t s ((b : Int) + 1) b)) (hg : (wr.alloc o).grownBy w' xv.ownBlock) (hv : xv'.ownBlock = xv.ownBlock ∨ xv'.ownBlock = some (wr.alloc o).heap.size) :
    Com w B g g2 mb f t s a (b + 1) q c M sv xv' w' := by
  obtain ⟨g0, g1, h0, h1, m0, m1, n1, n2, n3, bs, ⟨tm, t0, t1, snd⟩, sb, row, apart, ⟨tr, rcv⟩, below⟩ := h
  have keep : ∀ k, k < wr.heap.size → xv.ownBlock ≠ some k → w'.heap[k]? = wr.heap[k]? := fun k hk hkv => by
    rw [hg.block k (by simp; omega) hkv.symm, Below.heap_alloc _ _ _ hk]
  have hx : ∀ k, k < B → xv.ownBlock ≠ some k := fun k hk e => by have := (row.lt k e).1; omega
  have hsz : wr.heap.size ≤ w'.heap.size := by have := hg.size; simp at this; omega
  refine ⟨g0, g1, h0, h1, m0, m1, n1, n2, n3, Nat.le_trans bs hsz, ⟨tm, t0, t1, ⟨?_, ?_⟩⟩, sb, ?_, fun k hk => ?_, ⟨tr, rcv.moved (keep _ (lt_of_heap rcv.box) (hx _ h1)) (keep _ rcv.mlt (hx _ m1))⟩, ⟨hg.os.trans below.os, hg.tape.trans below.tape, hg.output.trans below.output, Nat.le_trans below.size hsz, fun k hk => (keep k (Nat.lt_of_lt_of_le hk below.size) (hx k (by omega))).trans (below.block k hk)⟩⟩
  · rw [keep g (by omega) (hx g g1)]; exact snd.box
  · exact owns_own snd.row fun k hk => keep k (snd.row.lt k hk).2 (apart k hk)
  · rw [sentL_succ, beats_snoc]; exact hr
  · rcases hv with hv | hv
    · rw [hv]; exact apart k hk
    · intro e
      have h3 := Option.some.inj (hv.symm.trans e)
      have hl := (snd.row.lt k hk).2
      simp at h3
      omega
/-- The receiver has heard. -/
theorem Com.hear {w : World} {B g g2 mb : Nat} {f t s : Int} {a b q q' : Nat} {c c' tm : Int} {M M' : Int → Option Int} {sv xv : Value} {wr w' : World} (h : Com w B g g2 mb f t s a b q c M sv xv wr) (hr : Rcv w' g2 mb q' f t s c' tm M') (ho : OnlyR g2 mb wr w') : Com w B g g2 mb f t s a b q' c' M' sv xv w' := by
  obtain ⟨g0, g1, h0, h1, m0, m1, n1, n2, n3, bs, ⟨ts, t0, t1, snd⟩, sb, row, apart, ⟨tr, rcv⟩, below⟩ := h
  refine ⟨g0, g1, h0, h1, m0, m1, n1, n2, n3, Nat.le_trans bs ho.size, ⟨ts, t0, t1, ⟨?_, ?_⟩⟩, sb, ?_, apart, ⟨tm, hr⟩, ⟨ho.os.trans below.os, ho.tape.trans below.tape, ho.output.trans below.output, Nat.le_trans below.size ho.size, fun k hk => (ho.block k (Nat.lt_of_lt_of_le hk below.size) (by omega) (by omega)).trans (below.block k hk)⟩⟩
  · rw [ho.block g (by omega) n1 n2]; exact snd.box
  · exact owns_own snd.row fun k hk => ho.block k (snd.row.lt k hk).2 (by have := sb k hk; omega) (by have := sb k hk; omega)
  · exact owns_own row fun k hk => ho.block k (row.lt k hk).2 (by have := (row.lt k hk).1; omega) (by have := (row.lt k hk).1; omega)
theorem Com.start {w w1 w2 : World} {g g2 mb : Nat} {f t s : Int} (hg : w.heap.size ≤ g) (h1 : SndBox w1 g f t s 0 0 (.slice none 0 0)) (hb1 : Below w.heap.size w w1) (hg2 : w1.heap.size ≤ g2) (hm : w1.heap.size ≤ mb) (hne : g2 ≠ mb) (h2 : Rcv w2 g2 mb 0 f t s 0 0 (fun _ => none)) (hb2 : Below w1.heap.size w1 w2) :
    Com w w2.heap.size g g2 mb f t s 0 0 0 0 (fun _ => none) (.slice none 0 0) (.slice none 0 0) w2 := by
  have l1 := lt_of_heap h1
  have l2 := lt_of_heap h2.box
  have l3 := h2.mlt
  have s1 := hb1.size
  have s2 := hb2.size
  exact ⟨hg, by omega, by omega, l2, by omega, l3, by omega, by omega, hne, Nat.le_refl _, ⟨0, by omega, by omega, (snd_start h1).moved hb2⟩, (fun k hk => by cases hk), World.ownsRow_nil _ _ _ _, (fun k hk => by cases hk), ⟨0, h2⟩, hb1.trans (hb2.mono s1)⟩
end Go.Proofs.YtcojglkjbbgoaaaDoor
