/- Commit of one op at a place of two. -/
import Derived.Test.YtefpnojanldkeaaDoorJPM
namespace Go.Proofs.YtefpnojanldkeaaDoor
open Go.RowKit Go.Maps
set_option maxRecDepth 100000
set_option linter.unusedSectionVars false
variable [Inhabited ComV] [DecidableEq D3] [Inhabited D3] [Inhabited Dn] [Inhabited OpV]

/-- Behind commitOf: the commit's box. -/
structure CmJ (w wx : World) (cb : Nat) (a3 a4 : Option Addr) (c3 c4 : Nat) : Prop where
  box : wx.heap[cb]? = some (.cells #[.slice a3 2 c3, .int .i64 0, .slice a4 1 c4] 37 (0, 0))
  com : ComOwn w.heap.size wx (.slice a3 2 c3) (.slice a4 1 c4) comK
  lt : w.heap.size < cb
  res : wx.heap[w.heap.size]? = some (.cells #[.slice none 0 0, .int .i64 0, .slice none 0 0] 37 (0, 0))
  below : Below w.heap.size w wx
theorem turn_cells {w w' : World} {p mb db n : Nat} {s : St} {f' : ByteArray → Value} (hV : VerAt w p mb db (fun _ => .slice none 0 0) s n) (hT : Turn w w' mb db (fun _ => .slice none 0 0) f') {x : Nat} {cs : Array Value} {t : TypeId} (hx : w.heap[x]? = some (.cells cs t (0, 0))) : w'.heap[x]? = some (.cells cs t (0, 0)) := by
  obtain ⟨D, h1, _⟩ := hV.map
  obtain ⟨D', h2, _⟩ := hV.dots
  exact (hT.block x (lt_of_heap hx) (cells_ne_map h1 hx) (cells_ne_map h2 hx) (fun k => by simp [Value.ownBlock])).trans hx
theorem PlA.put {w w' : World} {p mb db n : Nat} {s : St} {f' : ByteArray → Value} (hV : VerAt w p mb db (fun _ => .slice none 0 0) s n) (hT : Turn w w' mb db (fun _ => .slice none 0 0) f') {pb lb b g gr gm : Nat} {ck : Int} (h : PlA w pb p lb b g gr gm ck) (h1 : gm ≠ mb) (h2 : gm ≠ db) : PlA w' pb p lb b g gr gm ck :=
  ⟨turn_cells hV hT h.box, turn_cells hV hT h.lines, turn_cells hV hT h.line, turn_cells hV hT h.snd, h.rcv.moved ((turn_cells hV hT h.rcv.box).trans h.rcv.box.symm) (hT.block _ h.rcv.mlt h1 h2 (fun k => by simp [Value.ownBlock]))⟩
theorem PlA.tick {w : World} {pb p lb b g gr gm : Nat} {ck : Int} (h : PlA w pb p lb b g gr gm ck) (c' : Int) : PlA (w.setCell ⟨pb, 2, none⟩ (.int .i64 c')) pb p lb b g gr gm c' := by
  have ne : ∀ {x : Nat} {cs : Array Value} {t : TypeId}, w.heap[x]? = some (.cells cs t (0, 0)) → t ≠ 60 → (w.setCell ⟨pb, 2, none⟩ (.int .i64 c')).heap[x]? = w.heap[x]? := fun hx ht => Below.heap_setCell _ _ _ _ (cell_ne hx h.box ht)
  obtain ⟨D, hm, _⟩ := h.rcv.map
  exact ⟨(heap_set h.box _).trans rfl, (ne h.lines (by decide)).trans h.lines, (ne h.line (by decide)).trans h.line, (ne h.snd (by decide)).trans h.snd, h.rcv.moved (ne h.rcv.box (by decide)) (Below.heap_setCell _ _ _ _ (fun e => by obtain ⟨es, ck', hb, _⟩ := hm; rw [e, h.box] at hb; cases hb))⟩
theorem put_comK (A : Nat → Addr) (w : World) (hE : E4 A w) (h12 : 12 ≤ w.heap.size) {p mb db base : Nat} (hV : VerAt w p mb db (fun _ => .slice none 0 0) ⟨[0, 0], [], []⟩ 0) {a3 a4 : Option Addr} {c3 c4 : Nat} (ho : ComOwn base w (.slice a3 2 c3) (.slice a4 1 c4) comK) :
    Calls Tryd.prog 22 #[.pointer (some ⟨p, 0, none⟩), .agg #[.slice a3 2 c3, .int .i64 0, .slice a4 1 c4]] w fun e w' => PutRet ⟨[0, 0], [], []⟩ comK p mb db 0 (fun _ => .slice none 0 0) w e w' :=
  put_ok A w hE h12 p mb db 0 _ ⟨[0, 0], [], []⟩ hV (by decide) (fun k => by simp [rowOf]) comK _ _ (comT_own ho) (fun o h => by simp [comK] at h; rw [h]; unfold Small; decide) comK_comErr rfl (by decide) (by decide) (fun o _ => by simp)
theorem ret_cell_tmp2 {f : Func} {s t k s2 s3 : Nat} (hf : f.results = #[ResultVar.cell s t, ResultVar.tmp s2, ResultVar.tmp s3]) (hag : ∀ w, (isAgg t).run Tryd.prog w = .ok true w) (hsz : ∀ w, (sizeOf t).run Tryd.prog w = .ok k w) (w : World) (tmps : Array Value) (g : Nat) (vs : List Value) (v2 v3 : Value) (hk : vs.length = k) (h4 : tmps[s]?.getD undef = .pointer (some ⟨g, 0, none⟩)) (h5 : tmps[s2]?.getD undef = v2) (h6 : tmps[s3]?.getD undef = v3) (hc : ∀ j (hj : j < vs.length), w.cell? ⟨g, j, none⟩ = some vs[j]) :
    (results f tmps).run Tryd.prog w = .ok (.tuple #[.agg vs.toArray, v2, v3]) w := by
  have hl := run_loadCellsFrom_list Tryd.prog w ⟨g, 0, none⟩ vs k hk (fun j v hj => by
    obtain ⟨h1, h2⟩ := List.getElem?_eq_some_iff.1 hj
    rw [Addr.add_lit, Nat.zero_add, hc j h1, h2])
  simp [results, hf, h4, h5, h6, asAddr, loadVar, loadCells, hag, hsz, hl, Result.andThen]
theorem keeps_of3 {w w' : World} (h : Keep3 w w') : Keeps w w' := fun t ht b cs hc => by
  rcases ht with rfl | rfl | rfl
  · exact h.ints b cs hc
  · exact h.ops b cs hc
  · exact h.dots b cs hc
theorem keeps_but {w w' : World} {g : Nat} {cs : Array Value} {t : TypeId} (h : w.heap[g]? = some (.cells cs t (0, 0))) (h1 : 3 ≠ t) (h2 : 43 ≠ t) (h3 : 96 ≠ t) (hk : ∀ i, i < w.heap.size → i ≠ g → w'.heap[i]? = w.heap[i]?) : Keeps w w' := fun t' ht b cs hc => hk b (lt_of_heap hc) (cell_ne hc h (by rcases ht with rfl | rfl | rfl <;> assumption))
set_option maxHeartbeats 8000000 in
theorem commit_two (A : Nat → Addr) (B : Nat) (w : World) (hS : Sents A B w) (hE : E4 A w) (h12 : 12 ≤ w.heap.size) {pb p mb db lb b g gr gm : Nat} (h : PlA w pb p lb b g gr gm 0) (hV : VerAt w p mb db (fun _ => .slice none 0 0) ⟨[0, 0], [], []⟩ 0) (hgm1 : gm ≠ mb) (hgm2 : gm ≠ db) (hB : B ≤ pb ∧ B ≤ mb ∧ B ≤ db ∧ B ≤ g) (b1 b2 c1 c2 : Nat) (h1 : w.heap[b1]? = some (.cells #[.int .i64 0, .int .i64 0] 3 (0, 0))) (h2 : w.heap[b2]? = some (.cells opK.toArray 43 (0, 0))) :
    Calls Tryd.prog 10 #[.pointer (some ⟨pb, 0, none⟩), .slice (some ⟨b1, 0, none⟩) 2 c1, .slice (some ⟨b2, 0, none⟩) 1 c2] w fun e w' => ∃ (a3 a4 : Option Addr) (c3 c4 : Nat) (v : Value) (r : Raw), e = .returned (.tuple #[.agg #[.slice a3 2 c3, .int .i64 0, .slice a4 1 c4], v, .nilIface]) ∧ w'.ownsRow 0 45 9 v 1 r.cells ∧ r.x2 = 1 ∧ IntsAt w' (.slice a3 2 c3) [1, 0] ∧ (∃ cs, w'.heap[pb]? = some (.cells cs 60 (0, 0)) ∧ cs[2]? = some (.int .i64 1)) ∧ Below B w w' := by
  obtain ⟨w1, hw1⟩ : ∃ w1, w1 = w.alloc (.cells #[.slice none 0 0, .int .i64 0, .slice none 0 0] 37) := ⟨_, rfl⟩
  have d1 : Below w.heap.size w w1 := by rw [hw1]; exact below_alloc _ _
  have G1 : w1.heap[w.heap.size]? = some (.cells #[.slice none 0 0, .int .i64 0, .slice none 0 0] 37 (0, 0)) := by rw [hw1]; exact heap_new _ _
  have s1 : w1.heap.size = w.heap.size + 1 := by rw [hw1]; simp
  have hI : IntsAt w1 (.slice (some ⟨b1, 0, none⟩) 2 c1) [0, 0] := by
    have e := (d1.block _ (lt_of_heap h1)).trans h1
    refine ⟨_, _, rfl, by simp, .inr ⟨_, _, rfl, fun t ht => ?_⟩⟩
    have : t = 0 ∨ t = 1 := by simp at ht; omega
    rcases this with rfl | rfl
    · exact (cell_of e).trans rfl
    · exact (cell_of e).trans rfl
  have K20 := hid (checkAt_ok A w1 (hE.below d1 h12) (by omega) (h.moved d1) _ _ hI)
  have K21 := hid (fun W (hW : Below w.heap.size w W) => commitOf_one W b1 b2 c1 c2 ((hW.block _ (lt_of_heap h1)).trans h1) ((hW.block _ (lt_of_heap h2)).trans h2))
  have D1 := hid d1
  have HG1 := hid G1
  have S1 := hid s1
  have H := hid h
  have HV := hid hV
  have HS := hid hS
  have HE := hid hE
  clear d1 G1 s1 hI h hV hS hE h1 h2
  go_enter Tryd.func10, Tryd.ntmps10
  go_wp2_with fail
  rw [← hw1]
  clear hw1
  refine K20.out.mono ?_
  rintro e w2 ⟨rfl, hb2⟩
  have hd2 : Below w.heap.size w w2 := D1.out.trans (hb2.mono D1.out.size)
  have G2 := hid ((hb2.block _ (by have := S1.out; omega)).trans HG1.out)
  have P2 := hid (H.out.moved hd2)
  have q0 : w2.cell? ⟨pb, 0, none⟩ = some (.int .i64 0) := (cell_of P2.out.box).trans rfl
  have q2 : w2.cell? ⟨pb, 2, none⟩ = some (.int .i64 0) := (cell_of P2.out.box).trans rfl
  have D2 := hid hd2
  have L2 : Hid (w.heap.size < w2.heap.size) := (show _ < _ from lt_of_heap G2.out)
  clear hb2 hd2 K20
  go_upto_region 6 with (fail)
  have hn : pb ≠ w2.heap.size := fun e => by have := lt_of_heap P2.out.box; omega
  go_cut [10] (fun v wx => ∃ (cb : Nat) (a3 a4 : Option Addr) (c3 c4 : Nat), v = .pointer (some ⟨cb, 0, none⟩) ∧ Hid (CmJ w wx cb a3 a4 c3 c4))
  case first =>
    go_region_held (fun u => u.cell? ⟨pb, 0, none⟩ = some (.int .i64 0) ∧ u.cell? ⟨pb, 2, none⟩ = some (.int .i64 0)) (first | go_keep | exact ⟨set_other (set_other (set_other t0 hn) hn) hn, set_other (set_other (set_other t2 hn) hn) hn⟩) ((go_at_call 21; refine (K21.out _ ?hb).mono ?_; (case hb => first | exact D2.out.drew | exact (D2.out.alloc D2.out.size _).drew); rintro e w3 ⟨a3, c3, a4, c4, rfl, hC, hb3⟩; have hb3' : Below w2.heap.size w2 w3 := (by first | exact (below_draws (Below.refl w2.heap.size w2) 1).trans hb3 | exact (below_draws (below_alloc w2 _) 1).trans (hb3.mono (by show w2.heap.size ≤ (w2.alloc _).heap.size; simp))); have kp : ∀ (b j : Nat) (u : Value), w2.cell? ⟨b, j, none⟩ = some u → w3.cell? ⟨b, j, none⟩ = some u := (fun b j u hc => (hb3'.cell (p := ⟨b, j, none⟩) (lt_of_cell hc)).trans hc); have t0 := kp _ _ _ q0; have t2 := kp _ _ _ q2; (try (have hz : w3.heap[w2.heap.size]? = some (.cells #[.slice none 0 0, .int .i64 0, .slice none 0 0] 37 (0, 0)) := (hb3.block _ (by show w2.heap.size < (w2.alloc _).heap.size; simp)).trans (MapKept.heap_alloc w2 _).1; have z0 : w3.cell? ⟨w2.heap.size, 0, none⟩ = some (.slice none 0 0) := (cell_of hz).trans rfl; have z1 : w3.cell? ⟨w2.heap.size, 1, none⟩ = some (.int .i64 0) := (cell_of hz).trans rfl; have z2 : w3.cell? ⟨w2.heap.size, 2, none⟩ = some (.slice none 0 0) := (cell_of hz).trans rfl; have f0 : w3.frozen? ⟨w2.heap.size, 0, none⟩ = false := free_of hz; have f1 : w3.frozen? ⟨w2.heap.size, 1, none⟩ = false := free_of hz; have f2 : w3.frozen? ⟨w2.heap.size, 2, none⟩ = false := free_of hz; have HZ := hid hz)); have HC := hid hC; have B3 := hid hb3'; have HB := hid hb3; clear hC hb3 hb3' kp))
    · have hb3 : Below w.heap.size w w3 := D2.out.trans (B3.out.mono D2.out.size)
      have F : Hid (CmJ w (w3.alloc (.cells #[.slice a3 2 c3, .int .i64 0, .slice a4 1 c4] 37)) w3.heap.size a3 a4 c3 c4) := (show CmJ _ _ _ _ _ _ _ from ⟨heap_new _ _, (HC.out.base (show w.heap.size ≤ w2.heap.size from D2.out.size)).at (fun q _ hq => Below.heap_alloc _ _ _ hq), Nat.lt_of_lt_of_le L2.out B3.out.size, heap_old ((B3.out.block _ L2.out).trans G2.out) _, hb3.alloc hb3.size _⟩)
      clear q0 q2 t0 t2 hb3
      go_wp2_with fail
      go_meet
      exact ⟨w3.heap.size, a3, a4, c3, c4, rfl, F⟩
    · have hb3 : Below w.heap.size w w3 := D2.out.trans (B3.out.mono D2.out.size)
      obtain ⟨F1, F2, F3⟩ := fill3 HZ.out (.slice a3 2 c3) (.int .i64 0) (.slice a4 1 c4)
      obtain ⟨wf, hwf⟩ : ∃ wf, wf = ((w3.setCell ⟨w2.heap.size, 0, none⟩ (.slice a3 2 c3)).setCell ⟨w2.heap.size, 1, none⟩ (.int .i64 0)).setCell ⟨w2.heap.size, 2, none⟩ (.slice a4 1 c4) := ⟨_, rfl⟩
      rw [← hwf] at F1 F2 F3
      have F : Hid (CmJ w wf w2.heap.size a3 a4 c3 c4) := (show CmJ _ _ _ _ _ _ _ from ⟨F1, (HC.out.base (show w.heap.size ≤ _ from Nat.le_trans D2.out.size (by show w2.heap.size ≤ (w2.alloc _).heap.size; simp))).kept (fun t ht b cs hc => F2 b fun e => cell_ne hc HZ.out (by rcases ht with rfl | rfl | rfl <;> decide) e), L2.out, (F2 _ (Nat.ne_of_lt L2.out)).trans ((B3.out.block _ L2.out).trans G2.out), F3 _ _ hb3 D2.out.size⟩)
      rw [← hwf]
      clear q0 q2 t0 t2 hb3 z0 z1 z2 f0 f1 f2 hwf F1 F2 F3 HZ
      go_wp2_with fail
      go_meet
      exact ⟨w2.heap.size, a3, a4, c3, c4, rfl, F⟩
  case rest =>
    obtain ⟨cb, a3, a4, c3, c4, hv, HI⟩ := hcut
    rw [hv]
    clear hv
    have q3 : wc.cell? ⟨pb, 3, none⟩ = some (.pointer (some ⟨p, 0, none⟩)) := (cell_of (H.out.moved HI.out.below).box).trans rfl
    have u0 : wc.cell? ⟨cb, 0, none⟩ = some (.slice a3 2 c3) := (cell_of HI.out.box).trans rfl
    have u1 : wc.cell? ⟨cb, 1, none⟩ = some (.int .i64 0) := (cell_of HI.out.box).trans rfl
    have u2 : wc.cell? ⟨cb, 2, none⟩ = some (.slice a4 1 c4) := (cell_of HI.out.box).trans rfl
    have K22 := hid (fun W (hW : Below wc.heap.size wc W) => put_comK A W (HE.out.below (HI.out.below.trans (hW.mono HI.out.below.size)) h12) (Nat.le_trans h12 (Nat.le_trans HI.out.below.size hW.size)) (HV.out.moved (HI.out.below.trans (hW.mono HI.out.below.size))) (HI.out.com.at fun q _ hq => hW.block q hq))
    have VD : Hid (VerAt wc.drew p mb db (fun _ => .slice none 0 0) ⟨[0, 0], [], []⟩ 0) := (show VerAt _ _ _ _ _ _ _ from HV.out.moved HI.out.below.drew)
    have PC : Hid (PlA wc.drew pb p lb b g gr gm 0) := (show PlA _ _ _ _ _ _ _ _ _ from H.out.moved HI.out.below.drew)
    go_upto_region 7 with (fail)
    go_region_held (fun u => u.cell? ⟨pb, 3, none⟩ = some (.pointer (some ⟨p, 0, none⟩)) ∧ u.cell? ⟨cb, 0, none⟩ = some (.slice a3 2 c3) ∧ u.cell? ⟨cb, 1, none⟩ = some (.int .i64 0) ∧ u.cell? ⟨cb, 2, none⟩ = some (.slice a4 1 c4)) (first | go_keep) ((go_at_call 22; refine (K22.out _ ?hb).mono ?_; (case hb => exact (Below.refl wc.heap.size wc).drew); rintro e w5 ⟨rfl, f', hV5, hT5, hK5⟩; have P5 := hid (PlA.put VD.out hT5 PC.out hgm1 hgm2); have C5 := hid (turn_cells VD.out hT5 HI.out.box); have t3 : w5.cell? ⟨pb, 3, none⟩ = some (.pointer (some ⟨p, 0, none⟩)) := (cell_of P5.out.box).trans rfl; have t0 : w5.cell? ⟨cb, 0, none⟩ = some (.slice a3 2 c3) := (cell_of C5.out).trans rfl; have t1 : w5.cell? ⟨cb, 1, none⟩ = some (.int .i64 0) := (cell_of C5.out).trans rfl; have t2 : w5.cell? ⟨cb, 2, none⟩ = some (.slice a4 1 c4) := (cell_of C5.out).trans rfl; have R5 := hid (turn_cells VD.out hT5 HI.out.res); have T5 := hid hT5; have K5 := hid hK5; clear hV5 hT5 hK5))
    clear q3 u0 u1 u2 t0 t1 t2 t3
    have v2 : w5.cell? ⟨pb, 2, none⟩ = some (.int .i64 0) := (cell_of P5.out.box).trans rfl
    have z2 : w5.frozen? ⟨pb, 2, none⟩ = false := free_of P5.out.box
    obtain ⟨w6, hw6⟩ : ∃ w6, w6 = w5.setCell ⟨pb, 2, none⟩ (.int .i64 1) := ⟨_, rfl⟩
    go_wp2_with fail
    have C6 : w6.heap[cb]? = some (.cells #[.slice a3 2 c3, .int .i64 0, .slice a4 1 c4] 37 (0, 0)) := by rw [hw6]; exact (Below.heap_setCell _ _ _ _ (cell_ne C5.out P5.out.box (by decide))).trans C5.out
    have R6 : w6.heap[w.heap.size]? = some (.cells #[.slice none 0 0, .int .i64 0, .slice none 0 0] 37 (0, 0)) := by rw [hw6]; exact (Below.heap_setCell _ _ _ _ (cell_ne R5.out P5.out.box (by decide))).trans R5.out
    have P6 : PlA w6 pb p lb b g gr gm 1 := by rw [hw6]; exact P5.out.tick 1
    have O6 : ComOwn 0 w6 (.slice a3 2 c3) (.slice a4 1 c4) comK := by
      have o5 : ComOwn 0 w5 (.slice a3 2 c3) (.slice a4 1 c4) comK := ComOwn.kept (w := wc.drew) (HI.out.com.base (Nat.zero_le _)) (keeps_of3 K5.out)
      rw [hw6]
      exact o5.kept (keeps_but P5.out.box (by decide) (by decide) (by decide) fun i _ hi => Below.heap_setCell _ _ _ _ hi)
    have B6 : Below B w w6 := by
      have b5 : Below B w w5 := ⟨T5.out.os.trans HI.out.below.os, T5.out.tape.trans HI.out.below.tape, T5.out.output.trans HI.out.below.output, Nat.le_trans HI.out.below.size T5.out.size, fun k hk => (T5.out.block k (Nat.lt_of_lt_of_le hk (Nat.le_trans HS.out.size HI.out.below.size)) (by omega) (by omega) (fun k => by simp [Value.ownBlock])).trans (HI.out.below.block k (Nat.lt_of_lt_of_le hk HS.out.size))⟩
      rw [hw6]
      exact b5.setCell hB.1 _
    have hcr : cb ≠ w.heap.size := Nat.ne_of_gt HI.out.lt
    have HCG : Hid (cb ≠ g ∧ w.heap.size ≠ g ∧ pb ≠ g ∧ pb ≠ w.heap.size ∧ w.heap.size < w6.heap.size) := (show _ ∧ _ from ⟨cell_ne C6 P6.snd (by decide), cell_ne R6 P6.snd (by decide), cell_ne P6.box P6.snd (by decide), cell_ne P6.box R6 (by decide), lt_of_heap R6⟩)
    have K23 := hid (send_one A B w6.drew (HS.out.below B6.drew) (P6.moved (Below.refl _ _).drew) a3 a4 c3 c4 (O6.at fun q _ _ => rfl))
    have s0 : w6.cell? ⟨cb, 0, none⟩ = some (.slice a3 2 c3) := (cell_of C6).trans rfl
    have s1 : w6.cell? ⟨cb, 1, none⟩ = some (.int .i64 0) := (cell_of C6).trans rfl
    have s2 : w6.cell? ⟨cb, 2, none⟩ = some (.slice a4 1 c4) := (cell_of C6).trans rfl
    rw [← hw6]
    have HC6 := hid C6
    have HR6 := hid R6
    have HP6 := hid P6
    have HO6 := hid O6
    have HB6 := hid B6
    clear hw6 C6 R6 P6 O6 B6 v2 z2 P5 R5 C5 T5 K5 VD PC K22 HI
    go_region_held (fun u => u.cell? ⟨cb, 0, none⟩ = some (.slice a3 2 c3) ∧ u.cell? ⟨cb, 1, none⟩ = some (.int .i64 0) ∧ u.cell? ⟨cb, 2, none⟩ = some (.slice a4 1 c4)) (first | go_keep | exact ⟨set_other (set_other (set_other t0 hcr) hcr) hcr, set_other (set_other (set_other t1 hcr) hcr) hcr, set_other (set_other (set_other t2 hcr) hcr) hcr⟩) ((go_at_call 23; refine K23.out.mono ?_; rintro e w7 ⟨v7, r, rfl, hr7, hx7, hO7⟩; obtain ⟨a7, c7, hv7⟩ := row_shape hr7; subst hv7; have C7 := hid ((hO7.block _ (lt_of_heap HC6.out) HCG.out.1).trans HC6.out); have R7 := hid ((hO7.block _ (lt_of_heap HR6.out) HCG.out.2.1).trans HR6.out); have t0 : w7.cell? ⟨cb, 0, none⟩ = some (.slice a3 2 c3) := (cell_of C7.out).trans rfl; have t1 : w7.cell? ⟨cb, 1, none⟩ = some (.int .i64 0) := (cell_of C7.out).trans rfl; have t2 : w7.cell? ⟨cb, 2, none⟩ = some (.slice a4 1 c4) := (cell_of C7.out).trans rfl; have y0 : w7.cell? ⟨w.heap.size, 0, none⟩ = some (.slice none 0 0) := (cell_of R7.out).trans rfl; have y1 : w7.cell? ⟨w.heap.size, 1, none⟩ = some (.int .i64 0) := (cell_of R7.out).trans rfl; have y2 : w7.cell? ⟨w.heap.size, 2, none⟩ = some (.slice none 0 0) := (cell_of R7.out).trans rfl; have f0 : w7.frozen? ⟨w.heap.size, 0, none⟩ = false := free_of R7.out; have f1 : w7.frozen? ⟨w.heap.size, 1, none⟩ = false := free_of R7.out; have f2 : w7.frozen? ⟨w.heap.size, 2, none⟩ = false := free_of R7.out; have HR7 := hid hr7; have HX7 := hid hx7; have HO7 := hid hO7; clear hr7 hx7 hO7))
    obtain ⟨F1, F2, F3⟩ := fill3 R7.out (.slice a3 2 c3) (.int .i64 0) (.slice a4 1 c4)
    obtain ⟨wf, hwf⟩ : ∃ wf, wf = ((w7.setCell ⟨w.heap.size, 0, none⟩ (.slice a3 2 c3)).setCell ⟨w.heap.size, 1, none⟩ (.int .i64 0)).setCell ⟨w.heap.size, 2, none⟩ (.slice a4 1 c4) := ⟨_, rfl⟩
    rw [← hwf] at F1 F2 F3
    have hk7 : Keeps w6 w7 := keeps_but (w := w6) HP6.out.snd (by decide) (by decide) (by decide) fun i hi hg => HO7.out.block i hi hg
    have hkf : Keeps w7 wf := keeps_but R7.out (by decide) (by decide) (by decide) fun i _ hi => F2 i hi
    have E : Hid (wf.ownsRow 0 45 9 (.slice a7 1 c7) 1 r.cells ∧ r.x2 = 1 ∧ IntsAt wf (.slice a3 2 c3) [1, 0] ∧ (∃ cs, wf.heap[pb]? = some (.cells cs 60 (0, 0)) ∧ cs[2]? = some (.int .i64 1)) ∧ Below B w wf) := (show _ ∧ _ from by
      refine ⟨own_keep (owns_baseS HR7.out (Nat.zero_le _)) (fun q hq => F2 q fun e => ?_), HX7.out, ((HO6.out.kept hk7).kept hkf).ints, ⟨_, ((F2 _ HCG.out.2.2.2.1).trans ((HO7.out.block _ (lt_of_heap HP6.out.box) HCG.out.2.2.1).trans HP6.out.box)), rfl⟩, F3 _ _ ?_ HS.out.size⟩
      · have h1 := (HR7.out.lt q hq).1
        have h2 : w6.heap.size ≤ q := h1
        have := HCG.out.2.2.2.2
        omega
      · exact ⟨HO7.out.os.trans HB6.out.os, HO7.out.tape.trans HB6.out.tape, HO7.out.output.trans HB6.out.output, Nat.le_trans HB6.out.size HO7.out.size, fun k hk => (HO7.out.block k (Nat.lt_of_lt_of_le hk (Nat.le_trans HS.out.size HB6.out.size)) (by omega)).trans (HB6.out.block k hk)⟩)
    have HF1 := hid F1
    rw [← hwf]
    clear s0 s1 s2 t0 t1 t2 y0 y1 y2 f0 f1 f2 hwf F1 F2 F3 hk7 hkf
    go_wp2
    refine bodyPost_ret (ret_cell_tmp2 (k := 3) Tryd.results10 Tryd.isAgg37 Tryd.sizeOf37 _ _ w.heap.size [.slice a3 2 c3, .int .i64 0, .slice a4 1 c4] (.slice a7 1 c7) .nilIface rfl rfl rfl rfl (cells_heap (t := 37) _ HF1.out)) rfl ⟨a3, a4, c3, c4, _, r, rfl, E.out⟩
end Go.Proofs.YtefpnojanldkeaaDoor
