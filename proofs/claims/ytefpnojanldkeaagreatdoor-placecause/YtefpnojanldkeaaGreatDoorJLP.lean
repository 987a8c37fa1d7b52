/- Commit, at any place; take: what has come by a stream is put; What a line has heard. -/
import Derived.Test.YtefpnojanldkeaaGreatDoorJLM
namespace Go.Proofs.YtefpnojanldkeaaGreatDoor
open Go.RowKit Go.Maps
set_option maxRecDepth 100000
set_option linter.unusedSectionVars false
variable [Inhabited ComV] [DecidableEq D3] [Inhabited D3] [Inhabited Dd] [Inhabited Dn] [Inhabited OpV]

structure CmJ (w wx : World) (cb : Nat) (p : Nat) (c : ComV) (a3 a4 : Option Addr) (n1 c3 n2 c4 : Nat) : Prop where
  box : wx.heap[cb]? = some (.cells #[.slice a3 n1 c3, .int .i64 p, .slice a4 n2 c4] 36 (0, 0))
  com : ComOwn w.heap.size wx (.slice a3 n1 c3) (.slice a4 n2 c4) c
  lt : w.heap.size < cb
  res : wx.heap[w.heap.size]? = some (.cells #[.slice none 0 0, .int .i64 0, .slice none 0 0] 36 (0, 0))
  below : Below w.heap.size w wx
theorem ret_cell_tmp2 {f : Func} {s t k s2 s3 : Nat} (hf : f.results = #[ResultVar.cell s t, ResultVar.tmp s2, ResultVar.tmp s3]) (hag : ∀ w, (isAgg t).run Tryz.prog w = .ok true w) (hsz : ∀ w, (sizeOf t).run Tryz.prog w = .ok k w) (w : World) (tmps : Array Value) (g : Nat) (vs : List Value) (v2 v3 : Value) (hk : vs.length = k) (h4 : tmps[s]?.getD undef = .pointer (some ⟨g, 0, none⟩)) (h5 : tmps[s2]?.getD undef = v2) (h6 : tmps[s3]?.getD undef = v3) (hc : ∀ j (hj : j < vs.length), w.cell? ⟨g, j, none⟩ = some vs[j]) :
    (results f tmps).run Tryz.prog w = .ok (.tuple #[.agg vs.toArray, v2, v3]) w := by
  have hl := run_loadCellsFrom_list Tryz.prog w ⟨g, 0, none⟩ vs k hk (fun j v hj => by
    obtain ⟨h1, h2⟩ := List.getElem?_eq_some_iff.1 hj
    rw [Addr.add_lit, Nat.zero_add, hc j h1, h2])
  simp [results, hf, h4, h5, h6, asAddr, loadVar, loadCells, hag, hsz, hl, Result.andThen]
theorem timeC_comN {at_ : List Int} {p : Nat} {t : Int} {os : List OpV} (h : p < at_.length) : timeC (comN at_ p t os) = t := by
  show (at_.set p t).getD ((p : Int).toNat) 0 = t
  simp [h]
/-- What a place asks of a transaction. -/
structure TxOk (w : World) (h : PlH) (v : PlV) (at_ : List Int) (os : List OpV) : Prop where
  two : two at_ (snapV v) = 0
  le : leB at_ (snapV v) = true
  light : Light ⟨at_, v.id, os⟩
  put : PutOk v.st (comN at_ v.id (v.ck + 1) os)
  base : chk v.st.base = 0
  few : ∀ k, (rowOf v.st k).length ≤ 1000000
  nn : h.nn ≤ 1000000
  ck : v.ck + 1 ≤ 1000
  parts : ∀ s, s < v.k → partOps (opsIdx os) v.k s ≠ [] → (comE (partV (comN at_ v.id (v.ck + 1) os) v.k s)).1 = 0
def comV1 (v : PlV) (c : ComV) : PlV := { v with ck := v.ck + 1, st := putTo v.st c c.ops.length }
structure CommitRet (w : World) (h : PlH) (v : PlV) (c : ComV) (n1 n2 : Nat) (e : Ending) (w' : World) : Prop where
  ret : ∃ (h' : PlH) (a3 a4 : Option Addr) (c3 c4 : Nat) (rv : Value) (rs : List Raw), e = .returned (.tuple #[.agg #[.slice a3 n1 c3, .int .i64 v.id, .slice a4 n2 c4], rv, .nilIface]) ∧ PlAt w' h' { comV1 v c with Y := sendY (comV1 v c) c } ∧ PlMoves w w' h v h' { comV1 v c with Y := sendY (comV1 v c) c } ∧ h'.pb = h.pb ∧ h'.nn = h.nn + 24 ∧ (∀ q, rv.ownBlock = some q → ¬ h'.foot { comV1 v c with Y := sendY (comV1 v c) c } q) ∧ w'.ownsRow w.heap.size 44 9 rv rs.length (raws rs) ∧ F2 (RawOwn 0 w') rs (allMs (sendT (comV1 v c) c) v.id v.k v.n) ∧ ComOwn 0 w' (.slice a3 n1 c3) (.slice a4 n2 c4) c ∧ ∀ j s, v.line j s → (h'.X j s).n ≤ (h.X j s).n + 1
theorem light_comN {at_ : List Int} {p : Nat} {t : Int} {os : List OpV} (h : Light ⟨at_, p, os⟩) : Light (comN at_ p t os) :=
  ⟨by show (at_.set p t).length ≤ 20; rw [List.length_set]; exact h.when_, by show (opsIdx os).length ≤ 20; rw [opsIdx_len]; exact h.ops, fun o ho => by
    obtain ⟨k, hk⟩ := List.getElem?_of_mem (show o ∈ opsIdx os from ho)
    rw [opsIdx_get] at hk
    obtain ⟨o', h1, rfl⟩ := Option.map_eq_some_iff.1 hk
    exact h.each o' (List.mem_of_getElem? h1)⟩
theorem PvOk.tick {v : PlV} (h : PvOk v) (c : ComV) (hc : v.ck + 1 ≤ 1000) : PvOk (comV1 v c) :=
  ⟨by have := h.ck0; show 0 ≤ v.ck + 1; omega, hc, h.sq0, h.sq1, h.ms1, h.st0, fun j s q => by have := h.st1 j s q; show (v.Y j s).st ≤ v.ck + 1; omega, h.rt0, h.rt1⟩
set_option maxHeartbeats 8000000 in
theorem commit_any (A : Nat → Addr) (B : Nat) (w : World) (hS : Sen A B w) (hE : E4 A w) (h : PlH) (v : PlV) (a : PlAt w h v) (hlow : ∀ b, h.foot v b → B ≤ b) (hok : PvOk v) (a1 a2 : Option Addr) (n1 c1 n2 c2 : Nat) (at_ : List Int) (os : List OpV) (hI : IntsAt w (.slice a1 n1 c1) at_) (hO : OpsAt w (.slice a2 n2 c2) os) (hT : TxOk w h v at_ os) :
    Calls Tryz.prog 9 #[.pointer (some ⟨h.pb, 0, none⟩), .slice a1 n1 c1, .slice a2 n2 c2] w (CommitRet w h v (comN at_ v.id (v.ck + 1) os) n1 n2) := by
  have h12 : 12 ≤ w.heap.size := Nat.le_trans (by decide) (Nat.le_trans hS.gl hS.size)
  have hn1 : n1 = at_.length := by obtain ⟨_, _, hv, _⟩ := hI; injection hv
  have hn : at_.length = v.n := by have := (two_zero.1 hT.two).2.2; rw [snapV_len] at this; exact this
  have hidn := a.idn
  have hp : v.id < n1 := by omega
  obtain ⟨c, hc⟩ : ∃ c, c = comN at_ v.id (v.ck + 1) os := ⟨_, rfl⟩
  have htime : timeC c = v.ck + 1 := by rw [hc]; exact timeC_comN (by omega)
  have hpl : c.place = v.id := by rw [hc]; rfl
  have hcl : Light c := by rw [hc]; exact light_comN hT.light
  have hcops : c.ops = opsIdx os := by rw [hc]; rfl
  have hput : PutOk v.st c := by rw [hc]; exact hT.put
  have hparts : ∀ s, s < v.k → partOps c.ops v.k s ≠ [] → (comE (partV c v.k s)).1 = 0 := by rw [hcops, hc]; exact hT.parts
  obtain ⟨w1, hw1⟩ : ∃ w1, w1 = w.alloc (.cells #[.slice none 0 0, .int .i64 0, .slice none 0 0] 36) := ⟨_, rfl⟩
  have d1 : Below w.heap.size w w1 := by rw [hw1]; exact below_alloc _ _
  have G1 : w1.heap[w.heap.size]? = some (.cells #[.slice none 0 0, .int .i64 0, .slice none 0 0] 36 (0, 0)) := by rw [hw1]; exact heap_new _ _
  have s1 : w1.heap.size = w.heap.size + 1 := by rw [hw1]; simp
  have K25 := hid (checkAt_any A w1 (hE.below d1 h12) (by omega) h v (a.below d1) a1 n1 c1 at_ (hI.mono d1 (Nat.le_refl _)) hT.two hT.le)
  have K26 := hid (fun W (hW : Below w.heap.size w W) => commitOf_any W a1 a2 n1 c1 n2 c2 v.id (v.ck + 1) at_ os (hI.mono hW (Nat.le_refl _)) (hO.mono hW (Nat.le_refl _)) hT.light hp)
  rw [← hc] at K26 ⊢
  have ck0 := hok.ck0
  have ck1 := hT.ck
  have hckm : v.ck ≠ 1099511627776 := by omega
  have hwr : IntKind.i64.wrap (v.ck + 1) = v.ck + 1 := wrap_64 ⟨by omega, by omega⟩
  have D1 := hid d1
  have HG1 := hid G1
  have S1 := hid s1
  have H := hid a
  have HS := hid hS
  have HE := hid hE
  have HLOW := hid hlow
  have HOK := hid (hok.tick c hT.ck)
  have HST := hid (show ∀ j s, v.line j s → (v.Y j s).st < timeC c from fun j s q => by rw [htime]; have := hok.st1 j s q; omega)
  have HPL := hid hpl
  have HCL := hid hcl
  have HPUT := hid hput
  have HPARTS := hid hparts
  have HT := hid hT
  clear d1 G1 s1 hI hO a hS hE hlow hok hT hpl hcl hput hparts hcops htime hc hn hn1 hidn hp
  go_enter Tryz.func9, Tryz.ntmps9
  go_wp2_with fail
  rw [← hw1]
  clear hw1
  refine K25.out.mono ?_
  rintro e w2 ⟨rfl, hb2⟩
  have hd2 : Below w.heap.size w w2 := D1.out.trans (hb2.mono D1.out.size)
  have G2 := hid ((hb2.block _ (by have := S1.out; omega)).trans HG1.out)
  have P2 := hid (H.out.below hd2)
  have q0 : w2.cell? ⟨h.pb, 0, none⟩ = some (.int .i64 v.id) := (cell_of P2.out.box).trans rfl
  have q2 : w2.cell? ⟨h.pb, 2, none⟩ = some (.int .i64 v.ck) := (cell_of P2.out.box).trans rfl
  have D2 := hid hd2
  have L2 : Hid (w.heap.size < w2.heap.size) := (show _ < _ from lt_of_heap G2.out)
  clear hb2 hd2 K25
  go_upto_region 6 with (fail)
  have hn : h.pb ≠ w2.heap.size := fun e => by have := lt_of_heap P2.out.box; omega
  go_cut [10] (fun x wx => ∃ (cb : Nat) (a3 a4 : Option Addr) (c3 c4 : Nat), x = .pointer (some ⟨cb, 0, none⟩) ∧ Hid (CmJ w wx cb v.id c a3 a4 n1 c3 n2 c4))
  case first =>
    go_region_held (fun u => u.cell? ⟨h.pb, 0, none⟩ = some (.int .i64 v.id) ∧ u.cell? ⟨h.pb, 2, none⟩ = some (.int .i64 v.ck)) (first | go_keep | exact ⟨set_other (set_other (set_other t0 hn) hn) hn, set_other (set_other (set_other t2 hn) hn) hn⟩) ((go_at_call 26; refine (K26.out _ ?hb).mono ?_; (case hb => first | exact D2.out.drew | exact (D2.out.alloc D2.out.size _).drew); rintro e w3 ⟨a3, c3, a4, c4, rfl, hC, hb3⟩; have hb3' : Below w2.heap.size w2 w3 := (by first | exact (below_draws (Below.refl w2.heap.size w2) 1).trans hb3 | exact (below_draws (below_alloc w2 _) 1).trans (hb3.mono (by show w2.heap.size ≤ (w2.alloc _).heap.size; simp))); have kp : ∀ (b j : Nat) (u : Value), w2.cell? ⟨b, j, none⟩ = some u → w3.cell? ⟨b, j, none⟩ = some u := (fun b j u hc => (hb3'.cell (p := ⟨b, j, none⟩) (lt_of_cell hc)).trans hc); have t0 := kp _ _ _ q0; have t2 := kp _ _ _ q2; (try (have hz : w3.heap[w2.heap.size]? = some (.cells #[.slice none 0 0, .int .i64 0, .slice none 0 0] 36 (0, 0)) := (hb3.block _ (by show w2.heap.size < (w2.alloc _).heap.size; simp)).trans (MapKept.heap_alloc w2 _).1; have z0 : w3.cell? ⟨w2.heap.size, 0, none⟩ = some (.slice none 0 0) := (cell_of hz).trans rfl; have z1 : w3.cell? ⟨w2.heap.size, 1, none⟩ = some (.int .i64 0) := (cell_of hz).trans rfl; have z2 : w3.cell? ⟨w2.heap.size, 2, none⟩ = some (.slice none 0 0) := (cell_of hz).trans rfl; have f0 : w3.frozen? ⟨w2.heap.size, 0, none⟩ = false := free_of hz; have f1 : w3.frozen? ⟨w2.heap.size, 1, none⟩ = false := free_of hz; have f2 : w3.frozen? ⟨w2.heap.size, 2, none⟩ = false := free_of hz; have HZ := hid hz)); have HC := hid hC; have B3 := hid hb3'; have HB := hid hb3; clear hC hb3 hb3' kp))
    · have hb3 : Below w.heap.size w w3 := D2.out.trans (B3.out.mono D2.out.size)
      have F : Hid (CmJ w (w3.alloc (.cells #[.slice a3 n1 c3, .int .i64 v.id, .slice a4 n2 c4] 36)) w3.heap.size v.id c a3 a4 n1 c3 n2 c4) := (show CmJ _ _ _ _ _ _ _ _ _ _ _ from ⟨heap_new _ _, (HC.out.base (show w.heap.size ≤ w2.heap.size from D2.out.size)).at (fun q _ hq => Below.heap_alloc _ _ _ hq), Nat.lt_of_lt_of_le L2.out B3.out.size, heap_old ((B3.out.block _ L2.out).trans G2.out) _, hb3.alloc hb3.size _⟩)
      clear q0 q2 t0 t2 hb3
      go_wp2_with fail
      go_meet
      exact ⟨w3.heap.size, a3, a4, c3, c4, rfl, F⟩
    · have hb3 : Below w.heap.size w w3 := D2.out.trans (B3.out.mono D2.out.size)
      obtain ⟨F1, F2, F3⟩ := fill3 HZ.out (.slice a3 n1 c3) (.int .i64 v.id) (.slice a4 n2 c4)
      obtain ⟨wf, hwf⟩ : ∃ wf, wf = ((w3.setCell ⟨w2.heap.size, 0, none⟩ (.slice a3 n1 c3)).setCell ⟨w2.heap.size, 1, none⟩ (.int .i64 v.id)).setCell ⟨w2.heap.size, 2, none⟩ (.slice a4 n2 c4) := ⟨_, rfl⟩
      rw [← hwf] at F1 F2 F3
      have F : Hid (CmJ w wf w2.heap.size v.id c a3 a4 n1 c3 n2 c4) := (show CmJ _ _ _ _ _ _ _ _ _ _ _ from ⟨F1, (HC.out.base (show w.heap.size ≤ _ from Nat.le_trans D2.out.size (by show w2.heap.size ≤ (w2.alloc _).heap.size; simp))).kept (fun t ht b cs hc => F2 b fun e => cell_ne hc HZ.out (by rcases ht with rfl | rfl | rfl <;> decide) e), L2.out, (F2 _ (Nat.ne_of_lt L2.out)).trans ((B3.out.block _ L2.out).trans G2.out), F3 _ _ hb3 D2.out.size⟩)
      rw [← hwf]
      clear q0 q2 t0 t2 hb3 z0 z1 z2 f0 f1 f2 hwf F1 F2 F3 HZ
      go_wp2_with fail
      go_meet
      exact ⟨w2.heap.size, a3, a4, c3, c4, rfl, F⟩
  case rest =>
    obtain ⟨cb, a3, a4, c3, c4, hv, HI⟩ := hcut
    rw [hv]
    clear hv
    have PC : Hid (PlAt wc.drew h v) := (show PlAt _ _ _ from H.out.below HI.out.below.drew)
    have q3 : wc.cell? ⟨h.pb, 3, none⟩ = some (.pointer (some ⟨h.p, 0, none⟩)) := (cell_of PC.out.box).trans rfl
    have u0 : wc.cell? ⟨cb, 0, none⟩ = some (.slice a3 n1 c3) := (cell_of HI.out.box).trans rfl
    have u1 : wc.cell? ⟨cb, 1, none⟩ = some (.int .i64 v.id) := (cell_of HI.out.box).trans rfl
    have u2 : wc.cell? ⟨cb, 2, none⟩ = some (.slice a4 n2 c4) := (cell_of HI.out.box).trans rfl
    have K27 := put_ok A wc.drew (HE.out.below HI.out.below.drew h12) (Nat.le_trans h12 HI.out.below.size) h.p h.mb h.db h.nn h.f v.st PC.out.store HT.out.nn HT.out.few c (.slice a3 n1 c3) (.slice a4 n2 c4) (comT_own (HI.out.com.at (w' := wc.drew) fun _ _ _ => rfl)) (fun o ho => by have := HCL.out.each o ho; exact ⟨by omega, by omega⟩) HPUT.out.err HPUT.out.len HPUT.out.old HT.out.base HPUT.out.new
    rw [HPL.out] at K27
    have K27' := hid K27
    have CB : Hid (cb ≠ h.mb ∧ cb ≠ h.db ∧ (∀ k, (h.f k).ownBlock ≠ some cb) ∧ w.heap.size ≠ h.mb ∧ w.heap.size ≠ h.db ∧ ∀ k, (h.f k).ownBlock ≠ some w.heap.size) := (show _ ∧ _ from by
      have l1 := H.out.lt (.inr (.inr (.inl rfl)))
      have l2 := H.out.lt (.inr (.inr (.inr (.inl rfl))))
      have l3 := HI.out.lt
      refine ⟨by omega, by omega, fun k e => ?_, by omega, by omega, fun k e => ?_⟩
      · have := H.out.lt (.inr (.inr (.inr (.inr (.inr (.inl ⟨k, e⟩))))))
        omega
      · have := H.out.lt (.inr (.inr (.inr (.inr (.inr (.inl ⟨k, e⟩))))))
        omega)
    clear K27
    go_upto_region 7 with (fail)
    go_region_held (fun u => u.cell? ⟨h.pb, 3, none⟩ = some (.pointer (some ⟨h.p, 0, none⟩)) ∧ u.cell? ⟨cb, 0, none⟩ = some (.slice a3 n1 c3) ∧ u.cell? ⟨cb, 1, none⟩ = some (.int .i64 v.id) ∧ u.cell? ⟨cb, 2, none⟩ = some (.slice a4 n2 c4)) (first | go_keep) ((go_at_call 27; refine K27'.out.mono ?_; rintro e w5 ⟨rfl, f', hV5, hT5, hK5⟩; obtain ⟨pa, pm⟩ := PC.out.putIn hV5 hT5 hK5; have P5 := hid pa; have M5 := hid pm; have C5 := hid ((hT5.block _ (lt_of_heap HI.out.box) CB.out.1 CB.out.2.1 CB.out.2.2.1).trans HI.out.box); have R5 := hid ((hT5.block _ (lt_of_heap HI.out.res) CB.out.2.2.2.1 CB.out.2.2.2.2.1 CB.out.2.2.2.2.2).trans HI.out.res); have t3 : w5.cell? ⟨h.pb, 3, none⟩ = some (.pointer (some ⟨h.p, 0, none⟩)) := (cell_of P5.out.box).trans rfl; have t0 : w5.cell? ⟨cb, 0, none⟩ = some (.slice a3 n1 c3) := (cell_of C5.out).trans rfl; have t1 : w5.cell? ⟨cb, 1, none⟩ = some (.int .i64 v.id) := (cell_of C5.out).trans rfl; have t2 : w5.cell? ⟨cb, 2, none⟩ = some (.slice a4 n2 c4) := (cell_of C5.out).trans rfl; have K5 := hid hK5; clear hV5 hT5 hK5 pa pm))
    clear q3 u0 u1 u2 t0 t1 t2 t3
    have v2 : w5.cell? ⟨h.pb, 2, none⟩ = some (.int .i64 v.ck) := (cell_of P5.out.box).trans rfl
    have z2 : w5.frozen? ⟨h.pb, 2, none⟩ = false := free_of P5.out.box
    obtain ⟨w6, hw6⟩ : ∃ w6, w6 = w5.setCell ⟨h.pb, 2, none⟩ (.int .i64 (v.ck + 1)) := ⟨_, rfl⟩
    go_wp2_with fail
    obtain ⟨ta, tm⟩ := P5.out.tick (v.ck + 1)
    have e68 : ∀ {b : Nat} {cs : Array Value}, w5.heap[b]? = some (.cells cs 36 (0, 0)) → w6.heap[b]? = w5.heap[b]? := fun hb => by rw [hw6]; exact Below.heap_setCell _ _ _ _ (cell_ne hb P5.out.box (by decide))
    have C6 := (e68 C5.out).trans C5.out
    have R6 := (e68 R5.out).trans R5.out
    rw [← hw6] at ta tm
    have P6 : PlAt w6 { h with f := f', nn := h.nn + 24 } (comV1 v c) := ta
    have M6 : PlMoves w w6 h v { h with f := f', nn := h.nn + 24 } (comV1 v c) := PlMoves.ahead HI.out.below.drew (M5.out.trans tm)
    have O6 : ComOwn 0 w6 (.slice a3 n1 c3) (.slice a4 n2 c4) c := (ComOwn.kept (w := wc.drew) (HI.out.com.base (Nat.zero_le _)) (keeps_of3 K5.out)).kept tm.keeps
    have low6 : ∀ b, PlH.foot { h with f := f', nn := h.nn + 24 } (comV1 v c) b → B ≤ b := fun b hb => by
      rcases M6.foot b hb with e | e
      · exact HLOW.out b e
      · exact Nat.le_trans HS.out.size e
    have B6 : Below B w w6 := ⟨M6.os, M6.tape, M6.output, M6.size, fun k hk => M6.block k (Nat.lt_of_lt_of_le hk HS.out.size) fun e => by have := HLOW.out k e; omega⟩
    have hcr : cb ≠ w.heap.size := Nat.ne_of_gt HI.out.lt
    have NF : Hid (¬ PlH.foot { h with f := f', nn := h.nn + 24 } (comV1 v c) cb ∧ ¬ PlH.foot { h with f := f', nn := h.nn + 24 } (comV1 v c) w.heap.size ∧ w.heap.size < w6.heap.size) := (show _ ∧ _ from by
      have l1 := HI.out.lt
      have l2 := lt_of_heap HI.out.box
      have l3 := M5.out.size
      have key : ∀ b, w.heap.size ≤ b → b < wc.heap.size → ¬ PlH.foot { h with f := f', nn := h.nn + 24 } (comV1 v c) b := fun b h1 h2 hb => by
        rcases M5.out.foot b hb with e | e
        · have := H.out.lt e
          omega
        · have e' : wc.heap.size ≤ b := e
          omega
      exact ⟨key cb (by omega) l2, key w.heap.size (Nat.le_refl _) (by omega), lt_of_heap R6⟩)
    have K28 := hid (send_any A B w6.drew (HS.out.below B6.drew) _ _ (P6.below (Below.refl _ _).drew) low6 HOK.out c a3 a4 n1 c3 n2 c4 (O6.at fun q _ _ => rfl) HCL.out HPL.out HST.out HPARTS.out)
    have s0 : w6.cell? ⟨cb, 0, none⟩ = some (.slice a3 n1 c3) := (cell_of C6).trans rfl
    have s1 : w6.cell? ⟨cb, 1, none⟩ = some (.int .i64 v.id) := (cell_of C6).trans rfl
    have s2 : w6.cell? ⟨cb, 2, none⟩ = some (.slice a4 n2 c4) := (cell_of C6).trans rfl
    rw [← hw6]
    have HC6 := hid C6
    have HR6 := hid R6
    have HM6 := hid M6
    have HO6 := hid O6
    clear hw6 C6 R6 P6 O6 B6 M6 low6 v2 z2 P5 M5 R5 C5 K5 PC K27' HI ta tm e68
    go_region_held (fun u => u.cell? ⟨cb, 0, none⟩ = some (.slice a3 n1 c3) ∧ u.cell? ⟨cb, 1, none⟩ = some (.int .i64 v.id) ∧ u.cell? ⟨cb, 2, none⟩ = some (.slice a4 n2 c4)) (first | go_keep | exact ⟨set_other (set_other (set_other t0 hcr) hcr) hcr, set_other (set_other (set_other t1 hcr) hcr) hcr, set_other (set_other (set_other t2 hcr) hcr) hcr⟩) ((go_at_call 28; refine K28.out.mono ?_; rintro e w7 ⟨h', rv, rs, rfl, g7, g71, g72, g73, g74, g75, hrow, hF⟩; obtain ⟨ra, rc, hrv⟩ := row_shape hrow; have C7 := hid ((g7.mov.block _ (lt_of_heap HC6.out) NF.out.1).trans HC6.out); have R7 := hid ((g7.mov.block _ (lt_of_heap HR6.out) NF.out.2.1).trans HR6.out); have t0 : w7.cell? ⟨cb, 0, none⟩ = some (.slice a3 n1 c3) := (cell_of C7.out).trans rfl; have t1 : w7.cell? ⟨cb, 1, none⟩ = some (.int .i64 v.id) := (cell_of C7.out).trans rfl; have t2 : w7.cell? ⟨cb, 2, none⟩ = some (.slice a4 n2 c4) := (cell_of C7.out).trans rfl; have y0 : w7.cell? ⟨w.heap.size, 0, none⟩ = some (.slice none 0 0) := (cell_of R7.out).trans rfl; have y1 : w7.cell? ⟨w.heap.size, 1, none⟩ = some (.int .i64 0) := (cell_of R7.out).trans rfl; have y2 : w7.cell? ⟨w.heap.size, 2, none⟩ = some (.slice none 0 0) := (cell_of R7.out).trans rfl; have f0 : w7.frozen? ⟨w.heap.size, 0, none⟩ = false := free_of R7.out; have f1 : w7.frozen? ⟨w.heap.size, 1, none⟩ = false := free_of R7.out; have f2 : w7.frozen? ⟨w.heap.size, 2, none⟩ = false := free_of R7.out; have HG7 := hid g7; have HNN := hid g75; have HROW := hid hrow; have HF := hid hF; clear g7 g71 g72 g73 g74 g75 hrow hF; subst hrv))
    obtain ⟨F1, FO, F3⟩ := fill3 R7.out (.slice a3 n1 c3) (.int .i64 v.id) (.slice a4 n2 c4)
    obtain ⟨wf, hwf⟩ : ∃ wf, wf = ((w7.setCell ⟨w.heap.size, 0, none⟩ (.slice a3 n1 c3)).setCell ⟨w.heap.size, 1, none⟩ (.int .i64 v.id)).setCell ⟨w.heap.size, 2, none⟩ (.slice a4 n2 c4) := ⟨_, rfl⟩
    rw [← hwf] at F1 FO F3
    have hkf : Keeps w7 wf := keeps_but R7.out (by decide) (by decide) (by decide) fun i _ hi => FO i hi
    have m7 : PlMoves w w7 h v h' { comV1 v c with Y := sendY (comV1 v c) c } := HM6.out.trans (PlMoves.ahead (Below.refl _ _).drew HG7.out.mov)
    have nf : ∀ b, h'.foot { comV1 v c with Y := sendY (comV1 v c) c } b → b ≠ w.heap.size := fun b hb e => by
      rcases HG7.out.mov.foot b hb with e' | e'
      · exact NF.out.2.1 (by rw [← e]; exact e')
      · have e2 : w6.heap.size ≤ b := e'
        have := NF.out.2.2
        omega
    have b7 : Below w.heap.size wf wf := Below.refl _ _
    have bf : ∀ x, Below 0 x w7 → Below 0 x wf := fun x hx => F3 0 x hx (Nat.zero_le _)
    have b0 : Below 0 w wf := bf w ⟨m7.os, m7.tape, m7.output, m7.size, fun k hk => by omega⟩
    have E : Hid (PlAt wf h' { comV1 v c with Y := sendY (comV1 v c) c } ∧ PlMoves w wf h v h' { comV1 v c with Y := sendY (comV1 v c) c } ∧ h'.pb = h.pb ∧ h'.nn = h.nn + 24 ∧ (∀ q, (.slice ra rs.length rc : Value).ownBlock = some q → ¬ h'.foot { comV1 v c with Y := sendY (comV1 v c) c } q) ∧ wf.ownsRow w.heap.size 44 9 (.slice ra rs.length rc) rs.length (raws rs) ∧ F2 (RawOwn 0 wf) rs (allMs (sendT (comV1 v c) c) v.id v.k v.n) ∧ ComOwn 0 wf (.slice a3 n1 c3) (.slice a4 n2 c4) c ∧ ∀ j s, v.line j s → (h'.X j s).n ≤ (h.X j s).n + 1) := (show _ ∧ _ from by
      have sz := NF.out.2.2
      refine ⟨HG7.out.here.keep (fun b hb => FO b (nf b hb)) hkf, ⟨b0.os, b0.tape, b0.output, b0.size, fun b h1 h2 => (FO b (by omega)).trans (m7.block b h1 h2), m7.foot, m7.keeps.trans hkf⟩, HG7.out.pb, HNN.out, fun q hq => (HG7.out.free q hq).1, ?_, f2_mono (fun _ _ q => q.kept hkf) HF.out, (HO6.out.kept HG7.out.mov.keeps).kept hkf, fun j s q => HG7.out.xn j s q⟩
      refine own_keep (owns_base HROW.out (show w.heap.size ≤ w6.heap.size by omega)) fun q hq => FO q fun e => ?_
      have h1 := (HROW.out.lt q hq).1
      have h2 : w6.heap.size ≤ q := h1
      omega)
    have HF1 := hid F1
    rw [← hwf]
    clear s0 s1 s2 t0 t1 t2 y0 y1 y2 f0 f1 f2 hwf F1 FO F3 hkf m7 nf b7 bf b0
    go_wp2
    refine bodyPost_ret (ret_cell_tmp2 (k := 3) Tryz.results9 Tryz.isAgg36 Tryz.sizeOf36 _ _ w.heap.size [.slice a3 n1 c3, .int .i64 v.id, .slice a4 n2 c4] (.slice ra rs.length rc) .nilIface rfl rfl rfl rfl (cells_heap (t := 36) _ HF1.out)) rfl ⟨h', a3, a4, c3, c4, _, rs, rfl, E.out⟩
end Go.Proofs.YtefpnojanldkeaaGreatDoor
namespace Go.Proofs.YtefpnojanldkeaaGreatDoor
open Go.RowKit Go.Maps
set_option maxRecDepth 100000
set_option linter.unusedSectionVars false
variable [Inhabited ComV] [DecidableEq D3] [Inhabited D3] [Inhabited Dd] [Inhabited Dn] [Inhabited OpV]

/-- A beat, or a commit that may be put. -/
def CanTake (s : St) (m : MsgV) : Prop := m.beat = true ∨ (m.beat = false ∧ m.c.place = m.frm ∧ PutOk s m.c ∧ Light m.c)
def takeV (s : St) (m : MsgV) : St := if m.beat = true then s else putTo s m.c m.c.ops.length
structure StIn (s : St) (nn : Nat) : Prop where
  base : chk s.base = 0
  few : ∀ k, (rowOf s k).length ≤ 1000000
  nn : nn ≤ 1000000
set_option maxHeartbeats 2000000 in
theorem take_any (A : Nat → Addr) (w : World) (hE : E4 A w) (h12 : 12 ≤ w.heap.size) (h : PlH) (v : PlV) (a : PlAt w h v) (hs : StIn v.st h.nn) (r : Raw) (m : MsgV) (hr : RawOwn 0 w r m) (hc : CanTake v.st m) :
    Calls Tryz.prog 36 #[.agg #[.pointer (some ⟨h.p, 0, none⟩)], .agg r.cells.toArray] w fun e w' => e = .returned (.tuple #[]) ∧ ∃ f' nn', PlAt w' { h with f := f', nn := nn' } { v with st := takeV v.st m } ∧ PlMoves w w' h v { h with f := f', nn := nn' } { v with st := takeV v.st m } ∧ nn' ≤ h.nn + 24 := by
  obtain ⟨x1, x2, x3, x4, x5, x6, a1, n1, c1, p, a2, n2, c2⟩ := r
  unfold Raw.cells
  simp only
  obtain ⟨w1, hw1⟩ : ∃ w1, w1 = (w.alloc (.cells #[.pointer (some ⟨h.p, 0, none⟩)] 63)).alloc (.cells #[.int .i64 x1, .int .i64 x2, .int .i64 x3, .int .i64 x4, .int .i64 x5, .bool x6, .slice a1 n1 c1, .int .i64 p, .slice a2 n2 c2] 44) := ⟨_, rfl⟩
  have b1 : Below w.heap.size w w1 := by rw [hw1]; exact below2 _ _ _
  have g1 : w1.heap[w.heap.size]? = some (.cells #[.pointer (some ⟨h.p, 0, none⟩)] 63 (0, 0)) := by rw [hw1]; exact heap_old (heap_new _ _) _
  have g2 : w1.heap[w.heap.size + 1]? = some (.cells #[.int .i64 x1, .int .i64 x2, .int .i64 x3, .int .i64 x4, .int .i64 x5, .bool x6, .slice a1 n1 c1, .int .i64 p, .slice a2 n2 c2] 44 (0, 0)) := by rw [hw1]; exact heap_new2 _ _ _
  have y0 : w1.cell? ⟨w.heap.size, 0, none⟩ = some (.pointer (some ⟨h.p, 0, none⟩)) := (cell_of g1).trans rfl
  have y5 : w1.cell? ⟨w.heap.size + 1, 5, none⟩ = some (.bool x6) := (cell_of g2).trans rfl
  have z0 : w1.cell? ⟨w.heap.size + 1, 0, none⟩ = some (.int .i64 x1) := (cell_of g2).trans rfl
  have z6 : w1.cell? ⟨w.heap.size + 1, 6, none⟩ = some (.slice a1 n1 c1) := (cell_of g2).trans rfl
  have z7 : w1.cell? ⟨w.heap.size + 1, 7, none⟩ = some (.int .i64 p) := (cell_of g2).trans rfl
  have z8 : w1.cell? ⟨w.heap.size + 1, 8, none⟩ = some (.slice a2 n2 c2) := (cell_of g2).trans rfl
  have a' := a.below b1
  have m1 : PlMoves w w1 h v h v := PlMoves.refl.below b1
  have hn := hr.nums
  have hbt : x6 = m.beat := hn.x6
  rcases hc with hb | ⟨hb, hpf, hP, hL⟩
  · rw [hb] at hbt
    subst hbt
    have E : Hid (PlAt w1 { h with f := h.f, nn := h.nn } { v with st := takeV v.st m } ∧ PlMoves w w1 h v { h with f := h.f, nn := h.nn } { v with st := takeV v.st m }) := (show _ ∧ _ from by
      have e : takeV v.st m = v.st := if_pos hb
      rw [e]
      exact ⟨a', m1⟩)
    clear g1 g2 b1 a' m1 hr hn hb a hs
    go_enter Tryz.func36, Tryz.ntmps36
    go_upto_region 1 with (fail)
    rw [← hw1]
    clear hw1
    go_wp2
    first | (refine bodyPost_ret (results_none rfl _ _ _) rfl ?_) | ((try simp only [Exit.inBlock, Exit.then]); refine bodyPost_end (results_none rfl _ _ _) rfl ?_)
    exact ⟨rfl, h.f, h.nn, E.out.1, E.out.2, Nat.le_add_right _ _⟩
  · rw [hb] at hbt
    subst hbt
    have hp1 : p = x1 := by have e1 : p = m.c.place := hn.p; have e2 : x1 = m.frm := hn.x1; rw [e1, e2, hpf]
    have hpp : m.c.place = p := (show p = m.c.place from hn.p).symm
    have K27 := put_ok A w1 (hE.below b1 h12) (Nat.le_trans h12 b1.size) h.p h.mb h.db h.nn h.f v.st a'.store hs.nn hs.few m.c (.slice a1 n1 c1) (.slice a2 n2 c2) (comT_own (hr.own.at fun g _ hg => b1.block g hg)) (fun o ho => by have := hL.each o ho; exact ⟨by omega, by omega⟩) hP.err hP.len hP.old hs.base hP.new
    rw [hpp] at K27
    have K := hid K27
    have e : Hid (takeV v.st m = putTo v.st m.c m.c.ops.length) := (show _ = _ from if_neg (by rw [hb]; decide))
    subst hp1
    have HA := hid a'
    have HM := hid m1
    clear g1 g2 b1 a' m1 hr hn hb a hs K27 hP hL hpf hpp
    go_enter Tryz.func36, Tryz.ntmps36
    go_upto_region 1 with (fail)
    rw [← hw1]
    clear hw1
    go_wp2_with fail
    refine K.out.mono ?_
    rintro en w5 ⟨rfl, f', hV5, hT5, hK5⟩
    obtain ⟨pa, pm⟩ := HA.out.putIn hV5 hT5 hK5
    have P5 := hid pa
    have M5 := hid (HM.out.trans pm)
    clear hV5 hT5 hK5 pa pm
    go_wp2
    first | (refine bodyPost_ret (results_none rfl _ _ _) rfl ?_) | ((try simp only [Exit.inBlock, Exit.then]); refine bodyPost_end (results_none rfl _ _ _) rfl ?_)
    exact ⟨rfl, f', h.nn + 24, by rw [e.out]; exact P5.out, by rw [e.out]; exact M5.out, Nat.le_refl _⟩
/-- Is it another place? -/
theorem isOther_ok (w : World) (h : PlH) (v : PlV) (a : PlAt w h v) (j : Nat) (hj : j < v.n) (hne : j ≠ v.id) : Calls Tryz.prog 33 #[.pointer (some ⟨h.pb, 0, none⟩), .int .i64 j] w fun e w' => e = .returned (.bool true) ∧ Below w.heap.size w w' := by
  have x0 : w.cell? ⟨h.pb, 0, none⟩ = some (.int .i64 v.id) := (cell_of a.box).trans rfl
  have x4 : w.cell? ⟨h.pb, 4, none⟩ = some (.slice (some ⟨h.lb, 0, none⟩) v.n v.n) := (cell_of a.box).trans rfl
  have n6 := a.n6
  have h1 : (0 : Int) ≤ (j : Int) := by omega
  have h2 : (j : Int) < (v.n : Int) := by omega
  have h3 : (j : Int) ≠ (v.id : Int) := by omega
  clear a
  go_enter Tryz.func33, Tryz.ntmps33
  go_wp2
  rw [show ((j : Int) != (v.id : Int)) = true by simp; omega]
  go_ret
  exact ⟨rfl, Below.refl _ _⟩
theorem rseq_raw (w : World) (g mb n : Nat) (f t s seq time : Int) (M : Int → Option Raw) (h : RcvM w g mb n f t s seq time M) : Calls Tryz.prog 37 #[.pointer (some ⟨g, 0, none⟩)] w fun e w' => e = .returned (.int .i64 seq) ∧ w' = w := by
  have c3 : w.cell? ⟨g, 3, none⟩ = some (.int .i64 seq) := (cell_of h.box).trans rfl
  clear h
  go_enter Tryz.func37, Tryz.ntmps37
  go_wp2
  go_ret
  exact ⟨rfl, rfl⟩
end Go.Proofs.YtefpnojanldkeaaGreatDoor
namespace Go.Proofs.YtefpnojanldkeaaGreatDoor
open Go.RowKit Go.Maps
set_option maxRecDepth 100000
set_option linter.unusedSectionVars false
variable [Inhabited ComV] [DecidableEq D3] [Inhabited D3] [Inhabited Dd] [Inhabited Dn] [Inhabited OpV]

def updM (mm : Int → Option MsgV) (k : Int) (x : Option MsgV) : Int → Option MsgV := fun j => if j = k then x else mm j
def comeM (mm : Int → Option MsgV) (seq : Int) (c : Nat) : Int → Option MsgV := fun j => if seq < j ∧ j ≤ seq + c then none else mm j
def timeM (t : Int) (cl : List MsgV) : Int := (cl.getLast?.map (·.time)).getD t
/-- Behind the message m, cl has its turn. -/
structure HearIn (y : LnV) (m : MsgV) (cl : List MsgV) : Prop where
  len : y.rq + cl.length ≤ 1000
  each : ∀ i x, cl[i]? = some x → updM y.mm m.seq (some m) (y.rq + (i + 1 : Nat)) = some x ∧ x.seq = y.rq + (i + 1 : Nat)
  stop : updM y.mm m.seq (some m) (y.rq + (cl.length + 1 : Nat)) = none
def hearY (y : LnV) (m : MsgV) (cl : List MsgV) : LnV := { y with rq := y.rq + cl.length, rt := timeM y.rt cl, mm := comeM (updM y.mm m.seq (some m)) y.rq cl.length }
theorem optR_upd {R : Raw → MsgV → Prop} {M : Int → Option Raw} {mm : Int → Option MsgV} (h : ∀ q, OptR R (M q) (mm q)) {k : Int} {r : Raw} {m : MsgV} (hr : R r m) (q : Int) : OptR R (updV M k (some r) q) (updM mm k (some m) q) := by
  unfold updV updM
  by_cases e : q = k
  · rw [if_pos e, if_pos e]; exact hr
  · rw [if_neg e, if_neg e]; exact h q
theorem OptR.some_ {R : Raw → MsgV → Prop} : ∀ {a : Option Raw} {m : MsgV}, OptR R a (some m) → ∃ r, a = some r ∧ R r m
  | some r, _, h => ⟨r, rfl, h⟩
theorem OptR.none_ {R : Raw → MsgV → Prop} : ∀ {a : Option Raw}, OptR R a none → a = none
  | none, _ => rfl
theorem OptR.some' {R : Raw → MsgV → Prop} : ∀ {b : Option MsgV} {r : Raw}, OptR R (some r) b → ∃ m, b = some m ∧ R r m
  | some m, _, h => ⟨m, rfl, h⟩
/-- What the receiver's contract asks. -/
theorem HearIn.raws {y : LnV} {m : MsgV} {cl : List MsgV} (h : HearIn y m cl) {M : Int → Option Raw} (hM : ∀ q, OptR Raw.Nums (M q) (y.mm q)) {k : Int} (hk : k = m.seq) (r' : Raw) (hr : r'.Nums m) : ∃ (c : Nat) (rs : Nat → Raw), y.rq + c ≤ 1000 ∧ (∀ i, i < c → updV M k (some r') (y.rq + (i + 1 : Nat)) = some (rs i) ∧ (rs i).x4 = y.rq + (i + 1 : Nat)) ∧ updV M k (some r') (y.rq + (c + 1 : Nat)) = none := by
  subst hk
  have up := fun q => optR_upd hM (k := m.seq) hr q
  have key : ∀ i, ∃ r : Raw, i < cl.length → updV M m.seq (some r') (y.rq + (i + 1 : Nat)) = some r ∧ r.x4 = y.rq + (i + 1 : Nat) := fun i => by
    by_cases hi : i < cl.length
    · obtain ⟨e1, e2⟩ := h.each i _ (List.getElem?_eq_getElem hi)
      have u := up (y.rq + (i + 1 : Nat))
      rw [e1] at u
      obtain ⟨r, h1, h2⟩ := u.some_
      exact ⟨r, fun _ => ⟨h1, by rw [h2.x4]; exact e2⟩⟩
    · exact ⟨r', fun h => absurd h hi⟩
  refine ⟨cl.length, fun i => Classical.choose (key i), h.len, fun i hi => Classical.choose_spec (key i) hi, ?_⟩
  have u := up (y.rq + (cl.length + 1 : Nat))
  rw [h.stop] at u
  exact u.none_
theorem optR_nums {w : World} {a : Option Raw} {b : Option MsgV} (h : OptR (RawOwn 0 w) a b) : OptR Raw.Nums a b := h.mono fun _ _ q => q.nums
theorem LnAt.heard {w w' : World} {i j s : Int} {x : Ln} {y : LnV} (h : LnAt w i j s x y) {m : MsgV} {cl : List MsgV} (hI : HearIn y m cl) {c : Nat} {rs : Nat → Raw} {r' : Raw} (hR : RcvM w' x.gr x.gm (x.n + 1) j i s (y.rq + c) (timeR y.rt rs c) (comeV (updV x.M m.seq (some r')) y.rq c)) (hr : RawOwn 0 w' r' m) (hO : OnlyR x.gr x.gm w w') (hk : Keeps w w') (h1 : ∀ q, q < c → updV x.M m.seq (some r') (y.rq + (q + 1 : Nat)) = some (rs q)) (h2 : updV x.M m.seq (some r') (y.rq + (c + 1 : Nat)) = none) :
    c = cl.length ∧ F2 (RawOwn 0 w') (comeR rs c) cl ∧ LnAt w' i j s { x with n := x.n + 1, M := comeV (updV x.M m.seq (some r')) y.rq c } (hearY y m cl) := by
  have up := fun q => optR_upd (R := RawOwn 0 w') (M := x.M) (mm := y.mm) (fun q => (h.maps q).mono fun _ _ p => p.kept hk) (k := m.seq) hr q
  have hc : c = cl.length := by
    rcases Nat.lt_trichotomy c cl.length with e | e | e
    · obtain ⟨e1, _⟩ := hI.each c _ (List.getElem?_eq_getElem e)
      have u := up (y.rq + (c + 1 : Nat))
      rw [e1, h2] at u
      exact absurd u id
    · exact e
    · have u := up (y.rq + (cl.length + 1 : Nat))
      rw [hI.stop, h1 _ e] at u
      exact absurd u id
  subst hc
  have each : ∀ q (hq : q < cl.length), RawOwn 0 w' (rs q) cl[q] := fun q hq => by
    obtain ⟨e1, _⟩ := hI.each q _ (List.getElem?_eq_getElem hq)
    have u := up (y.rq + (q + 1 : Nat))
    rw [e1, h1 q hq] at u
    exact u
  have F : ∀ (l : List MsgV) (f : Nat → Raw), (∀ q (hq : q < l.length), RawOwn 0 w' (f q) l[q]) → F2 (RawOwn 0 w') ((List.range l.length).map f) l := fun l => by
    induction l with
    | nil => intro f _; trivial
    | cons a t ih =>
      intro f hf
      rw [List.length_cons, List.range_succ_eq_map, List.map_cons, List.map_map]
      exact ⟨hf 0 (by simp), ih (f ∘ Nat.succ) fun q hq => hf (q + 1) (by simp; omega)⟩
  have ht : timeR y.rt rs cl.length = timeM y.rt cl := by
    unfold timeM timeR
    cases e : cl.length with
    | zero =>
      rw [List.length_eq_zero_iff.1 e]
      rfl
    | succ q =>
      have hq : q < cl.length := by omega
      rw [List.getLast?_eq_getElem?, e, Nat.add_sub_cancel, List.getElem?_eq_getElem hq]
      exact (each q hq).nums.x5
  obtain ⟨t1, t2, t3, t4⟩ := h.ty
  refine ⟨rfl, F cl rs each, ⟨(hO.block _ (lt_of_heap h.snd.box) (fun e => by rw [e] at t1; omega) (fun e => by rw [e] at t1; omega)).trans h.snd.box, own_keep h.snd.row fun b hb => hO.block b (h.lt (.inr (.inl hb))) (fun e => by have := t4 b hb; rw [e] at this; omega) (fun e => by have := t4 b hb; rw [e] at this; omega)⟩, f2_mono (fun _ _ q => q.kept hk) h.own, ?_, fun q => ?_⟩
  · show RcvM w' x.gr x.gm (x.n + 1) j i s (y.rq + cl.length) (timeM y.rt cl) _
    rw [← ht]
    exact hR
  · show OptR _ (comeV (updV x.M m.seq (some r')) y.rq cl.length q) (comeM (updM y.mm m.seq (some m)) y.rq cl.length q)
    unfold comeV comeM
    by_cases e : y.rq < q ∧ q ≤ y.rq + cl.length
    · rw [if_pos e, if_pos e]; trivial
    · rw [if_neg e, if_neg e]; exact up q
end Go.Proofs.YtefpnojanldkeaaGreatDoor
