/- send: to each line its shard's part; checkAt; a store is put into, the clock ticks. -/
import Derived.Test.YtefpnojanldkeaaGreatDoorJLK
namespace Go.Proofs.YtefpnojanldkeaaGreatDoor
open Go.RowKit Go.Maps
set_option maxRecDepth 100000
set_option linter.unusedSectionVars false
variable [Inhabited ComV] [DecidableEq D3] [Inhabited D3] [Inhabited Dd] [Inhabited Dn] [Inhabited OpV]

/-- The time that a commit tells. -/
def timeC (c : ComV) : Int := c.when_.getD c.place.toNat 0
def sendM (v : PlV) (c : ComV) (j s : Nat) : MsgV := ⟨v.id, j, s, (v.Y j s).sq + 1, timeC c, false, partV c v.k s⟩
def sendY (v : PlV) (c : ComV) (j s : Nat) : LnV := if partOps c.ops v.k s = [] then v.Y j s else { v.Y j s with sq := (v.Y j s).sq + 1, st := timeC c, ms := (v.Y j s).ms ++ [sendM v c j s] }
def sendT (v : PlV) (c : ComV) (j s : Nat) : List MsgV := if partOps c.ops v.k s = [] then [] else [sendM v c j s]
/-- The parts stand where the closure finds them. -/
structure SendP (k : Nat) (c : ComV) (vb R : Nat) (a1 : Option Addr) (n1 c1 : Nat) (W : World) : Prop where
  box : W.heap[vb]? = some (.cells #[.slice (some ⟨R, 0, none⟩) k k] 116 (0, 0))
  row : ∃ cs, W.heap[R]? = some (.cells cs 36 (0, 0)) ∧ ∀ s, s < k → ∃ a6 c6, cs[s * 3]? = some (.slice a1 n1 c1) ∧ cs[s * 3 + 1]? = some (.int .i64 c.place) ∧ cs[s * 3 + 2]? = some (.slice a6 (partOps c.ops k s).length c6) ∧ ComOwn 0 W (.slice a1 n1 c1) (.slice a6 (partOps c.ops k s).length c6) (partV c k s)
  sents : ∃ A B, Sen A B W
theorem light_part {c : ComV} (h : Light c) (k s : Nat) : Light (partV c k s) := ⟨h.when_, Nat.le_trans (List.length_filter_le _ _) h.ops, fun o ho => h.each o (List.mem_filter.1 ho).1⟩
set_option maxHeartbeats 4000000 in
theorem send1_tell (v0 : PlV) (hok : PvOk v0) (c : ComV) (hL : Light c) (hpl : c.place = v0.id) (ht : ∀ j s, v0.line j s → (v0.Y j s).st < timeC c) (hE : ∀ s, s < v0.k → partOps c.ops v0.k s ≠ [] → (comE (partV c v0.k s)).1 = 0) (vb R : Nat) (a1 : Option Addr) (n1 c1 : Nat) : LineTell 58 (.pointer (some ⟨vb, 0, none⟩)) v0 (sendT v0 c) (sendY v0 c) (SendP v0.k c vb R a1 n1 c1) := by
  rintro W x j s q hl hP
  have q3 := q.2.2
  obtain ⟨w1, hw1⟩ : ∃ w1, w1 = W.alloc (.cells #[.pointer (some ⟨x.g, 0, none⟩), .pointer (some ⟨x.gr, 0, none⟩)] 80) := ⟨_, rfl⟩
  have b1 : Below W.heap.size W w1 := by rw [hw1]; exact below_alloc _ _
  have g1 : w1.heap[W.heap.size]? = some (.cells #[.pointer (some ⟨x.g, 0, none⟩), .pointer (some ⟨x.gr, 0, none⟩)] 80 (0, 0)) := by rw [hw1]; exact heap_new _ _
  obtain ⟨cs, r1, r2⟩ := hP.row
  obtain ⟨a6, c6, d0, d1, d2, hco⟩ := r2 s q3
  obtain ⟨A, B, hS⟩ := hP.sents
  have c0' : w1.heap[vb]? = _ := (b1.block _ (lt_of_heap hP.box)).trans hP.box
  have c2' : w1.heap[R]? = _ := (b1.block _ (lt_of_heap r1)).trans r1
  have L1 : LnAt w1.drew v0.id j s x (v0.Y j s) := hl.keep (fun b hb => b1.block b (hl.lt hb)) (Keeps.bel b1.drew)
  obtain ⟨mn, hmn⟩ : ∃ mn, mn = (partOps c.ops v0.k s).length := ⟨_, rfl⟩
  rw [← hmn] at d2 hco
  have e0 : w1.cell? ⟨W.heap.size, 0, none⟩ = some (.pointer (some ⟨x.g, 0, none⟩)) := (cell_of g1).trans rfl
  have e1 : w1.cell? ⟨vb, 0, none⟩ = some (.slice (some ⟨R, 0, none⟩) v0.k v0.k) := (cell_of c0').trans rfl
  have e2 : w1.cell? ⟨R, s * 3, none⟩ = some (.slice a1 n1 c1) := (cell_of c2').trans d0
  have e3 : w1.cell? ⟨R, s * 3 + 1, none⟩ = some (.int .i64 v0.id) := (cell_of c2').trans (by rw [← hpl]; exact d1)
  have e4 : w1.cell? ⟨R, s * 3 + 2, none⟩ = some (.slice a6 mn c6) := (cell_of c2').trans d2
  have hsk : (s : Int) < (v0.k : Int) := by omega
  by_cases hz : partOps c.ops v0.k s = []
  · have hm0 : mn = 0 := by rw [hmn, hz]; rfl
    subst hm0
    have hy : Hid (sendY v0 c j s = v0.Y j s ∧ sendT v0 c j s = []) := (show _ ∧ _ from ⟨if_pos hz, if_pos hz⟩)
    have E : Hid (LnAt w1 v0.id j s x (v0.Y j s) ∧ (∀ b, b < W.heap.size → ¬ x.foot b → w1.heap[b]? = W.heap[b]?) ∧ Keeps W w1 ∧ w1.os = W.os ∧ w1.tape = W.tape ∧ w1.output = W.output ∧ W.heap.size ≤ w1.heap.size) := (show _ ∧ _ from ⟨hl.keep (fun b hb => b1.block b (hl.lt hb)) (Keeps.bel b1), fun b hb _ => b1.block b hb, Keeps.bel b1, b1.os, b1.tape, b1.output, b1.size⟩)
    clear c0' c2' d0 d1 d2 r1 r2 g1 hl hP L1 hco hS b1 e0 e2 e3 hz hmn
    go_enter Tryz.func58, Tryz.ntmps58
    go_upto_region 1 with (fail)
    rw [← hw1]
    clear hw1
    go_wp2
    go_ret
    refine ⟨none, 0, [], x, rfl, .inl ⟨rfl, rfl, rfl⟩, ?_, ?_, rfl, rfl, rfl, rfl, .inl rfl, E.out.2⟩
    · rw [hy.out.2]; trivial
    · rw [hy.out.1]; exact E.out.1
  · have hm1 : 0 < mn := by rw [hmn]; exact List.length_pos_iff.2 hz
    have hm0 : (mn : Int) ≠ 0 := by omega
    have hpv : (partV c v0.k s).place = v0.id := hpl
    have K59 := commit_ok A B w1.drew (hS.below ((b1.drew).mono hS.size)) x.g v0.id j s (v0.Y j s).sq (v0.Y j s).st x.v x.l L1.snd (partV c v0.k s) a1 a6 n1 c1 mn c6 (hco.at fun g _ hg => b1.drew.block g hg) (light_part hL v0.k s) (by rw [f2_len L1.own]; have := hok.ms1 j s q; omega) (hok.sq0 j s q) (by have := hok.sq1 j s q; omega) (hE s q3 hz) hpv (timeC c) rfl (ht j s q)
    rw [hpv] at K59
    have K59' := hid K59
    obtain ⟨t1, t2, t3, t4⟩ := L1.ty
    have off : ∀ {b : Nat} {ds : Array Value} {t : TypeId}, w1.heap[b]? = some (.cells ds t (0, 0)) → t ≠ 123 → t ≠ 44 → b ≠ x.g ∧ x.v.ownBlock ≠ some b := fun {b ds t} hb h1 h2 => by
      have tb : tyAt w1.drew b = t + 1 := tyAt_cells hb
      exact ⟨fun e => h1 (by rw [e, t1] at tb; exact Nat.succ.inj tb.symm), fun e => h2 (by rw [t4 _ e] at tb; exact Nat.succ.inj tb.symm)⟩
    have HN : Hid ((W.heap.size ≠ x.g ∧ x.v.ownBlock ≠ some W.heap.size) ∧ (vb ≠ x.g ∧ x.v.ownBlock ≠ some vb) ∧ (R ≠ x.g ∧ x.v.ownBlock ≠ some R)) := (show _ ∧ _ from ⟨off g1 (by decide) (by decide), off c0' (by decide) (by decide), off c2' (by decide) (by decide)⟩)
    have HL := hid L1
    have B1 := hid b1
    have hy : Hid (sendY v0 c j s = { v0.Y j s with sq := (v0.Y j s).sq + 1, st := timeC c, ms := (v0.Y j s).ms ++ [sendM v0 c j s] } ∧ sendT v0 c j s = [sendM v0 c j s]) := (show _ ∧ _ from ⟨if_neg hz, if_neg hz⟩)
    clear c0' c2' d0 d1 d2 r1 r2 g1 hl hP L1 hco hS b1 t1 t2 t3 t4 off hz hmn K59
    go_enter Tryz.func58, Tryz.ntmps58
    go_upto_region 1 with (fail)
    rw [← hw1]
    clear hw1
    go_upto_region 3 with (fail)
    go_region_held (fun u => u.cell? ⟨W.heap.size, 0, none⟩ = some (.pointer (some ⟨x.g, 0, none⟩)) ∧ u.cell? ⟨vb, 0, none⟩ = some (.slice (some ⟨R, 0, none⟩) v0.k v0.k) ∧ u.cell? ⟨R, s * 3, none⟩ = some (.slice a1 n1 c1) ∧ u.cell? ⟨R, s * 3 + 1, none⟩ = some (.int .i64 v0.id) ∧ u.cell? ⟨R, s * 3 + 2, none⟩ = some (.slice a6 mn c6)) (first | go_keep | exact ⟨u0, u1, u2, u3, u4⟩ | exact ⟨(hb3.cell (lt_of_cell u0)).trans u0, (hb3.cell (lt_of_cell u1)).trans u1, (hb3.cell (lt_of_cell u2)).trans u2, (hb3.cell (lt_of_cell u3)).trans u3, (hb3.cell (lt_of_cell u4)).trans u4⟩) (first | (go_at_call 59; refine K59'.out.mono ?_; rintro e w2 ⟨v', r2, r3, rfl, hS2, h2, h3, hO, hv', hk⟩; have u0 : w2.cell? ⟨W.heap.size, 0, none⟩ = some (.pointer (some ⟨x.g, 0, none⟩)) := ((World.cell?_of_block (hO.block _ (lt_of_cell e0) HN.out.1.1 HN.out.1.2)).trans e0); have u1 : w2.cell? ⟨vb, 0, none⟩ = some (.slice (some ⟨R, 0, none⟩) v0.k v0.k) := ((World.cell?_of_block (hO.block _ (lt_of_cell e1) HN.out.2.1.1 HN.out.2.1.2)).trans e1); have u2 : w2.cell? ⟨R, s * 3, none⟩ = some (.slice a1 n1 c1) := ((World.cell?_of_block (hO.block _ (lt_of_cell e2) HN.out.2.2.1 HN.out.2.2.2)).trans e2); have u3 : w2.cell? ⟨R, s * 3 + 1, none⟩ = some (.int .i64 v0.id) := ((World.cell?_of_block (hO.block _ (lt_of_cell e3) HN.out.2.2.1 HN.out.2.2.2)).trans e3); have u4 : w2.cell? ⟨R, s * 3 + 2, none⟩ = some (.slice a6 mn c6) := ((World.cell?_of_block (hO.block _ (lt_of_cell e4) HN.out.2.2.1 HN.out.2.2.2)).trans e4); have L2 := hid (HL.out.sent hS2 h2 hO hk); have HO := hid hO; have HV := hid hv'; have HK := hid hk; have H3 := hid h3; clear hS2 h2 h3 hO hv' hk) | (go_at_call 31; refine (sent_any _ r3).mono ?_; rintro e w3 ⟨rfl, hm3, hb3⟩))
    have lt2 : ∀ b, b < W.heap.size → b < w1.drew.heap.size := fun b hb => Nat.lt_of_lt_of_le hb B1.out.size
    have E : Hid (SrcAt w3 (.slice (some ⟨w2.heap.size + 1, 0, none⟩) 1 1) 1 9 (raws [r3]) ∧ F2 (RawOwn 0 w3) [r3] (sendT v0 c j s) ∧ LnAt w3 v0.id j s { x with v := v', l := x.l ++ [r2] } (sendY v0 c j s) ∧ (v'.ownBlock = x.v.ownBlock ∨ ∃ c, v'.ownBlock = some c ∧ W.heap.size ≤ c) ∧ (∀ b, b < W.heap.size → ¬ x.foot b → w3.heap[b]? = W.heap[b]?) ∧ Keeps W w3 ∧ w3.os = W.os ∧ w3.tape = W.tape ∧ w3.output = W.output ∧ W.heap.size ≤ w3.heap.size) := (show _ ∧ _ from by
      have k2 := Keeps.bel hb3
      refine ⟨src_one hm3, ?_, ?_, ?_, fun b hb hf => ?_, ((Keeps.bel B1.out.drew).trans HK.out).trans k2, hb3.os.trans (HO.out.os.trans B1.out.os), hb3.tape.trans (HO.out.tape.trans B1.out.tape), hb3.output.trans (HO.out.output.trans B1.out.output), Nat.le_trans B1.out.size (Nat.le_trans HO.out.size hb3.size)⟩
      · rw [hy.out.2]
        exact ⟨(H3.out.base (Nat.zero_le _)).kept k2, trivial⟩
      · rw [hy.out.1]
        exact L2.out.keep (fun b hb => hb3.block b (L2.out.lt hb)) k2
      · rcases HV.out with h | ⟨c, h, hc⟩
        · exact .inl h
        · exact .inr ⟨c, h, Nat.le_trans B1.out.size hc⟩
      · rw [hb3.block b (Nat.lt_of_lt_of_le (lt2 b hb) HO.out.size), HO.out.block b (lt2 b hb) (fun e => hf (.inl e)) (fun e => hf (.inr (.inl e)))]
        exact B1.out.block b hb)
    clear u0 u1 u2 u3 u4 e0 e1 e2 e3 e4 hm3 hb3 lt2
    go_wp2
    go_ret
    exact ⟨_, _, [r3], { x with v := v', l := x.l ++ [r2] }, rfl, E.out.1, E.out.2.1, E.out.2.2.1, rfl, rfl, rfl, rfl, E.out.2.2.2⟩
theorem set_other {w : World} {g k b j : Nat} {v u : Value} (h : w.cell? ⟨b, j, none⟩ = some u) (hn : b ≠ g) : (w.setCell ⟨g, k, none⟩ v).cell? ⟨b, j, none⟩ = some u := (World.cell?_of_block (Below.heap_setCell _ _ _ _ hn)).trans h
theorem PaI.send {W W' : World} {bx : Array Value} {a1 : Option Addr} {n1 c1 k : Nat} {c : ComV} {V : Nat → Value} (h : PaI W bx (.slice a1 n1 c1) c.place c.ops k c.ops.length V W') (hw : W'.ownsRow 0 3 1 (.slice a1 n1 c1) c.when_.length (c.when_.map (Value.int .i64))) : ∃ cs, W'.heap[W.heap.size + 1]? = some (.cells cs 36 (0, 0)) ∧ ∀ s, s < k → ∃ a6 c6, cs[s * 3]? = some (.slice a1 n1 c1) ∧ cs[s * 3 + 1]? = some (.int .i64 c.place) ∧ cs[s * 3 + 2]? = some (.slice a6 (partOps c.ops k s).length c6) ∧ ComOwn 0 W' (.slice a1 n1 c1) (.slice a6 (partOps c.ops k s).length c6) (partV c k s) := by
  obtain ⟨cs, r1, _, r3⟩ := h.row
  refine ⟨cs, r1, fun s hs => ?_⟩
  obtain ⟨rows, g1, g2⟩ := h.ops s hs
  rw [List.take_length] at g1 g2
  obtain ⟨a6, c6, hV⟩ := row_shape g1
  obtain ⟨d1, d2, d3⟩ := r3 s hs
  rw [hV] at d3 g1
  exact ⟨a6, c6, d1, d2, d3, hw, rows, owns_base g1 (Nat.zero_le _), g2⟩
theorem SendP.of {W W' : World} {k : Nat} {c : ComV} {vb R : Nat} {a1 : Option Addr} {n1 c1 : Nat} {cs : Array Value} (hb : W'.heap[vb]? = some (.cells #[.slice (some ⟨R, 0, none⟩) k k] 116 (0, 0))) (hR : W'.heap[R]? = some (.cells cs 36 (0, 0))) (hc : ∀ s, s < k → ∃ a6 c6, cs[s * 3]? = some (.slice a1 n1 c1) ∧ cs[s * 3 + 1]? = some (.int .i64 c.place) ∧ cs[s * 3 + 2]? = some (.slice a6 (partOps c.ops k s).length c6) ∧ ComOwn 0 W (.slice a1 n1 c1) (.slice a6 (partOps c.ops k s).length c6) (partV c k s)) (hk : Keeps W W') (hS : ∃ A B, Sen A B W') : SendP k c vb R a1 n1 c1 W' :=
  ⟨hb, ⟨cs, hR, fun s hs => by obtain ⟨a6, c6, h1, h2, h3, h4⟩ := hc s hs; exact ⟨a6, c6, h1, h2, h3, h4.kept hk⟩⟩, hS⟩
/-- The parts stand while the place's lines turn. -/
theorem SendP.moved {w W : World} {k : Nat} {c : ComV} {vb R : Nat} {a1 : Option Addr} {n1 c1 : Nat} {h0 h : PlH} {v0 v : PlV} {o : Option Nat} (p : SendP k c vb R a1 n1 c1 w) (g : PlG w h0 v0 o h v W) (h1 : ¬ h0.foot v0 vb) (h2 : ¬ h0.foot v0 R) (hS : ∃ A B, Sen A B W) : SendP k c vb R a1 n1 c1 W := by
  obtain ⟨cs, r1, r2⟩ := p.row
  exact SendP.of ((g.mov.block _ (lt_of_heap p.box) h1).trans p.box) ((g.mov.block _ (lt_of_heap r1) h2).trans r1) r2 g.mov.keeps hS
set_option maxHeartbeats 8000000 in
theorem send_any (A : Nat → Addr) (B : Nat) (w : World) (hS : Sen A B w) (h : PlH) (v : PlV) (a : PlAt w h v) (hlow : ∀ b, h.foot v b → B ≤ b) (hok : PvOk v) (c : ComV) (a1 a2 : Option Addr) (n1 c1 n2 c2 : Nat) (ho : ComOwn 0 w (.slice a1 n1 c1) (.slice a2 n2 c2) c) (hL : Light c) (hpl : c.place = v.id) (ht : ∀ j s, v.line j s → (v.Y j s).st < timeC c) (hE : ∀ s, s < v.k → partOps c.ops v.k s ≠ [] → (comE (partV c v.k s)).1 = 0) :
    Calls Tryz.prog 28 #[.pointer (some ⟨h.pb, 0, none⟩), .agg #[.slice a1 n1 c1, .int .i64 v.id, .slice a2 n2 c2]] w fun e w' => ∃ (h' : PlH) (rv : Value) (rs : List Raw), e = .returned rv ∧ PlG w h v rv.ownBlock h' { v with Y := sendY v c } w' ∧ h'.p = h.p ∧ h'.mb = h.mb ∧ h'.db = h.db ∧ h'.f = h.f ∧ h'.nn = h.nn ∧ w'.ownsRow w.heap.size 44 9 rv rs.length (raws rs) ∧ F2 (RawOwn 0 w') rs (allMs (sendT v c) v.id v.k v.n) := by
  have hwhen := ho.1
  obtain ⟨w1, hw1⟩ : ∃ w1, w1 = w.alloc (.cells #[.slice a1 n1 c1, .int .i64 v.id, .slice a2 n2 c2] 36) := ⟨_, rfl⟩
  have b1 : Below w.heap.size w w1 := by rw [hw1]; exact below_alloc _ _
  have g1 : w1.heap[w.heap.size]? = some (.cells #[.slice a1 n1 c1, .int .i64 v.id, .slice a2 n2 c2] 36 (0, 0)) := by rw [hw1]; exact heap_new _ _
  have A1 := hid (a.below b1)
  have x0 : w1.cell? ⟨w.heap.size, 0, none⟩ = some (.slice a1 n1 c1) := (cell_of g1).trans rfl
  have x1 : w1.cell? ⟨w.heap.size, 1, none⟩ = some (.int .i64 v.id) := (cell_of g1).trans rfl
  have x2 : w1.cell? ⟨w.heap.size, 2, none⟩ = some (.slice a2 n2 c2) := (cell_of g1).trans rfl
  have x3 : w1.cell? ⟨h.pb, 1, none⟩ = some (.int .i64 v.k) := (cell_of A1.out.box).trans rfl
  have K57 := hid (fun W (hW : Below w1.heap.size w1 W) => partsOf_any W a1 a2 n1 c1 n2 c2 v.k c (ho.at fun g _ hg => (b1.trans (hW.mono b1.size)).block g hg) hL a.k1 a.k6)
  rw [hpl] at K57
  have hn0 : w.heap.size ≠ w1.heap.size := fun e => by have := lt_of_heap g1; omega
  have hn1 : h.pb ≠ w1.heap.size := fun e => by have := lt_of_heap A1.out.box; omega
  have HW := hid hwhen
  have B1 := hid b1
  have HA := hid a
  have HS := hid hS
  have HLOW := hid hlow
  have HPL := hid hpl
  have KT := hid (fun vb R => send1_tell v hok c hL hpl ht hE vb R a1 n1 c1)
  clear g1 b1 a ho hwhen hS hL ht hE hok hlow hpl
  go_enter Tryz.func28, Tryz.ntmps28
  go_upto_region 1 with (fail)
  rw [← hw1]
  clear hw1
  go_cut [5] (fun x wx => ∃ (vb R : Nat), x = .pointer (some ⟨vb, 0, none⟩) ∧ Hid (SendP v.k c vb R a1 n1 c1 wx ∧ Below w.heap.size w wx ∧ w.heap.size ≤ vb ∧ w.heap.size ≤ R))
  case first =>
    go_region_held (fun u => u.cell? ⟨w.heap.size, 0, none⟩ = some (.slice a1 n1 c1) ∧ u.cell? ⟨w.heap.size, 1, none⟩ = some (.int .i64 v.id) ∧ u.cell? ⟨w.heap.size, 2, none⟩ = some (.slice a2 n2 c2) ∧ u.cell? ⟨h.pb, 1, none⟩ = some (.int .i64 v.k)) (first | go_keep | exact ⟨set_other t0 hn0, set_other t1 hn0, set_other t2 hn0, set_other t3 hn1⟩) ((go_at_call 57; refine (K57.out _ ?hb).mono ?_; (case hb => first | exact (Below.refl w1.heap.size w1).drew | exact (below_alloc w1 _).drew); rintro e w2 ⟨V, rfl, hP2⟩; have hb2 := hP2.below; have hb2' : Below w1.heap.size w1 w2 := (by first | exact (below_draws (Below.refl w1.heap.size w1) 1).trans hb2 | exact (below_draws (below_alloc w1 _) 1).trans (hb2.mono (by show w1.heap.size ≤ (w1.alloc _).heap.size; simp))); have kp : ∀ (b j : Nat) (u : Value), w1.cell? ⟨b, j, none⟩ = some u → w2.cell? ⟨b, j, none⟩ = some u := (fun b j u hc => (hb2'.cell (p := ⟨b, j, none⟩) (lt_of_cell hc)).trans hc); have t0 := kp _ _ _ x0; have t1 := kp _ _ _ x1; have t2 := kp _ _ _ x2; have t3 := kp _ _ _ x3; (try (have hz : w2.heap[w1.heap.size]? = some (.cells #[.slice none 0 0] 116 (0, 0)) := (hb2.block _ (by show w1.heap.size < (w1.alloc _).heap.size; simp)).trans (MapKept.heap_alloc w1 _).1; have z0 : w2.cell? ⟨w1.heap.size, 0, none⟩ = some (.slice none 0 0) := (cell_of hz).trans rfl; have zf : w2.frozen? ⟨w1.heap.size, 0, none⟩ = false := free_of hz; have HZ := hid hz)); have P2 := hid hP2; have B2 := hid hb2'; clear hP2 hb2 hb2' kp))
    · have bw : Below w.heap.size w w2 := B1.out.trans (B2.out.mono B1.out.size)
      obtain ⟨cs, r1, r2⟩ := PaI.send (c := c) (by rw [HPL.out]; exact P2.out) (owns_at HW.out fun g _ hg => bw.block g hg)
      have F : Hid (SendP v.k c w2.heap.size (w1.heap.size + 1) a1 n1 c1 (w2.alloc (.cells #[.slice (some ⟨w1.heap.size + 1, 0, none⟩) v.k v.k] 116)) ∧ Below w.heap.size w (w2.alloc (.cells #[.slice (some ⟨w1.heap.size + 1, 0, none⟩) v.k v.k] 116)) ∧ w.heap.size ≤ w2.heap.size ∧ w.heap.size ≤ w1.heap.size + 1) := (show _ ∧ _ from ⟨SendP.of (heap_new _ _) (heap_old r1 _) r2 (Keeps.bel (below_alloc _ _)) ⟨A, B, HS.out.below ((bw.alloc bw.size _).mono HS.out.size)⟩, bw.alloc bw.size _, bw.size, Nat.le_succ_of_le B1.out.size⟩)
      clear x0 x1 x2 x3 t0 t1 t2 t3 bw r1 r2
      go_wp2_with fail
      go_meet
      exact ⟨w2.heap.size, w1.heap.size + 1, rfl, F⟩
    · have bw : Below w.heap.size w w2 := B1.out.trans (B2.out.mono B1.out.size)
      obtain ⟨cs, r1, r2⟩ := PaI.send (c := c) (by rw [HPL.out]; exact P2.out) (owns_at HW.out fun g _ hg => bw.block g hg)
      have r1' : w2.heap[w1.heap.size + 1 + 1]? = some (.cells cs 36 (0, 0)) := by
        have e : (w1.alloc (.cells #[.slice none 0 0] 116)).drew.heap.size = w1.heap.size + 1 := World.size_alloc _ _
        rw [e] at r1
        exact r1
      have ho : ∀ q, q ≠ w1.heap.size → (w2.setCell ⟨w1.heap.size, 0, none⟩ (.slice (some ⟨w1.heap.size + 1 + 1, 0, none⟩) v.k v.k)).heap[q]? = w2.heap[q]? := fun q hq => Below.heap_setCell _ _ _ _ hq
      have F : Hid (SendP v.k c w1.heap.size (w1.heap.size + 1 + 1) a1 n1 c1 (w2.setCell ⟨w1.heap.size, 0, none⟩ (.slice (some ⟨w1.heap.size + 1 + 1, 0, none⟩) v.k v.k)) ∧ Below w.heap.size w (w2.setCell ⟨w1.heap.size, 0, none⟩ (.slice (some ⟨w1.heap.size + 1 + 1, 0, none⟩) v.k v.k)) ∧ w.heap.size ≤ w1.heap.size ∧ w.heap.size ≤ w1.heap.size + 1 + 1) := (show _ ∧ _ from ⟨SendP.of ((heap_set HZ.out _).trans rfl) ((ho _ (by omega)).trans r1') r2 (keeps_but HZ.out (by decide) (by decide) (by decide) fun q _ hq => ho q hq) ⟨A, B, HS.out.below ((bw.setCell (show w.heap.size ≤ w1.heap.size from B1.out.size) _).mono HS.out.size)⟩, bw.setCell (show w.heap.size ≤ w1.heap.size from B1.out.size) _, B1.out.size, Nat.le_succ_of_le (Nat.le_succ_of_le B1.out.size)⟩)
      clear x0 x1 x2 x3 t0 t1 t2 t3 bw r1 r1' r2 ho z0 zf
      go_wp2_with fail
      go_meet
      exact ⟨w1.heap.size, w1.heap.size + 1 + 1, rfl, F⟩
  case rest =>
    obtain ⟨vb, R, hv, HI⟩ := hcut
    rw [hv]
    clear hv
    obtain ⟨hP, hb, hvb, hR⟩ := HI.out
    have ac := HA.out.below hb
    have x4 : wc.cell? ⟨h.pb, 4, none⟩ = some (.slice (some ⟨h.lb, 0, none⟩) v.n v.n) := (cell_of ac.box).trans rfl
    have K29 := hid (gather_58 wc v.n v.k v.id h.pb h.lb h.b (fun j s => (h.X j s).g) (fun j s => (h.X j s).gr) (GaS wc h v (sendT v c) (sendY v c)) (.pointer (some ⟨vb, 0, none⟩)) (GaS.ok ac (fun j s => by unfold sendT; split <;> simp)) (GaS.call (P := SendP v.k c vb R a1 n1 c1) (fun W o h' v' g _ => hP.moved g (fun e => by have := HA.out.lt e; omega) (fun e => by have := HA.out.lt e; omega) ⟨A, B, HS.out.below ⟨g.mov.os.trans hb.os, g.mov.tape.trans hb.tape, g.mov.output.trans hb.output, Nat.le_trans hb.size g.mov.size, fun k hk => (g.mov.block k (by have := HS.out.size; have := hb.size; omega) fun e => by have := HLOW.out k e; omega).trans (hb.block k (by have := HS.out.size; omega))⟩⟩) (KT.out vb R)) x4 ⟨⟨h, v, PlG.start ac, rfl, rfl, rfl, rfl, rfl, rfl, rfl, fun j s q => (if_neg (by omega)).symm⟩, trivial, (fun q hq => by cases hq), Nat.zero_le _, Nat.zero_le _⟩)
    have HB := hid hb
    clear hP hb hvb hR ac HI KT K57
    go_wp2_with fail
    refine K29.out.mono ?_
    rintro e w2 ⟨rv, rs, rfl, hI, hrow⟩
    obtain ⟨ra, rc, hrv⟩ := row_shape hrow
    obtain ⟨⟨h', g', r1, r2, r3, r4, r5⟩, hF⟩ := hI.done
    have G2 := hid (g'.ahead HB.out)
    have R2 := hid (owns_base hrow HB.out.size)
    have F2' := hid hF
    have RR := hid (show h'.p = h.p ∧ h'.mb = h.mb ∧ h'.db = h.db ∧ h'.f = h.f ∧ h'.nn = h.nn from ⟨r1, r2, r3, r4, r5⟩)
    clear hI g' hF hrow x4 r1 r2 r3 r4 r5
    subst hrv
    go_wp2
    go_ret
    exact ⟨h', _, rs, rfl, G2.out, RR.out.1, RR.out.2.1, RR.out.2.2.1, RR.out.2.2.2.1, RR.out.2.2.2.2, R2.out, F2'.out⟩
end Go.Proofs.YtefpnojanldkeaaGreatDoor
namespace Go.Proofs.YtefpnojanldkeaaGreatDoor
open Go.RowKit Go.Maps
set_option maxRecDepth 100000
set_option linter.unusedSectionVars false
variable [Inhabited ComV] [DecidableEq D3] [Inhabited D3] [Inhabited Dd] [Inhabited Dn] [Inhabited OpV]

theorem ints_heap {W : World} {b c : Nat} {zs : List Int} (h : W.heap[b]? = some (.cells (zs.map (Value.int .i64)).toArray 3 (0, 0))) : IntsAt W (.slice (some ⟨b, 0, none⟩) zs.length c) zs := by
  refine ⟨_, _, rfl, by simp, .inr ⟨_, _, rfl, fun t ht => ?_⟩⟩
  rw [cell_of h]
  simp [ht]
/-- What is asked is within the snapshot. -/
theorem checkAt_any (A : Nat → Addr) (w : World) (hE : E4 A w) (h12 : 12 ≤ w.heap.size) (h : PlH) (v : PlV) (a : PlAt w h v) (va : Option Addr) (vn vc : Nat) (at_ : List Int) (hv : IntsAt w (.slice va vn vc) at_) (h2 : two at_ (snapV v) = 0) (hle : leB at_ (snapV v) = true) : Calls Tryz.prog 25 #[.pointer (some ⟨h.pb, 0, none⟩), .slice va vn vc] w fun e w' => e = .returned .nilIface ∧ Below w.heap.size w w' := by
  have K12 := hid (snapshot_any w h v a)
  have HV := hid hv
  have HE := hid hE
  clear hv hE
  go_enter Tryz.func25, Tryz.ntmps25
  go_wp2_with fail
  refine K12.out.mono ?_
  rintro e w1 ⟨rfl, hG, hb1⟩
  have HI := ints_heap (c := v.n) hG
  rw [snapV_len] at HI
  have K48 := hid (Within_ok A w1 (HE.out.below hb1 h12) _ _ _ _ (HV.out.mono hb1 (Nat.le_refl _)) HI h2)
  rw [hle] at K48
  have B1 := hid hb1
  clear hG hb1 HI
  go_wp2_with fail
  refine K48.out.mono ?_
  rintro e w2 ⟨rfl, q, hw2⟩
  have B2 : Hid (Below w.heap.size w w2) := (show Below _ _ _ from by rw [hw2]; exact below_draws B1.out q)
  clear hw2
  go_wp2
  go_ret
  exact ⟨rfl, B2.out⟩
theorem keeps_of3 {w w' : World} (h : Keep3 w w') : Keeps w w' := fun t ht b cs hc => by
  rcases ht with rfl | rfl | rfl
  · exact h.ints b cs hc
  · exact h.ops b cs hc
  · exact h.dots b cs hc
/-- What is not of a store's foot. -/
theorem PlAt.offStore {w : World} {h : PlH} {v : PlV} (a : PlAt w h v) {b : Nat} {cs : Array Value} {t : TypeId} (hb : w.heap[b]? = some (.cells cs t (0, 0))) (ht : t ≠ 36) : b ≠ h.mb ∧ b ≠ h.db ∧ ∀ k, (h.f k).ownBlock ≠ some b := by
  obtain ⟨D, h1, _⟩ := a.store.map
  obtain ⟨D', h2, _⟩ := a.store.dots
  refine ⟨cells_ne_map h1 hb, cells_ne_map h2 hb, fun k e => ?_⟩
  obtain ⟨rs, r1, _⟩ := a.store.rows k
  have t1 := tyAt_own r1 e
  rw [tyAt_cells hb] at t1
  exact ht (Nat.succ.inj t1)
theorem PlAt.putIn {w w' : World} {h : PlH} {v : PlV} (a : PlAt w h v) {f' : ByteArray → Value} {s' : St} {n' : Nat} (hV : VerAt w' h.p h.mb h.db f' s' n') (hT : Turn w w' h.mb h.db h.f f') (hK : Keep3 w w') : PlAt w' { h with f := f', nn := n' } { v with st := s' } ∧ PlMoves w w' h v { h with f := f', nn := n' } { v with st := s' } := by
  have hk := keeps_of3 hK
  have same : ∀ {b : Nat} {cs : Array Value} {t : TypeId}, w.heap[b]? = some (.cells cs t (0, 0)) → t ≠ 36 → w'.heap[b]? = w.heap[b]? := fun hb ht => hT.block _ (lt_of_heap hb) (a.offStore hb ht).1 (a.offStore hb ht).2.1 (a.offStore hb ht).2.2
  refine ⟨⟨a.idn, a.n6, a.k1, a.k6, (same a.box (by decide)).trans a.box, ?_, fun j h1 h2 => ?_, fun j s q => ?_, a.apart, a.mapne, hV⟩, ⟨hT.os, hT.tape, hT.output, hT.size, fun b hb hn => hT.block b hb (fun e => hn (.inr (.inr (.inl e)))) (fun e => hn (.inr (.inr (.inr (.inl e))))) (fun k e => hn (.inr (.inr (.inr (.inr (.inr (.inl ⟨k, e⟩))))))), fun b hb => ?_, hk⟩⟩
  · obtain ⟨cs, c1, c2⟩ := a.lines
    exact ⟨cs, (same c1 (by decide)).trans c1, c2⟩
  · obtain ⟨cs, c1, c2⟩ := a.line j h1 h2
    exact ⟨cs, (same c1 (by decide)).trans c1, c2⟩
  · have l := a.each j s q
    refine l.keep (fun b hb => ?_) hk
    rcases hb with rfl | hb | rfl | rfl
    · exact same l.snd.box (by decide)
    · obtain ⟨cs, hc⟩ := own_type l.snd.row hb
      exact same hc (by decide)
    · exact same l.rcv.box (by decide)
    · refine hT.block _ l.rcv.mlt (a.mapne j s q).1 (a.mapne j s q).2 fun k e => ?_
      obtain ⟨rs, r1, _⟩ := a.store.rows k
      have t1 := tyAt_own r1 e
      have t3 := l.ty.2.2.1
      omega
  · rcases hb with e | e | e | e | e | ⟨k, e⟩ | e | e
    · exact .inl (.inl e)
    · exact .inl (.inr (.inl e))
    · exact .inl (.inr (.inr (.inl e)))
    · exact .inl (.inr (.inr (.inr (.inl e))))
    · exact .inl (.inr (.inr (.inr (.inr (.inl e)))))
    · rcases hT.fresh k b e with ⟨k', e'⟩ | e'
      · exact .inl (.inr (.inr (.inr (.inr (.inr (.inl ⟨k', e'⟩))))))
      · exact .inr e'
    · exact .inl (.inr (.inr (.inr (.inr (.inr (.inr (.inl e)))))))
    · exact .inl (.inr (.inr (.inr (.inr (.inr (.inr (.inr e)))))))
theorem PlAt.tick {w : World} {h : PlH} {v : PlV} (a : PlAt w h v) (c' : Int) : PlAt (w.setCell ⟨h.pb, 2, none⟩ (.int .i64 c')) h { v with ck := c' } ∧ PlMoves w (w.setCell ⟨h.pb, 2, none⟩ (.int .i64 c')) h v h { v with ck := c' } := by
  have ho : ∀ b, b ≠ h.pb → (w.setCell ⟨h.pb, 2, none⟩ (.int .i64 c')).heap[b]? = w.heap[b]? := fun b hb => Below.heap_setCell _ _ _ _ hb
  have hk : Keeps w (w.setCell ⟨h.pb, 2, none⟩ (.int .i64 c')) := keeps_but a.box (by decide) (by decide) (by decide) fun b _ hb => ho b hb
  have tp : tyAt w h.pb = 69 := tyAt_cells a.box
  have same : ∀ {b : Nat} {cs : Array Value} {t : TypeId}, w.heap[b]? = some (.cells cs t (0, 0)) → t ≠ 68 → (w.setCell ⟨h.pb, 2, none⟩ (.int .i64 c')).heap[b]? = w.heap[b]? := fun hb ht => ho _ (cell_ne hb a.box ht)
  have ty0 : ∀ {b : Nat}, tyAt w b ≠ 69 → (w.setCell ⟨h.pb, 2, none⟩ (.int .i64 c')).heap[b]? = w.heap[b]? := fun {b} hb => ho b fun e => hb (by rw [e]; exact tp)
  refine ⟨⟨a.idn, a.n6, a.k1, a.k6, (heap_set a.box _).trans rfl, ?_, fun j h1 h2 => ?_, fun j s q => ?_, a.apart, a.mapne, ?_⟩, ⟨rfl, rfl, rfl, by simp, fun b _ hn => ho b fun e => hn (.inl e), fun b hb => .inl hb, hk⟩⟩
  · obtain ⟨cs, c1, c2⟩ := a.lines
    exact ⟨cs, (same c1 (by decide)).trans c1, c2⟩
  · obtain ⟨cs, c1, c2⟩ := a.line j h1 h2
    exact ⟨cs, (same c1 (by decide)).trans c1, c2⟩
  · have l := a.each j s q
    exact l.keep (fun b hb => ho b (a.off q hb).1) hk
  · obtain ⟨bv, v1, _⟩ := a.store.box
    obtain ⟨D, v2, _⟩ := a.store.map
    obtain ⟨D', v3, _⟩ := a.store.dots
    exact a.store.keep (same v1 (by decide)) (ty0 (by rw [tyAt_map v2]; decide)) (ty0 (by rw [tyAt_map v3]; decide)) (fun k b hb => ty0 (by obtain ⟨rs, r1, _⟩ := a.store.rows k; rw [tyAt_own r1 hb]; decide)) (keep3_of hk)
end Go.Proofs.YtefpnojanldkeaaGreatDoor
