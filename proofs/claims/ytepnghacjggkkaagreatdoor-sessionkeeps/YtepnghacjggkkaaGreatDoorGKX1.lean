/- SessionKeeps: where the law stands between its calls; SessionKeeps: a value that was read stands. -/
import Derived.Test.YtepnghacjggkkaaGreatDoorGK0
namespace Go.Proofs.YtepnghacjggkkaaGreatDoor
open Go.RowKit Go.Maps
set_option maxRecDepth 100000
set_option linter.unusedSectionVars false
variable [Inhabited ComV] [DecidableEq D3] [Inhabited D3] [Inhabited Dd] [Inhabited Dn] [Inhabited OpV]

structure LkI (w : World) (pb sb : Nat) (h : PlH) (v : PlV) (C : List ComV) (W : World) : Prop where
  pb : h.pb = pb
  kp : KpI w.heap.size W h v C
  ses : ∃ ta tc, SesBox W sb (.slice ta 1 tc) none ∧ IntsT W (.slice ta 1 tc) [(C.length : Int)]
  nf : ¬ h.foot v sb
  lo : w.heap.size ≤ sb
  bel : Below w.heap.size w W
structure TkI (w wq : World) (sb xb : Nat) (h : PlH) (v : PlV) (C : List ComV) (os : List OpV) (W : World) : Prop where
  kpq : KpI w.heap.size wq h v C
  belq : Below w.heap.size w wq
  sesq : ∃ cs, wq.heap[sb]? = some (.cells cs 60 (0, 0))
  only : Only sb wq W
  nf : ¬ h.foot v sb
  lo : w.heap.size ≤ sb
  ses : ∃ ta tc, SesBox W sb (.slice ta 1 tc) (some ⟨xb, 0, none⟩) ∧ IntsT W (.slice ta 1 tc) [(C.length : Int)]
  tra : ∃ ov, TraBox W xb h.pb (.slice (some ⟨wq.heap.size, 0, none⟩) 1 1) ov ∧ OpsO wq.heap.size W xb ov os
  own : OwnOk C os
  len : os.length ≤ 12
  ints : W.heap[wq.heap.size]? = some (.cells ([(C.length : Int)].map (Value.int .i64)).toArray 3 (0, 0))
  xlo : wq.heap.size ≤ xb
section
variable {w wq W W' : World} {pb sb xb : Nat} {h : PlH} {v : PlV} {C : List ComV} {os : List OpV}
theorem TkI.kp (t : TkI w wq sb xb h v C os W) : KpI w.heap.size W h v C := by
  obtain ⟨cs, hq⟩ := t.sesq
  exact t.kpq.keep (fun b q => t.only.block b (t.kpq.at_.lt q) fun e => t.nf (e ▸ q)) (keeps_only hq (by decide) (by decide) (by decide) t.only)
theorem TkI.bel (t : TkI w wq sb xb h v C os W) : Below w.heap.size w W :=
  ⟨t.only.os.trans t.belq.os, t.only.tape.trans t.belq.tape, t.only.output.trans t.belq.output, Nat.le_trans t.belq.size t.only.size, fun b hb => (t.only.block b (Nat.lt_of_lt_of_le hb t.belq.size) (by have := t.lo; omega)).trans (t.belq.block b hb)⟩
theorem TkI.at (t : TkI w wq sb xb h v C os W) : IntsAt W (.slice (some ⟨wq.heap.size, 0, none⟩) 1 1) [(C.length : Int)] := ints_heapY (zs := [(C.length : Int)]) t.ints
theorem TkI.nfx (t : TkI w wq sb xb h v C os W) : ¬ h.foot v xb := fun q => by have := t.kpq.at_.lt q; have := t.xlo; omega
theorem TkI.step (t : TkI w wq sb xb h v C os W) (hb : Below W.heap.size W W') : TkI w wq sb xb h v C os W' := by
  obtain ⟨ta, tc, s1, s2⟩ := t.ses
  obtain ⟨ov, t1, t2⟩ := t.tra
  exact ⟨t.kpq, t.belq, t.sesq, t.only.trans (Only.of hb), t.nf, t.lo, ⟨ta, tc, (hb.block _ (lt_of_heap s1)).trans s1, intsT_keep s2 (keep3_below hb)⟩, ⟨ov, (hb.block _ (lt_of_heap t1)).trans t1, t2.below hb⟩, t.own, t.len, (hb.block _ (lt_of_heap t.ints)).trans t.ints, t.xlo⟩
def TkE (w wq : World) (sb xb : Nat) (h : PlH) (v : PlV) (C : List ComV) (W : World) : Prop := ∃ os, TkI w wq sb xb h v C os W
theorem TkI.more (t : TkI w wq sb xb h v C os W) {ov0 : Value} {e : Ending} (m : MrRet C wq.heap.size W xb h.pb (.slice (some ⟨wq.heap.size, 0, none⟩) 1 1) ov0 e W') : (∃ rv, e = .returned rv) ∧ TkE w wq sb xb h v C W' := by
  obtain ⟨rv, ov, os', he, hT, hO, hok, hl, hb, ho, _⟩ := m.ret
  obtain ⟨ta, tc, s1, s2⟩ := t.ses
  have s1' : W.heap[sb]? = some (.cells #[.slice ta 1 tc, .pointer (some ⟨xb, 0, none⟩)] 60 (0, 0)) := s1
  have on : Only sb W W' → Only sb wq W' := fun o => t.only.trans o
  refine ⟨⟨rv, he⟩, os', t.kpq, t.belq, t.sesq, ⟨hb.os.trans t.only.os, hb.tape.trans t.only.tape, hb.output.trans t.only.output, Nat.le_trans t.only.size hb.size, fun b q1 q2 => (hb.block b q1).trans (t.only.block b q1 q2)⟩, t.nf, t.lo, ⟨ta, tc, (ho sb _ 60 s1' (by decide) (by decide)).trans s1', ?_⟩, ⟨ov, hT, hO⟩, hok, hl, (ho _ _ 3 t.ints (by decide) (by decide)).trans t.ints, t.xlo⟩
  exact RowT.kept s2 fun b cs hc => ho b cs 3 hc (by decide) (by decide)
end
section
variable {w wq W : World} {sb xb : Nat} {h : PlH} {v : PlV} {C : List ComV} (A : Nat → Addr)
theorem TkI.k86 {os : List OpV} (t : TkI w wq sb xb h v C os W) (hS : Sents A w.heap.size w) (hl : C.length ≤ 2) (key : ByteArray) (hk : nameB key = true) (text : ByteArray) (W' : World) (hb : Below W.heap.size W W') : Calls Tryz.prog 86 #[.pointer (some ⟨h.pb, 0, none⟩), .string key, .string text, .slice (some ⟨wq.heap.size, 0, none⟩) 1 1] W' (DotsB text (opsK C key) W') := by
  have t' := t.step hb
  have hS' := hS.below t'.bel
  exact dotsP_K A w.heap.size W' hS'.e4 (by have := hS'.gl; have := hS'.size; omega) h v C t'.kp (by omega) key text hk _ 1 t'.at
theorem tk_set (hS : Sents A w.heap.size w) (hl : C.length ≤ 2) (t : TkE w wq sb xb h v C W) (key text : ByteArray) (ht : text.size ≤ 1000000) : Calls Tryz.prog 15 #[.pointer (some ⟨sb, 0, none⟩), .string key, .string text] W fun e W' => (∃ rv, e = .returned rv) ∧ TkE w wq sb xb h v C W' := by
  obtain ⟨os, t⟩ := t
  obtain ⟨ta, tc, s1, s2⟩ := t.ses
  obtain ⟨ov, t1, t2⟩ := t.tra
  have hS' := hS.below t.bel
  exact (set_any A wq.heap.size W hS'.e4 (by have := hS'.gl; have := hS'.size; omega) _ (hS'.cell 6 (by decide)) C t.kpq.kp (by omega) sb xb h.pb _ _ 1 ov os key text s1 t1 t.xlo t2 t.own t.len ht (fun hk text W' hb => t.k86 A hS hl key hk text W' hb)).mono fun e W' m => t.more m
theorem tk_add (hS : Sents A w.heap.size w) (hl : C.length ≤ 2) (t : TkE w wq sb xb h v C W) (key : ByteArray) (x : Int) : Calls Tryz.prog 13 #[.pointer (some ⟨sb, 0, none⟩), .string key, .int .i64 x] W fun e W' => (∃ rv, e = .returned rv) ∧ TkE w wq sb xb h v C W' := by
  obtain ⟨os, t⟩ := t
  obtain ⟨ta, tc, s1, s2⟩ := t.ses
  obtain ⟨ov, t1, t2⟩ := t.tra
  have hS' := hS.below t.bel
  exact (add_any A wq.heap.size W hS'.e4 (by have := hS'.gl; have := hS'.size; omega) _ (hS'.cell 6 (by decide)) C t.kpq.kp (by omega) sb xb h.pb _ _ 1 ov os key x s1 t1 t.xlo t2 t.own t.len (fun hk text W' hb => t.k86 A hS hl key hk text W' hb)).mono fun e W' m => t.more m
theorem tk_put (hS : Sents A w.heap.size w) (hl : C.length ≤ 2) (t : TkE w wq sb xb h v C W) (key text : ByteArray) (ht : text.size ≤ 1000000) : Calls Tryz.prog 16 #[.pointer (some ⟨sb, 0, none⟩), .string key, .string text] W fun e W' => (∃ rv, e = .returned rv) ∧ TkE w wq sb xb h v C W' := by
  obtain ⟨os, t⟩ := t
  obtain ⟨ta, tc, s1, s2⟩ := t.ses
  obtain ⟨ov, t1, t2⟩ := t.tra
  have hS' := hS.below t.bel
  exact (put_any A wq.heap.size W hS'.e4 (by have := hS'.gl; have := hS'.size; omega) _ (hS'.cell 6 (by decide)) C t.kpq.kp (by omega) sb xb h.pb _ _ 1 ov os key text s1 t1 t.xlo t2 t.own t.len ht (fun hk text W' hb => t.k86 A hS hl key hk text W' hb)).mono fun e W' m => t.more m
theorem tk_drop (hS : Sents A w.heap.size w) (hl : C.length ≤ 2) (t : TkE w wq sb xb h v C W) (key text : ByteArray) (ht : text.size ≤ 1000000) : Calls Tryz.prog 17 #[.pointer (some ⟨sb, 0, none⟩), .string key, .string text] W fun e W' => (∃ rv, e = .returned rv) ∧ TkE w wq sb xb h v C W' := by
  obtain ⟨os, t⟩ := t
  obtain ⟨ta, tc, s1, s2⟩ := t.ses
  obtain ⟨ov, t1, t2⟩ := t.tra
  have hS' := hS.below t.bel
  exact (drop_any A wq.heap.size W hS'.e4 (by have := hS'.gl; have := hS'.size; omega) _ (hS'.cell 6 (by decide)) C t.kpq.kp (by omega) sb xb h.pb _ _ 1 ov os key text s1 t1 t.xlo t2 t.own t.len ht (fun hk text W' hb => t.k86 A hS hl key hk text W' hb)).mono fun e W' m => t.more m
theorem lk_begin {pb : Nat} (hS : Sents A w.heap.size w) (hl : C.length ≤ 2) (l : LkI w pb sb h v C W) : Calls Tryz.prog 10 #[.pointer (some ⟨sb, 0, none⟩), .pointer (some ⟨pb, 0, none⟩)] W fun e W' => ∃ (a : Option Addr) (c xb : Nat), e = .returned (.tuple #[.slice a 1 c, .nilIface]) ∧ TkI w W sb xb h v C [] W' := by
  obtain ⟨ta, tc, s1, s2⟩ := l.ses
  have hS' := hS.below l.bel
  have t2 := two_self (n := C.length) (by omega)
  have hpb := l.pb
  subst hpb
  refine (begin_ok A W hS'.e4 (by have := hS'.gl; have := hS'.size; omega) sb h.pb _ [(C.length : Int)] [(C.length : Int)] s1 s2.at t2.1 t2.2.1 (by have := snap_ret l.kp.at_; rw [l.kp.snap] at this; exact this)).mono ?_
  rintro e W' ⟨a, c, ta', tc', xb, rfl, q1, q2, q3, q4, q5, q6⟩
  exact ⟨a, c, xb, rfl, l.kp, l.bel, ⟨_, s1⟩, q6, l.nf, l.lo, ⟨ta', tc', q1, q3⟩, ⟨_, q2, OpsO.nil _ _ _⟩, OwnOk.nil C, by simp, q4, q5⟩
theorem tk_read {os : List OpV} (hS : Sents A w.heap.size w) (hl : C.length ≤ 2) (t : TkI w wq sb xb h v C os W) (key : ByteArray) (hk : nameB key = true) : Calls Tryz.prog 12 #[.pointer (some ⟨sb, 0, none⟩), .string key] W (RdK (ownVal (opsK C key) (valA (opsK C key)) (os.filter fun o => decide (o.key = key))) W) := by
  obtain ⟨ta, tc, s1, s2⟩ := t.ses
  refine readS_yes W sb xb _ key _ s1 fun W1 hb1 => ?_
  have t' := t.step hb1
  obtain ⟨ov, t1, t2⟩ := t'.tra
  exact value_any W1 xb h.pb _ 1 1 ov key os (opsK C key) t1 t2.at t'.len t'.own.err (opsK_set t'.kpq.kp (by omega) key) (fun h0 => opsK_kind t'.kpq.kp key h0) (opsK_n t'.kpq.kp (by omega) key)
    (fun W2 hb2 => by
      have t'' := t'.step hb2
      have hS' := hS.below t''.bel
      exact readP_K A w.heap.size W2 hS'.e4 (by have := hS'.gl; have := hS'.size; omega) h v C t''.kp (by omega) key hk _ 1 t''.at)
    (fun text W2 hb2 => (t'.k86 A hS hl key hk text W2 hb2).mono fun _ _ q => q.k)
theorem tk_noread {os : List OpV} (hS : Sents A w.heap.size w) (t : TkI w wq sb xb h v C os W) (key : ByteArray) (hk : nameB key = false) : Calls Tryz.prog 12 #[.pointer (some ⟨sb, 0, none⟩), .string key] W (RdN A W) := by
  obtain ⟨ta, tc, s1, s2⟩ := t.ses
  refine readS_no A W sb xb _ key s1 fun W1 hb1 => ?_
  have t' := t.step hb1
  obtain ⟨ov, t1, t2⟩ := t'.tra
  have hS' := hS.below t'.bel
  exact value_no A W1 hS'.e4 (by have := hS'.gl; have := hS'.size; omega) xb h.pb _ 1 1 ov key hk t1
def nextC (C : List ComV) (os : List OpV) : List ComV := if os = [] then C else C ++ [comK C os]
theorem nextC_val {os : List OpV} (hC : KpC C) (hl : C.length ≤ 2) (ho : OwnOk C os) (h12 : os.length ≤ 12) (key : ByteArray) : ownVal (opsK C key) (valA (opsK C key)) (os.filter fun o => decide (o.key = key)) = valA (opsK (nextC C os) key) := by
  unfold nextC
  by_cases e : os = []
  · subst e
    rw [if_pos rfl]
    exact own_nil _ _
  · rw [if_neg e]
    exact (hC.keeps (by omega) ho e h12 key).symm
theorem tk_commit {os : List OpV} (hS : Sents A w.heap.size w) (hl : C.length ≤ 2) (t : TkI w wq sb xb h v C os W) : Calls Tryz.prog 14 #[.pointer (some ⟨sb, 0, none⟩)] W (ScK w.heap.size W sb h v (nextC C os)) := by
  obtain ⟨ta, tc, s1, s2⟩ := t.ses
  refine sesC_any w.heap.size W h v C (nextC C os) t.kp sb xb _ s1 t.nf fun W1 hb1 => ?_
  have t' := t.step hb1
  obtain ⟨ov, t1, t2⟩ := t'.tra
  have hS' := hS.below t'.bel
  obtain ⟨oa, oc, rfl⟩ := t2.shape
  unfold nextC
  by_cases e : os = []
  · subst e
    rw [if_pos rfl]
    exact traC_none w.heap.size W1 h v C t'.kp xb _ 1 oa oc t1 t'.at
  · rw [if_neg e]
    exact traC_some A w.heap.size W1 hS'.sen h v C t'.kp hl os t'.own e t'.len xb _ 1 oa os.length oc t1 t'.nfx t'.at t2.at
end
end Go.Proofs.YtepnghacjggkkaaGreatDoor
namespace Go.Proofs.YtepnghacjggkkaaGreatDoor
open Go.RowKit Go.Maps
set_option maxRecDepth 100000
set_option linter.unusedSectionVars false
variable [Inhabited ComV] [DecidableEq D3] [Inhabited D3] [Inhabited Dd] [Inhabited Dn] [Inhabited OpV]

theorem foot_kind {B : Nat} {W : World} {h : PlH} {v : PlV} {C : List ComV} (i : KpI B W h v C) {b : Nat} (hb : h.foot v b) : (∀ x, W.cell? ⟨b, 0, none⟩ ≠ some (.string x)) ∧ ∀ cs, W.heap[b]? ≠ some (.cells cs 41 (0, 0)) := by
  have hc : ∀ {q : Nat} {cs : Array Value} {t : TypeId} {u : Value}, W.heap[q]? = some (.cells cs t (0, 0)) → cs[0]? = some u → (∀ x, u ≠ .string x) → t ≠ 41 → (∀ x, W.cell? ⟨q, 0, none⟩ ≠ some (.string x)) ∧ ∀ cs, W.heap[q]? ≠ some (.cells cs 41 (0, 0)) := fun {q cs t u} h1 h2 h3 h4 => ⟨fun x e => by rw [cell_of h1, h2] at e; exact h3 x (Option.some.inj e), fun cs' e => by rw [h1] at e; injection e with e; injection e with _ e; exact h4 e⟩
  rcases hb with rfl | rfl | rfl | rfl | rfl | ⟨k, e⟩ | ⟨j, h1, h2, _⟩ | ⟨j, s, hl, _⟩
  · exact hc i.at_.box rfl (fun _ e => by cases e) (by decide)
  · obtain ⟨bv, q1, q2⟩ := i.at_.store.box
    obtain ⟨a, c, rfl⟩ : ∃ a c, bv = .slice a v.st.base.length c := by
      obtain ⟨a, c, e, _⟩ := q2
      exact ⟨a, c, by rw [e]; simp⟩
    exact hc q1 rfl (fun _ e => by cases e) (by decide)
  · obtain ⟨D, q1, _⟩ := i.at_.store.map
    obtain ⟨es, clock, q2⟩ := map_obj q1
    exact ⟨fun x e => (by simp only [World.cell?, q2] at e; cases e), fun cs e => (by rw [q2] at e; cases e)⟩
  · obtain ⟨D, q1, _⟩ := i.at_.store.dots
    obtain ⟨es, clock, q2⟩ := map_obj q1
    exact ⟨fun x e => (by simp only [World.cell?, q2] at e; cases e), fun cs e => (by rw [q2] at e; cases e)⟩
  · obtain ⟨cs, q1, q2⟩ := i.at_.lines
    have q3 := q2 0 (by rw [i.n]; decide)
    have q4 : lineV h v 0 = .slice none 0 0 := by unfold lineV; rw [if_pos i.id.symm]
    rw [q4] at q3
    exact hc q1 q3 (fun _ e => by cases e) (by decide)
  · obtain ⟨rows, q1, q2⟩ := i.at_.store.rows k
    by_cases h0 : rowOf v.st k = []
    · obtain ⟨D, m1, m2⟩ := i.at_.store.map
      have m3 := (m2 k).2
      have m4 := (m2 k).1
      rw [h0] at m4
      have hs := sliceElem_row q1
      rcases sliceElem_inv hs with ⟨z, _⟩ | ⟨g, n, c, z, z2⟩
      · rw [z] at e; cases e
      · rw [h0] at q1
        have e2 : D.atKey (klS k) .nil = .nil := atKey_of_not_has (by simpa using m4) _
        rw [e2] at m3
        have z3 : rowDat (h.f k) = .agg [.lit (.int .i64 g), .lit (.int .i64 n), .lit (.int .i64 c)] := by
          have := congrArg Prod.fst z2
          exact this
        rw [z3] at m3
        cases m3
    · obtain ⟨cs, q3⟩ := own_type q1 e
      have hl : 0 < (rowOf v.st k).length := List.length_pos_iff.2 h0
      obtain ⟨r, hr, wv, ov, he, hw, _⟩ := f2_at q2 hl
      have hrow := rowT_of_owns q1 (f2_len q2).symm (f2_len3 q2)
      obtain ⟨ad, cap, hv', _, _, q4⟩ := hrow
      rcases q4 with q4 | ⟨b', off, cs', hb', q5, q6⟩
      · rw [q4] at hr; simp at hr
      · have hbo : (h.f k).ownBlock = some b' ∧ off = 0 := by
          rcases q1.2 with ⟨z, z0⟩ | ⟨g, cp, cur, z, _⟩
          · omega
          · rw [z] at hv'
            injection hv' with z1 _ _
            rw [hb'] at z1
            have z2 := Option.some.inj z1
            injection z2 with z3 z4
            rw [z]
            exact ⟨by rw [← z3]; rfl, z4.symm⟩
        have hbb : b' = b := by rw [hbo.1] at e; exact Option.some.inj e
        subst hbb
        have c0 := (q6 0 r hr).2 0 wv (by rw [he]; rfl)
        rw [hbo.2] at c0
        obtain ⟨wa, wc, hwv, _⟩ := hw
        refine hc q5 (by simpa using c0) (fun x z => ?_) (by decide)
        rw [hwv] at z
        cases z
  · rw [i.n] at h1; rw [i.id] at h2; omega
  · have h1 := hl.1
    have h2 := hl.2.1
    rw [i.n] at h1; rw [i.id] at h2; omega
def VlAt (W : World) (b : Nat) (x : ValV) : Prop := ∃ sv, W.heap[b]? = some (.cells #[.int .i64 x.kind, .string x.text, .int .i64 x.n, sv] 41 (0, 0)) ∧ StrsAt W sv x.set
theorem VlAt.keep {W W' : World} {b : Nat} {x : ValV} (h : VlAt W b x) (hk : ∀ q, q < W.heap.size → (∃ u, W.cell? ⟨q, 0, none⟩ = some (.string u)) ∨ (∃ cs, W.heap[q]? = some (.cells cs 41 (0, 0))) → W'.heap[q]? = W.heap[q]?) : VlAt W' b x := by
  obtain ⟨sv, h1, h2⟩ := h
  refine ⟨sv, (hk b (lt_of_heap h1) (.inr ⟨_, h1⟩)).trans h1, ?_⟩
  refine strs_keep h2 fun q hq t => World.cell?_of_block (a := ⟨q, t, none⟩) (hk q ?_ (.inl hq))
  obtain ⟨u, hu⟩ := hq
  exact lt_of_cell hu
theorem VlAt.below {W W' : World} {b : Nat} {x : ValV} (h : VlAt W b x) (hb : Below W.heap.size W W') : VlAt W' b x := h.keep fun q hq _ => hb.block q hq
theorem VlAt.only {W W' : World} {b sb : Nat} {x : ValV} {tv tp : Value} {a n c} (h : VlAt W b x) (hs : W.heap[sb]? = some (.cells #[tv, tp] 60 (0, 0))) (ht : tv = .slice a n c) (o : Only sb W W') : VlAt W' b x := h.keep fun q hq hu => o.block q hq fun e => by
  subst ht
  rcases hu with ⟨u, hu⟩ | ⟨cs, hu⟩
  · rw [e, cell_of hs] at hu
    cases hu
  · rw [e, hs] at hu
    injection hu with hu
    injection hu with _ hu
    exact absurd hu (by decide)
theorem VlAt.commit {B : Nat} {W W' : World} {b sb : Nat} {x : ValV} {h : PlH} {v : PlV} {C C' : List ComV} {e : Ending} {tp : Value} {a : Option Addr} {c : Nat} (hx : VlAt W b x) (i : KpI B W h v C) (hs : W.heap[sb]? = some (.cells #[.slice a 1 c, tp] 60 (0, 0))) (k : ScK B W sb h v C' e W') : VlAt W' b x := by
  obtain ⟨h', v', _, _, _, _, _, _, _, _, _, _, _, _, _, _, _, _, _, hst, _⟩ := k.ret
  refine hx.keep fun q hq hu => (hst q hq (fun e => ?_) (fun hf => ?_)).1
  · rcases hu with ⟨u, hu⟩ | ⟨cs, hu⟩
    · rw [e, cell_of hs] at hu
      cases hu
    · rw [e, hs] at hu
      injection hu with hu
      injection hu with _ hu
      exact absurd hu (by decide)
  · have := foot_kind i hf
    rcases hu with ⟨u, hu⟩ | ⟨cs, hu⟩
    · exact this.1 u hu
    · exact this.2 cs hu
theorem lk_of {w W W' : World} {sb : Nat} {h : PlH} {v : PlV} {C' : List ComV} {e : Ending} (hlo : w.heap.size ≤ sb) (hbel : Below w.heap.size w W) (hlow : ∀ b, h.foot v b → w.heap.size ≤ b) (k : ScK w.heap.size W sb h v C' e W') : ∃ h' v', LkI w h.pb sb h' v' C' W' ∧ ∃ (a3 a4 : Option Addr) (c3 n4 c4 : Nat) (la : Option Addr) (ln lc : Nat), e = .returned (.tuple #[.agg #[.slice a3 1 c3, .int .i64 0, .slice a4 n4 c4], .slice la ln lc, .nilIface]) := by
  obtain ⟨h', v', a3, a4, c3, n4, c4, la, ln, lc, ta, tc, he, q1, q2, q3, q4, q5, q6, q7, q8, q9, q10⟩ := k.ret
  exact ⟨h', v', ⟨q2, q1, ⟨ta, tc, q3, q4⟩, q6, hlo, ⟨q8.trans hbel.os, q9.trans hbel.tape, q10.trans hbel.output, Nat.le_trans hbel.size q5, fun b hb => (q7 b (Nat.lt_of_lt_of_le hb hbel.size) (by omega) (fun hf => by have := hlow b hf; omega)).1.trans (hbel.block b hb)⟩⟩, a3, a4, c3, n4, c4, la, ln, lc, he⟩
theorem LkI.step {w W W' : World} {pb sb : Nat} {h : PlH} {v : PlV} {C : List ComV} (l : LkI w pb sb h v C W) (hb : Below W.heap.size W W') : LkI w pb sb h v C W' := by
  obtain ⟨ta, tc, s1, s2⟩ := l.ses
  exact ⟨l.pb, l.kp.below hb, ⟨ta, tc, (hb.block _ (lt_of_heap s1)).trans s1, intsT_keep s2 (keep3_below hb)⟩, l.nf, l.lo, l.bel.trans (hb.mono l.bel.size)⟩
theorem lk_abort {w wq W : World} {sb xb : Nat} {h : PlH} {v : PlV} {C : List ComV} {os : List OpV} (t : TkI w wq sb xb h v C os W) : Calls Tryz.prog 18 #[.pointer (some ⟨sb, 0, none⟩)] W fun e W' => e = .returned .nilIface ∧ LkI w h.pb sb h v C W' ∧ Only sb W W' := by
  obtain ⟨ta, tc, s1, s2⟩ := t.ses
  refine (abort_any W sb _ _ s1).mono ?_
  rintro e W' ⟨rfl, q1, q2⟩
  have hk : Keeps W W' := keeps_only s1 (by decide) (by decide) (by decide) q2
  exact ⟨rfl, ⟨rfl, t.kp.keep (fun b q => q2.block b (t.kp.at_.lt q) fun e => t.nf (e ▸ q)) hk, ⟨ta, tc, q1, intsT_keep s2 (keep3_of hk)⟩, t.nf, t.lo, ⟨q2.os.trans t.bel.os, q2.tape.trans t.bel.tape, q2.output.trans t.bel.output, Nat.le_trans t.bel.size q2.size, fun b hb => (q2.block b (Nat.lt_of_lt_of_le hb t.bel.size) (by have := t.lo; omega)).trans (t.bel.block b hb)⟩⟩, q2⟩
end Go.Proofs.YtepnghacjggkkaaGreatDoor
