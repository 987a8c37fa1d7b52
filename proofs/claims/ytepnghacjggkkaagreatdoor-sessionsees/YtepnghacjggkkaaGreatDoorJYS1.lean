/- SessionSees: what is sent comes; the session commits; it must wait; SessionSees: a session must wait; SessionSees: the places are made, one by one; SessionSees: a block beside the places is stored into while a transaction is open. -/
import Derived.Test.YtepnghacjggkkaaGreatDoorJYP
import Derived.Deep.RegionHeld
namespace Go.Proofs.YtepnghacjggkkaaGreatDoor
open Go.RowKit Go.Maps
set_option maxRecDepth 100000
set_option linter.unusedSectionVars false
variable [Inhabited ComV] [DecidableEq D3] [Inhabited D3] [Inhabited Dd] [Inhabited Dn] [Inhabited OpV]

structure SesU (wb : World) (n k t : Nat) (C : List ComV) (pb pc sb : Nat) (H : Nat → PlH) (V : Nat → PlV) (tok : List Int) (tv : Value) (la : Option Addr) (lc : Nat) (rs : List Raw) (W : World) : Prop where
  net : NetAt wb n H V W
  row : W.ownsRow wb.heap.size 30 1 (.slice (some ⟨pb, 0, none⟩) n pc) n (ptrs H n)
  rowo : Off n H V pb
  box : SesBox W sb tv none
  boxo : Off n H V sb
  low : wb.heap.size ≤ sb
  tokT : IntsT W tv tok
  chk : chk tok = 0
  len : tok.length = n
  all : ∀ c ∈ C, leB c.when_ tok = true
  inv : ∃ U B, NetI n k C t U H V ∧ SentRow n H V B (.slice la rs.length lc) rs U W
variable {wb W W' : World} {n k t : Nat} {C : List ComV} {pb pc sb xb ab p : Nat} {H H' : Nat → PlH} {V V' : Nat → PlV} {tok : List Int} {tv ov : Value} {la : Option Addr} {lc : Nat} {rs : List Raw}
theorem own_pb {n pc q : Nat} (hq : (Value.slice (some ⟨pb, 0, none⟩) n pc).ownBlock = some q) : q = pb := by simpa [Value.ownBlock] using hq.symm
theorem SesU.below (I : SesU wb n k t C pb pc sb H V tok tv la lc rs W) (hb : Below W.heap.size W W') : SesU wb n k t C pb pc sb H V tok tv la lc rs W' := by
  obtain ⟨U, B, hN, hR⟩ := I.inv
  have mv : NetMv n W W' H V H V := NetMv.below hb
  exact ⟨I.net.below hb, (mv.own I.row fun q hq => by rw [own_pb hq]; exact I.rowo).1, I.rowo, (hb.block _ (lt_of_heap I.box)).trans I.box, I.boxo, I.low, intsT_keep I.tokT (keep3_below hb), I.chk, I.len, I.all, U, B, hN, ⟨(mv.own hR.row hR.off).1, hR.off, f2_mono (fun _ _ q => q.kept (keeps_bel hb)) hR.own⟩⟩
theorem SesU.arrive (A : Nat → Addr) (hS : Sen A wb.heap.size wb) (I : SesU wb n k t C pb pc sb H V tok tv la lc rs W) (n1 : 1 ≤ n) (n6 : n ≤ 6) (ht : t ≤ 60) :
    Calls Tryz.prog 8 #[.slice (some ⟨pb, 0, none⟩) n pc, .slice la rs.length lc] W fun e W' => ∃ (H' : Nat → PlH) (V' : Nat → PlV), e = .returned (.bool true) ∧ SesI wb n k t C pb pc sb H' V' tok tv W' ∧ ∀ i, i < n → (H' i).pb = (H i).pb := by
  obtain ⟨U, B, hN, hR⟩ := I.inv
  have hl : rs.length ≤ 9223372036854775807 := by
    rcases hR.row.2 with ⟨_, h0⟩ | ⟨g, cap, cur, hv, _, _, h1, h2, _⟩
    · omega
    · exact Nat.le_trans h1 h2
  refine (arrive_ok A W hS I.net hN n1 n6 ht _ B pb pc I.row I.rowo la lc rs hR hl).mono ?_
  rintro e W' ⟨H', V', he, hA, hN', hM⟩
  have hr := hM.own I.row fun q hq => by rw [own_pb hq]; exact I.rowo
  have hs := hM.off sb (lt_of_heap I.box) I.boxo
  exact ⟨H', V', he, ⟨hA, hN', by rw [ptrs_pb hM.pb]; exact hr.1, hr.2 pb rfl, hs.2.trans I.box, hs.1, I.low, intsT_keep I.tokT (keep3_of hM.keeps), I.chk, I.len, I.all⟩, hM.pb⟩
theorem ses_beat (I : SesI wb n k t C pb pc sb H V tok tv W) (k1 : 1 ≤ k) (k6 : k ≤ 6) (ht : t ≤ 60) (hp : p < n) :
    Calls Tryz.prog 9 #[.pointer (some ⟨(H p).pb, 0, none⟩)] W fun e W' => ∃ (H' : Nat → PlH) (V' : Nat → PlV) (la : Option Addr) (lc : Nat) (rs : List Raw), e = .returned (.slice la rs.length lc) ∧ SesU wb n k (t + 1) C pb pc sb H' V' tok tv la lc rs W' ∧ ∀ i, i < n → (H' i).pb = (H i).pb := by
  refine (net_beat I.net I.inv k1 k6 ht hp).mono ?_
  rintro e W' ⟨h', v', rv, rs, U, he, hpb, hM, hA, hN, hR⟩
  obtain ⟨la, lc, hrv⟩ := row_shape hR.row
  subst hrv
  have mv : NetMv n W W' H V (updP H p h') (updP V p v') := NetMv.of hp hM hpb
  have hr := mv.own I.row fun q hq => by rw [own_pb hq]; exact I.rowo
  have hs := mv.off sb (lt_of_heap I.box) I.boxo
  exact ⟨_, _, la, lc, rs, he, ⟨hA, by rw [ptrs_pb mv.pb]; exact hr.1, hr.2 pb rfl, hs.2.trans I.box, hs.1, I.low, intsT_keep I.tokT (keep3_of mv.keeps), I.chk, I.len, I.all, U, _, hN, hR⟩, mv.pb⟩
theorem nOps_at {ob oc B : Nat} (hr : W.ownsRow B 97 7 (.slice (some ⟨ob, 0, none⟩) 1 oc) 1 [.int .i64 0, .string nKey, .int .i64 2, .string ⟨#[]⟩, .int .i64 1, .bool false, .slice none 0 0]) : OpsAt W (.slice (some ⟨ob, 0, none⟩) 1 oc) nOps := by
  have hc : 1 ≤ oc := by
    rcases hr.2 with ⟨hv, _⟩ | ⟨g, cap, cur, hv, _, _, h1, _⟩
    · cases hv
    · injection hv with _ _ hv
      omega
  refine ⟨[[.int .i64 0, .string nKey, .int .i64 2, .string ⟨#[]⟩, .int .i64 1, .bool false, .slice none 0 0]], ⟨_, _, rfl, (fun e => by cases e), hc, .inr ⟨ob, 0, rfl, fun j r hj => ?_⟩⟩, ⟨.slice none 0 0, rfl, ⟨none, 0, rfl, fun _ => rfl, Nat.le_refl _, .inl rfl⟩⟩, trivial⟩
  obtain ⟨rfl, rfl⟩ : j = 0 ∧ r = [.int .i64 0, .string nKey, .int .i64 2, .string ⟨#[]⟩, .int .i64 1, .bool false, .slice none 0 0] := by
    cases j with
    | zero => exact ⟨rfl, by simpa using hj.symm⟩
    | succ j => simp at hj
  refine ⟨rfl, fun i u hu => ?_⟩
  have := row_cellsY hr i u hu
  rw [Nat.zero_mul, Nat.zero_add]
  exact this
theorem tr_commit (A : Nat → Addr) (hS : Sen A wb.heap.size W) {ob oc B : Nat} (T : TrI wb n k t C pb pc sb xb ab p H V tv (.slice (some ⟨ob, 0, none⟩) 1 oc) W) (hr : W.ownsRow B 97 7 (.slice (some ⟨ob, 0, none⟩) 1 oc) 1 [.int .i64 0, .string nKey, .int .i64 2, .string ⟨#[]⟩, .int .i64 1, .bool false, .slice none 0 0]) (k1 : 1 ≤ k) (k6 : k ≤ 6) (n6 : n ≤ 6) (ht : t ≤ 60) (hp : p < n) :
    Calls Tryz.prog 14 #[.pointer (some ⟨sb, 0, none⟩)] W fun e W' => ∃ (H' : Nat → PlH) (V' : Nat → PlV) (a3 a4 : Option Addr) (n3 c3 n4 c4 : Nat) (la : Option Addr) (lc : Nat) (rs : List Raw) (tok' : List Int) (tv' : Value), e = .returned (.tuple #[.agg #[.slice a3 n3 c3, .int .i64 p, .slice a4 n4 c4], .slice la rs.length lc, .nilIface]) ∧ SesU wb n k (t + 1) (C ++ [nxt V p]) pb pc sb H' V' tok' tv' la lc rs W' ∧ ∀ i, i < n → (H' i).pb = (H i).pb := by
  obtain ⟨hC, _, _⟩ := T.inv.nxt_ok k1 n6 hp (by omega)
  refine (ses_commit A W hS T.net T.inv k1 k6 n6 ht hp sb xb ob tv _ n oc T.box T.tra (T.ints hp) (nOps_at hr) T.trao T.boxo T.low).mono ?_
  rintro e W' ⟨h', v', a3, a4, n3, c3, n4, c4, la, lc, rs, U, ta, tc, he, hA, hN, hM, hR, hs, hT⟩
  have hpb := hM.off pb (T.row.lt pb rfl).2 T.rowo
  have hso := hM.off sb (lt_of_heap T.box) T.boxo
  have hne : pb ≠ sb := fun e => by
    obtain ⟨n', rfl⟩ : ∃ n', n = n' + 1 := ⟨n - 1, by omega⟩
    obtain ⟨b, cs, ha, _, hh, _⟩ := owns_cellsY T.row
    have hb : pb = b := by injection ha with ha; injection ha
    rw [← hb, e] at hh
    have := hh.symm.trans T.box
    injection this with this
    injection this with _ this
    cases this
  refine ⟨_, _, a3, a4, n3, c3, n4, c4, la, lc, rs, _, _, he, ⟨hA, ?_, hpb.1, hs, hso.1, T.low, hT, hC.ok.chk, hC.len, fun c hc => ?_, U, _, hN, hR⟩, hM.pb⟩
  · rw [ptrs_pb hM.pb]
    exact own_keep T.row fun q hq => by rw [own_pb hq]; exact hpb.2 hne
  · rcases List.mem_append.1 hc with hc | hc
    · exact leB_trans' (by rw [(T.inv.com c hc).len, snapV_len, T.inv.vn p hp]) (T.all c hc) (nxt_le T.inv hp)
    · rw [List.mem_singleton] at hc
      rw [hc]
      exact leB_mk fun i _ => Int.le_refl _
end Go.Proofs.YtepnghacjggkkaaGreatDoor
namespace Go.Proofs.YtepnghacjggkkaaGreatDoor
open Go.RowKit Go.Maps
set_option maxRecDepth 100000
set_option linter.unusedSectionVars false
variable [Inhabited ComV] [DecidableEq D3] [Inhabited D3] [Inhabited Dd] [Inhabited Dn] [Inhabited OpV]

set_option maxHeartbeats 4000000 in
theorem begin_wait (A : Nat → Addr) (w : World) (hE : E4 A w) (h12 : 12 ≤ w.heap.size) (g3 : w.cell? ⟨3, 0, none⟩ = some (.iface 276 (.pointer (some (A 10))))) (sb pb : Nat) (tv : Value) (tok snap : List Int) (hs : SesBox w sb tv none) (ht : IntsAt w tv tok) (h2 : two tok snap = 0) (hle : leB tok snap = false)
    (K29 : Calls Tryz.prog 29 #[.pointer (some ⟨pb, 0, none⟩)] w (SnapRet snap w)) : Calls Tryz.prog 10 #[.pointer (some ⟨sb, 0, none⟩), .pointer (some ⟨pb, 0, none⟩)] w fun e w' => e = .returned (.tuple #[.slice none 0 0, .iface 276 (.pointer (some (A 10)))]) ∧ Below w.heap.size w w' := by
  have K20 := hid (open_no w sb tv hs)
  have K29' := hid K29
  have t0 : w.cell? ⟨sb, 0, none⟩ = some tv := (cell_of hs).trans rfl
  have HT := hid ht
  have H2 := hid h2
  have HLE := hid hle
  have HE := hid hE
  have HG := hid g3
  have H12 : Hid (12 ≤ w.heap.size) := h12
  clear K29 hs ht h2 hle hE h12 g3
  go_enter Tryz.func10, Tryz.ntmps10
  go_wp2_with (first
    | (go_at_call 20; refine K20.out.mono ?_; rintro e w' ⟨rfl, hw'⟩; rw [hw']; clear hw')
    | (go_at_call 29; refine K29'.out.mono ?_; rintro e w1 ⟨rfl, h1, hb1⟩; have u0 := (hb1.cell (p := ⟨sb, 0, none⟩) (lt_of_cell t0)).trans t0; have B1 := hid hb1; have G1 := hid h1; clear h1 hb1))
  refine (Within_ok A w1 (HE.out.below B1.out H12.out) tv _ tok snap (HT.out.mono B1.out (Nat.le_refl _)) (ints_heapY G1.out) H2.out).mono ?_
  rintro e w2 ⟨rfl, q, hw2⟩
  rw [HLE.out]
  have B2 : Hid (Below w.heap.size w w2) := (show Below _ _ _ from by rw [hw2]; exact below_draws B1.out q)
  clear hw2 K20 K29' u0 G1 B1 t0
  have c2 : w2.cell? ⟨3, 0, none⟩ = some (.iface 276 (.pointer (some (A 10)))) := (B2.out.cell (p := ⟨3, 0, none⟩) (lt_of_cell HG.out)).trans HG.out
  go_upto_region 10 with (fail)
  go_region_held (fun u => u.cell? ⟨3, 0, none⟩ = some (.iface 276 (.pointer (some (A 10))))) (go_keep) (fail)
  all_goals
    go_wp2_with (fail)
    go_ret2
    exact ⟨rfl, by first | exact B2.out.drew | exact B2.out⟩
variable {wb W : World} {n k t : Nat} {C : List ComV} {pb pc sb p : Nat} {H : Nat → PlH} {V : Nat → PlV} {tok : List Int} {tv : Value}
theorem begin_no (A : Nat → Addr) (B : Nat) (hS : Sents A B W) (I : SesI wb n k t C pb pc sb H V tok tv W) (k1 : 1 ≤ k) (n6 : n ≤ 6) (ht : t ≤ 60) (hp : p < n) (hle : leB tok (snapV (V p)) = false) :
    Calls Tryz.prog 10 #[.pointer (some ⟨sb, 0, none⟩), .pointer (some ⟨(H p).pb, 0, none⟩)] W fun e W' => e = .returned (.tuple #[.slice none 0 0, .iface 276 (.pointer (some (A 10)))]) ∧ Below W.heap.size W W' := by
  have hlen : (snapV (V p)).length = n := by rw [snapV_len, I.inv.vn p hp]
  have h2 : two tok (snapV (V p)) = 0 := two_zero.2 ⟨I.chk, I.inv.chkS k1 n6 hp (by omega), by rw [I.len, hlen]⟩
  have hg := hS.gl
  have hz := hS.size
  exact begin_wait A W hS.e4 (by omega) (hS.cell 10 (by decide)) sb (H p).pb tv tok (snapV (V p)) I.box I.tokT.at h2 hle (snap_ret (I.net.at_ p hp))
end Go.Proofs.YtepnghacjggkkaaGreatDoor
namespace Go.Proofs.YtepnghacjggkkaaGreatDoor
open Go.RowKit Go.Maps
set_option maxRecDepth 100000
set_option linter.unusedSectionVars false
variable [Inhabited ComV] [DecidableEq D3] [Inhabited D3] [Inhabited Dd] [Inhabited Dn] [Inhabited OpV]

structure LpI (w : World) (n k m : Nat) (H : Nat → PlH) (pv : Value) (sb tb : Nat) (W : World) : Prop where
  net : NetAt w m H (fun i => pv0 i n k) W
  nn : ∀ i, i < m → (H i).nn = 0
  x : ∀ j i s, j < m → i < n → i ≠ j → s < k → ((H j).X i s).n = 0
  row : W.ownsRow w.heap.size 30 1 pv m (ptrs H m)
  rowo : ∀ q, pv.ownBlock = some q → Off m H (fun i => pv0 i n k) q
  box : SesBox W sb (.slice (some ⟨tb, 0, none⟩) n n) none
  boxo : Off m H (fun i => pv0 i n k) sb
  low : w.heap.size ≤ sb
  tok : W.heap[tb]? = some (.cells (Array.replicate n (.int .i64 0)) 3 (0, 0))
theorem ptrs_next (H : Nat → PlH) (m : Nat) (h : PlH) : ptrs (updP H m h) (m + 1) = ptrs H m ++ [.pointer (some ⟨h.pb, 0, none⟩)] := by
  unfold ptrs
  rw [List.range_succ, List.map_append]
  congr 1
  · exact List.map_congr_left fun i hi => by rw [updP_ne _ _ (Nat.ne_of_lt (List.mem_range.1 hi))]
  · simp [updP_at]
theorem LpI.next {w wr w4 w9 : World} {n k m sb tb : Nat} {H : Nat → PlH} {pv v9 : Value} {o : Obj} {h : PlH} (I : LpI w n k m H pv sb tb wr) (hb : Below wr.heap.size wr w4) (hP : PlAt w4 h (pv0 m n k)) (hf : ∀ b, h.foot (pv0 m n k) b → wr.heap.size ≤ b) (hnn : h.nn = 0) (hX : ∀ j s, (pv0 m n k).line j s → (h.X j s).n = 0) (hrow : w9.ownsRow w.heap.size 30 1 v9 (m + 1) (ptrs H m ++ [.pointer (some ⟨h.pb, 0, none⟩)])) (hgr : (w4.alloc o).grownBy w9 pv.ownBlock) (hat : v9.ownBlock = pv.ownBlock ∨ v9.ownBlock = some (w4.alloc o).heap.size) : LpI w n k (m + 1) (updP H m h) v9 sb tb w9 := by
  have b5 : Below w4.heap.size w4 (w4.alloc o) := below_alloc _ _
  have b5' : Below wr.heap.size wr (w4.alloc o) := hb.trans (b5.mono hb.size)
  have own : ∀ q, pv.ownBlock = some q → ∃ cs, wr.heap[q]? = some (.cells cs 30 (0, 0)) := fun q hq => by
    rcases I.row.2 with ⟨hv, _⟩ | ⟨g, cap, cur, hv, _, hh, _⟩
    · rw [hv] at hq; cases hq
    · rw [hv] at hq
      have : g = q := by simpa [Value.ownBlock] using hq
      rw [← this]
      exact ⟨cur, hh⟩
  have other : ∀ b, b < (w4.alloc o).heap.size → (∀ q, pv.ownBlock = some q → b ≠ q) → w9.heap[b]? = (w4.alloc o).heap[b]? := fun b hlt hne => hgr.block b hlt fun e => hne b e.symm rfl
  have ty : ∀ {b : Nat} {cs : Array Value} {t : TypeId}, (w4.alloc o).heap[b]? = some (.cells cs t (0, 0)) → t ≠ 30 → w9.heap[b]? = some (.cells cs t (0, 0)) := fun {b cs t} hc ht => by
    refine (other b (lt_of_heap hc) fun q hq e => ?_).trans hc
    obtain ⟨cs', h'⟩ := own q hq
    have := (b5'.block q (lt_of_heap h')).trans h'
    rw [e, this] at hc
    injection hc with hc
    injection hc with _ hc
    exact ht hc.symm
  have hk : Keeps (w4.alloc o) w9 := fun t ht b cs hc => (ty hc (by rcases ht with rfl | rfl | rfl <;> decide)).trans hc.symm
  have lo : w.heap.size ≤ wr.heap.size := I.net.bel.size
  have pvlt : ∀ q, pv.ownBlock = some q → q < wr.heap.size := fun q hq => (I.row.lt q hq).2
  have pvge : ∀ q, pv.ownBlock = some q → w.heap.size ≤ q := fun q hq => (I.row.lt q hq).1
  have P5 := hP.below b5
  have s5 : SesBox (w4.alloc o) sb (.slice (some ⟨tb, 0, none⟩) n n) none := (b5'.block _ (lt_of_heap I.box)).trans I.box
  have t5 := (b5'.block _ (lt_of_heap I.tok)).trans I.tok
  refine ⟨⟨⟨hgr.os.trans (b5'.os.trans I.net.bel.os), hgr.tape.trans (b5'.tape.trans I.net.bel.tape), hgr.output.trans (b5'.output.trans I.net.bel.output), Nat.le_trans lo (Nat.le_trans b5'.size hgr.size), fun b hb' => (other b (by have := b5'.size; omega) fun q hq => by have := pvge q hq; omega).trans ((b5'.block b (by omega)).trans (I.net.bel.block b hb'))⟩, fun i hi => ?_, fun i hi b hbf => ?_, fun i j hi hj hij b hbi hbj => ?_⟩, fun i hi => ?_, fun j i s hj hi hij hs => ?_, by rw [ptrs_next]; exact hrow, fun q hq i hi hbf => ?_, ty s5 (by decide), fun i hi hbf => ?_, I.low, ty t5 (by decide)⟩
  · by_cases e : i = m
    · subst e
      rw [updP_at]
      exact P5.keep (fun b hbf => other b (P5.lt hbf) fun q hq e => by have := hf b hbf; have := pvlt q hq; omega) hk
    · rw [updP_ne _ _ e]
      have P := (I.net.at_ i (by omega)).below b5'
      exact P.keep (fun b hbf => other b (P.lt hbf) fun q hq e' => I.rowo q hq i (by omega) (e' ▸ hbf)) hk
  · by_cases e : i = m
    · subst e
      rw [updP_at] at hbf
      have := hf b hbf
      omega
    · rw [updP_ne _ _ e] at hbf
      exact I.net.low i (by omega) b hbf
  · by_cases e : i = m
    · subst e
      rw [updP_at] at hbi
      rw [updP_ne _ _ (Ne.symm hij)] at hbj
      have := hf b hbi
      have := (I.net.at_ j (by omega)).lt hbj
      omega
    · rw [updP_ne _ _ e] at hbi
      by_cases e' : j = m
      · subst e'
        rw [updP_at] at hbj
        have := hf b hbj
        have := (I.net.at_ i (by omega)).lt hbi
        omega
      · rw [updP_ne _ _ e'] at hbj
        exact I.net.apart i j (by omega) (by omega) hij b hbi hbj
  · by_cases e : i = m
    · subst e; rw [updP_at]; exact hnn
    · rw [updP_ne _ _ e]; exact I.nn i (by omega)
  · by_cases e : j = m
    · subst e; rw [updP_at]; exact hX i s ⟨hi, hij, hs⟩
    · rw [updP_ne _ _ e]; exact I.x j i s (by omega) hi hij hs
  · have hq' : (pv.ownBlock = some q) ∨ q = (w4.alloc o).heap.size := by
      rcases hat with h1 | h1
      · exact .inl (h1.symm.trans hq)
      · rw [h1] at hq
        exact .inr (by simpa using hq.symm)
    by_cases e : i = m
    · subst e
      rw [updP_at] at hbf
      rcases hq' with h1 | h1
      · have := hf q hbf; have := pvlt q h1; omega
      · have := P5.lt hbf; omega
    · rw [updP_ne _ _ e] at hbf
      rcases hq' with h1 | h1
      · exact I.rowo q h1 i (by omega) hbf
      · have := ((I.net.at_ i (by omega)).below b5').lt hbf; omega
  · by_cases e : i = m
    · subst e
      rw [updP_at] at hbf
      have := hf sb hbf
      have := lt_of_heap I.box
      omega
    · rw [updP_ne _ _ e] at hbf
      exact I.boxo i (by omega) hbf
theorem LpI.done {w W : World} {n k sb tb pc pb : Nat} {H : Nat → PlH} (I : LpI w n k n H (.slice (some ⟨pb, 0, none⟩) n pc) sb tb W) (n1 : 1 ≤ n) (n6 : n ≤ 6) : SesI w n k 0 [] pb pc sb H (fun i => pv0 i n k) (List.replicate n 0) (.slice (some ⟨tb, 0, none⟩) n n) W := by
  have ht : IntsT W (.slice (some ⟨tb, 0, none⟩) n n) (List.replicate n 0) := by
    refine intsT_of_owns (base := 0) ⟨by simp, .inr ⟨tb, n, _, by simp, Nat.zero_le _, I.tok, by simp, by unfold maxLen; simp; omega, by simp, ?_⟩⟩
    simp
  exact ⟨I.net, NetI.start I.nn I.x, I.row, I.rowo pb rfl, I.box, I.boxo, I.low, ht, chk_zeros n1 n6, by simp, fun c hc => by simp at hc⟩
end Go.Proofs.YtepnghacjggkkaaGreatDoor
namespace Go.Proofs.YtepnghacjggkkaaGreatDoor
open Go.RowKit Go.Maps
set_option maxRecDepth 100000
set_option linter.unusedSectionVars false
variable [Inhabited ComV] [DecidableEq D3] [Inhabited D3] [Inhabited Dd] [Inhabited Dn] [Inhabited OpV]

variable {wb W W' : World} {n k t : Nat} {C : List ComV} {pb pc sb xb ab p : Nat} {H : Nat → PlH} {V : Nat → PlV} {tv ov : Value}
theorem only_setCells {g : Nat} : ∀ (vs : List Value) (o : Nat) {w w' : World}, Only g w w' → Only g w (w'.setCells g o vs)
  | [], _, _, _, h => h
  | v :: r, o, _, _, h => only_setCells r (o + 1) (h.set o v)
theorem ne_kind {w : World} {a b : Nat} {cs ds : Array Value} {s t : TypeId} (h : w.heap[a]? = some (.cells cs s (0, 0))) (k : w.heap[b]? = some (.cells ds t (0, 0))) (hn : s ≠ t) : a ≠ b := fun e => by
  rw [e, k] at h
  injection h with h
  injection h with _ h
  exact hn h.symm
theorem TrI.turn (T : TrI wb n k t C pb pc sb xb ab p H V tv ov W) (hp : p < n) {g : Nat} {cs : Array Value} (hg : W.heap[g]? = some (.cells cs 41 (0, 0))) (ho : Off n H V g) (hl : wb.heap.size ≤ g) (hO : Only g W W') : TrI wb n k t C pb pc sb xb ab p H V tv ov W' ∧ Keeps W W' := by
  have kp := keeps_only hg (by decide) (by decide) (by decide) hO
  have hne : pb ≠ g := by
    obtain ⟨n', rfl⟩ : ∃ n', n = n' + 1 := ⟨n - 1, by omega⟩
    obtain ⟨b, cs', ha, _, hh, _⟩ := owns_cellsY T.row
    have hb : pb = b := by injection ha with ha; injection ha
    rw [hb]
    exact ne_kind hh hg (by decide)
  exact ⟨⟨T.net.turn ho hl kp hO.os hO.tape hO.output hO.size hO.block, T.inv, own_keep T.row fun q hq => hO.block q (T.row.lt q hq).2 (by
    have : q = pb := by simpa [Value.ownBlock] using hq.symm
    rw [this]
    exact hne), T.rowo, (hO.block _ (lt_of_heap T.box) (ne_kind T.box hg (by decide))).trans T.box, T.boxo, T.low, (hO.block _ (lt_of_heap T.tra) (ne_kind T.tra hg (by decide))).trans T.tra, T.trao, T.xlow, (kp 3 (.inl rfl) _ _ T.at_).trans T.at_, T.all⟩, kp⟩
theorem ops_turn {ob oc B g : Nat} {xs : List Value} {cs : Array Value} (hr : W.ownsRow B 97 7 (.slice (some ⟨ob, 0, none⟩) 1 oc) 1 xs) (hg : W.heap[g]? = some (.cells cs 41 (0, 0))) (hO : Only g W W') : W'.ownsRow B 97 7 (.slice (some ⟨ob, 0, none⟩) 1 oc) 1 xs :=
  own_keep hr fun q hq => hO.block q (hr.lt q hq).2 (by
    have : q = ob := by simpa [Value.ownBlock] using hq.symm
    rw [this]
    rcases hr.2 with ⟨hv, _⟩ | ⟨g', cap, cur, hv, _, hh, _⟩
    · cases hv
    · injection hv with hv
      injection hv with hv
      injection hv with hv
      rw [hv]
      exact ne_kind hh hg (by decide))
end Go.Proofs.YtepnghacjggkkaaGreatDoor
