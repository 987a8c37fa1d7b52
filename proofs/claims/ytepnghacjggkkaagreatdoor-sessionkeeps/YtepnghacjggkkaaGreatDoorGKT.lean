/- A session commits one more at the place where it is; One place with the commits of a session; a transaction commits whatever ops it has; A transaction commits whatever ops it has, or none. -/
import Derived.Test.YtepnghacjggkkaaGreatDoorGYC
import Derived.Test.YtepnghacjggkkaaGreatDoorGYH
import Derived.Test.YtepnghacjggkkaaGreatDoorGRE
import Derived.Test.YtepnghacjggkkaaGreatDoorGLU
import Derived.Deep.RegionHeld
import Derived.Deep.DeepCutAuto
import Derived.Deep.CutBlock
import Derived.Test.YtepnghacjggkkaaGreatDoorGKL
import Derived.Test.YtepnghacjggkkaaGreatDoorGKO
import Derived.Test.YtepnghacjggkkaaGreatDoorGWMath2
import Derived.Test.YtepnghacjggkkaaGreatDoorGWSmall
namespace Go.Proofs.YtepnghacjggkkaaGreatDoor
open Go.RowKit Go.Maps
set_option maxRecDepth 100000
set_option linter.unusedSectionVars false
variable [Inhabited ComV] [DecidableEq D3] [Inhabited D3] [Inhabited Dd] [Inhabited Dn] [Inhabited OpV]

theorem row3Y {w : World} {g : Nat} {a b c : Value} {t : TypeId} (h : w.heap[g]? = some (.cells #[a, b, c] t (0, 0))) : (∀ j, j < 3 → (w.cell? ⟨g, 0 + j, none⟩).isSome = true) ∧ ∀ j, j < 3 → w.frozen? ⟨g, 0 + j, none⟩ = false := by
  refine ⟨fun j hj => ?_, fun j _ => by simp only [World.frozen?, h]; simp⟩
  rw [cell_of h]
  rcases (by omega : j = 0 ∨ j = 1 ∨ j = 2) with rfl | rfl | rfl <;> rfl
theorem set3Y {w : World} {g : Nat} {a b c : Value} {t : TypeId} (h : w.heap[g]? = some (.cells #[a, b, c] t (0, 0))) (x y z : Value) : (w.setCells g 0 [x, y, z]).heap[g]? = some (.cells #[x, y, z] t (0, 0)) := by
  show (((w.setCell ⟨g, 0, none⟩ x).setCell ⟨g, 1, none⟩ y).setCell ⟨g, 2, none⟩ z).heap[g]? = _
  rw [heap_set (heap_set (heap_set h x) y) z]
  rfl
theorem only_cells {w : World} {g : Nat} (o : Nat) (vs : List Value) : Only g w (w.setCells g o vs) := by
  induction vs generalizing w o with
  | nil => exact Only.of (Below.refl _ _)
  | cons v vs ih => exact ((Only.of (Below.refl _ _)).set o v).trans (ih (o + 1))
theorem keeps_only {w w' : World} {g : Nat} {cs : Array Value} {t : TypeId} (h : w.heap[g]? = some (.cells cs t (0, 0))) (h1 : 3 ≠ t) (h2 : 97 ≠ t) (h3 : 175 ≠ t) (o : Only g w w') : Keeps w w' := keeps_but h h1 h2 h3 fun i hi hne => o.block i hi hne
variable {wb W W' : World} {n k t p : Nat} {C : List ComV} {H : Nat → PlH} {V : Nat → PlV}
structure TcRet (wb w : World) (n k t p an : Nat) (C : List ComV) (H : Nat → PlH) (V : Nat → PlV) (e : Ending) (w' : World) : Prop where
  ret : ∃ (h' : PlH) (v' : PlV) (a3 a4 : Option Addr) (c3 c4 : Nat) (la : Option Addr) (lc : Nat) (rs : List Raw) (U : List MsgV), e = .returned (.tuple #[.agg #[.slice a3 an c3, .int .i64 p, .slice a4 1 c4], .slice la rs.length lc, .nilIface]) ∧ NetAt wb n (updP H p h') (updP V p v') w' ∧ NetI n k (C ++ [nxt V p]) (t + 1) U (updP H p h') (updP V p v') ∧ NetMv n w w' H V (updP H p h') (updP V p v') ∧ SentRow n (updP H p h') (updP V p v') w.heap.size (.slice la rs.length lc) rs U w' ∧ IntsT w' (.slice a3 an c3) (nxt V p).when_
set_option maxHeartbeats 8000000 in
theorem tra_commit (A : Nat → Addr) (w : World) (hS : Sen A wb.heap.size w) (a : NetAt wb n H V w) (hN : NetI n k C t [] H V) (k1 : 1 ≤ k) (k6 : k ≤ 6) (n6 : n ≤ 6) (ht : t ≤ 60) (hp : p < n) (xb ob : Nat) (aa : Option Addr) (an ac oc : Nat) (h : TraBox w xb (H p).pb (.slice aa an ac) (.slice (some ⟨ob, 0, none⟩) 1 oc)) (hv : IntsAt w (.slice aa an ac) (snapV (V p))) (ho : OpsAt w (.slice (some ⟨ob, 0, none⟩) 1 oc) nOps) (hxo : Off n H V xb) :
    Calls Tryz.prog 35 #[.pointer (some ⟨xb, 0, none⟩)] w (TcRet wb w n k t p an C H V) := by
  obtain ⟨w0, hw0⟩ : ∃ w0, w0 = w.alloc (.cells #[.slice none 0 0, .int .i64 0, .slice none 0 0] 47) := ⟨_, rfl⟩
  have b0 : Below w.heap.size w w0 := by rw [hw0]; exact below_alloc _ _
  have r0 : w0.heap[w.heap.size]? = some (.cells #[.slice none 0 0, .int .i64 0, .slice none 0 0] 47 (0, 0)) := by rw [hw0]; exact heap_new _ _
  have tb : TraBox w0 xb (H p).pb (.slice aa an ac) (.slice (some ⟨ob, 0, none⟩) 1 oc) := (b0.block _ (lt_of_heap h)).trans h
  have t0 : w0.cell? ⟨xb, 0, none⟩ = some (.pointer (some ⟨(H p).pb, 0, none⟩)) := (cell_of tb).trans rfl
  have t1 : w0.cell? ⟨xb, 1, none⟩ = some (.slice aa an ac) := (cell_of tb).trans rfl
  have t2 : w0.cell? ⟨xb, 2, none⟩ = some (.slice (some ⟨ob, 0, none⟩) 1 oc) := (cell_of tb).trans rfl
  have bd : Below w.heap.size w w0.drew := b0.drew
  have hK := net_commit A (hS.below (bd.mono hS.size)) (a.below bd) hN k1 k6 n6 ht hp aa (some ⟨ob, 0, none⟩) an ac 1 oc (hv.mono bd (Nat.le_refl _)) (ho.mono bd (Nat.le_refl _))
  have K : Hid (Calls Tryz.prog 59 #[.pointer (some ⟨(H p).pb, 0, none⟩), .slice aa an ac, .slice (some ⟨ob, 0, none⟩) 1 oc] w0.drew fun e W' => ∃ (a3 a4 : Option Addr) (c3 c4 : Nat) (la : Option Addr) (lc ln : Nat), e = .returned (.tuple #[.agg #[.slice a3 an c3, .int .i64 p, .slice a4 1 c4], .slice la ln lc, .nilIface]) ∧ TraBox W' xb (H p).pb (.slice aa an ac) (.slice (some ⟨ob, 0, none⟩) 1 oc) ∧ W'.heap[w.heap.size]? = some (.cells #[.slice none 0 0, .int .i64 0, .slice none 0 0] 47 (0, 0)) ∧ ∀ vs, TcRet wb w n k t p an C H V (.returned (.tuple #[.agg #[.slice a3 an c3, .int .i64 p, .slice a4 1 c4], .slice la ln lc, .nilIface])) (W'.setCells w.heap.size 0 vs)) := (show Calls _ _ _ _ _ from by
    refine hK.mono ?_
    rintro e W' ⟨h', v', a3, a4, c3, c4, rv, rs, U, rfl, hpb, hM, hA, hI, hR, hT⟩
    obtain ⟨la, lc, hrv⟩ := row_shape hR.row
    subst hrv
    have hlt : w.heap.size < w0.drew.heap.size := lt_of_heap r0
    have hoff : Off n H V w.heap.size := a.off_ge (Nat.le_refl _)
    obtain ⟨ho', hb'⟩ := hoff.move hlt hp hM
    have g5 : W'.heap[w.heap.size]? = some (.cells #[.slice none 0 0, .int .i64 0, .slice none 0 0] 47 (0, 0)) := hb'.trans r0
    refine ⟨a3, a4, c3, c4, la, lc, rs.length, rfl, (hxo.move (W := w0.drew) (show xb < w0.drew.heap.size from lt_of_heap tb) hp hM).2.trans tb, g5, fun vs => ?_⟩
    have o6 : Only w.heap.size W' (W'.setCells w.heap.size 0 vs) := only_cells 0 vs
    have k6' : Keeps W' (W'.setCells w.heap.size 0 vs) := keeps_only g5 (by decide) (by decide) (by decide) o6
    have m5 : NetMv n w W' H V (updP H p h') (updP V p v') := (NetMv.below bd).trans (NetMv.of hp hM hpb)
    refine ⟨⟨h', v', a3, a4, c3, c4, la, lc, rs, U, rfl, hA.turn ho' a.bel.size k6' o6.os o6.tape o6.output o6.size o6.block, hI, ⟨Nat.le_trans m5.size o6.size, fun b hb hob => ?_, fun ty hty b cs hc => ?_, m5.pb⟩, ⟨?_, hR.off, f2_mono (fun _ _ q => q.kept k6') hR.own⟩, intsT_keep hT (keep3_of k6')⟩⟩
    · obtain ⟨q1, q2⟩ := m5.off b hb hob
      exact ⟨q1, (o6.block b (Nat.lt_of_lt_of_le hb m5.size) (by omega)).trans q2⟩
    · have q1 := m5.keeps ty hty b cs hc
      exact (k6' ty hty b cs (q1.trans hc)).trans q1
    · exact owns_base (own_keep hR.row fun q hq => o6.block q (hR.row.lt q hq).2 (by have := (hR.row.lt q hq).1; omega)) (Nat.le_of_lt hlt))
  have R0 := hid r0
  have hxn : xb ≠ w.heap.size := Nat.ne_of_lt (lt_of_heap h)
  clear h hK tb r0 b0 bd hS a hN hv ho hxo
  go_enter Tryz.func35, Tryz.ntmps35
  go_upto_region 1 with (fail)
  rw [← hw0]
  clear hw0
  go_upto_region 3 with (fail)
  go_cut [2, 3, 4] (fun cp lp er wx => ∃ (a3 a4 : Option Addr) (c3 c4 : Nat) (la : Option Addr) (lc ln : Nat), cp = .pointer (some ⟨w.heap.size, 0, none⟩) ∧ lp = .slice la ln lc ∧ er = .nilIface ∧ Hid (wx.heap[w.heap.size]? = some (.cells #[.slice a3 an c3, .int .i64 p, .slice a4 1 c4] 47 (0, 0))) ∧ Hid (TcRet wb w n k t p an C H V (.returned (.tuple #[.agg #[.slice a3 an c3, .int .i64 p, .slice a4 1 c4], .slice la ln lc, .nilIface])) wx))
  case first =>
    go_region_held (fun u => u.cell? ⟨xb, 0, none⟩ = some (.pointer (some ⟨(H p).pb, 0, none⟩)) ∧ u.cell? ⟨xb, 1, none⟩ = some (.slice aa an ac) ∧ u.cell? ⟨xb, 2, none⟩ = some (.slice (some ⟨ob, 0, none⟩) 1 oc)) (first | exact ⟨q0, q1, q2⟩ | exact ⟨set_other (set_other (set_other q0 hxn) hxn) hxn, set_other (set_other (set_other q1 hxn) hxn) hxn, set_other (set_other (set_other q2 hxn) hxn) hxn⟩ | go_keep) ((go_at_call 59; refine K.out.mono ?_; rintro e w5 ⟨a3, a4, c3, c4, la, lc, ln, rfl, tb5, g5, hT⟩; have q0 : w5.cell? ⟨xb, 0, none⟩ = some (.pointer (some ⟨(H p).pb, 0, none⟩)) := (cell_of tb5).trans rfl; have q1 : w5.cell? ⟨xb, 1, none⟩ = some (.slice aa an ac) := (cell_of tb5).trans rfl; have q2 : w5.cell? ⟨xb, 2, none⟩ = some (.slice (some ⟨ob, 0, none⟩) 1 oc) := (cell_of tb5).trans rfl; have z0 : w5.cell? ⟨w.heap.size, 0, none⟩ = some (.slice none 0 0) := (cell_of g5).trans rfl; have z1 : w5.cell? ⟨w.heap.size, 1, none⟩ = some (.int .i64 0) := (cell_of g5).trans rfl; have z2 : w5.cell? ⟨w.heap.size, 2, none⟩ = some (.slice none 0 0) := (cell_of g5).trans rfl; have zf : ∀ j, w5.frozen? ⟨w.heap.size, j, none⟩ = false := (fun j => by simp only [World.frozen?, g5]; simp); have G5 := hid g5; have HT := hid hT; clear g5 hT tb5))
    go_wp2_with fail
    obtain ⟨wz, hwz⟩ : ∃ wz, wz = ((w5.setCell ⟨w.heap.size, 0, none⟩ (.slice a3 an c3)).setCell ⟨w.heap.size, 1, none⟩ (.int .i64 p)).setCell ⟨w.heap.size, 2, none⟩ (.slice a4 1 c4) := ⟨_, rfl⟩
    have F1 : Hid (wz.heap[w.heap.size]? = some (.cells #[.slice a3 an c3, .int .i64 p, .slice a4 1 c4] 47 (0, 0))) := (show _ = _ from by rw [hwz]; exact set3Y G5.out _ _ _)
    have F2 : Hid (TcRet wb w n k t p an C H V (.returned (.tuple #[.agg #[.slice a3 an c3, .int .i64 p, .slice a4 1 c4], .slice la ln lc, .nilIface])) wz) := (show TcRet _ _ _ _ _ _ _ _ _ _ _ _ from by rw [hwz]; exact HT.out [.slice a3 an c3, .int .i64 p, .slice a4 1 c4])
    rw [← hwz]
    clear hwz HT G5
    go_meet
    exact ⟨a3, a4, c3, c4, la, lc, ln, rfl, rfl, rfl, F1, F2⟩
  case rest =>
    obtain ⟨a3, a4, c3, c4, la, lc, ln, rfl, rfl, rfl, F1, F2⟩ := hcut
    go_wp2
    exact bodyPost_ret (ret_cell_tmp2 (k := 3) Tryz.results35 Tryz.isAgg47 Tryz.sizeOf47 _ _ w.heap.size [.slice a3 an c3, .int .i64 p, .slice a4 1 c4] (.slice la ln lc) .nilIface rfl rfl rfl rfl (cells_heap (t := 47) _ F1.out)) rfl F2.out
end Go.Proofs.YtepnghacjggkkaaGreatDoor
namespace Go.Proofs.YtepnghacjggkkaaGreatDoor
open Go.RowKit Go.Maps
set_option maxRecDepth 100000
set_option linter.unusedSectionVars false
variable [Inhabited ComV] [DecidableEq D3] [Inhabited D3] [Inhabited Dd] [Inhabited Dn] [Inhabited OpV]

structure KpI (B : Nat) (w : World) (h : PlH) (v : PlV) (C : List ComV) : Prop where
  at_ : PlAt w h v
  id : v.id = 0
  n : v.n = 1
  k : v.k = 1
  ck : v.ck = C.length
  st : v.st = stOf 1 C
  kp : KpC C
  nn : h.nn ≤ 24 * C.length
  low : ∀ b, h.foot v b → B ≤ b
theorem KpI.snap {B : Nat} {w : World} {h : PlH} {v : PlV} {C : List ComV} (i : KpI B w h v C) : snapV v = [(C.length : Int)] := by
  unfold snapV
  rw [i.n]
  show [snapJ v 0] = _
  unfold snapJ
  rw [if_pos i.id.symm, i.ck]
theorem KpI.keep {B : Nat} {w w' : World} {h : PlH} {v : PlV} {C : List ComV} (i : KpI B w h v C) (hf : ∀ b, h.foot v b → w'.heap[b]? = w.heap[b]?) (hk : Keeps w w') : KpI B w' h v C := ⟨i.at_.keep hf hk, i.id, i.n, i.k, i.ck, i.st, i.kp, i.nn, i.low⟩
theorem KpI.below {B : Nat} {w w' : World} {h : PlH} {v : PlV} {C : List ComV} (i : KpI B w h v C) (hb : Below w.heap.size w w') : KpI B w' h v C := i.keep (fun b q => hb.block b (i.at_.lt q)) (Keeps.bel hb)
theorem KpI.pv {B : Nat} {w : World} {h : PlH} {v : PlV} {C : List ComV} (i : KpI B w h v C) (hl : C.length ≤ 100) : PvOk v := by
  have no : ∀ j s, ¬ v.line j s := fun j s q => by
    have h1 := q.1
    have h2 := q.2.1
    rw [i.n] at h1
    rw [i.id] at h2
    omega
  exact ⟨by rw [i.ck]; omega, by rw [i.ck]; omega, fun j s q => absurd q (no j s), fun j s q => absurd q (no j s), fun j s q => absurd q (no j s), fun j s q => absurd q (no j s), fun j s q => absurd q (no j s), fun j s q => absurd q (no j s), fun j s q => absurd q (no j s)⟩
theorem two_self {n : Nat} (h : n ≤ 100) : two [(n : Int)] [(n : Int)] = 0 ∧ leB [(n : Int)] [(n : Int)] = true ∧ chk [(n : Int)] = 0 := by
  have hc : chk [(n : Int)] = 0 := by simp [chk, inR]; omega
  refine ⟨two_zero.2 ⟨hc, hc, rfl⟩, by simp [leB], hc⟩
theorem opErr_light {o : OpV} (h : opErr o 1 = 0) : o.key.size ≤ 60 ∧ o.text.size ≤ 200 ∧ o.dots.length ≤ 70 := by
  unfold opErr at h
  split at h
  · exact absurd h (by decide)
  · split at h
    · exact absurd h (by decide)
    · rename_i hk
      split at h
      · exact absurd h (by decide)
      · split at h
        · exact absurd h (by decide)
        · split at h
          · exact absurd h (by decide)
          · rename_i hb
            have : nameB o.key = true := by simpa using hk
            unfold nameB at this
            simp only [Bool.and_eq_true, decide_eq_true_eq] at this
            omega
structure PcK (B : Nat) (w : World) (h : PlH) (v : PlV) (C' : List ComV) (e : Ending) (w' : World) : Prop where
  ret : ∃ (h' : PlH) (v' : PlV) (a3 a4 : Option Addr) (c3 n4 c4 : Nat) (la : Option Addr) (ln lc : Nat), e = .returned (.tuple #[.agg #[.slice a3 1 c3, .int .i64 0, .slice a4 n4 c4], .slice la ln lc, .nilIface]) ∧ KpI B w' h' v' C' ∧ h'.pb = h.pb ∧ PlMoves w w' h v h' v' ∧ IntsT w' (.slice a3 1 c3) [(C'.length : Int)]
theorem pc_any (A : Nat → Addr) (B : Nat) (w : World) (hS : Sen A B w) (h : PlH) (v : PlV) (C : List ComV) (i : KpI B w h v C) (hl : C.length ≤ 2) (os : List OpV) (hok : OwnOk C os) (h0 : os ≠ []) (h12 : os.length ≤ 12) (aa : Option Addr) (ac : Nat) (oa : Option Addr) (on oc : Nat) (hI : IntsAt w (.slice aa 1 ac) [(C.length : Int)]) (hO : OpsAt w (.slice oa on oc) os) :
    Calls Tryz.prog 59 #[.pointer (some ⟨h.pb, 0, none⟩), .slice aa 1 ac, .slice oa on oc] w (PcK B w h v (C ++ [comK C os])) := by
  have hn := i.kp.next (by omega) hok h0 h12
  have hK := hn.kept
  have hcom : comN [(C.length : Int)] v.id (v.ck + 1) os = comK C os := by rw [i.id, i.ck]; rfl
  have t2 := two_self (n := C.length) (by omega)
  have hT : TxOk w h v [(C.length : Int)] os := by
    refine ⟨by rw [i.snap]; exact t2.1, by rw [i.snap]; exact t2.2.1, ⟨by simp, by show os.length ≤ 20; omega, fun o ho => opErr_light (hok.err o ho)⟩, ?_, ?_, fun k => ?_, ?_, ?_, fun s hs hp => ?_⟩
    · rw [hcom, i.st]; exact KeptL.put (post := []) hK
    · rw [i.st]; exact chk_zeros (by decide) (by decide)
    · rw [i.st]; exact Nat.le_trans (rowOf_few i.kp.kept (by omega) k) (by decide)
    · have := i.nn; omega
    · rw [i.ck]; omega
    · rw [hcom]
      have hce : ComOk (comK C os) := hn.ok _ (by simp)
      have hpp := comOk_part hce (rising_idx os) (k := v.k) (s := s) hp
      exact comE_of hpp
  refine (commit_any A B w hS hS.e4 h v i.at_ i.low (i.pv (by omega)) aa oa 1 ac on oc _ os hI hO hT).mono ?_
  rintro e w' ⟨h', a3, a4, c3, c4, rv, rs, rfl, hP, hM, hpb, hnn, _, hrow, _, hown, _⟩
  rw [hcom] at hP hM hown
  obtain ⟨la, lc, hrv⟩ := row_shape hrow
  subst hrv
  have hlen : (C ++ [comK C os]).length = C.length + 1 := by simp
  refine ⟨⟨h', _, a3, a4, c3, on, c4, la, _, lc, by rw [i.id]; rfl, ⟨hP, i.id, i.n, i.k, ?_, ?_, hn, ?_, fun b hb => ?_⟩, hpb, hM, ?_⟩⟩
  · show v.ck + 1 = _
    rw [i.ck, hlen]
    omega
  · show putTo v.st (comK C os) (comK C os).ops.length = _
    rw [i.st, stOf_put]
  · rw [hnn, hlen]; have := i.nn; omega
  · rcases hM.foot b hb with q | q
    · exact i.low b q
    · exact Nat.le_trans hS.size q
  · have h1 := intsT_of_owns hown.1
    have e : (comK C os).when_ = [((C ++ [comK C os]).length : Int)] := by rw [comK_when, hlen]; simp
    rw [e] at h1
    exact h1
theorem pck_fin {B : Nat} {w w0 W : World} {h : PlH} {v : PlV} {C' : List ComV} {e : Ending} (i : PlAt w h v) (b0 : Below w.heap.size w w0) (hlt : w.heap.size < w0.heap.size) (hr : w0.heap[w.heap.size]? = some (.cells #[.slice none 0 0, .int .i64 0, .slice none 0 0] 47 (0, 0))) (p : PcK B w0 h v C' e W) (vs : List Value) : PcK B w h v C' e (W.setCells w.heap.size 0 vs) ∧ W.heap[w.heap.size]? = some (.cells #[.slice none 0 0, .int .i64 0, .slice none 0 0] 47 (0, 0)) := by
  obtain ⟨h', v', a3, a4, c3, n4, c4, la, ln, lc, he, hK, hpb, hM, hT⟩ := p.ret
  have nf : ¬ h.foot v w.heap.size := fun q => by have := i.lt q; omega
  have g5 := (hM.block _ hlt nf).trans hr
  have nf' : ¬ h'.foot v' w.heap.size := fun q => by
    rcases hM.foot _ q with q | q
    · exact nf q
    · omega
  have o6 : Only w.heap.size W (W.setCells w.heap.size 0 vs) := only_cells 0 vs
  have k6 : Keeps W (W.setCells w.heap.size 0 vs) := keeps_only g5 (by decide) (by decide) (by decide) o6
  refine ⟨⟨⟨h', v', a3, a4, c3, n4, c4, la, ln, lc, he, hK.keep (fun b q => o6.block b (hK.at_.lt q) fun e => nf' (e ▸ q)) k6, hpb, ⟨o6.os.trans (hM.os.trans b0.os), o6.tape.trans (hM.tape.trans b0.tape), o6.output.trans (hM.output.trans b0.output), Nat.le_trans b0.size (Nat.le_trans hM.size o6.size), fun b hb hf => ?_, fun b hb => ?_, fun t ht b cs hc => ?_⟩, intsT_keep hT (keep3_of k6)⟩⟩, g5⟩
  · exact (o6.block b (Nat.lt_of_lt_of_le hb (Nat.le_trans b0.size hM.size)) (by omega)).trans ((hM.block b (Nat.lt_of_lt_of_le hb b0.size) hf).trans (b0.block b hb))
  · rcases hM.foot b hb with q | q
    · exact .inl q
    · exact .inr (Nat.le_trans b0.size q)
  · have e1 := b0.block b (lt_of_heap hc)
    have e2 := hM.keeps t ht b cs (e1.trans hc)
    exact (k6 t ht b cs (e2.trans (e1.trans hc))).trans (e2.trans e1)
theorem id_any (w : World) (h : PlH) (v : PlV) (a : PlAt w h v) : Calls Tryz.prog 58 #[.pointer (some ⟨h.pb, 0, none⟩)] w fun e w' => e = .returned (.int .i64 v.id) ∧ w' = w := by
  have t0 : w.cell? ⟨h.pb, 0, none⟩ = some (.int .i64 v.id) := (cell_of a.box).trans rfl
  clear a
  go_enter Tryz.func58, Tryz.ntmps58
  go_wp2
  go_ret
  exact ⟨rfl, rfl⟩
end Go.Proofs.YtepnghacjggkkaaGreatDoor
namespace Go.Proofs.YtepnghacjggkkaaGreatDoor
open Go.RowKit Go.Maps
set_option maxRecDepth 100000
set_option linter.unusedSectionVars false
variable [Inhabited ComV] [DecidableEq D3] [Inhabited D3] [Inhabited Dd] [Inhabited Dn] [Inhabited OpV]

set_option maxHeartbeats 8000000 in
theorem traC_some (A : Nat → Addr) (B : Nat) (w : World) (hS : Sen A B w) (h : PlH) (v : PlV) (C : List ComV) (i : KpI B w h v C) (hl : C.length ≤ 2) (os : List OpV) (hok : OwnOk C os) (h0 : os ≠ []) (h12 : os.length ≤ 12) (xb : Nat) (aa : Option Addr) (ac : Nat) (oa : Option Addr) (on oc : Nat) (ht : TraBox w xb h.pb (.slice aa 1 ac) (.slice oa on oc)) (hx : ¬ h.foot v xb) (hI : IntsAt w (.slice aa 1 ac) [(C.length : Int)]) (hO : OpsAt w (.slice oa on oc) os) :
    Calls Tryz.prog 35 #[.pointer (some ⟨xb, 0, none⟩)] w (PcK B w h v (C ++ [comK C os])) := by
  obtain ⟨w0, hw0⟩ : ∃ w0, w0 = w.alloc (.cells #[.slice none 0 0, .int .i64 0, .slice none 0 0] 47) := ⟨_, rfl⟩
  have b0 : Below w.heap.size w w0 := by rw [hw0]; exact below_alloc _ _
  have r0 : w0.heap[w.heap.size]? = some (.cells #[.slice none 0 0, .int .i64 0, .slice none 0 0] 47 (0, 0)) := by rw [hw0]; exact heap_new _ _
  have hlt : w.heap.size < w0.heap.size := lt_of_heap r0
  have tb : TraBox w0 xb h.pb (.slice aa 1 ac) (.slice oa on oc) := (b0.block _ (lt_of_heap ht)).trans ht
  have t0 : w0.cell? ⟨xb, 0, none⟩ = some (.pointer (some ⟨h.pb, 0, none⟩)) := (cell_of tb).trans rfl
  have t1 : w0.cell? ⟨xb, 1, none⟩ = some (.slice aa 1 ac) := (cell_of tb).trans rfl
  have t2 : w0.cell? ⟨xb, 2, none⟩ = some (.slice oa on oc) := (cell_of tb).trans rfl
  have bd : Below w.heap.size w w0.drew := b0.drew
  have hon : on = os.length := by
    obtain ⟨ad, cap, e, _⟩ := hO.shape
    injection e
  have hon0 : ((on : Int) == 0) = false := by
    rw [beq_eq_false_iff_ne]
    have := List.length_pos_iff.2 h0
    omega
  have K : Hid (Calls Tryz.prog 59 #[.pointer (some ⟨h.pb, 0, none⟩), .slice aa 1 ac, .slice oa on oc] w0.drew fun e W' => ∃ (a3 a4 : Option Addr) (c3 n4 c4 : Nat) (la : Option Addr) (ln lc : Nat), e = .returned (.tuple #[.agg #[.slice a3 1 c3, .int .i64 0, .slice a4 n4 c4], .slice la ln lc, .nilIface]) ∧ TraBox W' xb h.pb (.slice aa 1 ac) (.slice oa on oc) ∧ W'.heap[w.heap.size]? = some (.cells #[.slice none 0 0, .int .i64 0, .slice none 0 0] 47 (0, 0)) ∧ ∀ vs, PcK B w h v (C ++ [comK C os]) (.returned (.tuple #[.agg #[.slice a3 1 c3, .int .i64 0, .slice a4 n4 c4], .slice la ln lc, .nilIface])) (W'.setCells w.heap.size 0 vs)) := (show Calls _ _ _ _ _ from by
    refine (pc_any A B w0.drew (hS.below (bd.mono hS.size)) h v C (i.below bd) hl os hok h0 h12 aa ac oa on oc (hI.mono bd (Nat.le_refl _)) (hO.mono bd (Nat.le_refl _))).mono ?_
    intro e W' p
    obtain ⟨h', v', a3, a4, c3, n4, c4, la, ln, lc, he, q1, q2, q3, q4⟩ := p.ret
    refine ⟨a3, a4, c3, n4, c4, la, ln, lc, he, (q3.block xb (show xb < w0.drew.heap.size from lt_of_heap tb) hx).trans tb, (pck_fin i.at_ bd hlt r0 p []).2, fun vs => ?_⟩
    rw [← he]
    exact (pck_fin i.at_ bd hlt r0 p vs).1)
  have R0 := hid r0
  have hxn : xb ≠ w.heap.size := Nat.ne_of_lt (lt_of_heap ht)
  clear ht tb r0 b0 bd hS i hI hO hok h0 h12 hx hon
  go_enter Tryz.func35, Tryz.ntmps35
  go_upto_region 1 with (fail)
  rw [← hw0]
  clear hw0
  go_upto_region 3 with (fail)
  go_cut [2, 3, 4] (fun cp lp er wx => ∃ (a3 a4 : Option Addr) (c3 n4 c4 : Nat) (la : Option Addr) (ln lc : Nat), cp = .pointer (some ⟨w.heap.size, 0, none⟩) ∧ lp = .slice la ln lc ∧ er = .nilIface ∧ Hid (wx.heap[w.heap.size]? = some (.cells #[.slice a3 1 c3, .int .i64 0, .slice a4 n4 c4] 47 (0, 0))) ∧ Hid (PcK B w h v (C ++ [comK C os]) (.returned (.tuple #[.agg #[.slice a3 1 c3, .int .i64 0, .slice a4 n4 c4], .slice la ln lc, .nilIface])) wx))
  case first =>
    go_region_held (fun u => u.cell? ⟨xb, 0, none⟩ = some (.pointer (some ⟨h.pb, 0, none⟩)) ∧ u.cell? ⟨xb, 1, none⟩ = some (.slice aa 1 ac) ∧ u.cell? ⟨xb, 2, none⟩ = some (.slice oa on oc)) (first | exact ⟨q0, q1, q2⟩ | exact ⟨set_other (set_other (set_other q0 hxn) hxn) hxn, set_other (set_other (set_other q1 hxn) hxn) hxn, set_other (set_other (set_other q2 hxn) hxn) hxn⟩ | go_keep) ((go_at_call 59; (with_reducible refine K.out.mono ?_); rintro e w5 ⟨a3, a4, c3, n4, c4, la, ln, lc, rfl, tb5, g5, hT⟩; have q0 : w5.cell? ⟨xb, 0, none⟩ = some (.pointer (some ⟨h.pb, 0, none⟩)) := ((cell_of tb5).trans rfl); have q1 : w5.cell? ⟨xb, 1, none⟩ = some (.slice aa 1 ac) := ((cell_of tb5).trans rfl); have q2 : w5.cell? ⟨xb, 2, none⟩ = some (.slice oa on oc) := ((cell_of tb5).trans rfl); have z0 : w5.cell? ⟨w.heap.size, 0, none⟩ = some (.slice none 0 0) := ((cell_of g5).trans rfl); have z1 : w5.cell? ⟨w.heap.size, 1, none⟩ = some (.int .i64 0) := ((cell_of g5).trans rfl); have z2 : w5.cell? ⟨w.heap.size, 2, none⟩ = some (.slice none 0 0) := ((cell_of g5).trans rfl); have zf : ∀ j, w5.frozen? ⟨w.heap.size, j, none⟩ = false := (fun j => by simp only [World.frozen?, g5]; simp); have G5 := hid g5; have HT := hid hT; clear g5 hT tb5))
    go_wp2_with fail
    obtain ⟨wz, hwz⟩ : ∃ wz, wz = ((w5.setCell ⟨w.heap.size, 0, none⟩ (.slice a3 1 c3)).setCell ⟨w.heap.size, 1, none⟩ (.int .i64 0)).setCell ⟨w.heap.size, 2, none⟩ (.slice a4 n4 c4) := ⟨_, rfl⟩
    have F1 : Hid (wz.heap[w.heap.size]? = some (.cells #[.slice a3 1 c3, .int .i64 0, .slice a4 n4 c4] 47 (0, 0))) := (show _ = _ from by rw [hwz]; exact set3Y G5.out _ _ _)
    have F2 : Hid (PcK B w h v (C ++ [comK C os]) (.returned (.tuple #[.agg #[.slice a3 1 c3, .int .i64 0, .slice a4 n4 c4], .slice la ln lc, .nilIface])) wz) := (show PcK _ _ _ _ _ _ _ from by rw [hwz]; exact HT.out [.slice a3 1 c3, .int .i64 0, .slice a4 n4 c4])
    rw [← hwz]
    clear hwz HT G5
    go_meet
    exact ⟨a3, a4, c3, n4, c4, la, ln, lc, rfl, rfl, rfl, F1, F2⟩
  case rest =>
    obtain ⟨a3, a4, c3, n4, c4, la, ln, lc, rfl, rfl, rfl, F1, F2⟩ := hcut
    go_wp2
    exact bodyPost_ret (ret_cell_tmp2 (k := 3) Tryz.results35 Tryz.isAgg47 Tryz.sizeOf47 _ _ w.heap.size [.slice a3 1 c3, .int .i64 0, .slice a4 n4 c4] (.slice la ln lc) .nilIface rfl rfl rfl rfl (cells_heap (t := 47) _ F1.out)) rfl F2.out
set_option maxHeartbeats 8000000 in
theorem traC_none (B : Nat) (w : World) (h : PlH) (v : PlV) (C : List ComV) (i : KpI B w h v C) (xb : Nat) (aa : Option Addr) (ac : Nat) (oa : Option Addr) (oc : Nat) (ht : TraBox w xb h.pb (.slice aa 1 ac) (.slice oa 0 oc)) (hI : IntsAt w (.slice aa 1 ac) [(C.length : Int)]) :
    Calls Tryz.prog 35 #[.pointer (some ⟨xb, 0, none⟩)] w (PcK B w h v C) := by
  obtain ⟨w0, hw0⟩ : ∃ w0, w0 = w.alloc (.cells #[.slice none 0 0, .int .i64 0, .slice none 0 0] 47) := ⟨_, rfl⟩
  have b0 : Below w.heap.size w w0 := by rw [hw0]; exact below_alloc _ _
  have r0 : w0.heap[w.heap.size]? = some (.cells #[.slice none 0 0, .int .i64 0, .slice none 0 0] 47 (0, 0)) := by rw [hw0]; exact heap_new _ _
  have hlt : w.heap.size < w0.heap.size := lt_of_heap r0
  have tb : TraBox w0 xb h.pb (.slice aa 1 ac) (.slice oa 0 oc) := (b0.block _ (lt_of_heap ht)).trans ht
  have t0 : w0.cell? ⟨xb, 0, none⟩ = some (.pointer (some ⟨h.pb, 0, none⟩)) := (cell_of tb).trans rfl
  have t1 : w0.cell? ⟨xb, 1, none⟩ = some (.slice aa 1 ac) := (cell_of tb).trans rfl
  have t2 : w0.cell? ⟨xb, 2, none⟩ = some (.slice oa 0 oc) := (cell_of tb).trans rfl
  have K31 := hid (fun W (hW : Below w.heap.size w W) => clone_ints W (.slice aa 1 ac) [(C.length : Int)] (hI.mono hW (Nat.le_refl _)) (by simp))
  have K58 := hid (fun W (hW : Below w.heap.size w W) => id_any W h v (i.below hW).at_)
  rw [i.id] at K58
  have I := hid i
  have B0 := hid b0
  have R0 := hid r0
  have BD : Hid (Below w.heap.size w w0.drew) := (show Below _ _ _ from b0.drew)
  have hxn : xb ≠ w.heap.size := Nat.ne_of_lt (lt_of_heap ht)
  clear ht tb r0 b0 i hI
  go_enter Tryz.func35, Tryz.ntmps35
  go_upto_region 1 with (fail)
  rw [← hw0]
  clear hw0
  go_upto_region 2 with (fail)
  go_cut [2, 3, 4] (fun cp lp er wx => ∃ (a3 : Option Addr) (c3 : Nat), cp = .pointer (some ⟨w.heap.size, 0, none⟩) ∧ lp = .slice none 0 0 ∧ er = .nilIface ∧ Hid (wx.heap[w.heap.size]? = some (.cells #[.slice a3 1 c3, .int .i64 0, .slice none 0 0] 47 (0, 0))) ∧ Hid (Below w.heap.size w wx) ∧ Hid (IntsT wx (.slice a3 1 c3) [(C.length : Int)]))
  case first =>
    go_region_held (fun u => u.cell? ⟨xb, 0, none⟩ = some (.pointer (some ⟨h.pb, 0, none⟩)) ∧ u.cell? ⟨xb, 1, none⟩ = some (.slice aa 1 ac)) (first | exact ⟨q0, q1⟩ | exact ⟨set_other (set_other (set_other q0 hxn) hxn) hxn, set_other (set_other (set_other q1 hxn) hxn) hxn⟩ | go_keep) (first
      | (go_at_call 58; (with_reducible refine (K58.out w0.drew ?hb).mono ?_); (case hb => exact BD.out); rintro e w' ⟨rfl, hw'⟩; rw [hw']; clear hw')
      | (go_at_call 58; (with_reducible refine (K58.out w5 ?hb).mono ?_); (case hb => exact HB5.out); rintro e w' ⟨rfl, hw'⟩; rw [hw']; clear hw')
      | (go_at_call 31; (with_reducible refine (K31.out w0.drew ?hb).mono ?_); (case hb => exact BD.out); rintro e w5 ⟨a3, c3, rfl, hT5, hb5⟩; have hb5' : Below w.heap.size w w5 := BD.out.trans (hb5.mono BD.out.size); have q0 : w5.cell? ⟨xb, 0, none⟩ = some (.pointer (some ⟨h.pb, 0, none⟩)) := ((hb5.cell (p := ⟨xb, 0, none⟩) (lt_of_cell (show w0.drew.cell? ⟨xb, 0, none⟩ = _ from t0))).trans t0); have q1 : w5.cell? ⟨xb, 1, none⟩ = some (.slice aa 1 ac) := ((hb5.cell (p := ⟨xb, 1, none⟩) (lt_of_cell (show w0.drew.cell? ⟨xb, 1, none⟩ = _ from t1))).trans t1); have g5 : w5.heap[w.heap.size]? = some (.cells #[.slice none 0 0, .int .i64 0, .slice none 0 0] 47 (0, 0)) := ((hb5.block _ (show w.heap.size < w0.drew.heap.size from hlt)).trans R0.out); have z0 : w5.cell? ⟨w.heap.size, 0, none⟩ = some (.slice none 0 0) := ((cell_of g5).trans rfl); have z1 : w5.cell? ⟨w.heap.size, 1, none⟩ = some (.int .i64 0) := ((cell_of g5).trans rfl); have z2 : w5.cell? ⟨w.heap.size, 2, none⟩ = some (.slice none 0 0) := ((cell_of g5).trans rfl); have zf : ∀ j, w5.frozen? ⟨w.heap.size, j, none⟩ = false := (fun j => by simp only [World.frozen?, g5]; simp); have G5 := hid g5; have HT5 := hid hT5; have HB5 := hid hb5'; clear g5 hT5 hb5 hb5'))
    all_goals
      go_wp2_with fail
      obtain ⟨wz, hwz⟩ : ∃ wz, wz = ((w5.setCell ⟨w.heap.size, 0, none⟩ (.slice a3 1 c3)).setCell ⟨w.heap.size, 1, none⟩ (.int .i64 0)).setCell ⟨w.heap.size, 2, none⟩ (.slice none 0 0) := ⟨_, rfl⟩
      have F1 : Hid (wz.heap[w.heap.size]? = some (.cells #[.slice a3 1 c3, .int .i64 0, .slice none 0 0] 47 (0, 0))) := (show _ = _ from by rw [hwz]; exact set3Y G5.out _ _ _)
      have F2 : Hid (Below w.heap.size w wz) := (show Below _ _ _ from by rw [hwz]; exact ((HB5.out.setCell (Nat.le_refl _) _).setCell (Nat.le_refl _) _).setCell (Nat.le_refl _) _)
      have F3 : Hid (IntsT wz (.slice a3 1 c3) [(C.length : Int)]) := (show IntsT _ _ _ from intsT_keep HT5.out (keep3_of (keeps_only G5.out (by decide) (by decide) (by decide) (by rw [hwz]; exact only_cells (w := w5) (g := w.heap.size) 0 [.slice a3 1 c3, .int .i64 0, .slice none 0 0]))))
      rw [← hwz]
      clear hwz G5
      go_meet
      exact ⟨a3, c3, rfl, rfl, rfl, F1, F2, F3⟩
  case rest =>
    obtain ⟨a3, c3, rfl, rfl, rfl, F1, F2, F3⟩ := hcut
    go_wp2
    exact bodyPost_ret (ret_cell_tmp2 (k := 3) Tryz.results35 Tryz.isAgg47 Tryz.sizeOf47 _ _ w.heap.size [.slice a3 1 c3, .int .i64 0, .slice none 0 0] (.slice none 0 0) .nilIface rfl rfl rfl rfl (cells_heap (t := 47) _ F1.out)) rfl ⟨⟨h, v, a3, none, c3, 0, 0, none, 0, 0, rfl, I.out.below F2.out, rfl, ⟨F2.out.os, F2.out.tape, F2.out.output, F2.out.size, fun b hb _ => F2.out.block b hb, fun b hb => .inl hb, Keeps.bel F2.out⟩, F3.out⟩⟩
end Go.Proofs.YtepnghacjggkkaaGreatDoor
