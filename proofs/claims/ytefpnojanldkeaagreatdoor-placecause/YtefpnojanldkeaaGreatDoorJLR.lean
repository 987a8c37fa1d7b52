/- Hear, of a message that is new; Hear, of a message that is known. -/
import Derived.Test.YtefpnojanldkeaaGreatDoorJLP
namespace Go.Proofs.YtefpnojanldkeaaGreatDoor
open Go.RowKit Go.Maps
set_option maxRecDepth 100000
set_option linter.unusedSectionVars false
variable [Inhabited ComV] [DecidableEq D3] [Inhabited D3] [Inhabited Dd] [Inhabited Dn] [Inhabited OpV]

structure MsgIn (v : PlV) (j s : Nat) (m : MsgV) : Prop where
  frm : m.frm = j
  to_ : m.to_ = v.id
  shard : m.shard = s
  seq1 : 1 ≤ m.seq
  seq2 : m.seq ≤ 1000000
  t0 : 0 ≤ m.time
  t1 : m.time ≤ 1000000
  light : Light m.c
structure HearRet (w : World) (h : PlH) (v : PlV) (y : Nat → Nat → LnV) (st : St) (nn : Nat) (e : Ending) (w' : World) : Prop where
  ret : ∃ (h' : PlH) (a6 : Option Addr) (c6 : Nat), e = .returned (.tuple #[.slice a6 1 c6, .nilIface]) ∧ PlAt w' h' { v with Y := y, st := st } ∧ PlMoves w w' h v h' { v with Y := y, st := st } ∧ h'.pb = h.pb ∧ h'.nn ≤ nn ∧ ∀ j s, (h'.X j s).n ≤ (h.X j s).n + 1
theorem keeps_onlyR {w w' : World} {i j s : Int} {x : Ln} {y : LnV} (h : LnAt w i j s x y) (hO : OnlyR x.gr x.gm w w') : Keeps w w' := fun t ht b cs hc => hO.block b (lt_of_heap hc) (cell_ne hc h.rcv.box (by rcases ht with rfl | rfl | rfl <;> decide)) (fun e => by
  have t3 := h.ty.2.2.1
  rw [← e, tyAt_cells hc] at t3
  exact absurd t3 (Nat.succ_ne_zero _))
structure HlI (w5 : World) (h1 : PlH) (v1 : PlV) (st : St) (cl : List MsgV) (nn i : Nat) (wr : World) : Prop where
  at_ : ∃ f' nn', PlAt wr { h1 with f := f', nn := nn' } { v1 with st := (cl.take i).foldl takeV st } ∧ PlMoves w5 wr h1 v1 { h1 with f := f', nn := nn' } { v1 with st := (cl.take i).foldl takeV st } ∧ nn' ≤ nn + 24 * i
theorem fold_next {cl : List MsgV} {i : Nat} {x : MsgV} (h : cl[i]? = some x) (st : St) : (cl.take (i + 1)).foldl takeV st = takeV ((cl.take i).foldl takeV st) x := by
  rw [List.take_add_one, h, List.foldl_append]
  rfl
set_option maxHeartbeats 8000000 in
theorem hear_new_any (A : Nat → Addr) (w : World) (hE : E4 A w) (h12 : 12 ≤ w.heap.size) (h : PlH) (v : PlV) (a : PlAt w h v) (hlow : ∀ b, h.foot v b → 12 ≤ b) (j s : Nat) (q : v.line j s) (r : Raw) (m : MsgV) (hr : RawOwn 0 w r m) (hm : MsgIn v j s m) (hq0 : 0 ≤ (v.Y j s).rq) (hq1 : (v.Y j s).rq ≤ 1000) (hn : (h.X j s).n ≤ 1000) (hu1 : (v.Y j s).mm m.seq = none) (hu2 : (v.Y j s).rq < m.seq) (hfar : m.seq - ((v.Y j s).rq + 1) ≤ 200) (cl : List MsgV) (hI : HearIn (v.Y j s) m cl) (htake : ∀ i x, cl[i]? = some x → CanTake ((cl.take i).foldl takeV v.st) x) (hst : ∀ i, i ≤ cl.length → StIn ((cl.take i).foldl takeV v.st) (h.nn + 24 * i)) :
    Calls Tryz.prog 11 #[.pointer (some ⟨h.pb, 0, none⟩), .agg r.cells.toArray] w (HearRet w h v (updL v.Y j s (hearY (v.Y j s) m cl)) (cl.foldl takeV v.st) (h.nn + 24 * cl.length)) := by
  obtain ⟨x1, x2, x3, x4, x5, x6, a1, n1, c1, p, a2, n2, c2⟩ := r
  have hx1 : x1 = j := hr.nums.x1.trans hm.frm
  have hx2 : x2 = v.id := hr.nums.x2.trans hm.to_
  have hx3 : x3 = s := hr.nums.x3.trans hm.shard
  have hx4 : x4 = m.seq := hr.nums.x4
  have hx5 : x5 = m.time := hr.nums.x5
  subst hx1 hx2 hx3 hx4 hx5
  have htn : m.time ≠ -1 := by have := hm.t0; omega
  have n6 := a.n6
  have k6 := a.k6
  obtain ⟨w1, hw1⟩ : ∃ w1, w1 = w.alloc (.cells #[.int .i64 j, .int .i64 v.id, .int .i64 s, .int .i64 m.seq, .int .i64 m.time, .bool x6, .slice a1 n1 c1, .int .i64 p, .slice a2 n2 c2] 44) := ⟨_, rfl⟩
  have b1 : Below w.heap.size w w1 := by rw [hw1]; exact below_alloc _ _
  have g1 : w1.heap[w.heap.size]? = some (.cells #[.int .i64 j, .int .i64 v.id, .int .i64 s, .int .i64 m.seq, .int .i64 m.time, .bool x6, .slice a1 n1 c1, .int .i64 p, .slice a2 n2 c2] 44 (0, 0)) := by rw [hw1]; exact heap_new _ _
  have a1' := a.below b1
  have K33 := hid (fun W (hW : Below w1.heap.size w1 W) => isOther_ok W h v (a1'.below hW) j q.1 q.2.1)
  have y0 : w1.cell? ⟨w.heap.size, 0, none⟩ = some (.int .i64 j) := (cell_of g1).trans rfl
  have y1 : w1.cell? ⟨w.heap.size, 1, none⟩ = some (.int .i64 v.id) := (cell_of g1).trans rfl
  have y2 : w1.cell? ⟨w.heap.size, 2, none⟩ = some (.int .i64 s) := (cell_of g1).trans rfl
  have p0 : w1.cell? ⟨h.pb, 0, none⟩ = some (.int .i64 v.id) := (cell_of a1'.box).trans rfl
  have p1 : w1.cell? ⟨h.pb, 1, none⟩ = some (.int .i64 v.k) := (cell_of a1'.box).trans rfl
  have hs0 : (0 : Int) ≤ (s : Int) := by omega
  have hs1 : (s : Int) < (v.k : Int) := by have := q.2.2; omega
  have H := hid a
  have HR := hid hr
  have HM := hid hm
  have HG1 := hid g1
  have B1 := hid b1
  have HI := hid hI
  have HTK := hid htake
  have HST := hid hst
  have HE := hid hE
  have HLOW := hid hlow
  have HU := hid (show (v.Y j s).mm m.seq = none ∧ (v.Y j s).rq < m.seq ∧ m.seq - ((v.Y j s).rq + 1) ≤ 200 ∧ 0 ≤ (v.Y j s).rq ∧ (v.Y j s).rq ≤ 1000 ∧ (h.X j s).n ≤ 1000 from ⟨hu1, hu2, hfar, hq0, hq1, hn⟩)
  unfold Raw.cells
  simp only
  clear a hr hm g1 b1 hI htake hst hE hlow hu1 hu2 hfar hq0 hq1 hn a1'
  go_enter Tryz.func11, Tryz.ntmps11
  go_upto_region 1 with (fail)
  rw [← hw1]
  clear hw1
  go_region_held (fun u => u.cell? ⟨w.heap.size, 0, none⟩ = some (.int .i64 j) ∧ u.cell? ⟨w.heap.size, 2, none⟩ = some (.int .i64 s) ∧ u.cell? ⟨h.pb, 1, none⟩ = some (.int .i64 v.k)) (first | go_keep | exact ⟨t0, t2, t3⟩) ((go_at_call 33; refine (K33.out _ ?hb).mono ?_; (case hb => first | exact (Below.refl w1.heap.size w1).drew | exact Below.refl w1.heap.size w1); rintro e w2 ⟨rfl, hb2⟩; have hb2' : Below w1.heap.size w1 w2 := (by first | exact (below_draws (Below.refl w1.heap.size w1) 1).trans hb2 | exact hb2); have t0 := (hb2'.cell (lt_of_cell y0)).trans y0; have t1 := (hb2'.cell (lt_of_cell y1)).trans y1; have t2 := (hb2'.cell (lt_of_cell y2)).trans y2; have t3 := (hb2'.cell (lt_of_cell p1)).trans p1; have t4 := (hb2'.cell (lt_of_cell p0)).trans p0; have B2 := hid hb2'; clear hb2 hb2'))
  have hd0 : decide ((s : Int) < 0) = false := by simp
  have hd1 : decide (v.k ≤ s) = false := by have := q.2.2; simp; omega
  clear y0 y1 y2 p0 p1 K33
  go_upto_region 3 with (fail)
  go_region_held (fun u => u.cell? ⟨w.heap.size, 1, none⟩ = some (.int .i64 v.id) ∧ u.cell? ⟨h.pb, 0, none⟩ = some (.int .i64 v.id)) (first | go_keep) (fail)
  obtain ⟨w3, hw3⟩ : ∃ w3, w3 = w2.drew := ⟨_, rfl⟩
  have b3 : Below w.heap.size w w3 := by rw [hw3]; exact (B1.out.trans (B2.out.mono B1.out.size)).drew
  have g3 : w3.heap[w.heap.size]? = some (.cells #[.int .i64 j, .int .i64 v.id, .int .i64 s, .int .i64 m.seq, .int .i64 m.time, .bool x6, .slice a1 n1 c1, .int .i64 p, .slice a2 n2 c2] 44 (0, 0)) := by rw [hw3]; exact (B2.out.block _ (lt_of_heap HG1.out)).trans HG1.out
  have a3 := H.out.below b3
  have A3 := hid a3
  have B3 := hid b3
  have HG3 := hid g3
  obtain ⟨ls, l1, l2⟩ := a3.lines
  obtain ⟨cs, d1, d2⟩ := a3.line j q.1 q.2.1
  have hv : lineV h v j = .slice (some ⟨h.b j, 0, none⟩) v.k v.k := if_neg q.2.1
  have y0 : w3.cell? ⟨w.heap.size, 0, none⟩ = some (.int .i64 j) := (cell_of g3).trans rfl
  have y2 : w3.cell? ⟨w.heap.size, 2, none⟩ = some (.int .i64 s) := (cell_of g3).trans rfl
  have y4 : w3.cell? ⟨w.heap.size, 4, none⟩ = some (.int .i64 m.time) := (cell_of g3).trans rfl
  have p4 : w3.cell? ⟨h.pb, 4, none⟩ = some (.slice (some ⟨h.lb, 0, none⟩) v.n v.n) := (cell_of a3.box).trans rfl
  have e1 : w3.cell? ⟨h.lb, j, none⟩ = some (.slice (some ⟨h.b j, 0, none⟩) v.k v.k) := (cell_of l1).trans (by rw [l2 j q.1, hv])
  have e2 : w3.cell? ⟨h.b j, s * 2, none⟩ = some (.pointer (some ⟨(h.X j s).g, 0, none⟩)) := (cell_of d1).trans (d2 s q.2.2).1
  have e3 : w3.cell? ⟨h.b j, s * 2 + 1, none⟩ = some (.pointer (some ⟨(h.X j s).gr, 0, none⟩)) := (cell_of d1).trans (d2 s q.2.2).2
  have hj1 : (j : Int) < (v.n : Int) := by have := q.1; omega
  rw [← hw3]
  clear hw3 t0 t1 t2 t3 t4 B2 g3 a3 b3 l1 l2 d1 d2 hv hd0 hd1
  go_upto_region 5 with (fail)
  go_region_held (fun u => u.cell? ⟨h.pb, 4, none⟩ = some (.slice (some ⟨h.lb, 0, none⟩) v.n v.n) ∧ u.cell? ⟨w.heap.size, 0, none⟩ = some (.int .i64 j) ∧ u.cell? ⟨w.heap.size, 2, none⟩ = some (.int .i64 s) ∧ u.cell? ⟨h.lb, j, none⟩ = some (.slice (some ⟨h.b j, 0, none⟩) v.k v.k) ∧ u.cell? ⟨h.b j, s * 2, none⟩ = some (.pointer (some ⟨(h.X j s).g, 0, none⟩)) ∧ u.cell? ⟨h.b j, s * 2 + 1, none⟩ = some (.pointer (some ⟨(h.X j s).gr, 0, none⟩))) (first | go_keep) (fail)
  obtain ⟨w4, hw4⟩ : ∃ w4, w4 = (w3.alloc (.cells #[.pointer (some ⟨(h.X j s).g, 0, none⟩), .pointer (some ⟨(h.X j s).gr, 0, none⟩)] 80)).drew := ⟨_, rfl⟩
  obtain ⟨Lb, hLb⟩ : ∃ Lb, Lb = w3.heap.size := ⟨_, rfl⟩
  have b34 : Below w3.heap.size w3 w4 := by rw [hw4]; exact (below_alloc _ _).drew
  have b4 : Below w.heap.size w w4 := B3.out.trans (b34.mono B3.out.size)
  have gm4 : w4.heap[w.heap.size]? = some (.cells #[.int .i64 j, .int .i64 v.id, .int .i64 s, .int .i64 m.seq, .int .i64 m.time, .bool x6, .slice a1 n1 c1, .int .i64 p, .slice a2 n2 c2] 44 (0, 0)) := (b34.block _ (lt_of_heap HG3.out)).trans HG3.out
  have gl4 : w4.heap[Lb]? = some (.cells #[.pointer (some ⟨(h.X j s).g, 0, none⟩), .pointer (some ⟨(h.X j s).gr, 0, none⟩)] 80 (0, 0)) := by rw [hw4, hLb]; exact heap_new _ _
  have hLw : w.heap.size < Lb := by rw [hLb]; exact lt_of_heap HG3.out
  have a4 := H.out.below b4
  have lx := a4.each j s q
  have u := HU.out
  have hMn : (h.X j s).M m.seq = none := by have o := lx.maps m.seq; rw [u.1] at o; exact o.none_
  have K35 := hid (hear_new_raw w4 (h.X j s).gr (h.X j s).gm (h.X j s).n j v.id s (v.Y j s).rq (v.Y j s).rt (h.X j s).M ⟨j, v.id, s, m.seq, m.time, x6, a1, n1, c1, p, a2, n2, c2⟩ lx.rcv m (HR.out.at_.mono b4 (Nat.le_refl _)) HM.out.light (fun e => by have t2 := lx.ty.2.1; have t3 := lx.ty.2.2.1; rw [e] at t2; omega) u.2.2.2.2.2 (by simp [bearsB]) HM.out.seq1 (by have := HM.out.t0; have := HM.out.t1; simp [timeB]; omega) ⟨by have := HM.out.seq1; show _ ≤ m.seq; omega, by have := HM.out.seq2; show m.seq ≤ _; omega⟩ (by show (((h.X j s).M m.seq).isSome || decide (m.seq ≤ (v.Y j s).rq)) = false; rw [hMn]; simp; exact u.2.1) u.2.2.2.1 u.2.2.2.2.1 u.2.2.1 (fun r' hr' => HI.out.raws (fun q => optR_nums (lx.maps q)) rfl r' hr'))
  unfold Raw.cells at K35
  simp only at K35
  have f0 : w4.cell? ⟨w.heap.size, 0, none⟩ = some (.int .i64 j) := (cell_of gm4).trans rfl
  have f1 : w4.cell? ⟨w.heap.size, 1, none⟩ = some (.int .i64 v.id) := (cell_of gm4).trans rfl
  have f2 : w4.cell? ⟨w.heap.size, 2, none⟩ = some (.int .i64 s) := (cell_of gm4).trans rfl
  have f3 : w4.cell? ⟨w.heap.size, 3, none⟩ = some (.int .i64 m.seq) := (cell_of gm4).trans rfl
  have f4 : w4.cell? ⟨w.heap.size, 4, none⟩ = some (.int .i64 m.time) := (cell_of gm4).trans rfl
  have f5 : w4.cell? ⟨w.heap.size, 5, none⟩ = some (.bool x6) := (cell_of gm4).trans rfl
  have f6 : w4.cell? ⟨w.heap.size, 6, none⟩ = some (.slice a1 n1 c1) := (cell_of gm4).trans rfl
  have f7 : w4.cell? ⟨w.heap.size, 7, none⟩ = some (.int .i64 p) := (cell_of gm4).trans rfl
  have f8 : w4.cell? ⟨w.heap.size, 8, none⟩ = some (.slice a2 n2 c2) := (cell_of gm4).trans rfl
  have k1 : w4.cell? ⟨Lb, 1, none⟩ = some (.pointer (some ⟨(h.X j s).gr, 0, none⟩)) := (cell_of gl4).trans rfl
  rw [← hw4, ← hLb]
  have A4 := hid a4
  have B4 := hid b4
  have GM4 := hid gm4
  have GL4 := hid gl4
  have HLw := hid hLw
  have LX := hid lx
  clear hw4 hLb b34 b4 gm4 gl4 hLw a4 lx u hMn y0 y2 y4 p4 e1 e2 e3 hj1 A3 B3 HG3 HG1 B1
  go_wp2_with fail
  refine K35.out.mono ?_
  rintro e w5 ⟨rv, c, rs, r', rfl, hrow, hR, hown, hO, hh1, hh2⟩
  have hk5 := keeps_onlyR LX.out hO
  obtain ⟨hcl, hF, hL5⟩ := LX.out.heard HI.out hR (hown.base (Nat.zero_le _)) hO hk5 hh1 hh2
  subst hcl
  have G5 := (PlG.start A4.out).turn q hL5 rfl rfl rfl (fun _ => Nat.le_refl _) (.inl rfl) (fun b hb hn => hO.block b hb (fun e => hn (.inr (.inr (.inl e)))) (fun e => hn (.inr (.inr (.inr e))))) hk5 hO.os hO.tape hO.output hO.size (fun q hq => by cases hq)
  obtain ⟨h1, hh1'⟩ : ∃ h1 : PlH, h1 = { h with X := updL h.X j s { h.X j s with n := (h.X j s).n + 1, M := comeV (updV (h.X j s).M m.seq (some r')) (v.Y j s).rq cl.length } } := ⟨_, rfl⟩
  obtain ⟨v1, hv1'⟩ : ∃ v1 : PlV, v1 = { v with Y := updL v.Y j s (hearY (v.Y j s) m cl) } := ⟨_, rfl⟩
  rw [← hh1', ← hv1'] at G5
  have foot1 : ∀ b, h1.foot v1 b → h.foot v b := fun b hb => by
    rw [hh1', hv1'] at hb
    rcases PlH.foot_turn (h := h) (v := v) (j := j) (s := s) (B := b + 1) (x' := { h.X j s with n := (h.X j s).n + 1, M := comeV (updV (h.X j s).M m.seq (some r')) (v.Y j s).rq cl.length }) (y' := hearY (v.Y j s) m cl) q rfl rfl rfl (.inl rfl) hb with e | e
    · exact e
    · omega
  have NF : Hid (∀ b, w.heap.size ≤ b → ¬ h1.foot v1 b) := (show ∀ b, _ from fun b hb e => by have := H.out.lt (foot1 b e); omega)
  have e1p : h1.pb = h.pb := G5.pb
  have e2p : h1.p = h.p := by rw [hh1']
  have e3n : h1.nn = h.nn := by rw [hh1']
  have e4v : v1.st = v.st := by rw [hv1']
  have e5v : v1.id = v.id := by rw [hv1']
  have e6g : (h1.X j s).gr = (h.X j s).gr ∧ (h1.X j s).gm = (h.X j s).gm ∧ v1.line j s := by rw [hh1', hv1']; simp only [updL_at]; exact ⟨trivial, trivial, q⟩
  have e7r : (v1.Y j s).rq = (v.Y j s).rq + cl.length := by rw [hv1']; simp only [updL_at]; rfl
  have e8n : ∀ j' s', (h1.X j' s').n ≤ (h.X j' s').n + 1 := fun j' s' => by
    rw [hh1']
    show (updL h.X j s _ j' s').n ≤ _
    by_cases e : (j', s') = (j, s)
    · obtain ⟨rfl, rfl⟩ := Prod.mk.inj e
      rw [updL_at]
      exact Nat.le_refl _
    · rw [updL_ne _ _ e]
      omega
  obtain ⟨ra, rc, hrv⟩ := row_shape hrow
  subst hrv
  have I5 : Hid (HlI w5 h1 v1 v.st cl h.nn 0 w5) := (show HlI _ _ _ _ _ _ _ _ from ⟨h1.f, h1.nn, by rw [List.take_zero, List.foldl_nil, ← e4v]; exact G5.here, by rw [List.take_zero, List.foldl_nil, ← e4v]; exact PlMoves.refl, by omega⟩)
  have GM5 := hid ((G5.mov.block _ (lt_of_heap GM4.out) fun e => by have := H.out.lt e; omega).trans GM4.out)
  have GL5 := hid ((G5.mov.block _ (lt_of_heap GL4.out) fun e => by have := H.out.lt e; have := HLw.out; omega).trans GL4.out)
  have LTM := hid (show w.heap.size < w5.heap.size ∧ Lb < w5.heap.size from ⟨lt_of_heap GM5.out, lt_of_heap GL5.out⟩)
  have HROW := hid hrow
  have HF := hid hF
  have M5 : Hid (PlMoves w w5 h v h1 v1) := (show PlMoves _ _ _ _ _ _ from PlMoves.ahead B4.out G5.mov)
  have EE := hid (show h1.pb = h.pb ∧ h1.p = h.p ∧ v1.id = v.id ∧ (h1.X j s).gr = (h.X j s).gr ∧ (h1.X j s).gm = (h.X j s).gm ∧ v1.line j s ∧ (v1.Y j s).rq = (v.Y j s).rq + cl.length from ⟨e1p, e2p, e5v, e6g.1, e6g.2.1, e6g.2.2, e7r⟩)
  have E8 := hid e8n
  have EV : Hid (∀ st', ({ v1 with st := st' } : PlV) = { v with Y := updL v.Y j s (hearY (v.Y j s) m cl), st := st' }) := (show ∀ st', _ from fun st' => by rw [hv1'])
  have hc20 : Hid (cl.length ≤ 1000) := (show _ ≤ _ from by have := HI.out.len; have := HU.out.2.2.2.1; omega)
  have FT1 := hid foot1
  have SZ45 : Hid (w.heap.size ≤ w4.heap.size) := (show _ ≤ _ from B4.out.size)
  clear hk5 hF hL5 hR hown hO hh1 hh2 hrow G5 foot1 e1p e2p e3n e4v e5v e6g e7r e8n hh1' hv1' f0 f1 f2 f3 f4 f5 f6 f7 f8 k1 K35 LX A4 GM4 GL4 B4
  go_wp2
  have hlen := hc20.out
  go_loopw [73] (fun i wr => ∃ k : Nat, k ≤ cl.length ∧ i = .int .i64 k ∧ Hid (HlI w5 h1 v1 v.st cl h.nn k wr)) (fun i _ => cl.length - (intOf i).toNat)
  case atStart => exact ⟨0, Nat.zero_le _, rfl, I5⟩
  case round =>
    obtain ⟨k, hk, rfl, HL⟩ := hrel
    obtain ⟨f', nn', pa, pm, hnn⟩ := HL.out.at_
    have low5 : ∀ b, w.heap.size ≤ b → b < w5.heap.size → wr.heap[b]? = w5.heap[b]? := fun b h1 h2 => pm.block b h2 (NF.out b h1)
    by_cases hlt : k < cl.length
    · have hi1 : (k : Int) < (cl.length : Int) := by omega
      obtain ⟨x, hx⟩ : ∃ x, cl[k]? = some x := ⟨_, List.getElem?_eq_getElem hlt⟩
      obtain ⟨rk, hrk, hro⟩ := f2_get HF.out k x hx
      obtain ⟨rb, rfl, hrb, hcell⟩ := row_raw HROW.out (by simp [comeR]) hrk
      have hro' : RawOwn 0 wr rk x := hro.kept pm.keeps
      obtain ⟨z1, z2, z3, z4, z5, z6, za1, zn1, zc1, zp, za2, zn2, zc2⟩ := rk
      have up : ∀ i u, (Raw.cells ⟨z1, z2, z3, z4, z5, z6, za1, zn1, zc1, zp, za2, zn2, zc2⟩)[i]? = some u → wr.cell? ⟨rb, k * 9 + i, none⟩ = some u := fun i u hu => by
        have e := hcell i u hu
        have hl : rb < w5.heap.size := lt_of_cell e
        exact (World.cell?_of_block (low5 rb (by have := SZ45.out; have := (HROW.out.lt rb rfl).1; omega) hl)).trans e
      have e0 : wr.cell? ⟨rb, k * 9, none⟩ = some (.int .i64 z1) := up 0 _ rfl
      have e1 := up 1 (.int .i64 z2) rfl
      have e2 := up 2 (.int .i64 z3) rfl
      have e3 := up 3 (.int .i64 z4) rfl
      have e4 := up 4 (.int .i64 z5) rfl
      have e5 := up 5 (.bool z6) rfl
      have e6 := up 6 (.slice za1 zn1 zc1) rfl
      have e7 := up 7 (.int .i64 zp) rfl
      have e8 := up 8 (.slice za2 zn2 zc2) rfl
      obtain ⟨w6, hw6⟩ : ∃ w6, w6 = wr.alloc (.cells #[.int .i64 z1, .int .i64 z2, .int .i64 z3, .int .i64 z4, .int .i64 z5, .bool z6, .slice za1 zn1 zc1, .int .i64 zp, .slice za2 zn2 zc2] 44) := ⟨_, rfl⟩
      obtain ⟨X, hX⟩ : ∃ X, X = wr.heap.size := ⟨_, rfl⟩
      have b6 : Below wr.heap.size wr w6 := by rw [hw6]; exact below_alloc _ _
      have g6 : w6.heap[X]? = some (.cells #[.int .i64 z1, .int .i64 z2, .int .i64 z3, .int .i64 z4, .int .i64 z5, .bool z6, .slice za1 zn1 zc1, .int .i64 zp, .slice za2 zn2 zc2] 44 (0, 0)) := by rw [hw6, hX]; exact heap_new _ _
      have a6 := pa.below b6
      have d3 : w6.cell? ⟨h.pb, 3, none⟩ = some (.pointer (some ⟨h1.p, 0, none⟩)) := by rw [← EE.out.1]; exact (cell_of a6.box).trans rfl
      have q0 : w6.cell? ⟨X, 0, none⟩ = some (.int .i64 z1) := (cell_of g6).trans rfl
      have q1 : w6.cell? ⟨X, 1, none⟩ = some (.int .i64 z2) := (cell_of g6).trans rfl
      have q2 : w6.cell? ⟨X, 2, none⟩ = some (.int .i64 z3) := (cell_of g6).trans rfl
      have q3 : w6.cell? ⟨X, 3, none⟩ = some (.int .i64 z4) := (cell_of g6).trans rfl
      have q4 : w6.cell? ⟨X, 4, none⟩ = some (.int .i64 z5) := (cell_of g6).trans rfl
      have q5 : w6.cell? ⟨X, 5, none⟩ = some (.bool z6) := (cell_of g6).trans rfl
      have q6 : w6.cell? ⟨X, 6, none⟩ = some (.slice za1 zn1 zc1) := (cell_of g6).trans rfl
      have q7 : w6.cell? ⟨X, 7, none⟩ = some (.int .i64 zp) := (cell_of g6).trans rfl
      have q8 : w6.cell? ⟨X, 8, none⟩ = some (.slice za2 zn2 zc2) := (cell_of g6).trans rfl
      have bw6 : Below 12 w w6.drew := by
        have m6 : PlMoves w wr h v _ _ := M5.out.trans pm
        exact ⟨b6.os.trans m6.os, b6.tape.trans m6.tape, b6.output.trans m6.output, Nat.le_trans m6.size b6.size, fun b hb => (b6.block b (Nat.lt_of_lt_of_le hb (Nat.le_trans h12 m6.size))).trans (m6.block b (Nat.lt_of_lt_of_le hb h12) fun e => by have := HLOW.out b e; omega)⟩
      have hst := HST.out k (by omega)
      have K36 := take_any A w6.drew (HE.out.below bw6 (Nat.le_refl _)) (Nat.le_trans h12 bw6.size) { h1 with f := f', nn := nn' } { v1 with st := (cl.take k).foldl takeV v.st } (a6.below (Below.refl _ _).drew) ⟨hst.base, hst.few, Nat.le_trans hnn hst.nn⟩ ⟨z1, z2, z3, z4, z5, z6, za1, zn1, zc1, zp, za2, zn2, zc2⟩ x (hro'.kept (Keeps.bel b6.drew)) (HTK.out k x hx)
      unfold Raw.cells at K36
      simp only at K36
      have K36' := hid K36
      have HFX := hid (fold_next hx v.st)
      have NX : Hid (¬ PlH.foot { h1 with f := f', nn := nn' } { v1 with st := (cl.take k).foldl takeV v.st } X) := (show ¬ _ from fun e => by have := pa.lt e; omega)
      have PM := hid pm
      have B6 := hid b6
      have HNN := hid hnn
      clear hcell up hro hro' hrk hx g6 a6 bw6 hst K36 pa pm hnn low5 b6
      go_upto_region 14 with (fail)
      rw [← hw6, ← hX]
      clear hw6 hX e0 e1 e2 e3 e4 e5 e6 e7 e8
      go_region_held (fun u => u.cell? ⟨h.pb, 3, none⟩ = some (.pointer (some ⟨h1.p, 0, none⟩)) ∧ u.cell? ⟨X, 0, none⟩ = some (.int .i64 z1) ∧ u.cell? ⟨X, 1, none⟩ = some (.int .i64 z2) ∧ u.cell? ⟨X, 2, none⟩ = some (.int .i64 z3) ∧ u.cell? ⟨X, 3, none⟩ = some (.int .i64 z4) ∧ u.cell? ⟨X, 4, none⟩ = some (.int .i64 z5) ∧ u.cell? ⟨X, 5, none⟩ = some (.bool z6) ∧ u.cell? ⟨X, 6, none⟩ = some (.slice za1 zn1 zc1) ∧ u.cell? ⟨X, 7, none⟩ = some (.int .i64 zp) ∧ u.cell? ⟨X, 8, none⟩ = some (.slice za2 zn2 zc2)) (first | go_keep | exact ⟨u9, u0, u1, u2, u3, u4, u5, u6, u7, u8⟩) ((go_at_call 36; refine K36'.out.mono ?_; rintro e w7 ⟨rfl, f7, nn7, pa7, pm7, hn7⟩; have nx : ¬ PlH.foot { h1 with f := f', nn := nn' } { v1 with st := (cl.take k).foldl takeV v.st } X := (fun e => NX.out e); have bx : ∀ (i : Nat) (u : Value), w6.cell? ⟨X, i, none⟩ = some u → w7.cell? ⟨X, i, none⟩ = some u := (fun i u hu => (World.cell?_of_block (pm7.block X (lt_of_cell hu) nx)).trans hu); have u0 := bx _ _ q0; have u1 := bx _ _ q1; have u2 := bx _ _ q2; have u3 := bx _ _ q3; have u4 := bx _ _ q4; have u5 := bx _ _ q5; have u6 := bx _ _ q6; have u7 := bx _ _ q7; have u8 := bx _ _ q8; have u9 : w7.cell? ⟨h.pb, 3, none⟩ = some (.pointer (some ⟨h1.p, 0, none⟩)) := (by rw [← EE.out.1]; exact (cell_of pa7.box).trans rfl); have PA7 := hid pa7; have PM7 := hid pm7; have HN7 := hid hn7; clear pa7 pm7 hn7 nx bx))
      have N7 : Hid (HlI w5 h1 v1 v.st cl h.nn (k + 1) w7) := (show HlI _ _ _ _ _ _ _ _ from ⟨f7, nn7, by rw [HFX.out]; exact PA7.out, by rw [HFX.out]; exact (PM.out.below B6.out.drew).trans PM7.out, by have := HNN.out; have := HN7.out; have e : ({ h1 with f := f', nn := nn' } : PlH).nn = nn' := rfl; omega⟩)
      clear u0 u1 u2 u3 u4 u5 u6 u7 u8 u9 q0 q1 q2 q3 q4 q5 q6 q7 q8 d3
      go_wp2
      exact ⟨⟨k + 1, by omega, by go_num, N7⟩, by simp [intOf]; omega⟩
    · obtain rfl : k = cl.length := by omega
      rw [List.take_length] at pa pm
      have gm := (low5 _ (Nat.le_refl _) LTM.out.1).trans GM5.out
      have gl := (low5 _ (Nat.le_of_lt HLw.out) LTM.out.2).trans GL5.out
      have d0 : wr.cell? ⟨h.pb, 0, none⟩ = some (.int .i64 v.id) := by rw [← EE.out.1, ← EE.out.2.2.1]; exact (cell_of pa.box).trans rfl
      have m0 : wr.cell? ⟨w.heap.size, 0, none⟩ = some (.int .i64 j) := (cell_of gm).trans rfl
      have m2 : wr.cell? ⟨w.heap.size, 2, none⟩ = some (.int .i64 s) := (cell_of gm).trans rfl
      have l1 : wr.cell? ⟨Lb, 1, none⟩ = some (.pointer (some ⟨(h.X j s).gr, 0, none⟩)) := (cell_of gl).trans rfl
      have lr := (pa.each j s EE.out.2.2.2.2.2.1).rcv
      have K37 : Calls Tryz.prog 37 #[.pointer (some ⟨(h.X j s).gr, 0, none⟩)] wr.drew fun e w' => e = .returned (.int .i64 (v1.Y j s).rq) ∧ w' = wr.drew := by
        rw [← EE.out.2.2.2.1]
        exact rseq_raw wr.drew _ _ _ _ _ _ _ _ _ (lr.moved rfl rfl)
      obtain ⟨sq, hsq⟩ : ∃ sq, sq = (v1.Y j s).rq := ⟨_, rfl⟩
      rw [← hsq] at K37
      have K37' := hid K37
      have E : Hid (∀ W', Below wr.heap.size wr W' → PlAt W' { h1 with f := f', nn := nn' } { v with Y := updL v.Y j s (hearY (v.Y j s) m cl), st := cl.foldl takeV v.st } ∧ PlMoves w W' h v { h1 with f := f', nn := nn' } { v with Y := updL v.Y j s (hearY (v.Y j s) m cl), st := cl.foldl takeV v.st } ∧ h1.pb = h.pb ∧ nn' ≤ h.nn + 24 * cl.length ∧ ∀ j s, (h1.X j s).n ≤ (h.X j s).n + 1) := (show ∀ W', _ from fun W' hb => by
        rw [← EV.out]
        exact ⟨pa.below hb, (M5.out.trans pm).below hb, EE.out.1, hnn, E8.out⟩)
      clear K37 hsq lr gm gl low5 pa pm hnn
      go_upto_region 16 with (fail)
      go_region_held (fun u => u.cell? ⟨h.pb, 0, none⟩ = some (.int .i64 v.id) ∧ u.cell? ⟨w.heap.size, 0, none⟩ = some (.int .i64 j) ∧ u.cell? ⟨w.heap.size, 2, none⟩ = some (.int .i64 s) ∧ u.cell? ⟨Lb, 1, none⟩ = some (.pointer (some ⟨(h.X j s).gr, 0, none⟩))) (first | go_keep) ((go_at_call 37; refine K37'.out.mono ?_; rintro e w' ⟨rfl, hw'⟩; rw [hw']; clear hw'))
      go_wp2
      go_ret2
      exact ⟨⟨{ h1 with f := f', nn := nn' }, _, _, rfl, E.out _ (by first | exact (below_alloc _ _).drew | exact ((Below.refl wr.heap.size wr).drew).alloc (Nat.le_refl _) _)⟩⟩
end Go.Proofs.YtefpnojanldkeaaGreatDoor
namespace Go.Proofs.YtefpnojanldkeaaGreatDoor
open Go.RowKit Go.Maps
set_option maxRecDepth 100000
set_option linter.unusedSectionVars false
variable [Inhabited ComV] [DecidableEq D3] [Inhabited D3] [Inhabited Dd] [Inhabited Dn] [Inhabited OpV]

set_option maxHeartbeats 8000000 in
theorem hear_known_any (w : World) (h : PlH) (v : PlV) (a : PlAt w h v) (j s : Nat) (q : v.line j s) (r : Raw) (m : MsgV) (hr : RawOwn 0 w r m) (hm : MsgIn v j s m) (hkn : (v.Y j s).mm m.seq ≠ none ∨ m.seq ≤ (v.Y j s).rq) :
    Calls Tryz.prog 11 #[.pointer (some ⟨h.pb, 0, none⟩), .agg r.cells.toArray] w (HearRet w h v v.Y v.st h.nn) := by
  obtain ⟨x1, x2, x3, x4, x5, x6, a1, n1, c1, p, a2, n2, c2⟩ := r
  have hx1 : x1 = j := hr.nums.x1.trans hm.frm
  have hx2 : x2 = v.id := hr.nums.x2.trans hm.to_
  have hx3 : x3 = s := hr.nums.x3.trans hm.shard
  have hx4 : x4 = m.seq := hr.nums.x4
  have hx5 : x5 = m.time := hr.nums.x5
  subst hx1 hx2 hx3 hx4 hx5
  have htn : m.time ≠ -1 := by have := hm.t0; omega
  have n6 := a.n6
  have k6 := a.k6
  obtain ⟨w1, hw1⟩ : ∃ w1, w1 = w.alloc (.cells #[.int .i64 j, .int .i64 v.id, .int .i64 s, .int .i64 m.seq, .int .i64 m.time, .bool x6, .slice a1 n1 c1, .int .i64 p, .slice a2 n2 c2] 44) := ⟨_, rfl⟩
  have b1 : Below w.heap.size w w1 := by rw [hw1]; exact below_alloc _ _
  have g1 : w1.heap[w.heap.size]? = some (.cells #[.int .i64 j, .int .i64 v.id, .int .i64 s, .int .i64 m.seq, .int .i64 m.time, .bool x6, .slice a1 n1 c1, .int .i64 p, .slice a2 n2 c2] 44 (0, 0)) := by rw [hw1]; exact heap_new _ _
  have a1' := a.below b1
  have K33 := hid (fun W (hW : Below w1.heap.size w1 W) => isOther_ok W h v (a1'.below hW) j q.1 q.2.1)
  have y0 : w1.cell? ⟨w.heap.size, 0, none⟩ = some (.int .i64 j) := (cell_of g1).trans rfl
  have y1 : w1.cell? ⟨w.heap.size, 1, none⟩ = some (.int .i64 v.id) := (cell_of g1).trans rfl
  have y2 : w1.cell? ⟨w.heap.size, 2, none⟩ = some (.int .i64 s) := (cell_of g1).trans rfl
  have p0 : w1.cell? ⟨h.pb, 0, none⟩ = some (.int .i64 v.id) := (cell_of a1'.box).trans rfl
  have p1 : w1.cell? ⟨h.pb, 1, none⟩ = some (.int .i64 v.k) := (cell_of a1'.box).trans rfl
  have hs0 : (0 : Int) ≤ (s : Int) := by omega
  have hs1 : (s : Int) < (v.k : Int) := by have := q.2.2; omega
  have H := hid a
  have HR := hid hr
  have HM := hid hm
  have HG1 := hid g1
  have B1 := hid b1
  have HU := hid hkn
  unfold Raw.cells
  simp only
  clear a hr hm g1 b1 hkn a1'
  go_enter Tryz.func11, Tryz.ntmps11
  go_upto_region 1 with (fail)
  rw [← hw1]
  clear hw1
  go_region_held (fun u => u.cell? ⟨w.heap.size, 0, none⟩ = some (.int .i64 j) ∧ u.cell? ⟨w.heap.size, 2, none⟩ = some (.int .i64 s) ∧ u.cell? ⟨h.pb, 1, none⟩ = some (.int .i64 v.k)) (first | go_keep | exact ⟨t0, t2, t3⟩) ((go_at_call 33; refine (K33.out _ ?hb).mono ?_; (case hb => first | exact (Below.refl w1.heap.size w1).drew | exact Below.refl w1.heap.size w1); rintro e w2 ⟨rfl, hb2⟩; have hb2' : Below w1.heap.size w1 w2 := (by first | exact (below_draws (Below.refl w1.heap.size w1) 1).trans hb2 | exact hb2); have t0 := (hb2'.cell (lt_of_cell y0)).trans y0; have t1 := (hb2'.cell (lt_of_cell y1)).trans y1; have t2 := (hb2'.cell (lt_of_cell y2)).trans y2; have t3 := (hb2'.cell (lt_of_cell p1)).trans p1; have t4 := (hb2'.cell (lt_of_cell p0)).trans p0; have B2 := hid hb2'; clear hb2 hb2'))
  have hd0 : decide ((s : Int) < 0) = false := by simp
  have hd1 : decide (v.k ≤ s) = false := by have := q.2.2; simp; omega
  clear y0 y1 y2 p0 p1 K33
  go_upto_region 3 with (fail)
  go_region_held (fun u => u.cell? ⟨w.heap.size, 1, none⟩ = some (.int .i64 v.id) ∧ u.cell? ⟨h.pb, 0, none⟩ = some (.int .i64 v.id)) (first | go_keep) (fail)
  obtain ⟨w3, hw3⟩ : ∃ w3, w3 = w2.drew := ⟨_, rfl⟩
  have b3 : Below w.heap.size w w3 := by rw [hw3]; exact (B1.out.trans (B2.out.mono B1.out.size)).drew
  have g3 : w3.heap[w.heap.size]? = some (.cells #[.int .i64 j, .int .i64 v.id, .int .i64 s, .int .i64 m.seq, .int .i64 m.time, .bool x6, .slice a1 n1 c1, .int .i64 p, .slice a2 n2 c2] 44 (0, 0)) := by rw [hw3]; exact (B2.out.block _ (lt_of_heap HG1.out)).trans HG1.out
  have a3 := H.out.below b3
  have A3 := hid a3
  have B3 := hid b3
  have HG3 := hid g3
  obtain ⟨ls, l1, l2⟩ := a3.lines
  obtain ⟨cs, d1, d2⟩ := a3.line j q.1 q.2.1
  have hv : lineV h v j = .slice (some ⟨h.b j, 0, none⟩) v.k v.k := if_neg q.2.1
  have y0 : w3.cell? ⟨w.heap.size, 0, none⟩ = some (.int .i64 j) := (cell_of g3).trans rfl
  have y2 : w3.cell? ⟨w.heap.size, 2, none⟩ = some (.int .i64 s) := (cell_of g3).trans rfl
  have y4 : w3.cell? ⟨w.heap.size, 4, none⟩ = some (.int .i64 m.time) := (cell_of g3).trans rfl
  have p4 : w3.cell? ⟨h.pb, 4, none⟩ = some (.slice (some ⟨h.lb, 0, none⟩) v.n v.n) := (cell_of a3.box).trans rfl
  have e1 : w3.cell? ⟨h.lb, j, none⟩ = some (.slice (some ⟨h.b j, 0, none⟩) v.k v.k) := (cell_of l1).trans (by rw [l2 j q.1, hv])
  have e2 : w3.cell? ⟨h.b j, s * 2, none⟩ = some (.pointer (some ⟨(h.X j s).g, 0, none⟩)) := (cell_of d1).trans (d2 s q.2.2).1
  have e3 : w3.cell? ⟨h.b j, s * 2 + 1, none⟩ = some (.pointer (some ⟨(h.X j s).gr, 0, none⟩)) := (cell_of d1).trans (d2 s q.2.2).2
  have hj1 : (j : Int) < (v.n : Int) := by have := q.1; omega
  rw [← hw3]
  clear hw3 t0 t1 t2 t3 t4 B2 g3 a3 b3 l1 l2 d1 d2 hv hd0 hd1
  go_upto_region 5 with (fail)
  go_region_held (fun u => u.cell? ⟨h.pb, 4, none⟩ = some (.slice (some ⟨h.lb, 0, none⟩) v.n v.n) ∧ u.cell? ⟨w.heap.size, 0, none⟩ = some (.int .i64 j) ∧ u.cell? ⟨w.heap.size, 2, none⟩ = some (.int .i64 s) ∧ u.cell? ⟨h.lb, j, none⟩ = some (.slice (some ⟨h.b j, 0, none⟩) v.k v.k) ∧ u.cell? ⟨h.b j, s * 2, none⟩ = some (.pointer (some ⟨(h.X j s).g, 0, none⟩)) ∧ u.cell? ⟨h.b j, s * 2 + 1, none⟩ = some (.pointer (some ⟨(h.X j s).gr, 0, none⟩))) (first | go_keep) (fail)
  obtain ⟨w4, hw4⟩ : ∃ w4, w4 = (w3.alloc (.cells #[.pointer (some ⟨(h.X j s).g, 0, none⟩), .pointer (some ⟨(h.X j s).gr, 0, none⟩)] 80)).drew := ⟨_, rfl⟩
  obtain ⟨Lb, hLb⟩ : ∃ Lb, Lb = w3.heap.size := ⟨_, rfl⟩
  have b34 : Below w3.heap.size w3 w4 := by rw [hw4]; exact (below_alloc _ _).drew
  have b4 : Below w.heap.size w w4 := B3.out.trans (b34.mono B3.out.size)
  have gm4 : w4.heap[w.heap.size]? = some (.cells #[.int .i64 j, .int .i64 v.id, .int .i64 s, .int .i64 m.seq, .int .i64 m.time, .bool x6, .slice a1 n1 c1, .int .i64 p, .slice a2 n2 c2] 44 (0, 0)) := (b34.block _ (lt_of_heap HG3.out)).trans HG3.out
  have gl4 : w4.heap[Lb]? = some (.cells #[.pointer (some ⟨(h.X j s).g, 0, none⟩), .pointer (some ⟨(h.X j s).gr, 0, none⟩)] 80 (0, 0)) := by rw [hw4, hLb]; exact heap_new _ _
  have hLw : w.heap.size < Lb := by rw [hLb]; exact lt_of_heap HG3.out
  have a4 := H.out.below b4
  have lx := a4.each j s q
  have K35 := hid (hear_old w4 (h.X j s).gr (h.X j s).gm (h.X j s).n j v.id s (v.Y j s).rq (v.Y j s).rt (h.X j s).M ⟨j, v.id, s, m.seq, m.time, x6, a1, n1, c1, p, a2, n2, c2⟩ lx.rcv (by simp [bearsB]) HM.out.seq1 (by have := HM.out.t0; have := HM.out.t1; simp [timeB]; omega) ⟨by have := HM.out.seq1; show _ ≤ m.seq; omega, by have := HM.out.seq2; show m.seq ≤ _; omega⟩ (by
    show (((h.X j s).M m.seq).isSome || decide (m.seq ≤ (v.Y j s).rq)) = true
    rcases HU.out with e | e
    · have o := lx.maps m.seq
      cases f : (v.Y j s).mm m.seq with
      | none => exact absurd f e
      | some x =>
        rw [f] at o
        obtain ⟨r, h1, _⟩ := o.some_
        rw [h1]
        rfl
    · simp [e]))
  unfold Raw.cells at K35
  simp only at K35
  have f0 : w4.cell? ⟨w.heap.size, 0, none⟩ = some (.int .i64 j) := (cell_of gm4).trans rfl
  have f1 : w4.cell? ⟨w.heap.size, 1, none⟩ = some (.int .i64 v.id) := (cell_of gm4).trans rfl
  have f2 : w4.cell? ⟨w.heap.size, 2, none⟩ = some (.int .i64 s) := (cell_of gm4).trans rfl
  have f3 : w4.cell? ⟨w.heap.size, 3, none⟩ = some (.int .i64 m.seq) := (cell_of gm4).trans rfl
  have f4 : w4.cell? ⟨w.heap.size, 4, none⟩ = some (.int .i64 m.time) := (cell_of gm4).trans rfl
  have f5 : w4.cell? ⟨w.heap.size, 5, none⟩ = some (.bool x6) := (cell_of gm4).trans rfl
  have f6 : w4.cell? ⟨w.heap.size, 6, none⟩ = some (.slice a1 n1 c1) := (cell_of gm4).trans rfl
  have f7 : w4.cell? ⟨w.heap.size, 7, none⟩ = some (.int .i64 p) := (cell_of gm4).trans rfl
  have f8 : w4.cell? ⟨w.heap.size, 8, none⟩ = some (.slice a2 n2 c2) := (cell_of gm4).trans rfl
  have k1 : w4.cell? ⟨Lb, 1, none⟩ = some (.pointer (some ⟨(h.X j s).gr, 0, none⟩)) := (cell_of gl4).trans rfl
  rw [← hw4, ← hLb]
  have B4 := hid b4
  have GM4 := hid gm4
  have GL4 := hid gl4
  clear hw4 hLb b34 b4 gm4 gl4 hLw a4 lx y0 y2 y4 p4 e1 e2 e3 hj1 A3 B3 HG3 HG1 B1
  go_wp2_with fail
  refine K35.out.mono ?_
  rintro e w5 ⟨rfl, hb5⟩
  have bw5 : Below w.heap.size w w5 := B4.out.trans (hb5.mono B4.out.size)
  have pa := H.out.below bw5
  have gm := (hb5.block _ (lt_of_heap GM4.out)).trans GM4.out
  have gl := (hb5.block _ (lt_of_heap GL4.out)).trans GL4.out
  have d0 : w5.cell? ⟨h.pb, 0, none⟩ = some (.int .i64 v.id) := (cell_of pa.box).trans rfl
  have m0 : w5.cell? ⟨w.heap.size, 0, none⟩ = some (.int .i64 j) := (cell_of gm).trans rfl
  have m2 : w5.cell? ⟨w.heap.size, 2, none⟩ = some (.int .i64 s) := (cell_of gm).trans rfl
  have l1 : w5.cell? ⟨Lb, 1, none⟩ = some (.pointer (some ⟨(h.X j s).gr, 0, none⟩)) := (cell_of gl).trans rfl
  have K37 := rseq_raw w5.drew _ _ _ _ _ _ _ _ _ ((pa.each j s q).rcv.moved (u := w5.drew) rfl rfl)
  obtain ⟨sq, hsq⟩ : ∃ sq, sq = (v.Y j s).rq := ⟨_, rfl⟩
  rw [← hsq] at K37
  have K37' := hid K37
  have E : Hid (∀ W', Below w5.heap.size w5 W' → PlAt W' h v ∧ PlMoves w W' h v h v) := (show ∀ W', _ from fun W' hb => ⟨pa.below hb, (PlMoves.refl.below bw5).below hb⟩)
  clear K37 hsq gm gl pa bw5 hb5 f0 f1 f2 f3 f4 f5 f6 f7 f8 k1 K35
  go_wp2
  refine wp_loop_rounds 1 ?_
  rw [rounds_succ]
  go_upto_region 16 with (fail)
  go_region_held (fun u => u.cell? ⟨h.pb, 0, none⟩ = some (.int .i64 v.id) ∧ u.cell? ⟨w.heap.size, 0, none⟩ = some (.int .i64 j) ∧ u.cell? ⟨w.heap.size, 2, none⟩ = some (.int .i64 s) ∧ u.cell? ⟨Lb, 1, none⟩ = some (.pointer (some ⟨(h.X j s).gr, 0, none⟩))) (first | go_keep) ((go_at_call 37; refine K37'.out.mono ?_; rintro e w' ⟨rfl, hw'⟩; rw [hw']; clear hw'))
  go_wp2
  go_ret2
  refine ⟨⟨h, _, _, rfl, (E.out _ ?_).1, (E.out _ ?_).2, rfl, Nat.le_refl _, fun _ _ => Nat.le_succ _⟩⟩ <;> first | exact (below_alloc _ _).drew | exact ((Below.refl w5.heap.size w5).drew).alloc (Nat.le_refl _) _
end Go.Proofs.YtefpnojanldkeaaGreatDoor
