/- The law's copies of events: eventsOf. -/
import Derived.Test.YtngjooemanapnaaGreatDoorJJS1
import Derived.Test.YtngjooemanapnaaGreatDoorJJL
import Derived.Deep.DeepCutAuto
import Derived.Deep.CutBlock
import Derived.Deep.RegionHeld3
import Derived.Deep.RegionHeldLaw
import Derived.Deep.RegionLaw
namespace Go.Proofs.YtngjooemanapnaaGreatDoor
open Go.RowKit Go.Sort Go.Maps
set_option maxRecDepth 100000
set_option linter.unusedSectionVars false
variable [Inhabited ComV] [DecidableEq D3] [Inhabited D3] [Inhabited Dd] [Inhabited Dn] [Inhabited OpV]

theorem info69 : (Tryz.prog.info? 69).map (fun i => (i.zero, i.size, i.bytes)) = some (some (.agg #[.int .i64 0, .int .i64 0, .slice none 0 0, .slice none 0 0, .slice none 0 0, .int .i64 0, .slice none 0 0]), 7, 120) := by kernel_rfl
theorem info70 : (Tryz.prog.info? 70).map (fun i => (i.zero, i.size, i.bytes)) = some (some (.agg #[.string ByteArray.empty, .int .i64 0, .string ByteArray.empty, .int .i64 0, .slice none 0 0]), 5, 72) := by kernel_rfl
theorem info9 : (Tryz.prog.info? 9).map (fun i => (i.zero, i.size, i.bytes)) = some (some (.string ByteArray.empty), 1, 16) := by kernel_rfl
theorem x44 {w1 : World} {b : Nat} {a0 a1 a2 a3 a4 a5 a6 : Value} (h : w1.heap[b]? = some (.cells #[a0, a1, a2, a3, a4, a5, a6] 44 (0, 0))) : ∀ u, Below w1.heap.size w1 u → u.cell? ⟨b, 0, none⟩ = some a0 ∧ u.cell? ⟨b, 1, none⟩ = some a1 ∧ u.cell? ⟨b, 2, none⟩ = some a2 ∧ u.cell? ⟨b, 3, none⟩ = some a3 ∧ u.cell? ⟨b, 4, none⟩ = some a4 ∧ u.cell? ⟨b, 5, none⟩ = some a5 ∧ u.cell? ⟨b, 6, none⟩ = some a6 := fun u hu => by
  have := (hu.block b (lt_of_heap h)).trans h
  exact ⟨(cell_of this).trans rfl, (cell_of this).trans rfl, (cell_of this).trans rfl, (cell_of this).trans rfl, (cell_of this).trans rfl, (cell_of this).trans rfl, (cell_of this).trans rfl⟩
abbrev Z69 : Array Value := #[.int .i64 0, .int .i64 0, .slice none 0 0, .slice none 0 0, .slice none 0 0, .int .i64 0, .slice none 0 0]
theorem st7 {w' : World} {b : Nat} (h : w'.heap[b]? = some (.cells Z69 69 (0, 0))) (v0 v1 v2 v3 v4 v5 : Value) : (w'.cell? ⟨b, 0, none⟩ = some (.int .i64 0) ∧ w'.frozen? ⟨b, 0, none⟩ = false) ∧ ((w'.setCell ⟨b, 0, none⟩ v0).cell? ⟨b, 1, none⟩ = some (.int .i64 0) ∧ (w'.setCell ⟨b, 0, none⟩ v0).frozen? ⟨b, 1, none⟩ = false) ∧ (((w'.setCell ⟨b, 0, none⟩ v0).setCell ⟨b, 1, none⟩ v1).cell? ⟨b, 2, none⟩ = some (.slice none 0 0) ∧ ((w'.setCell ⟨b, 0, none⟩ v0).setCell ⟨b, 1, none⟩ v1).frozen? ⟨b, 2, none⟩ = false) ∧ ((((w'.setCell ⟨b, 0, none⟩ v0).setCell ⟨b, 1, none⟩ v1).setCell ⟨b, 2, none⟩ v2).cell? ⟨b, 3, none⟩ = some (.slice none 0 0) ∧ (((w'.setCell ⟨b, 0, none⟩ v0).setCell ⟨b, 1, none⟩ v1).setCell ⟨b, 2, none⟩ v2).frozen? ⟨b, 3, none⟩ = false) ∧ (((((w'.setCell ⟨b, 0, none⟩ v0).setCell ⟨b, 1, none⟩ v1).setCell ⟨b, 2, none⟩ v2).setCell ⟨b, 3, none⟩ v3).cell? ⟨b, 4, none⟩ = some (.slice none 0 0) ∧ ((((w'.setCell ⟨b, 0, none⟩ v0).setCell ⟨b, 1, none⟩ v1).setCell ⟨b, 2, none⟩ v2).setCell ⟨b, 3, none⟩ v3).frozen? ⟨b, 4, none⟩ = false) ∧ ((((((w'.setCell ⟨b, 0, none⟩ v0).setCell ⟨b, 1, none⟩ v1).setCell ⟨b, 2, none⟩ v2).setCell ⟨b, 3, none⟩ v3).setCell ⟨b, 4, none⟩ v4).cell? ⟨b, 5, none⟩ = some (.int .i64 0) ∧ (((((w'.setCell ⟨b, 0, none⟩ v0).setCell ⟨b, 1, none⟩ v1).setCell ⟨b, 2, none⟩ v2).setCell ⟨b, 3, none⟩ v3).setCell ⟨b, 4, none⟩ v4).frozen? ⟨b, 5, none⟩ = false) ∧ (((((((w'.setCell ⟨b, 0, none⟩ v0).setCell ⟨b, 1, none⟩ v1).setCell ⟨b, 2, none⟩ v2).setCell ⟨b, 3, none⟩ v3).setCell ⟨b, 4, none⟩ v4).setCell ⟨b, 5, none⟩ v5).cell? ⟨b, 6, none⟩ = some (.slice none 0 0) ∧ ((((((w'.setCell ⟨b, 0, none⟩ v0).setCell ⟨b, 1, none⟩ v1).setCell ⟨b, 2, none⟩ v2).setCell ⟨b, 3, none⟩ v3).setCell ⟨b, 4, none⟩ v4).setCell ⟨b, 5, none⟩ v5).frozen? ⟨b, 6, none⟩ = false) := by
  have h1 := heap_set (j := 0) h v0
  have h2 := heap_set (j := 1) h1 v1
  have h3 := heap_set (j := 2) h2 v2
  have h4 := heap_set (j := 3) h3 v3
  have h5 := heap_set (j := 4) h4 v4
  have h6 := heap_set (j := 5) h5 v5
  exact ⟨⟨(cell_of h).trans (by simp), free_of h⟩, ⟨(cell_of h1).trans (by simp), free_of h1⟩, ⟨(cell_of h2).trans (by simp), free_of h2⟩, ⟨(cell_of h3).trans (by simp), free_of h3⟩, ⟨(cell_of h4).trans (by simp), free_of h4⟩, ⟨(cell_of h5).trans (by simp), free_of h5⟩, ⟨(cell_of h6).trans (by simp), free_of h6⟩⟩
theorem EcI.start {wo w1 w2 : World} {xc : Array Value} {e : EvV} {wv ov : Value} {E : Nat} (hb1 : Below wo.heap.size wo w1) (hx : w1.heap[wo.heap.size]? = some (.cells xc 44 (0, 0))) (hb : Below w1.heap.size w1 w2) (hE : wo.heap.size ≤ E) (ho : w2.heap[E]? = some (.cells #[.int .i64 e.ses, .int .i64 e.place, .slice none 0 0, .slice none 0 0, wv, .int .i64 e.c.place, ov] 69 (0, 0))) (hc : ComT w2 [wv, .int .i64 e.c.place, ov] e.c) : EcI wo xc wo.heap.size E e (.slice none 0 0) wv ov (.slice none 0 0) [] 0 [] w2 :=
  { below := hb1.trans (hb.mono hb1.size)
    xlo := Nat.le_refl _
    elo := hE
    box := (hb.block _ (lt_of_heap hx)).trans hx
    out := ho
    at_ := ⟨none, 0, rfl, fun _ => rfl, Nat.le_refl _, .inl rfl⟩
    com := hc
    row := World.ownsRow_nil _ _ _ _
    sns := trivial }
theorem ec_cells {wo wr : World} {xc : Array Value} {xb E : Nat} {e : EvV} {av wv ov rv : Value} {zs : List Int} {k : Nat} {rows : List (List Value)} (h : EcI wo xc xb E e av wv ov rv zs k rows wr) : ∀ u, Below wr.heap.size wr u → (u.cell? ⟨E, 2, none⟩ = some av ∧ u.frozen? ⟨E, 2, none⟩ = false) ∧ u.cell? ⟨E, 3, none⟩ = some rv ∧ u.frozen? ⟨E, 3, none⟩ = false := fun u hu => by
  have := (hu.block _ (lt_of_heap h.out)).trans h.out
  exact ⟨⟨(cell_of this).trans rfl, free_of this⟩, (cell_of this).trans rfl, free_of this⟩
theorem grown_none {w w' : World} (h : w.grownBy w' none) : Below w.heap.size w w' := ⟨h.os, h.tape, h.output, h.size, fun i hi => h.block i hi (by simp)⟩
/-- append to a row of one's own, as one step of a region that draws. -/
theorem step_append_at {ops : Array Oper} {o : Oper} {a : Act} {w : World} {K : Act → World → Prop} {Q : Exit → Act → World → Prop} {E : Prop} (hgd : o.guard = none) (s x : Operand) (t : TypeId)
    (ho : o.op = .call { callee := .builtin .append, args := #[s, x], argTypes := #[t, t] })
    (base : Nat) (e : TypeId) (i : TypeInfo) (z : Value) (size bytes : Nat) (ht : Tryz.prog.underlying t = some (.slice e)) (hi : Tryz.prog.info? e = some i) (hz : i.zero = some z)
    (hsize : i.size = size) (hby : i.bytes = bytes) (hzs : z.cells.size = size) (hsz : 0 < size)
    (v : Value) (n : Nat) (xs : List Value) (hs : a.eval s = v) (hown : w.ownsRow base e size v n xs)
    (ad : Addr) (m c : Nat) (news : List Value) (hx : a.eval x = .slice (some ad) m c) (hl : news.length = m * size) (hnews : ∀ j u, news[j]? = some u → w.cell? (ad.add j) = some u) (h1 : ∀ u ∈ news, u.oneCell' = true)
    (h63 : n + m ≤ maxLen) (hbytes : (n + m) * bytes ≤ 140737488355328) (hbase : base ≤ w.heap.size)
    (h : ∀ v' w', w'.ownsRow base e size v' (n + m) (xs ++ news) → w.grownBy w' v.ownBlock → (v'.ownBlock = v.ownBlock ∨ v'.ownBlock = some w.heap.size) → K (a.put o.dst v') w') :
    if Region.wanted o (yielded ops a.tmps) = true then Oper.wp Tryz.prog o a w K Q else E := by
  have hw : Region.wanted o (yielded ops a.tmps) = true := by simp [Region.wanted, hgd]
  rw [if_pos hw]
  obtain ⟨v', w', hr, h2, h3, _, h5⟩ := run_append_own_at (P := Tryz.prog) w base t o.type e i z size bytes ht hi hz hsize hby hzs hsz v n xs hown ad m c news hl hnews h1 h63 hbytes hbase
  unfold Oper.wp execOp
  simp only [ho, resolve, invoke, builtin, Sem.run_bind, Sem.run_pure, Result.andThen_ok, List.map_toArray, List.map_cons, List.map_nil, hs, hx, hr]
  exact h v' w' h2 h3 h5
theorem cells3_new (w : World) (t : TypeId) (cs : List Value) : ∀ j u, cs[j]? = some u → (w.alloc (.cells cs.toArray t)).cell? ((⟨w.heap.size, 0, none⟩ : Addr).add j) = some u := fun j u hj => by
  rw [Addr.add_lit, Nat.zero_add, World.cell?_alloc_at _ _ _ _ rfl]
  simpa using hj
theorem seen_box {wr wq w5 : World} {x0 x1 x2 x3 v5 : Value} (hq : wq = wr.alloc (.cells #[x0, x1, x2, x3] 55)) (hg : wq.grownBy w5 none) : Below wr.heap.size wr (w5.setCell ⟨wr.heap.size, 3, none⟩ v5) ∧ (w5.setCell ⟨wr.heap.size, 3, none⟩ v5).heap[wr.heap.size]? = some (.cells #[x0, x1, x2, v5] 55 (0, 0)) ∧ KeepT 9 w5 (w5.setCell ⟨wr.heap.size, 3, none⟩ v5) := by
  have hb : Below wr.heap.size wr w5 := by
    have h1 : Below wr.heap.size wr wq := by rw [hq]; exact below_alloc _ _
    exact h1.trans ((grown_none hg).mono h1.size)
  have hx : w5.heap[wr.heap.size]? = some (.cells #[x0, x1, x2, x3] 55 (0, 0)) := by
    have h1 : wq.heap[wr.heap.size]? = some (.cells #[x0, x1, x2, x3] 55 (0, 0)) := by rw [hq]; exact heap_new _ _
    exact ((grown_none hg).block _ (lt_of_heap h1)).trans h1
  exact ⟨hb.setCell (p := ⟨wr.heap.size, 3, none⟩) (Nat.le_refl _) _, (heap_set hx _).trans rfl, keepT_set hx 9 (by decide) fun i hi => Below.heap_setCell _ _ _ _ hi⟩
theorem seen_cell {wr wq w5 : World} {x0 x1 x2 x3 : Value} (hq : wq = wr.alloc (.cells #[x0, x1, x2, x3] 55)) (hg : Below wq.heap.size wq w5) : w5.cell? ⟨wr.heap.size, 3, none⟩ = some x3 ∧ w5.frozen? ⟨wr.heap.size, 3, none⟩ = false := by
  have h1 : wq.heap[wr.heap.size]? = some (.cells #[x0, x1, x2, x3] 55 (0, 0)) := by rw [hq]; exact heap_new _ _
  have := (hg.block _ (lt_of_heap h1)).trans h1
  exact ⟨(cell_of this).trans rfl, free_of this⟩
/-- What region 14 reads stands. -/
structure P14 (xb C sb so : Nat) (xc yc : Array Value) (key : Value) (u : World) : Prop where
  x : u.heap[xb]? = some (.cells xc 44 (0, 0))
  c : u.heap[C]? = some (.cells yc 55 (0, 0))
  k : u.cell? ⟨sb, so, none⟩ = some key
def EoRet (l : List EvV) (w : World) (r : Ending) (w' : World) : Prop := ∃ v, r = .returned v ∧ EvsAt w' v l ∧ Below w.heap.size w w'
set_option maxHeartbeats 8000000 in
theorem eventsOf_any (w : World) (l : List EvV) (v : Value) (hv : EvsAtN w v l) (hl : l.length ≤ 20) (hf : ∀ e ∈ l, EvLight e) : Calls Tryz.prog 8 #[v] w (EoRet l w) := by
  obtain ⟨i3, hi3, ha0, ha1, ha2⟩ := info_parts info3
  obtain ⟨i9, hi9, hb0, hb1, hb2⟩ := info_parts info9
  obtain ⟨i69, hi69, hc0, hc1, hc2⟩ := info_parts info69
  obtain ⟨i70, hi70, hd0, hd1, hd2⟩ := info_parts info70
  obtain ⟨ad, cap, rfl, _, _, hv'⟩ := hv.shape
  obtain ⟨n, hn⟩ : ∃ n, n = l.length := ⟨_, rfl⟩
  rw [← hn] at hl hv' ⊢
  have HN := ShutJ.mk hn
  have HF := hid hf
  have HV := hid hv'
  clear hv hv' hf hn
  go_enter Tryz.func8, Tryz.ntmps8
  go_wp2
  go_loopw [3, 4] (fun x y wr => ∃ (i : Nat) (xv : Value) (rows : List (List Value)), i ≤ n ∧ y = .int .i64 i ∧ x = xv ∧ Hid (EsI w (l.take i) xv rows wr)) (fun _ y _ => n - (intOf y).toNat)
  case atStart => exact ⟨0, _, [], Nat.zero_le _, rfl, rfl, hid ⟨Below.refl _ _, World.ownsRow_nil _ _ _ _, trivial⟩⟩
  case round =>
    obtain ⟨i, xv, rows, hi, rfl, hxx, HI⟩ := hrel
    obtain rfl := hxx.symm
    have hsz := HI.out.below.size
    by_cases hlt : i < n
    · have hi1 : (i : Int) < (n : Int) := by omega
      obtain ⟨b, off, rfl, hck⟩ := HV.out.resolve_left (fun h => by have := HN.out; rw [h] at this; simp at this; omega)
      obtain ⟨kv, kr, kw, ko, hke, hkr, hkc⟩ := hck i hlt
      have hfe := HF.out (l.getD i ev0) (getD_mem (by have := HN.out; omega))
      have htk : l.take (i + 1) = l.take i ++ [l.getD i ev0] := by
        have hil : i < l.length := by have := HN.out; omega
        rw [List.take_succ_eq_append_getElem hil, List.getD_eq_getElem?_getD, List.getElem?_eq_getElem hil]
        rfl
      obtain ⟨e, he⟩ : ∃ e, e = l.getD i ev0 := ⟨_, rfl⟩
      rw [← he] at hke hkr hkc hfe htk
      have hwr := HI.out.below
      have hcc : ∀ j u, (evCells e kv kr kw ko)[j]? = some u → wr.cell? ⟨b, off + i * 7 + j, none⟩ = some u := fun j u hj => by
        have := hkc j u hj
        rw [hwr.cell (p := ⟨b, off + i * 7 + j, none⟩) (lt_of_cell this)]
        exact this
      obtain ⟨aa, ac, wa, wcp, oa, oc, rfl, rfl, rfl⟩ := evAt_shape hke
      obtain ⟨ra, rc, rfl⟩ : ∃ a c, kr = .slice a e.reads.length c := by
        obtain ⟨rw', ⟨a, c, h1, _⟩, h2⟩ := hkr
        exact ⟨a, c, by rw [h1, f2_len h2]⟩
      have c0 : wr.cell? ⟨b, off + i * 7, none⟩ = some (.int .i64 e.ses) := hcc 0 _ rfl
      have c1 : wr.cell? ⟨b, off + i * 7 + 1, none⟩ = some (.int .i64 e.place) := hcc 1 _ rfl
      have c2 : wr.cell? ⟨b, off + i * 7 + 2, none⟩ = some (.slice aa e.at_.length ac) := hcc 2 _ rfl
      have c3 : wr.cell? ⟨b, off + i * 7 + 3, none⟩ = some (.slice ra e.reads.length rc) := hcc 3 _ rfl
      have c4 : wr.cell? ⟨b, off + i * 7 + 4, none⟩ = some (.slice wa e.c.when_.length wcp) := hcc 4 _ rfl
      have c5 : wr.cell? ⟨b, off + i * 7 + 5, none⟩ = some (.int .i64 e.c.place) := hcc 5 _ rfl
      have c6 : wr.cell? ⟨b, off + i * 7 + 6, none⟩ = some (.slice oa e.c.ops.length oc) := hcc 6 _ rfl
      have hlen : rows.length = i := by
        have := f2_len HI.out.evs
        rw [List.length_take] at this
        have := HN.out
        omega
      have HTK := ShutJ.mk htk
      have HFE := hid hfe
      have HKE := hid hke
      have HKR := hid hkr
      obtain ⟨xa, xc, rfl⟩ := row_shape HI.out.row
      obtain ⟨nl, hnl⟩ : ∃ nl, nl = (l.take i).length := ⟨_, rfl⟩
      have HNL := ShutJ.mk hnl
      rw [← hnl]
      obtain ⟨wo, hwo⟩ : ∃ wo : World, wo = wr := ⟨wr, rfl⟩
      subst hwo
      clear hck hkc hcc hke hkr hfe htk he hnl
      go_upto_region 6 with (fail)
      obtain ⟨x44c, hx44c⟩ : ∃ x44c : Array Value, x44c = #[.int .i64 e.ses, .int .i64 e.place, .slice aa e.at_.length ac, .slice ra e.reads.length rc, .slice wa e.c.when_.length wcp, .int .i64 e.c.place, .slice oa e.c.ops.length oc] := ⟨_, rfl⟩
      obtain ⟨w1, hw1⟩ : ∃ w1, w1 = wo.alloc (.cells #[.int .i64 e.ses, .int .i64 e.place, .slice aa e.at_.length ac, .slice ra e.reads.length rc, .slice wa e.c.when_.length wcp, .int .i64 e.c.place, .slice oa e.c.ops.length oc] 44) := ⟨_, rfl⟩
      rw [← hw1]
      have hb1 : Below wo.heap.size wo w1 := by rw [hw1]; exact below_alloc _ _
      have hx1 : w1.heap[wo.heap.size]? = some (.cells #[.int .i64 e.ses, .int .i64 e.place, .slice aa e.at_.length ac, .slice ra e.reads.length rc, .slice wa e.c.when_.length wcp, .int .i64 e.c.place, .slice oa e.c.ops.length oc] 44 (0, 0)) := by rw [hw1]; exact heap_new _ _
      have K25 : Hid (∀ u, Below w1.heap.size w1 u → Hid (Calls Tryz.prog 25 #[.agg #[.slice wa e.c.when_.length wcp, .int .i64 e.c.place, .slice oa e.c.ops.length oc]] u (OwnRet e.c u))) := hid fun u hu => by
        have hu' : Below w.heap.size w u := (hwr.trans (hb1.mono hsz)).trans (hu.mono (by have := hb1.size; omega))
        exact hid (ownCommit u e.c _ _ (HKE.out.when_.mono hu' (Nat.le_refl _)) (HKE.out.ops.mono hu' (Nat.le_refl _)) HFE.out.when_ HFE.out.ops HFE.out.dots)
      have HX := hid (x44 hx1)
      have HX1 := hid hx1
      have HB1 := hid hb1
      clear hw1 hx1 hb1 c0 c1 c2 c3 c4 c5 c6 hwr
      go_cut [6] (fun s wx => ∃ (E : Nat) (wv ov : Value), s = .pointer (some ⟨E, 0, none⟩) ∧ Hid (EcI wo #[.int .i64 e.ses, .int .i64 e.place, .slice aa e.at_.length ac, .slice ra e.reads.length rc, .slice wa e.c.when_.length wcp, .int .i64 e.c.place, .slice oa e.c.ops.length oc] wo.heap.size E e (.slice none 0 0) wv ov (.slice none 0 0) [] 0 [] wx))
      case first =>
        have hd0 : Below w1.heap.size w1 w1 := Below.refl _ _
        have hd1 : Below w1.heap.size w1 w1.drew := hd0.drew
        have HELD : Hid (∀ u, Below w1.heap.size w1 u → u.cell? ⟨wo.heap.size, 0, none⟩ = some (.int .i64 e.ses) ∧ u.cell? ⟨wo.heap.size, 1, none⟩ = some (.int .i64 e.place) ∧ u.cell? ⟨wo.heap.size, 4, none⟩ = some (.slice wa e.c.when_.length wcp) ∧ u.cell? ⟨wo.heap.size, 5, none⟩ = some (.int .i64 e.c.place) ∧ u.cell? ⟨wo.heap.size, 6, none⟩ = some (.slice oa e.c.ops.length oc)) := hid fun u hu => by
          obtain ⟨h0, h1, _, _, h4, h5, h6⟩ := HX.out u hu
          exact ⟨h0, h1, h4, h5, h6⟩
        have hA : ∀ w', Below w1.drew.heap.size w1.drew w' → Below w1.heap.size w1 w' := fun w' h => hd1.trans h
        have hd2 : Below w1.heap.size w1 (w1.alloc (.cells #[.int .i64 0, .int .i64 0, .slice none 0 0, .slice none 0 0, .slice none 0 0, .int .i64 0, .slice none 0 0] 69)).drew := (Below.alloc hd0 (Nat.le_refl _) _).drew
        have hB : ∀ w', Below (w1.alloc (.cells #[.int .i64 0, .int .i64 0, .slice none 0 0, .slice none 0 0, .slice none 0 0, .int .i64 0, .slice none 0 0] 69)).drew.heap.size (w1.alloc (.cells #[.int .i64 0, .int .i64 0, .slice none 0 0, .slice none 0 0, .slice none 0 0, .int .i64 0, .slice none 0 0] 69)).drew w' → Below w1.heap.size w1 w' ∧ w'.heap[w1.heap.size]? = some (.cells #[.int .i64 0, .int .i64 0, .slice none 0 0, .slice none 0 0, .slice none 0 0, .int .i64 0, .slice none 0 0] 69 (0, 0)) := fun w' h => ⟨hd2.trans (h.mono (by rw [drew_heap]; simp)), (h.block _ (lt_of_heap (w := (w1.alloc (.cells #[.int .i64 0, .int .i64 0, .slice none 0 0, .slice none 0 0, .slice none 0 0, .int .i64 0, .slice none 0 0] 69)).drew) (heap_new w1 _))).trans (heap_new w1 _)⟩
        have hC7 : ∀ w', Below w1.heap.size w1 w' → ∀ v0 v1 v2 v3 v4 v5 v6 : Value, Below w1.heap.size w1 (((((((w'.setCell ⟨w1.heap.size, 0, none⟩ v0).setCell ⟨w1.heap.size, 1, none⟩ v1).setCell ⟨w1.heap.size, 2, none⟩ v2).setCell ⟨w1.heap.size, 3, none⟩ v3).setCell ⟨w1.heap.size, 4, none⟩ v4).setCell ⟨w1.heap.size, 5, none⟩ v5).setCell ⟨w1.heap.size, 6, none⟩ v6) := fun w' h v0 v1 v2 v3 v4 v5 v6 => below_setCells (Nat.le_refl _) [v0, v1, v2, v3, v4, v5, v6] 0 h
        go_region_held3 (fun u => u.cell? ⟨wo.heap.size, 0, none⟩ = some (.int .i64 e.ses) ∧ u.cell? ⟨wo.heap.size, 1, none⟩ = some (.int .i64 e.place) ∧ u.cell? ⟨wo.heap.size, 4, none⟩ = some (.slice wa e.c.when_.length wcp) ∧ u.cell? ⟨wo.heap.size, 5, none⟩ = some (.int .i64 e.c.place) ∧ u.cell? ⟨wo.heap.size, 6, none⟩ = some (.slice oa e.c.ops.length oc)) ((refine HELD.out _ ?_; first | (with_reducible assumption) | (with_reducible exact Below.alloc hd1 (Nat.le_refl _) _) | (with_reducible exact Below.alloc hbw hbw.size _) | (with_reducible exact hC7 _ hbw _ _ _ _ _ _ _))) (first | (go_at_call 25; refine (K25.out _ ?hb4).out.mono ?_; (case hb4 => (first | (with_reducible assumption) | (with_reducible exact hd2))); rintro r w' ⟨wv', ov', rfl, hC, hb⟩; obtain ⟨⟨a1, cc1, rfl⟩, a2, cc2, rfl⟩ := hC.shape; have hC' := hid hC; clear hC; (first | (with_reducible have hbw := hA w' hb) | (with_reducible obtain ⟨hbw, hz⟩ := hB w' hb; obtain ⟨⟨z0, f0⟩, ⟨z1, f1⟩, ⟨z2, f2⟩, ⟨z3, f3⟩, ⟨z4, f4⟩, ⟨z5, f5⟩, ⟨z6, f6⟩⟩ := st7 hz (.int .i64 e.ses) (.int .i64 e.place) (.slice none 0 0) (.slice none 0 0) (.slice a1 e.c.when_.length cc1) (.int .i64 e.c.place)))))
        · have HQ := hid (EcI.start HB1.out HX1.out (hbw.alloc hbw.size _) (Nat.le_trans HB1.out.size hbw.size) (heap_new _ _) (hC'.out.kept (Keep3.of_below (below_alloc _ _) (Nat.le_refl _))))
          go_wp2_with fail
          go_meet
          exact ⟨_, _, _, rfl, HQ⟩
        · have HQ := hid (EcI.start (w2 := w'.setCells w1.heap.size 0 [.int .i64 e.ses, .int .i64 e.place, .slice none 0 0, .slice none 0 0, .slice a1 e.c.when_.length cc1, .int .i64 e.c.place, .slice a2 e.c.ops.length cc2]) HB1.out HX1.out (below_setCells (Nat.le_refl _) _ _ hbw) HB1.out.size (set7 hz rfl _ _ _ _ _ _ _) (hC'.out.kept (keep3_setCells hz (by decide) (by decide) (by decide) _ _)))
          go_wp2_with fail
          go_meet
          exact ⟨_, _, _, rfl, HQ⟩
      case rest =>
        obtain ⟨E, wv, ov, rfl, HE⟩ := hcut
        obtain ⟨⟨q2, q2f⟩, _, _⟩ := ec_cells HE.out wc (Below.refl _ _)
        obtain ⟨_, _, x2, _⟩ := x44 HE.out.box wc (Below.refl _ _)
        have hwc : Below w.heap.size w wc := HI.out.below.trans (HE.out.below.mono hsz)
        have HSA : Hid (SrcAt wc (.slice aa e.at_.length ac) e.at_.length 1 (e.at_.map (Value.int .i64))) := hid (src_ints (HKE.out.at_.mono hwc (Nat.le_refl _)))
        have hal := HFE.out.at_
        have hos := HE.out.below.size
        have HWC := hid hwc
        clear K25 HX HX1 HB1 hwc
        go_upto_region 8 with (at_builtin; refine wpList_append_src rfl _ _ 38 rfl wo.heap.size 3 i3 _ 1 8 Tryz.underlying38 hi3 ha0 ha1 ha2 rfl (by decide) rfl _ e.at_.length (e.at_.map (Value.int .i64)) rfl HSA.out (ints_one _) ?hm2 ?hm3 ?hm4 ?_; (case hm2 => unfold maxLen; omega); (case hm3 => omega); (case hm4 => exact hos); intro v3 w3 hown3 hgrow3; obtain ⟨⟨g2, g2f⟩, _, _⟩ := ec_cells HE.out w3 (grown_none hgrow3); obtain ⟨a3, c3, rfl⟩ := row_shape hown3)
        have HV3 := hid (HE.out.vec hgrow3 hown3)
        clear HE HSA hown3 hgrow3 g2 g2f q2 q2f x2
        obtain ⟨w4, hw4⟩ : ∃ w4, w4 = w3.setCell ⟨E, 2, none⟩ (.slice a3 e.at_.length c3) := ⟨_, rfl⟩
        rw [← hw4] at HV3 ⊢
        clear hw4
        obtain ⟨m, hm⟩ : ∃ m, m = e.reads.length := ⟨_, rfl⟩
        have HM := ShutJ.mk hm
        have hm20 : m ≤ 20 := by have := HFE.out.reads; omega
        clear hm
        have hv4 : w.heap.size ≤ wo.heap.size := hsz
        go_wp2
        go_loopw [7] (fun x wr => ∃ (k : Nat) (rv : Value) (rws : List (List Value)), k ≤ m ∧ x = .int .i64 k ∧ Hid (EcI wo #[.int .i64 e.ses, .int .i64 e.place, .slice aa e.at_.length ac, .slice ra e.reads.length rc, .slice wa e.c.when_.length wcp, .int .i64 e.c.place, .slice oa e.c.ops.length oc] wo.heap.size E e (.slice a3 e.at_.length c3) wv ov rv e.at_ k rws wr)) (fun x _ => m - (intOf x).toNat)
        case atStart => exact ⟨0, _, _, Nat.zero_le _, rfl, HV3⟩
        case round =>
          obtain ⟨k, rv, rws, hk, rfl, HE⟩ := hrel
          obtain ⟨_, _, _, x3, _⟩ := x44 HE.out.box wr (Below.refl _ _)
          rw [← HM.out] at x3
          by_cases hlk : k < m
          · have hkk : (k : Int) < (m : Int) := by omega
            have hkr' : k < e.reads.length := by have := HM.out; omega
            have hkk2 : (k : Int) < (e.reads.length : Int) := by omega
            obtain ⟨sb, soff, sc, sv, hsl, hsx, ⟨sa, sac, rfl⟩, hsc⟩ := HKR.out.get hkr'
            injection hsl with h1 _ h3
            subst h1 h3
            have hbw : Below w.heap.size w wr := HI.out.below.trans (HE.out.below.mono hsz)
            obtain ⟨s, hs⟩ : ∃ s, s = e.reads[k] := ⟨_, rfl⟩
            rw [← hs] at hsx hsc
            have hset : s.v.set.length ≤ 20 := HFE.out.sets s (by rw [hs]; exact List.getElem_mem _)
            have hcc : ∀ j u, [.string s.key, .int .i64 s.v.kind, .string s.v.text, .int .i64 s.v.n, .slice sa s.v.set.length sac][j]? = some u → wr.cell? ⟨sb, soff + k * 5 + j, none⟩ = some u := fun j u hj => by
              have := hsc j u hj
              rw [hbw.cell (p := ⟨sb, soff + k * 5 + j, none⟩) (lt_of_cell this)]
              exact this
            have d0 : wr.cell? ⟨sb, soff + k * 5, none⟩ = some (.string s.key) := hcc 0 _ rfl
            have d1 : wr.cell? ⟨sb, soff + k * 5 + 1, none⟩ = some (.int .i64 s.v.kind) := hcc 1 _ rfl
            have d2 : wr.cell? ⟨sb, soff + k * 5 + 2, none⟩ = some (.string s.v.text) := hcc 2 _ rfl
            have d3 : wr.cell? ⟨sb, soff + k * 5 + 3, none⟩ = some (.int .i64 s.v.n) := hcc 3 _ rfl
            have d4 : wr.cell? ⟨sb, soff + k * 5 + 4, none⟩ = some (.slice sa s.v.set.length sac) := hcc 4 _ rfl
            have HS := ShutJ.mk hs
            have HSX := hid hsx
            have HBW := hid hbw
            have HSC := hid hsc
            clear hs hsx hsc hcc hbw
            go_upto_region 12 with (fail)
            obtain ⟨wq, hwq⟩ : ∃ wq, wq = wr.alloc (.cells #[.int .i64 s.v.kind, .string s.v.text, .int .i64 s.v.n, .slice sa s.v.set.length sac] 55) := ⟨_, rfl⟩
            rw [← hwq]
            have hbq : Below wr.heap.size wr wq := by rw [hwq]; exact below_alloc _ _
            obtain ⟨y3, y3f⟩ := seen_cell hwq (Below.refl _ _)
            have HSQ : Hid (SrcAt wq (.slice sa s.v.set.length sac) s.v.set.length 1 (s.v.set.map encStr)) := hid (HSX.out.moved fun a u h => by rw [(HBW.out.trans (hbq.mono HBW.out.size)).cell (lt_of_cell h)]; exact h)
            have hoq : wo.heap.size ≤ wq.heap.size := Nat.le_trans HE.out.below.size hbq.size
            have HWQ := ShutJ.mk hwq
            clear hwq d1 d2 d3 d4
            go_upto_region 14 with (at_builtin; refine wpList_append_src rfl _ _ 53 rfl wo.heap.size 9 i9 _ 1 16 Tryz.underlying53 hi9 hb0 hb1 hb2 rfl (by decide) rfl _ s.v.set.length (s.v.set.map encStr) rfl HSQ.out (strs_one _) ?hm2 ?hm3 ?hm4 ?_; (case hm2 => unfold maxLen; omega); (case hm3 => omega); (case hm4 => exact hoq); intro v5 w5 hown5 hgrow5; obtain ⟨y5, y5f⟩ := seen_cell HWQ.out (grown_none hgrow5); obtain ⟨a5, c5, rfl⟩ := row_shape hown5)
            obtain ⟨hb6, hx6, hk6⟩ := seen_box (v5 := .slice a5 s.v.set.length c5) HWQ.out hgrow5
            obtain ⟨w6, hw6⟩ : ∃ w6, w6 = w5.setCell ⟨wr.heap.size, 3, none⟩ (.slice a5 s.v.set.length c5) := ⟨_, rfl⟩
            rw [← hw6] at hb6 hx6 hk6 ⊢
            clear hw6
            have HS6 : Hid (SnT w6 [.string s.key, .int .i64 s.v.kind, .string s.v.text, .int .i64 s.v.n, .slice a5 s.v.set.length c5] s) := hid ⟨_, rfl, RowT.kept (strsT_of_owns hown5) hk6⟩
            have HE6 := hid (HE.out.moved hb6)
            obtain ⟨ea, ec, hrv⟩ := row_shape HE6.out.row
            subst hrv
            have hE6 := HE6.out.out
            have hx44 := HE6.out.box
            obtain ⟨O, hO⟩ : ∃ O : Obj, O = .cells #[.string s.key, .int .i64 s.v.kind, .string s.v.text, .int .i64 s.v.n, .slice a5 s.v.set.length c5] 70 := ⟨_, rfl⟩
            have hdB : Below w6.heap.size w6 (w6.alloc O).drew := (below_alloc _ _).drew
            have d6 : w6.cell? ⟨sb, soff + k * 5, none⟩ = some (.string s.key) := by
              rw [hb6.cell (p := ⟨sb, soff + k * 5, none⟩) (lt_of_cell d0)]
              exact d0
            have p6 : P14 wo.heap.size wr.heap.size sb (soff + k * 5) #[.int .i64 e.ses, .int .i64 e.place, .slice aa e.at_.length ac, .slice (some ⟨sb, soff, none⟩) e.reads.length rc, .slice wa e.c.when_.length wcp, .int .i64 e.c.place, .slice oa e.c.ops.length oc] #[.int .i64 s.v.kind, .string s.v.text, .int .i64 s.v.n, .slice a5 s.v.set.length c5] (.string s.key) w6.drew := ⟨hx44, hx6, d6⟩
            have p6a : P14 wo.heap.size wr.heap.size sb (soff + k * 5) #[.int .i64 e.ses, .int .i64 e.place, .slice aa e.at_.length ac, .slice (some ⟨sb, soff, none⟩) e.reads.length rc, .slice wa e.c.when_.length wcp, .int .i64 e.c.place, .slice oa e.c.ops.length oc] #[.int .i64 s.v.kind, .string s.v.text, .int .i64 s.v.n, .slice a5 s.v.set.length c5] (.string s.key) (w6.alloc O).drew := ⟨(hdB.block _ (lt_of_heap hx44)).trans hx44, (hdB.block _ (lt_of_heap hx6)).trans hx6, by rw [hdB.cell (p := ⟨sb, soff + k * 5, none⟩) (lt_of_cell d6)]; exact d6⟩
            have q6 : w6.drew.cell? ⟨E, 3, none⟩ = some (.slice ea k ec) := (cell_of (w := w6) hE6).trans rfl
            have q6' : w6.cell? ⟨E, 3, none⟩ = some (.slice ea k ec) := (cell_of (w := w6) hE6).trans rfl
            have q6b : (w6.alloc O).cell? ⟨E, 3, none⟩ = some (.slice ea k ec) := ((below_alloc w6 O).cell (p := ⟨E, 3, none⟩) (lt_of_heap hE6)).trans q6'
            have q6a : (w6.alloc O).drew.cell? ⟨E, 3, none⟩ = some (.slice ea k ec) := (hdB.cell (p := ⟨E, 3, none⟩) (lt_of_heap hE6)).trans q6
            have HELD : Hid (∀ u, P14 wo.heap.size wr.heap.size sb (soff + k * 5) #[.int .i64 e.ses, .int .i64 e.place, .slice aa e.at_.length ac, .slice (some ⟨sb, soff, none⟩) e.reads.length rc, .slice wa e.c.when_.length wcp, .int .i64 e.c.place, .slice oa e.c.ops.length oc] #[.int .i64 s.v.kind, .string s.v.text, .int .i64 s.v.n, .slice a5 s.v.set.length c5] (.string s.key) u → u.cell? ⟨wo.heap.size, 3, none⟩ = some (.slice (some ⟨sb, soff, none⟩) e.reads.length rc) ∧ u.cell? ⟨wr.heap.size, 0, none⟩ = some (.int .i64 s.v.kind) ∧ u.cell? ⟨wr.heap.size, 1, none⟩ = some (.string s.v.text) ∧ u.cell? ⟨wr.heap.size, 2, none⟩ = some (.int .i64 s.v.n) ∧ u.cell? ⟨wr.heap.size, 3, none⟩ = some (.slice a5 s.v.set.length c5) ∧ u.cell? ⟨sb, soff + k * 5, none⟩ = some (.string s.key)) := hid fun u h => ⟨(cell_of h.x).trans rfl, (cell_of h.c).trans rfl, (cell_of h.c).trans rfl, (cell_of h.c).trans rfl, (cell_of h.c).trans rfl, h.k⟩
            have ROW : Hid ((w6.alloc O).drew.ownsRow wo.heap.size 70 5 (.slice ea k ec) k rws.flatten) := hid (owns_below HE6.out.row fun b _ hc => hdB.block b (lt_of_heap hc))
            have P6A := hid p6a
            have P6D := hid p6
            have HDB := hid hdB
            have hsb : sb < w.heap.size := lt_of_cell (p := ⟨sb, soff + k * 5 + 0, none⟩) (HSC.out 0 _ rfl)
            have HK2 : Hid (∀ w9, (w6.alloc O).drew.grownBy w9 (Value.slice ea k ec).ownBlock → P14 wo.heap.size wr.heap.size sb (soff + k * 5) #[.int .i64 e.ses, .int .i64 e.place, .slice aa e.at_.length ac, .slice (some ⟨sb, soff, none⟩) e.reads.length rc, .slice wa e.c.when_.length wcp, .int .i64 e.c.place, .slice oa e.c.ops.length oc] #[.int .i64 s.v.kind, .string s.v.text, .int .i64 s.v.n, .slice a5 s.v.set.length c5] (.string s.key) w9 ∧ (w9.cell? ⟨E, 3, none⟩ = some (.slice ea k ec) ∧ w9.frozen? ⟨E, 3, none⟩ = false) ∧ ∀ v9, P14 wo.heap.size wr.heap.size sb (soff + k * 5) #[.int .i64 e.ses, .int .i64 e.place, .slice aa e.at_.length ac, .slice (some ⟨sb, soff, none⟩) e.reads.length rc, .slice wa e.c.when_.length wcp, .int .i64 e.c.place, .slice oa e.c.ops.length oc] #[.int .i64 s.v.kind, .string s.v.text, .int .i64 s.v.n, .slice a5 s.v.set.length c5] (.string s.key) (w9.setCell ⟨E, 3, none⟩ v9)) := hid fun w9 hg => by
              have hp := P6A.out
              have hEa := (HDB.out.block _ (lt_of_heap hE6)).trans hE6
              have k9 := keepT_grown ROW.out hg
              have hx9 := (k9 44 (by decide) _ _ hp.x).trans hp.x
              have hc9 := (k9 55 (by decide) _ _ hp.c).trans hp.c
              have hE9 := (k9 69 (by decide) _ _ hEa).trans hEa
              have hk9 : w9.cell? ⟨sb, soff + k * 5, none⟩ = some (.string s.key) := by
                rw [World.cell?_of_block (hg.block sb (lt_of_cell (p := ⟨sb, soff + k * 5, none⟩) hp.k) fun x => by have := (ROW.out.lt sb x.symm).1; omega)]
                exact hp.k
              have n1 : wo.heap.size ≠ E := fun x => by
                rw [x, hE9] at hx9
                injection hx9 with hx9
                injection hx9 with _ hx9
                cases hx9
              have n2 : wr.heap.size ≠ E := fun x => by
                rw [x, hE9] at hc9
                injection hc9 with hc9
                injection hc9 with _ hc9
                cases hc9
              have n3 : sb ≠ E := by have := HE6.out.elo; omega
              refine ⟨⟨hx9, hc9, hk9⟩, ⟨(cell_of hE9).trans rfl, free_of hE9⟩, fun v9 => ⟨(Below.heap_setCell _ _ _ _ n1).trans hx9, (Below.heap_setCell _ _ _ _ n2).trans hc9, ?_⟩⟩
              rw [World.cell?_of_block (w := w9) (Below.heap_setCell _ _ _ _ n3)]
              exact hk9
            have CN : Hid (∀ j u, [.string s.key, .int .i64 s.v.kind, .string s.v.text, .int .i64 s.v.n, .slice a5 s.v.set.length c5][j]? = some u → (w6.alloc O).drew.cell? ((⟨w6.heap.size, 0, none⟩ : Addr).add j) = some u) := hid fun j u h => by
              rw [hO]
              exact cells3_new w6 70 _ j u h
            have ONE : Hid (∀ u ∈ ([.string s.key, .int .i64 s.v.kind, .string s.v.text, .int .i64 s.v.n, .slice a5 s.v.set.length c5] : List Value), u.oneCell' = true) := hid (by simp [Value.oneCell'])
            have hk2 : k + 1 ≤ maxLen := by unfold maxLen; omega
            have hk3 : (k + 1) * 72 ≤ 140737488355328 := by omega
            have hbs : wo.heap.size ≤ (w6.alloc O).drew.heap.size := by have := HE6.out.below.size; have := HDB.out.size; omega
            have HBS := hid hbs
            have PST : Hid (∀ v9 w9, w9.ownsRow wo.heap.size 70 5 v9 (k + 1) (rws.flatten ++ [.string s.key, .int .i64 s.v.kind, .string s.v.text, .int .i64 s.v.n, .slice a5 s.v.set.length c5]) → (w6.alloc O).drew.grownBy w9 (Value.slice ea k ec).ownBlock → EcI wo #[.int .i64 e.ses, .int .i64 e.place, .slice aa e.at_.length ac, .slice (some ⟨sb, soff, none⟩) e.reads.length rc, .slice wa e.c.when_.length wcp, .int .i64 e.c.place, .slice oa e.c.ops.length oc] wo.heap.size E e (.slice a3 e.at_.length c3) wv ov v9 e.at_ (k + 1) (rws ++ [[.string s.key, .int .i64 s.v.kind, .string s.v.text, .int .i64 s.v.n, .slice a5 s.v.set.length c5]]) (w9.setCell ⟨E, 3, none⟩ v9)) := hid fun v9 w9 hr hg =>
              (HE6.out.moved HDB.out).step hkr' HS.out.symm (HS6.out.kept (keepT_below HDB.out (Nat.le_refl _) 9)) hg hr
            clear hx6 hk6 hb6 hE6 hx44 d6 d0 hbq y3 y3f hbs hoq HSQ HWQ hown5 hgrow5 y5 y5f hdB
            subst hO
            obtain ⟨g1, g2, g3, g4, g5, g6⟩ := HELD.out w6.drew P6D.out
            have g1' : w6.cell? ⟨wo.heap.size, 3, none⟩ = some (.slice (some ⟨sb, soff, none⟩) e.reads.length rc) := g1
            have g2' : w6.cell? ⟨wr.heap.size, 0, none⟩ = some (.int .i64 s.v.kind) := g2
            have g3' : w6.cell? ⟨wr.heap.size, 1, none⟩ = some (.string s.v.text) := g3
            have g4' : w6.cell? ⟨wr.heap.size, 2, none⟩ = some (.int .i64 s.v.n) := g4
            have g5' : w6.cell? ⟨wr.heap.size, 3, none⟩ = some (.slice a5 s.v.set.length c5) := g5
            have g6' : w6.cell? ⟨sb, soff + k * 5, none⟩ = some (.string s.key) := g6
            go_region_law (first | (refine step_append_at rfl _ _ 67 rfl wo.heap.size 70 i70 _ 5 72 Tryz.underlying67 hi70 hd0 hd1 hd2 rfl (by decide) (.slice ea k ec) k rws.flatten rfl ROW.out _ 1 1 [.string s.key, .int .i64 s.v.kind, .string s.v.text, .int .i64 s.v.n, .slice a5 s.v.set.length c5] rfl rfl CN.out ONE.out hk2 hk3 HBS.out ?_; intro v9 w9 hrow9 hgr9 hat9; obtain ⟨p9, ⟨q9, q9f⟩, p9s⟩ := HK2.out w9 hgr9; have PI := hid (PST.out v9 w9 hrow9 hgr9); have p9t := p9s v9; clear p9s hgr9 hat9; obtain ⟨a9, c9, rfl⟩ := row_shape hrow9; clear hrow9))
            all_goals
              go_wp2
              refine ⟨⟨k + 1, _, _, by omega, by go_num, PI⟩, by simp [intOf]; omega⟩
          · obtain rfl : k = m := by omega
            have hE := HE.out
            rw [HM.out] at hE
            have hall := hE.all
            have hrow : wr.ownsRow w.heap.size 69 7 (.slice xa nl xc) nl rows.flatten := by
              have := (HI.out.moved HE.out.below).row
              rwa [← HNL.out] at this
            obtain ⟨ea, ec, rfl⟩ := row_shape HE.out.row
            obtain ⟨⟨a1, cc1, rfl⟩, a2, cc2, rfl⟩ := HE.out.com.shape
            have hout := HE.out.out
            have z0 : wr.cell? ⟨E, 0, none⟩ = some (.int .i64 e.ses) := (cell_of hout).trans rfl
            have z1 : wr.cell? ⟨E, 1, none⟩ = some (.int .i64 e.place) := (cell_of hout).trans rfl
            have z2 : wr.cell? ⟨E, 2, none⟩ = some (.slice a3 e.at_.length c3) := (cell_of hout).trans rfl
            have z3 : wr.cell? ⟨E, 3, none⟩ = some (.slice ea k ec) := (cell_of hout).trans rfl
            have z4 : wr.cell? ⟨E, 4, none⟩ = some (.slice a1 e.c.when_.length cc1) := (cell_of hout).trans rfl
            have z5 : wr.cell? ⟨E, 5, none⟩ = some (.int .i64 e.c.place) := (cell_of hout).trans rfl
            have z6 : wr.cell? ⟨E, 6, none⟩ = some (.slice a2 e.c.ops.length cc2) := (cell_of hout).trans rfl
            have hsw : w.heap.size ≤ wr.heap.size := Nat.le_trans hsz HE.out.below.size
            have hnl20 : nl ≤ 20 := by have := HNL.out; rw [List.length_take] at this; omega
            have HALL := hid hall
            have HROW := hid hrow
            have HM1 : Hid (EsI w (l.take i) (.slice xa nl xc) rows wr) := hid (by
              have := HI.out.moved HE.out.below
              rwa [← HNL.out] at this)
            have ONE : Hid (∀ u ∈ ([.int .i64 e.ses, .int .i64 e.place, .slice a3 e.at_.length c3, .slice ea k ec, .slice a1 e.c.when_.length cc1, .int .i64 e.c.place, .slice a2 e.c.ops.length cc2] : List Value), u.oneCell' = true) := hid (by simp [Value.oneCell'])
            clear hE hall hout HV3
            go_wp2_with (at_builtin; refine wpList_append_own_src rfl _ _ 29 rfl w.heap.size 69 i69 _ 7 120 Tryz.underlying29 hi69 hc0 hc1 hc2 rfl (by decide) _ _ _ rfl (hrow.alloc _) _ 1 [.int .i64 e.ses, .int .i64 e.place, .slice a3 e.at_.length c3, .slice ea k ec, .slice a1 e.c.when_.length cc1, .int .i64 e.c.place, .slice a2 e.c.ops.length cc2] rfl ?hs1 ONE.out ?hm2 ?hm3 ?hm4 ?_; (case hs1 => exact .inr ⟨_, _, rfl, rfl, cells11_new _ _ _ _ rfl⟩); (case hm2 => unfold maxLen; omega); (case hm3 => omega); (case hm4 => simp; omega); intro v' w5 hown' hgrow2; have O5 := hid hown'; have G5 := hid hgrow2; clear hown' hgrow2)
            refine ⟨⟨i + 1, v', rows ++ [[.int .i64 e.ses, .int .i64 e.place, .slice a3 e.at_.length c3, .slice ea k ec, .slice a1 e.c.when_.length cc1, .int .i64 e.c.place, .slice a2 e.c.ops.length cc2]], by omega, by go_num, rfl, hid ?_⟩, by simp [intOf]; omega⟩
            rw [HTK.out]
            refine EsI.step (v := .slice xa nl xc) (HM1.out.moved (below_alloc _ _)) (HALL.out.kept (Keep5.of_below (below_alloc _ _) (Nat.le_refl _))) (show World.grownBy _ w5 (Value.slice xa nl xc).ownBlock from G5.out) ?_
            rw [← HNL.out]
            exact O5.out
    · obtain rfl : i = n := by omega
      have hI := HI.out
      rw [HN.out, List.take_length] at hI
      have HR := hid (evs_of_owns hI.row rfl hI.evs)
      have HB := hid hI.below
      obtain ⟨xa, xc, rfl⟩ := row_shape HI.out.row
      clear hI
      go_wp2
      go_ret
      exact ⟨_, rfl, HR.out, HB.out⟩
end Go.Proofs.YtngjooemanapnaaGreatDoor
