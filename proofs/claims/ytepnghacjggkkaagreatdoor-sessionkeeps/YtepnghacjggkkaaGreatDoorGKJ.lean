/- What a transaction reads: the place's value, and what its own ops make of it, whatever they are. -/
import Derived.Test.YtepnghacjggkkaaGreatDoorGYE
import Derived.Test.YtepnghacjggkkaaGreatDoorGWMath2
import Derived.Deep.RegionHeld
import Derived.Deep.DeepCutAuto
import Derived.Deep.CutBlock
namespace Go.Proofs.YtepnghacjggkkaaGreatDoor
open Go.RowKit Go.Sort Go.Maps
set_option maxRecDepth 100000
set_option linter.unusedSectionVars false
variable [Inhabited ComV] [DecidableEq D3] [Inhabited D3] [Inhabited Dd] [Inhabited Dn] [Inhabited OpV]

theorem strs_mono {w w' : World} {v : Value} {ss : List (List UInt8)} {B : Nat} (h : StrsAt w v ss) (hb : Below B w w') (hB : w.heap.size ≤ B) : StrsAt w' v ss := by
  obtain ⟨ad, cap, rfl, h⟩ := h
  refine ⟨ad, cap, rfl, ?_⟩
  rcases h with h | ⟨b, rfl, h⟩
  · exact .inl h
  · exact .inr ⟨b, rfl, fun t ht => by rw [hb.cell (p := ⟨b, t, none⟩) (Nat.lt_of_lt_of_le (lt_of_cell (h t ht)) hB)]; exact h t ht⟩
theorem strs_set {w w' : World} {v : Value} {ss : List (List UInt8)} {g : Nat} {cs : Array Value} {t : TypeId} {z : Int} (h : StrsAt w v ss) (hg : w.heap[g]? = some (.cells cs t (0, 0))) (h0 : cs[0]? = some (.int .i64 z)) (hk : ∀ b, b < w.heap.size → b ≠ g → w'.heap[b]? = w.heap[b]?) : StrsAt w' v ss := by
  obtain ⟨ad, cap, rfl, h⟩ := h
  refine ⟨ad, cap, rfl, ?_⟩
  by_cases hs : ss = []
  · exact .inl hs
  · obtain ⟨b, hb, h2⟩ := h.resolve_left hs
    subst hb
    have hne : b ≠ g := fun e => by
      have := h2 0 (List.length_pos_iff.2 hs)
      rw [e, cell_of hg, h0] at this
      cases this
    exact .inr ⟨b, rfl, fun j hj => by rw [World.cell?_of_block (a := ⟨b, j, none⟩) (hk b (lt_of_cell (h2 j hj)) hne)]; exact h2 j hj⟩
theorem RowO.shape {w : World} {B : Nat} {v : Value} {xs : List Dd} (h : RowO w B v xs) : ∃ a c, v = .slice a xs.length c := by
  rcases h with ⟨rfl, rfl⟩ | ⟨g, cap, rfl, _⟩
  · exact ⟨_, _, rfl⟩
  · exact ⟨_, _, rfl⟩
def RdK (x : ValV) (W : World) (e : Ending) (w' : World) : Prop := ∃ v, e = .returned (.tuple #[v, .nilIface]) ∧ ValAt w' v x ∧ Below W.heap.size W w'
theorem kindNeO (W : World) (x : Dd) (vb : Nat) (kind : Int) (hc : W.cell? ⟨vb, 0, none⟩ = some (.int .i64 kind)) :
    Calls Tryz.prog 55 #[.agg x.enc7.toArray, .pointer (some ⟨vb, 0, none⟩)] W fun e w' => e = .returned (.bool (!decide (x.kind = kind))) ∧ w' = W.alloc (.cells x.enc7.toArray 97) := by
  obtain ⟨x1, x2, x3, x4, x5, x6, xp, xl, xc, x8, x11, _⟩ := x
  have hn : vb ≠ W.heap.size := Nat.ne_of_lt (lt_of_cell hc)
  have h1 := fun o => cell_alloc hc o
  show Calls Tryz.prog 55 #[.agg #[.int .i64 x1, .string x2, .int .i64 x3, .string x4, .int .i64 x5, .bool x6, .slice xp xl xc], .pointer (some ⟨vb, 0, none⟩)] W
    fun e w' => e = .returned (.bool (!decide (x3 = kind))) ∧ w' = W.alloc (.cells #[.int .i64 x1, .string x2, .int .i64 x3, .string x4, .int .i64 x5, .bool x6, .slice xp xl xc] 97)
  by_cases h : x3 = kind
  · subst h
    go_enter Tryz.func55, Tryz.ntmps55
    go_wp2
    go_ret
    exact ⟨ret_bool (by simp), rfl⟩
  · have hb : (x3 != kind) = true := by simpa using h
    go_enter Tryz.func55, Tryz.ntmps55
    go_wp2
    go_ret
    exact ⟨ret_bool (by simp [h]), rfl⟩
theorem delKind (wk : World) (B vb : Nat) (K : Int) (a b c : Value) (p : Option Addr) (cp lx : Nat) (xs : List Dd) (hlx : lx = xs.length) (hv : wk.heap[vb]? = some (.cells #[.int .i64 K, a, b, c] 41 (0, 0))) (hr : RowO wk B (.slice p lx cp) xs) (hvb : vb < B) (hl : lx ≤ 12) :
    Calls Tryz.prog 54 #[.slice p lx cp, .func (.func 55) #[] #[.pointer (some ⟨vb, 0, none⟩)]] wk fun e w' => ∃ p' c', e = .returned (.slice p' (xs.filter fun x => decide (x.kind = K)).length c') ∧ RowO w' B (.slice p' (xs.filter fun x => decide (x.kind = K)).length c') (xs.filter fun x => decide (x.kind = K)) ∧ Below B wk w' := by
  have := deleteFuncO_row wk B 55 vb (.int .i64 K) (fun x => !decide (x.kind = K)) (.slice p lx cp) xs (enters_of Tryz.func55 (by kernel_rfl) rfl) (fun W x hc => kindNeO W x vb K hc) ((cell_of hv).trans rfl) hr (fun g n c e => by
    rcases hr with ⟨q, _⟩ | ⟨g', cap, q, hB, _⟩
    · rw [e] at q; cases q
    · rw [e] at q; cases q; omega) (by omega)
  refine this.mono ?_
  rintro e w' ⟨v', rfl, h1, h2, _⟩
  have hf : (xs.filter fun x => !(!decide (x.kind = K))) = xs.filter fun x => decide (x.kind = K) := by simp
  rw [hf] at h1
  obtain ⟨p', c', rfl⟩ := h1.shape
  exact ⟨p', c', rfl, h1, h2⟩
theorem rowO_keep {w w' : World} {B : Nat} {v : Value} {xs : List Dd} (h : RowO w B v xs) (hk : ∀ b, B ≤ b → w'.heap[b]? = w.heap[b]?) : RowO w' B v xs := by
  rcases h with h | ⟨g, cap, h1, h2, h3, h4, hH⟩
  · exact .inl h
  · have e := hk g h2
    have hg : g < w'.heap.size := by
      have : w.heap[g]? = some w.heap[g] := Array.getElem?_eq_getElem h3
      rw [this] at e
      exact (Array.getElem?_eq_some_iff.1 e).1
    refine .inr ⟨g, cap, h1, h2, hg, h4, ?_⟩
    rw [holdsO_iff] at hH ⊢
    intro j hj t ht
    have := hH j hj t ht
    simp only [World.cell?, World.frozen?, e]
    simpa only [World.cell?, World.frozen?] using this
structure VaI (w0 wc : World) (vb : Nat) (cs : Array Value) (W : World) : Prop where
  box : W.heap[vb]? = some (.cells cs 41 (0, 0))
  same : ∀ b, b < wc.heap.size → b ≠ vb → W.heap[b]? = wc.heap[b]?
  size : wc.heap.size ≤ W.heap.size
  below : Below w0.heap.size w0 W
theorem VaI.step {w0 wc W W' : World} {vb : Nat} {cs : Array Value} (h : VaI w0 wc vb cs W) (hv : vb < wc.heap.size) (h0 : w0.heap.size ≤ wc.heap.size) (hb : Below wc.heap.size W W') : VaI w0 wc vb cs W' :=
  ⟨(hb.block _ hv).trans h.box, fun b h1 h2 => (hb.block _ h1).trans (h.same b h1 h2), Nat.le_trans h.size hb.size, h.below.trans (hb.mono h0)⟩
theorem VaI.set {w0 wc W : World} {vb : Nat} {cs : Array Value} (h : VaI w0 wc vb cs W) (hv : w0.heap.size ≤ vb) (j : Nat) (v : Value) {cs' : Array Value} (hc : (W.setCell ⟨vb, j, none⟩ v).heap[vb]? = some (.cells cs' 41 (0, 0))) : VaI w0 wc vb cs' (W.setCell ⟨vb, j, none⟩ v) :=
  ⟨hc, fun b h1 h2 => (Below.heap_setCell _ _ _ _ h2).trans (h.same b h1 h2), by simpa using h.size, h.below.setCell hv _⟩
theorem VaI.strs {w0 wc W : World} {vb : Nat} {cs cs0 : Array Value} {z : Int} {v : Value} {ss : List (List UInt8)} (h : VaI w0 wc vb cs W) (h0 : wc.heap[vb]? = some (.cells cs0 41 (0, 0))) (hz : cs0[0]? = some (.int .i64 z)) (hs : StrsAt wc v ss) : StrsAt W v ss := strs_set hs h0 hz fun b h1 h2 => h.same b h1 h2
theorem sumO_bd {zs : List Dd} (h1 : ∀ x ∈ zs, -1099511627776 ≤ x.op.n) (h2 : ∀ x ∈ zs, x.op.n ≤ 1099511627776) : ∀ k, k ≤ zs.length → -(1099511627776 * k) ≤ sumO ((zs.take k).map Dd.op) ∧ sumO ((zs.take k).map Dd.op) ≤ 1099511627776 * k := by
  intro k
  induction k with
  | zero => intro _; simp [sumO]
  | succ k ih =>
    intro hk
    have := ih (by omega)
    have hkz : k < zs.length := by omega
    have e : sumO ((zs.take (k + 1)).map Dd.op) = sumO ((zs.take k).map Dd.op) + zs[k].op.n := by
      rw [List.take_succ_eq_append_getElem hkz, List.map_append]
      unfold sumO
      rw [List.foldl_append]
      rfl
    have q1 := h1 zs[k] (List.getElem_mem _)
    have q2 := h2 zs[k] (List.getElem_mem _)
    rw [e]
    omega
theorem kind_three {ds : List Dn} {k0 : Int} {tx : ByteArray} {n0 : Int} {ss : List (List UInt8)} (hx : (⟨k0, tx, n0, ss⟩ : ValV) = valA ds) (hk : ds ≠ [] → ds[0]!.o.kind = 1 ∨ ds[0]!.o.kind = 2 ∨ ds[0]!.o.kind = 3) (hs : ss ≠ []) : ds ≠ [] ∧ ds[0]!.o.kind = 3 := by
  have e : (valA ds).set = ss := by rw [← hx]
  by_cases h0 : ds = []
  · subst h0
    exact absurd e.symm hs
  · refine ⟨h0, ?_⟩
    unfold valA at e
    rw [if_neg h0] at e
    rcases hk h0 with q | q | q
    · rw [q] at e; exact absurd e.symm hs
    · rw [q] at e; exact absurd e.symm hs
    · exact q
theorem va_fin (w w0 wc W : World) (vb : Nat) (hr : w0.heap[w.heap.size]? = some (.cells #[.int .i64 0, .string ⟨#[]⟩, .int .i64 0, .slice none 0 0] 41 (0, 0))) (hwr : w.heap.size < w0.heap.size) (b0 : Below w.heap.size w w0) {a b c d : Value} {x y : ValV} (hW : VaI w0 wc vb #[a, b, c, d] W) (hx : ValAt W (.agg #[a, b, c, d]) x) (hv : y = x) :
    RdK y w (.returned (.tuple #[.agg [a, b, c, d].toArray, .nilIface])) (W.setCells w.heap.size 0 [a, b, c, d]) := by
  subst hv
  obtain ⟨sv, h1, h2⟩ := hx
  refine ⟨_, rfl, ⟨sv, h1, ?_⟩, below_setCells (Nat.le_refl _) _ _ (b0.trans (hW.below.mono b0.size))⟩
  refine strs_keep h2 fun q hq t => ?_
  have hne : q ≠ w.heap.size := fun e => by
    obtain ⟨y, hy⟩ := hq
    rw [e, cell_of ((hW.below.block _ hwr).trans hr)] at hy
    cases hy
  exact World.cell?_setCells_out _ _ _ _ _ (fun e _ => absurd e hne)
set_option maxHeartbeats 8000000 in
theorem value_any (w : World) (xb pb : Nat) (aa : Option Addr) (an ac : Nat) (ov : Value) (key : ByteArray) (os : List OpV) (ds : List Dn) (h : TraBox w xb pb (.slice aa an ac) ov) (ho : OpsAt w ov os) (hl : os.length ≤ 12) (hok : ∀ o ∈ os, opErr o 1 = 0) (hsl : (valA ds).set.length ≤ 100000) (hkd : ds ≠ [] → ds[0]!.o.kind = 1 ∨ ds[0]!.o.kind = 2 ∨ ds[0]!.o.kind = 3) (hnb : -(1099511627776 * 1000) ≤ (valA ds).n ∧ (valA ds).n ≤ 1099511627776 * 1000)
    (K52 : ∀ W, Below w.heap.size w W → Calls Tryz.prog 52 #[.pointer (some ⟨pb, 0, none⟩), .string key, .slice aa an ac] W (RdK (valA ds) W))
    (K86 : ∀ text W, Below w.heap.size w W → Calls Tryz.prog 86 #[.pointer (some ⟨pb, 0, none⟩), .string key, .string text, .slice aa an ac] W (DotsK text ds W)) :
    Calls Tryz.prog 33 #[.pointer (some ⟨xb, 0, none⟩), .string key] w (RdK (ownVal ds (valA ds) (os.filter fun o => decide (o.key = key))) w) := by
  obtain ⟨x, hx⟩ : ∃ x, x = valA ds := ⟨_, rfl⟩
  rw [← hx] at K52 hsl hnb ⊢
  have HX := hid hx
  obtain ⟨k0, tx, n0, ss⟩ := x
  simp only at hsl hnb
  obtain ⟨sn, hsn⟩ : ∃ sn, sn = ss.length := ⟨_, rfl⟩
  have HSN := hid hsn
  obtain ⟨w0, hw0⟩ : ∃ w0, w0 = w.alloc (.cells #[.int .i64 0, .string ⟨#[]⟩, .int .i64 0, .slice none 0 0] 41) := ⟨_, rfl⟩
  have b0 : Below w.heap.size w w0 := by rw [hw0]; exact below_alloc _ _
  have r0 : w0.heap[w.heap.size]? = some (.cells #[.int .i64 0, .string ⟨#[]⟩, .int .i64 0, .slice none 0 0] 41 (0, 0)) := by rw [hw0]; exact heap_new _ _
  have tb : TraBox w0 xb pb (.slice aa an ac) ov := (b0.block _ (lt_of_heap h)).trans h
  have t0' : w0.cell? ⟨xb, 0, none⟩ = some (.pointer (some ⟨pb, 0, none⟩)) := (cell_of tb).trans rfl
  have t1' : w0.cell? ⟨xb, 1, none⟩ = some (.slice aa an ac) := (cell_of tb).trans rfl
  have TB := hid tb
  have R0 := hid r0
  have B0 := hid b0
  have HO := hid (ho.mono b0 (Nat.le_refl _))
  have HOK := hid hok
  have hx0 : xb < w0.heap.size := lt_of_heap tb
  have hxr : xb ≠ w0.heap.size := by omega
  have HK : Hid (∀ W, Below w0.heap.size w0 W → Calls Tryz.prog 52 #[.pointer (some ⟨pb, 0, none⟩), .string key, .slice aa an ac] W (RdK ⟨k0, tx, n0, ss⟩ W)) := (show ∀ W, _ → _ from fun W hW => K52 W (b0.trans (hW.mono b0.size)))
  have HK86 := hid (fun text W (hW : Below w0.heap.size w0 W) => K86 text W (b0.trans (hW.mono b0.size)))
  have hwr : w.heap.size < w0.heap.size := lt_of_heap r0
  have BD : Hid (Below w0.heap.size w0 w0.drew) := (show Below _ _ _ from (Below.refl w0.heap.size w0).drew)
  have BA : Hid (Below w0.heap.size w0 (w0.alloc (.cells #[.int .i64 0, .string ⟨#[]⟩, .int .i64 0, .slice none 0 0] 41)).drew) := (show Below _ _ _ from (below_alloc w0 _).drew)
  have HA0 : Hid (w0.heap.size < (w0.alloc (.cells #[.int .i64 0, .string ⟨#[]⟩, .int .i64 0, .slice none 0 0] 41)).drew.heap.size) := (show _ < _ from lt_of_heap (heap_new w0 _))
  have HA1 : Hid ((w0.alloc (.cells #[.int .i64 0, .string ⟨#[]⟩, .int .i64 0, .slice none 0 0] 41)).drew.heap[w0.heap.size]? = some (.cells #[.int .i64 0, .string ⟨#[]⟩, .int .i64 0, .slice none 0 0] 41 (0, 0))) := (show _ = _ from heap_new w0 _)
  have HKD := hid hkd
  clear h K52 K86 tb r0 b0 ho hok hx hsn hkd
  go_enter Tryz.func33, Tryz.ntmps33
  go_upto_region 1 with (fail)
  rw [← hw0]
  clear hw0
  go_cut [6, 7] (fun vp er wx => ∃ (vb : Nat) (sa : Option Addr) (sc : Nat), vp = .pointer (some ⟨vb, 0, none⟩) ∧ er = .nilIface ∧ w0.heap.size ≤ vb ∧ Hid (StrsAt wx (.slice sa sn sc) ss) ∧ Hid (wx.heap[vb]? = some (.cells #[.int .i64 k0, .string tx, .int .i64 n0, .slice sa sn sc] 41 (0, 0))) ∧ Hid (Below w0.heap.size w0 wx))
  case first =>
    go_region_held (fun u => u.cell? ⟨xb, 0, none⟩ = some (.pointer (some ⟨pb, 0, none⟩)) ∧ u.cell? ⟨xb, 1, none⟩ = some (.slice aa an ac)) (first | (refine ⟨?_, ?_⟩ <;> (with_reducible refine keep4 ?_ ?_ <;> with_reducible assumption)) | exact ⟨q0, q1⟩ | go_keep) (first | (go_at_call 52; (with_reducible refine (HK.out w0.drew ?hb).mono ?_); (case hb => exact BD.out); rintro e w6 ⟨v6, rfl, ⟨sv, rfl, hst⟩, hb6⟩; obtain ⟨sa, sc, hsv⟩ : ∃ sa sc, sv = .slice sa sn sc := (by obtain ⟨sa, sc, q, _⟩ := hst; exact ⟨sa, sc, by rw [HSN.out]; exact q⟩); subst hsv; have HST := hid hst; clear hst; have hb6' : Below w0.heap.size w0 w6 := (BD.out).trans (hb6.mono (BD.out).size); have q0 := (hb6'.cell (p := ⟨xb, 0, none⟩) hx0).trans t0'; have q1 := (hb6'.cell (p := ⟨xb, 1, none⟩) hx0).trans t1'; have HB6 := hid hb6'; clear hb6 hb6') | (go_at_call 52; (with_reducible refine (HK.out (w0.alloc (.cells #[.int .i64 0, .string ⟨#[]⟩, .int .i64 0, .slice none 0 0] 41)).drew ?hb).mono ?_); (case hb => exact BA.out); rintro e w6 ⟨v6, rfl, ⟨sv, rfl, hst⟩, hb6⟩; obtain ⟨sa, sc, hsv⟩ : ∃ sa sc, sv = .slice sa sn sc := (by obtain ⟨sa, sc, q, _⟩ := hst; exact ⟨sa, sc, by rw [HSN.out]; exact q⟩); subst hsv; have HST := hid hst; clear hst; have hb6' : Below w0.heap.size w0 w6 := (BA.out).trans (hb6.mono (BA.out).size); have q0 := (hb6'.cell (p := ⟨xb, 0, none⟩) hx0).trans t0'; have q1 := (hb6'.cell (p := ⟨xb, 1, none⟩) hx0).trans t1'; have hz6 : w6.heap[w0.heap.size]? = some (.cells #[.int .i64 0, .string ⟨#[]⟩, .int .i64 0, .slice none 0 0] 41 (0, 0)) := (hb6.block _ (HA0.out)).trans HA1.out; have z0 : w6.cell? ⟨w0.heap.size, 0, none⟩ = some (.int .i64 0) := (by simp only [World.cell?, hz6]; rfl); have z1 : w6.cell? ⟨w0.heap.size, 1, none⟩ = some (.string ⟨#[]⟩) := (by simp only [World.cell?, hz6]; rfl); have z2 : w6.cell? ⟨w0.heap.size, 2, none⟩ = some (.int .i64 0) := (by simp only [World.cell?, hz6]; rfl); have z3 : w6.cell? ⟨w0.heap.size, 3, none⟩ = some (.slice none 0 0) := (by simp only [World.cell?, hz6]; rfl); have zf : ∀ j, w6.frozen? ⟨w0.heap.size, j, none⟩ = false := (fun j => by simp only [World.frozen?, hz6]; simp); have HB6 := hid hb6'; clear hb6 hb6'))
    all_goals clear HK
    · go_wp2_with fail
      obtain ⟨wn, hwn⟩ : ∃ wn, wn = w6.alloc (.cells #[.int .i64 k0, .string tx, .int .i64 n0, .slice sa sn sc] 41) := ⟨_, rfl⟩
      have F1 : Hid (wn.heap[w6.heap.size]? = some (.cells #[.int .i64 k0, .string tx, .int .i64 n0, .slice sa sn sc] 41 (0, 0))) := (show _ = _ from by rw [hwn]; exact (MapKept.heap_alloc _ _).1)
      have F2 : Hid (StrsAt wn (.slice sa sn sc) ss) := (show StrsAt _ _ _ from by rw [hwn]; exact strs_mono HST.out (below_alloc _ _) (Nat.le_refl _))
      have F3 : Hid (Below w0.heap.size w0 wn) := (show Below _ _ _ from by rw [hwn]; exact HB6.out.alloc HB6.out.size _)
      rw [← hwn]
      clear hwn
      go_meet
      exact ⟨w6.heap.size, sa, sc, rfl, rfl, HB6.out.size, F2, F1, F3⟩
    · go_wp2_with fail
      obtain ⟨wn, hwn⟩ : ∃ wn, wn = ((((w6.setCell ⟨w0.heap.size, 0, none⟩ (.int .i64 k0)).setCell ⟨w0.heap.size, 1, none⟩ (.string tx)).setCell ⟨w0.heap.size, 2, none⟩ (.int .i64 n0)).setCell ⟨w0.heap.size, 3, none⟩ (.slice sa sn sc)) := ⟨_, rfl⟩
      have F1 : Hid (wn.heap[w0.heap.size]? = some (.cells #[.int .i64 k0, .string tx, .int .i64 n0, .slice sa sn sc] 41 (0, 0))) := (show _ = _ from by rw [hwn]; exact (fill4 hz6 _ _ _ _).1)
      have F2 : Hid (StrsAt wn (.slice sa sn sc) ss) := (show StrsAt _ _ _ from strs_set HST.out hz6 rfl fun b _ hb => by rw [hwn, Below.heap_setCell _ _ _ _ hb, Below.heap_setCell _ _ _ _ hb, Below.heap_setCell _ _ _ _ hb, Below.heap_setCell _ _ _ _ hb])
      have F3 : Hid (Below w0.heap.size w0 wn) := (show Below _ _ _ from by rw [hwn]; exact (fill4 hz6 _ _ _ _).2 _ _ HB6.out (Nat.le_refl _))
      rw [← hwn]
      clear hwn
      go_meet
      exact ⟨w0.heap.size, sa, sc, rfl, rfl, Nat.le_refl _, F2, F1, F3⟩
  case rest =>
    obtain ⟨vb, sa, sc, rfl, rfl, hvb, HST, HV, HB⟩ := hcut
    have K53 := hid (opsOn_any w0 wc HB.out xb pb (.slice aa an ac) ov key os ((HB.out.block _ hx0).trans TB.out) HO.out hl)
    obtain ⟨oq, hoq⟩ : ∃ oq, oq = os.filter fun o => decide (o.key = key) := ⟨_, rfl⟩
    have hoql : oq.length ≤ 12 := by rw [hoq]; exact Nat.le_trans (List.length_filter_le _ _) hl
    have HOQ : Hid (∀ o ∈ oq, opErr o 1 = 0) := (show ∀ o ∈ oq, _ from fun o ho => HOK.out o (by rw [hoq] at ho; exact (List.mem_filter.1 ho).1))
    have hvl : vb < wc.heap.size := lt_of_heap HV.out
    have hwc : w0.heap.size ≤ wc.heap.size := HB.out.size
    have HOQ0 := hid hoq
    clear HK t0' t1' BD BA HA0 HA1 hoq
    have x0 : wc.cell? ⟨vb, 0, none⟩ = some (.int .i64 k0) := (cell_of HV.out).trans rfl
    go_upto_region 5 with (go_at_call 53; refine K53.out.mono ?_; rintro e w5 ⟨v5, xs, rfl, hR5, hX5, hG5, hb5⟩; obtain ⟨p5, c5, hv5⟩ := hR5.shape; subst hv5; have R5 := hid hR5; have X5 := hid hX5; have G5 := hid hG5; have B5 := hid hb5; have V5 := hid ((hb5.block _ (lt_of_heap HV.out)).trans HV.out); clear hR5 hX5 hG5 hb5)
    rw [← HOQ0.out] at X5
    obtain ⟨lx, hlx⟩ : ∃ lx, lx = xs.length := ⟨_, rfl⟩
    have hlo : oq.length = lx := by rw [hlx, ← X5.out, List.length_map]
    have hl12 : lx ≤ 12 := by omega
    rw [← hlx] at R5 ⊢
    have HLX := hid hlx
    have y0 : w5.cell? ⟨vb, 0, none⟩ = some (.int .i64 k0) := (cell_of V5.out).trans rfl
    have VA5 : Hid (VaI w0 wc vb #[.int .i64 k0, .string tx, .int .i64 n0, .slice sa sn sc] w5) := (show VaI _ _ _ _ _ from ⟨V5.out, fun b h1 _ => B5.out.block b h1, B5.out.size, HB.out.trans (B5.out.mono hwc)⟩)
    have HLO := hid hlo
    clear hlx hlo x0 K53
    have cases3 : ((k0 == 0) = false) ∨ (k0 = 0 ∧ lx = 0) ∨ (k0 = 0 ∧ 0 < lx) := by
      by_cases e : k0 = 0
      · rcases Nat.eq_zero_or_pos lx with e2 | e2
        · exact .inr (.inl ⟨e, e2⟩)
        · exact .inr (.inr ⟨e, e2⟩)
      · exact .inl (by simpa using e)
    rcases cases3 with hk | ⟨hk, hz⟩ | ⟨hk, hz⟩
    · obtain ⟨KK, hKK⟩ : ∃ KK, KK = k0 := ⟨_, rfl⟩
      have HKK : Hid (ownKind ⟨k0, tx, n0, ss⟩ oq = KK) := (show _ = _ from by
        unfold ownKind
        rw [if_neg (by simpa using hk), hKK])
      have V5k : w5.heap[vb]? = some (.cells #[.int .i64 KK, .string tx, .int .i64 n0, .slice sa sn sc] 41 (0, 0)) := by rw [hKK]; exact V5.out
      have VA5k := hid (⟨V5k, VA5.out.same, VA5.out.size, VA5.out.below⟩ : VaI w0 wc vb #[.int .i64 KK, .string tx, .int .i64 n0, .slice sa sn sc] w5)
      have K54 := hid (delKind w5 wc.heap.size vb KK _ _ _ p5 c5 lx xs HLX.out V5k R5.out hvl hl12)
      clear hKK V5k
      go_upto_region 8 with (go_at_call 54; refine K54.out.mono ?_; rintro e w6 ⟨p6, c6, rfl, hR6, hb6⟩; have R6 := hid hR6; have VA := hid (VA5k.out.step hvl hwc hb6); clear hR6 hb6)
      clear K54 VA5k hk y0
      obtain ⟨zs, hzs⟩ : ∃ zs, zs = xs.filter fun x => decide (x.kind = KK) := ⟨_, rfl⟩
      rw [← hzs] at R6 ⊢
      have HZ : Hid (zs.map Dd.op = ownOf ⟨k0, tx, n0, ss⟩ oq) := (show _ = _ from by
        unfold ownOf
        rw [HKK.out, ← X5.out, List.filter_map, hzs]
        rfl)
      have GZ : Hid (∀ x ∈ zs, GoodD w6 x) := (show ∀ x ∈ zs, _ from fun x hx => by
        rw [hzs] at hx
        exact (G5.out x (List.mem_filter.1 hx).1).mono VA.out.below (Nat.le_refl _))
      have EZ : Hid (∀ x ∈ zs, opErr x.op 1 = 0 ∧ x.kind = KK) := (show ∀ x ∈ zs, _ from fun x hx => by
        rw [hzs] at hx
        refine ⟨HOQ.out x.op ?_, of_decide_eq_true (List.mem_filter.1 hx).2⟩
        rw [← X5.out]
        exact List.mem_map.2 ⟨x, (List.mem_filter.1 hx).1, rfl⟩)
      obtain ⟨mz, hmz⟩ : ∃ mz, mz = zs.length := ⟨_, rfl⟩
      have hm12 : mz ≤ 12 := by rw [hmz, hzs]; have := HLX.out; exact Nat.le_trans (List.length_filter_le _ _) (by omega)
      rw [← hmz] at R6 ⊢
      have HMZ := hid hmz
      have hr6 := (VA.out.below.block _ hwr).trans R0.out
      have z0 : w6.cell? ⟨vb, 0, none⟩ = some (.int .i64 KK) := (cell_of VA.out.box).trans rfl
      have z1 : w6.cell? ⟨vb, 1, none⟩ = some (.string tx) := (cell_of VA.out.box).trans rfl
      have z2 : w6.cell? ⟨vb, 2, none⟩ = some (.int .i64 n0) := (cell_of VA.out.box).trans rfl
      have z3 : w6.cell? ⟨vb, 3, none⟩ = some (.slice sa sn sc) := (cell_of VA.out.box).trans rfl
      have R4 := hid (row4 hr6)
      have HR6 := hid hr6
      have FIN := hid (fun (W : World) (a b c d : Value) (x : ValV) (hW : VaI w0 wc vb #[a, b, c, d] W) (hx : ValAt W (.agg #[a, b, c, d]) x) (hv : ownVal ds ⟨k0, tx, n0, ss⟩ oq = x) => va_fin w w0 wc W vb R0.out hwr B0.out hW hx hv)
      clear hzs hmz X5 G5 VA5 V5 R5 B5 hr6
      by_cases h0 : mz = 0
      · subst h0
        have S4 := hid (set4 HR6.out [.int .i64 KK, .string tx, .int .i64 n0, .slice sa sn sc] rfl)
        go_wp2_with (refine wpList_store_k _ rfl (.tmp 4) (.tmp 50) 41 rfl w.heap.size 0 [.int .i64 KK, .string tx, .int .i64 n0, .slice sa sn sc] rfl rfl 4 rfl Tryz.sizeOf41 rfl _ ?hW R4.out.1 R4.out.2 ?_; case hW => rfl)
        exact bodyPost_ret (ret_cell_tmp (k := 4) Tryz.results33 Tryz.isAgg41 Tryz.sizeOf41 _ _ w.heap.size [.int .i64 KK, .string tx, .int .i64 n0, .slice sa sn sc] _ rfl rfl rfl S4.out) rfl (by
          rw [← HOQ0.out]
          refine FIN.out w6 _ _ _ _ ⟨KK, tx, n0, ss⟩ VA.out ⟨_, rfl, VA.out.strs HV.out rfl HST.out⟩ ?_
          unfold ownVal
          rw [← HZ.out, if_pos (by rw [List.eq_nil_of_length_eq_zero HMZ.out.symm]; rfl), HKK.out])
      · have hzne : zs ≠ [] := fun e => h0 (by have := HMZ.out; rw [e] at this; exact this)
        have hrz := R6.out
        rcases hrz with ⟨_, q⟩ | ⟨g6, cp6, q, hg6, hg6l, hcp6, hH6⟩
        · exact absurd q hzne
        obtain ⟨hp6, hc6⟩ : p6 = some ⟨g6, 0, none⟩ ∧ c6 = cp6 := by injection q with q1 _ q2; exact ⟨q1, q2⟩
        subst hp6 hc6
        have HH6 := hid hH6
        have hKd : KK = 1 ∨ KK = 2 ∨ KK = 3 := by
          have hp := List.length_pos_iff.2 hzne
          obtain ⟨e1, e2⟩ := EZ.out zs[0] (List.getElem_mem _)
          have e3 : (zs[0].op).kind = KK := e2
          rw [← e3]
          exact (opOk e1).1
        have hown : Hid (ownOf ⟨k0, tx, n0, ss⟩ oq ≠ []) := (show _ ≠ _ from by rw [← HZ.out]; simpa using hzne)
        have hm0 : ((mz : Int) == 0) = false := by rw [beq_eq_false_iff_ne]; omega
        clear q hH6 R6
        rcases hKd with hK | hK | hK
        · subst hK
          obtain ⟨j, hj⟩ : ∃ j, mz = j + 1 := ⟨mz - 1, by omega⟩
          have hjz : j < zs.length := by have := HMZ.out; omega
          obtain ⟨u, hu⟩ : ∃ u, u = zs[j]! := ⟨_, rfl⟩
          have c3 := (holdsO_cells HH6.out (j := j) (u := u) (by simpa using hjz) (by rw [hu, getElem!_pos zs.toArray j (by simpa using hjz), getElem!_pos zs j hjz]; simp)).2.2.2.1
          have hlast : Hid (((ownOf ⟨k0, tx, n0, ss⟩ oq).getLast?.map (·.text)).getD ByteArray.empty = u.text) := (show _ = _ from by
            rw [← HZ.out, List.getLast?_eq_getElem?, List.getElem?_map, List.length_map, ← HMZ.out, hj, Nat.add_sub_cancel, List.getElem?_eq_getElem hjz, hu, getElem!_pos zs j hjz]
            rfl)
          obtain ⟨ut, hut⟩ : ∃ ut, ut = u.text := ⟨_, rfl⟩
          rw [← hut] at c3 hlast
          have f1 : w6.frozen? ⟨vb, 1, none⟩ = false := by simp only [World.frozen?, VA.out.box]; simp
          have i1 : (mz : Int) - 1 = (j : Int) := by omega
          have i2 : j < mz := by omega
          have i3 : (j : Int) < (mz : Int) := by omega
          obtain ⟨wn, hwn⟩ : ∃ wn, wn = w6.setCell ⟨vb, 1, none⟩ (.string ut) := ⟨_, rfl⟩
          have VN : Hid (VaI w0 wc vb #[.int .i64 1, .string ut, .int .i64 n0, .slice sa sn sc] wn) := (show VaI _ _ _ _ _ from by rw [hwn]; exact VA.out.set hvb 1 _ ((heap_set VA.out.box _).trans rfl))
          clear hu hut hj hjz
          go_upto_region 21 with (fail)
          rw [← hwn]
          clear hwn c3 f1 i1 i2 i3
          have y0 : wn.cell? ⟨vb, 0, none⟩ = some (.int .i64 1) := (cell_of VN.out.box).trans rfl
          have y1 : wn.cell? ⟨vb, 1, none⟩ = some (.string ut) := (cell_of VN.out.box).trans rfl
          have y2 : wn.cell? ⟨vb, 2, none⟩ = some (.int .i64 n0) := (cell_of VN.out.box).trans rfl
          have y3 : wn.cell? ⟨vb, 3, none⟩ = some (.slice sa sn sc) := (cell_of VN.out.box).trans rfl
          have hrn := (VN.out.below.block _ hwr).trans R0.out
          have R4n := hid (row4 hrn)
          have S4 := hid (set4 hrn [.int .i64 1, .string ut, .int .i64 n0, .slice sa sn sc] rfl)
          clear hrn R4 z0 z1 z2 z3
          go_wp2_with (refine wpList_store_k _ rfl (.tmp 4) (.tmp 94) 41 rfl w.heap.size 0 [.int .i64 1, .string ut, .int .i64 n0, .slice sa sn sc] rfl rfl 4 rfl Tryz.sizeOf41 rfl _ ?hW R4n.out.1 R4n.out.2 ?_; case hW => rfl)
          exact bodyPost_ret (ret_cell_tmp (k := 4) Tryz.results33 Tryz.isAgg41 Tryz.sizeOf41 _ _ w.heap.size [.int .i64 1, .string ut, .int .i64 n0, .slice sa sn sc] _ rfl rfl rfl S4.out) rfl (by
            rw [← HOQ0.out]
            refine FIN.out wn _ _ _ _ ⟨1, ut, n0, ss⟩ VN.out ⟨_, rfl, VN.out.strs HV.out rfl HST.out⟩ ?_
            unfold ownVal
            rw [if_neg hown.out, HKK.out, if_pos rfl, hlast.out])
        · subst hK
          have f2 : w6.frozen? ⟨vb, 2, none⟩ = false := by simp only [World.frozen?, VA.out.box]; simp
          have hbd : Hid (∀ k, k ≤ mz → -(1099511627776 * k) ≤ sumO ((zs.take k).map Dd.op) ∧ sumO ((zs.take k).map Dd.op) ≤ 1099511627776 * k) := (show ∀ k, _ → _ from fun k hk => sumO_bd (fun x hx => (opOk (EZ.out x hx).1).2.1) (fun x hx => (opOk (EZ.out x hx).1).2.2.1) k (by have := HMZ.out; omega))
          go_upto_region 14 with (fail)
          go_wp2
          go_loopw [67] (fun i wr => ∃ k : Nat, k ≤ mz ∧ i = .int .i64 k ∧ Hid (VaI w0 wc vb #[.int .i64 2, .string tx, .int .i64 (n0 + sumO ((zs.take k).map Dd.op)), .slice sa sn sc] wr) ∧ Hid (∀ b, wc.heap.size ≤ b → b < w6.heap.size → wr.heap[b]? = w6.heap[b]?)) (fun i _ => mz - (intOf i).toNat)
          case atStart => exact ⟨0, Nat.zero_le _, rfl, hid (p := VaI w0 wc vb #[.int .i64 2, .string tx, .int .i64 (n0 + sumO ((zs.take 0).map Dd.op)), .slice sa sn sc] w6) (by
            have e : n0 + sumO ((zs.take 0).map Dd.op) = n0 := by simp [sumO]
            rw [e]
            exact VA.out), fun _ _ _ => rfl⟩
          case round =>
            obtain ⟨k, hk, rfl, HI, HU⟩ := hrel
            by_cases hlt : k < mz
            · have hkz : k < zs.length := by have := HMZ.out; omega
              obtain ⟨u, hu⟩ : ∃ u, u = zs[k]! := ⟨_, rfl⟩
              have hHr : HoldsK Dd.enc7 7 wr g6 0 zs.toArray := by
                have e := HU.out g6 hg6 hg6l
                have hH := HH6.out
                rw [holdsO_iff] at hH ⊢
                intro j hj t ht
                have := hH j hj t ht
                simp only [World.cell?, World.frozen?, e]
                simpa only [World.cell?, World.frozen?] using this
              obtain ⟨c0, c1, c2, c3, c4, c5', c6'⟩ := holdsO_cells hHr (j := k) (u := u) (by simpa using hkz) (by rw [hu, getElem!_pos zs.toArray k (by simpa using hkz), getElem!_pos zs k hkz]; simp)
              obtain ⟨sm, hsm⟩ : ∃ sm, sm = n0 + sumO ((zs.take k).map Dd.op) := ⟨_, rfl⟩
              have hst : n0 + sumO ((zs.take (k + 1)).map Dd.op) = sm + u.n := by
                rw [hsm, List.take_succ_eq_append_getElem hkz, List.map_append, hu, getElem!_pos zs k hkz]
                unfold sumO
                rw [List.foldl_append]
                show n0 + (_ + _) = _
                rw [Int.add_assoc]
                rfl
              have hb1 := hbd.out k hk
              have hu1 := opOk (EZ.out u (by rw [hu, getElem!_pos zs k hkz]; exact List.getElem_mem _)).1
              have hu2 : -1099511627776 ≤ u.n := hu1.2.1
              have hu3 : u.n ≤ 1099511627776 := hu1.2.2.1
              have hs1 : -(1099511627776 * 1012) ≤ sm := by have := hnb.1; omega
              have hs2 : sm ≤ 1099511627776 * 1012 := by have := hnb.2; omega
              rw [← hsm] at HI
              have d2 : wr.cell? ⟨vb, 2, none⟩ = some (.int .i64 sm) := (cell_of HI.out.box).trans rfl
              have e2 := fun o => cell_alloc d2 o
              have f2 : ∀ o, (wr.alloc o).frozen? ⟨vb, 2, none⟩ = false := fun o => by simp only [World.frozen?, heap_old HI.out.box o]; simp
              have HS1 := hid hst
              clear hu hsm hst hb1 hu1 hHr
              obtain ⟨x1, x2, x3, x4, x5, x6, dp, dl, dc, x8, x9, xd⟩ := u
              simp only at c0 c1 c2 c3 c4 c5' c6' hu2 hu3 HS1
              go_wp2
              refine ⟨⟨k + 1, by omega, by go_num, ?_, ?_⟩, by simp [intOf]; omega⟩
              · rw [HS1.out]
                exact (HI.out.step hvl hwc ((below_alloc _ _).mono HI.out.size)).set hvb 2 _ ((heap_set (heap_old HI.out.box _) _).trans rfl)
              · intro b h1 h2
                rw [Below.heap_setCell _ _ _ _ (by show b ≠ vb; omega), Below.heap_alloc _ _ _ (by
                  have e := HU.out b h1 h2
                  have : w6.heap[b]? = some w6.heap[b] := Array.getElem?_eq_getElem h2
                  rw [this] at e
                  exact (Array.getElem?_eq_some_iff.1 e).1)]
                exact HU.out b h1 h2
            · have hkm : mz = k := by omega
              subst hkm
              rw [List.take_of_length_le (by have := HMZ.out; omega), HZ.out] at HI
              obtain ⟨sm, hsm⟩ : ∃ sm, sm = n0 + sumO (ownOf ⟨k0, tx, n0, ss⟩ oq) := ⟨_, rfl⟩
              rw [← hsm] at HI
              have VN := HI
              have HSM := hid hsm
              clear hsm HU hbd f2
              have y0 : wr.cell? ⟨vb, 0, none⟩ = some (.int .i64 2) := (cell_of VN.out.box).trans rfl
              have y1 : wr.cell? ⟨vb, 1, none⟩ = some (.string tx) := (cell_of VN.out.box).trans rfl
              have y2 : wr.cell? ⟨vb, 2, none⟩ = some (.int .i64 sm) := (cell_of VN.out.box).trans rfl
              have y3 : wr.cell? ⟨vb, 3, none⟩ = some (.slice sa sn sc) := (cell_of VN.out.box).trans rfl
              have hrn := (VN.out.below.block _ hwr).trans R0.out
              have R4n := hid (row4 hrn)
              have S4 := hid (set4 hrn [.int .i64 2, .string tx, .int .i64 sm, .slice sa sn sc] rfl)
              clear hrn R4 z0 z1 z2 z3
              go_wp2_with (refine wpList_store_k _ rfl (.tmp 4) (.tmp 94) 41 rfl w.heap.size 0 [.int .i64 2, .string tx, .int .i64 sm, .slice sa sn sc] rfl rfl 4 rfl Tryz.sizeOf41 rfl _ ?hW R4n.out.1 R4n.out.2 ?_; case hW => rfl)
              exact bodyPost_ret (ret_cell_tmp (k := 4) Tryz.results33 Tryz.isAgg41 Tryz.sizeOf41 _ _ w.heap.size [.int .i64 2, .string tx, .int .i64 sm, .slice sa sn sc] _ rfl rfl rfl S4.out) rfl (by
                rw [← HOQ0.out]
                refine FIN.out wr _ _ _ _ ⟨2, tx, sm, ss⟩ VN.out ⟨_, rfl, VN.out.strs HV.out rfl HST.out⟩ ?_
                unfold ownVal
                rw [if_neg hown.out, HKK.out, if_neg (by decide), if_pos rfl, HSM.out])
        · subst hK
          have f3 : ∀ W : World, W.heap[vb]? = some (.cells #[.int .i64 3, .string tx, .int .i64 n0, .slice sa sn sc] 41 (0, 0)) → W.frozen? ⟨vb, 3, none⟩ = false ∧ W.cell? ⟨vb, 3, none⟩ = some (.slice sa sn sc) := fun W hW => ⟨by simp only [World.frozen?, hW]; simp, (cell_of hW).trans rfl⟩
          have F3 := hid f3
          have K56 := hid (textsT_any w6 xb pb aa an ac ov key (.slice sa sn sc) ss g6 mz c6 zs ds ((VA.out.below.block _ hx0).trans TB.out) (VA.out.strs HV.out rfl HST.out) hsl HMZ.out.symm hm12 hg6l HH6.out GZ.out (fun x hx => (opOk (EZ.out x hx).1).2.2.2) (fun hss => kind_three HX.out HKD.out hss) (fun text W hW => HK86.out text W (VA.out.below.trans (hW.mono VA.out.below.size))))
          clear f3
          go_upto_region 21 with (go_at_call 56; refine K56.out.mono ?_; rintro e w7 ⟨v7, rfl, hs7, hb7⟩; obtain ⟨a7, n7, c7, hv7⟩ : ∃ a7 n7 c7, v7 = .slice a7 n7 c7 := (by obtain ⟨a7, c7, q, _⟩ := hs7; exact ⟨_, _, _, q⟩); subst hv7; have S7 := hid hs7; have VA7 := hid (VA.out.step hvl hwc (hb7.mono VA.out.size)); obtain ⟨y3f, y3c⟩ := F3.out w7 VA7.out.box; clear hs7 hb7)
          obtain ⟨wn, hwn⟩ : ∃ wn, wn = w7.setCell ⟨vb, 3, none⟩ (.slice a7 n7 c7) := ⟨_, rfl⟩
          have VN : Hid (VaI w0 wc vb #[.int .i64 3, .string tx, .int .i64 n0, .slice a7 n7 c7] wn) := (show VaI _ _ _ _ _ from by rw [hwn]; exact VA7.out.set hvb 3 _ ((heap_set VA7.out.box _).trans rfl))
          have SN : Hid (StrsAt wn (.slice a7 n7 c7) (setA (ownTexts ds ss (zs.map Dd.op)))) := (show StrsAt _ _ _ from strs_set S7.out VA7.out.box rfl fun b _ h2 => by rw [hwn]; exact Below.heap_setCell _ _ _ _ h2)
          rw [← hwn]
          clear hwn y3f y3c
          have y0 : wn.cell? ⟨vb, 0, none⟩ = some (.int .i64 3) := (cell_of VN.out.box).trans rfl
          have y1 : wn.cell? ⟨vb, 1, none⟩ = some (.string tx) := (cell_of VN.out.box).trans rfl
          have y2 : wn.cell? ⟨vb, 2, none⟩ = some (.int .i64 n0) := (cell_of VN.out.box).trans rfl
          have y3 : wn.cell? ⟨vb, 3, none⟩ = some (.slice a7 n7 c7) := (cell_of VN.out.box).trans rfl
          have hrn := (VN.out.below.block _ hwr).trans R0.out
          have R4n := hid (row4 hrn)
          have S4 := hid (set4 hrn [.int .i64 3, .string tx, .int .i64 n0, .slice a7 n7 c7] rfl)
          clear hrn R4 z0 z1 z2 z3
          go_wp2_with (refine wpList_store_k _ rfl (.tmp 4) (.tmp 94) 41 rfl w.heap.size 0 [.int .i64 3, .string tx, .int .i64 n0, .slice a7 n7 c7] rfl rfl 4 rfl Tryz.sizeOf41 rfl _ ?hW R4n.out.1 R4n.out.2 ?_; case hW => rfl)
          exact bodyPost_ret (ret_cell_tmp (k := 4) Tryz.results33 Tryz.isAgg41 Tryz.sizeOf41 _ _ w.heap.size [.int .i64 3, .string tx, .int .i64 n0, .slice a7 n7 c7] _ rfl rfl rfl S4.out) rfl (by
            rw [← HOQ0.out]
            refine FIN.out wn _ _ _ _ ⟨3, tx, n0, setA (ownTexts ds ss (zs.map Dd.op))⟩ VN.out ⟨_, rfl, SN.out⟩ ?_
            unfold ownVal
            rw [if_neg hown.out, HKK.out, if_neg (by decide), if_neg (by decide), HZ.out])
    · obtain ⟨KK, hKK⟩ : ∃ KK, KK = k0 := ⟨_, rfl⟩
      have HKK : Hid (ownKind ⟨k0, tx, n0, ss⟩ oq = KK) := (show _ = _ from by
        have : oq = [] := List.eq_nil_of_length_eq_zero (by rw [HLO.out, hz])
        unfold ownKind
        rw [if_pos hk, this, hKK, hk]
        rfl)
      have V5k : w5.heap[vb]? = some (.cells #[.int .i64 KK, .string tx, .int .i64 n0, .slice sa sn sc] 41 (0, 0)) := by rw [hKK]; exact V5.out
      have VA5k := hid (⟨V5k, VA5.out.same, VA5.out.size, VA5.out.below⟩ : VaI w0 wc vb #[.int .i64 KK, .string tx, .int .i64 n0, .slice sa sn sc] w5)
      have K54 := hid (delKind w5 wc.heap.size vb KK _ _ _ p5 c5 lx xs HLX.out V5k R5.out hvl hl12)
      have hk' : (k0 == 0) = true := by simpa using hk
      clear hKK V5k hk
      subst hz
      go_upto_region 8 with (go_at_call 54; refine K54.out.mono ?_; rintro e w6 ⟨p6, c6, rfl, hR6, hb6⟩; have R6 := hid hR6; have VA := hid (VA5k.out.step hvl hwc hb6); clear hR6 hb6)
      clear K54 VA5k y0 hk'
      obtain ⟨zs, hzs⟩ : ∃ zs, zs = xs.filter fun x => decide (x.kind = KK) := ⟨_, rfl⟩
      rw [← hzs] at R6 ⊢
      have HZ : Hid (zs.map Dd.op = ownOf ⟨k0, tx, n0, ss⟩ oq) := (show _ = _ from by
        unfold ownOf
        rw [HKK.out, ← X5.out, List.filter_map, hzs]
        rfl)
      have GZ : Hid (∀ x ∈ zs, GoodD w6 x) := (show ∀ x ∈ zs, _ from fun x hx => by
        rw [hzs] at hx
        exact (G5.out x (List.mem_filter.1 hx).1).mono VA.out.below (Nat.le_refl _))
      have EZ : Hid (∀ x ∈ zs, opErr x.op 1 = 0 ∧ x.kind = KK) := (show ∀ x ∈ zs, _ from fun x hx => by
        rw [hzs] at hx
        refine ⟨HOQ.out x.op ?_, of_decide_eq_true (List.mem_filter.1 hx).2⟩
        rw [← X5.out]
        exact List.mem_map.2 ⟨x, (List.mem_filter.1 hx).1, rfl⟩)
      obtain ⟨mz, hmz⟩ : ∃ mz, mz = zs.length := ⟨_, rfl⟩
      have hm12 : mz ≤ 12 := by rw [hmz, hzs]; have := HLX.out; exact Nat.le_trans (List.length_filter_le _ _) (by omega)
      rw [← hmz] at R6 ⊢
      have HMZ := hid hmz
      have hr6 := (VA.out.below.block _ hwr).trans R0.out
      have z0 : w6.cell? ⟨vb, 0, none⟩ = some (.int .i64 KK) := (cell_of VA.out.box).trans rfl
      have z1 : w6.cell? ⟨vb, 1, none⟩ = some (.string tx) := (cell_of VA.out.box).trans rfl
      have z2 : w6.cell? ⟨vb, 2, none⟩ = some (.int .i64 n0) := (cell_of VA.out.box).trans rfl
      have z3 : w6.cell? ⟨vb, 3, none⟩ = some (.slice sa sn sc) := (cell_of VA.out.box).trans rfl
      have R4 := hid (row4 hr6)
      have HR6 := hid hr6
      have FIN := hid (fun (W : World) (a b c d : Value) (x : ValV) (hW : VaI w0 wc vb #[a, b, c, d] W) (hx : ValAt W (.agg #[a, b, c, d]) x) (hv : ownVal ds ⟨k0, tx, n0, ss⟩ oq = x) => va_fin w w0 wc W vb R0.out hwr B0.out hW hx hv)
      clear hzs hmz X5 G5 VA5 V5 R5 B5 hr6
      by_cases h0 : mz = 0
      · subst h0
        have S4 := hid (set4 HR6.out [.int .i64 KK, .string tx, .int .i64 n0, .slice sa sn sc] rfl)
        go_wp2_with (refine wpList_store_k _ rfl (.tmp 4) (.tmp 50) 41 rfl w.heap.size 0 [.int .i64 KK, .string tx, .int .i64 n0, .slice sa sn sc] rfl rfl 4 rfl Tryz.sizeOf41 rfl _ ?hW R4.out.1 R4.out.2 ?_; case hW => rfl)
        exact bodyPost_ret (ret_cell_tmp (k := 4) Tryz.results33 Tryz.isAgg41 Tryz.sizeOf41 _ _ w.heap.size [.int .i64 KK, .string tx, .int .i64 n0, .slice sa sn sc] _ rfl rfl rfl S4.out) rfl (by
          rw [← HOQ0.out]
          refine FIN.out w6 _ _ _ _ ⟨KK, tx, n0, ss⟩ VA.out ⟨_, rfl, VA.out.strs HV.out rfl HST.out⟩ ?_
          unfold ownVal
          rw [← HZ.out, if_pos (by rw [List.eq_nil_of_length_eq_zero HMZ.out.symm]; rfl), HKK.out])
      · have hzne : zs ≠ [] := fun e => h0 (by have := HMZ.out; rw [e] at this; exact this)
        have hrz := R6.out
        rcases hrz with ⟨_, q⟩ | ⟨g6, cp6, q, hg6, hg6l, hcp6, hH6⟩
        · exact absurd q hzne
        obtain ⟨hp6, hc6⟩ : p6 = some ⟨g6, 0, none⟩ ∧ c6 = cp6 := by injection q with q1 _ q2; exact ⟨q1, q2⟩
        subst hp6 hc6
        have HH6 := hid hH6
        have hKd : KK = 1 ∨ KK = 2 ∨ KK = 3 := by
          have hp := List.length_pos_iff.2 hzne
          obtain ⟨e1, e2⟩ := EZ.out zs[0] (List.getElem_mem _)
          have e3 : (zs[0].op).kind = KK := e2
          rw [← e3]
          exact (opOk e1).1
        have hown : Hid (ownOf ⟨k0, tx, n0, ss⟩ oq ≠ []) := (show _ ≠ _ from by rw [← HZ.out]; simpa using hzne)
        have hm0 : ((mz : Int) == 0) = false := by rw [beq_eq_false_iff_ne]; omega
        clear q hH6 R6
        rcases hKd with hK | hK | hK
        · subst hK
          obtain ⟨j, hj⟩ : ∃ j, mz = j + 1 := ⟨mz - 1, by omega⟩
          have hjz : j < zs.length := by have := HMZ.out; omega
          obtain ⟨u, hu⟩ : ∃ u, u = zs[j]! := ⟨_, rfl⟩
          have c3 := (holdsO_cells HH6.out (j := j) (u := u) (by simpa using hjz) (by rw [hu, getElem!_pos zs.toArray j (by simpa using hjz), getElem!_pos zs j hjz]; simp)).2.2.2.1
          have hlast : Hid (((ownOf ⟨k0, tx, n0, ss⟩ oq).getLast?.map (·.text)).getD ByteArray.empty = u.text) := (show _ = _ from by
            rw [← HZ.out, List.getLast?_eq_getElem?, List.getElem?_map, List.length_map, ← HMZ.out, hj, Nat.add_sub_cancel, List.getElem?_eq_getElem hjz, hu, getElem!_pos zs j hjz]
            rfl)
          obtain ⟨ut, hut⟩ : ∃ ut, ut = u.text := ⟨_, rfl⟩
          rw [← hut] at c3 hlast
          have f1 : w6.frozen? ⟨vb, 1, none⟩ = false := by simp only [World.frozen?, VA.out.box]; simp
          have i1 : (mz : Int) - 1 = (j : Int) := by omega
          have i2 : j < mz := by omega
          have i3 : (j : Int) < (mz : Int) := by omega
          obtain ⟨wn, hwn⟩ : ∃ wn, wn = w6.setCell ⟨vb, 1, none⟩ (.string ut) := ⟨_, rfl⟩
          have VN : Hid (VaI w0 wc vb #[.int .i64 1, .string ut, .int .i64 n0, .slice sa sn sc] wn) := (show VaI _ _ _ _ _ from by rw [hwn]; exact VA.out.set hvb 1 _ ((heap_set VA.out.box _).trans rfl))
          clear hu hut hj hjz
          go_upto_region 21 with (fail)
          rw [← hwn]
          clear hwn c3 f1 i1 i2 i3
          have y0 : wn.cell? ⟨vb, 0, none⟩ = some (.int .i64 1) := (cell_of VN.out.box).trans rfl
          have y1 : wn.cell? ⟨vb, 1, none⟩ = some (.string ut) := (cell_of VN.out.box).trans rfl
          have y2 : wn.cell? ⟨vb, 2, none⟩ = some (.int .i64 n0) := (cell_of VN.out.box).trans rfl
          have y3 : wn.cell? ⟨vb, 3, none⟩ = some (.slice sa sn sc) := (cell_of VN.out.box).trans rfl
          have hrn := (VN.out.below.block _ hwr).trans R0.out
          have R4n := hid (row4 hrn)
          have S4 := hid (set4 hrn [.int .i64 1, .string ut, .int .i64 n0, .slice sa sn sc] rfl)
          clear hrn R4 z0 z1 z2 z3
          go_wp2_with (refine wpList_store_k _ rfl (.tmp 4) (.tmp 94) 41 rfl w.heap.size 0 [.int .i64 1, .string ut, .int .i64 n0, .slice sa sn sc] rfl rfl 4 rfl Tryz.sizeOf41 rfl _ ?hW R4n.out.1 R4n.out.2 ?_; case hW => rfl)
          exact bodyPost_ret (ret_cell_tmp (k := 4) Tryz.results33 Tryz.isAgg41 Tryz.sizeOf41 _ _ w.heap.size [.int .i64 1, .string ut, .int .i64 n0, .slice sa sn sc] _ rfl rfl rfl S4.out) rfl (by
            rw [← HOQ0.out]
            refine FIN.out wn _ _ _ _ ⟨1, ut, n0, ss⟩ VN.out ⟨_, rfl, VN.out.strs HV.out rfl HST.out⟩ ?_
            unfold ownVal
            rw [if_neg hown.out, HKK.out, if_pos rfl, hlast.out])
        · subst hK
          have f2 : w6.frozen? ⟨vb, 2, none⟩ = false := by simp only [World.frozen?, VA.out.box]; simp
          have hbd : Hid (∀ k, k ≤ mz → -(1099511627776 * k) ≤ sumO ((zs.take k).map Dd.op) ∧ sumO ((zs.take k).map Dd.op) ≤ 1099511627776 * k) := (show ∀ k, _ → _ from fun k hk => sumO_bd (fun x hx => (opOk (EZ.out x hx).1).2.1) (fun x hx => (opOk (EZ.out x hx).1).2.2.1) k (by have := HMZ.out; omega))
          go_upto_region 14 with (fail)
          go_wp2
          go_loopw [67] (fun i wr => ∃ k : Nat, k ≤ mz ∧ i = .int .i64 k ∧ Hid (VaI w0 wc vb #[.int .i64 2, .string tx, .int .i64 (n0 + sumO ((zs.take k).map Dd.op)), .slice sa sn sc] wr) ∧ Hid (∀ b, wc.heap.size ≤ b → b < w6.heap.size → wr.heap[b]? = w6.heap[b]?)) (fun i _ => mz - (intOf i).toNat)
          case atStart => exact ⟨0, Nat.zero_le _, rfl, hid (p := VaI w0 wc vb #[.int .i64 2, .string tx, .int .i64 (n0 + sumO ((zs.take 0).map Dd.op)), .slice sa sn sc] w6) (by
            have e : n0 + sumO ((zs.take 0).map Dd.op) = n0 := by simp [sumO]
            rw [e]
            exact VA.out), fun _ _ _ => rfl⟩
          case round =>
            obtain ⟨k, hk, rfl, HI, HU⟩ := hrel
            by_cases hlt : k < mz
            · have hkz : k < zs.length := by have := HMZ.out; omega
              obtain ⟨u, hu⟩ : ∃ u, u = zs[k]! := ⟨_, rfl⟩
              have hHr : HoldsK Dd.enc7 7 wr g6 0 zs.toArray := by
                have e := HU.out g6 hg6 hg6l
                have hH := HH6.out
                rw [holdsO_iff] at hH ⊢
                intro j hj t ht
                have := hH j hj t ht
                simp only [World.cell?, World.frozen?, e]
                simpa only [World.cell?, World.frozen?] using this
              obtain ⟨c0, c1, c2, c3, c4, c5', c6'⟩ := holdsO_cells hHr (j := k) (u := u) (by simpa using hkz) (by rw [hu, getElem!_pos zs.toArray k (by simpa using hkz), getElem!_pos zs k hkz]; simp)
              obtain ⟨sm, hsm⟩ : ∃ sm, sm = n0 + sumO ((zs.take k).map Dd.op) := ⟨_, rfl⟩
              have hst : n0 + sumO ((zs.take (k + 1)).map Dd.op) = sm + u.n := by
                rw [hsm, List.take_succ_eq_append_getElem hkz, List.map_append, hu, getElem!_pos zs k hkz]
                unfold sumO
                rw [List.foldl_append]
                show n0 + (_ + _) = _
                rw [Int.add_assoc]
                rfl
              have hb1 := hbd.out k hk
              have hu1 := opOk (EZ.out u (by rw [hu, getElem!_pos zs k hkz]; exact List.getElem_mem _)).1
              have hu2 : -1099511627776 ≤ u.n := hu1.2.1
              have hu3 : u.n ≤ 1099511627776 := hu1.2.2.1
              have hs1 : -(1099511627776 * 1012) ≤ sm := by have := hnb.1; omega
              have hs2 : sm ≤ 1099511627776 * 1012 := by have := hnb.2; omega
              rw [← hsm] at HI
              have d2 : wr.cell? ⟨vb, 2, none⟩ = some (.int .i64 sm) := (cell_of HI.out.box).trans rfl
              have e2 := fun o => cell_alloc d2 o
              have f2 : ∀ o, (wr.alloc o).frozen? ⟨vb, 2, none⟩ = false := fun o => by simp only [World.frozen?, heap_old HI.out.box o]; simp
              have HS1 := hid hst
              clear hu hsm hst hb1 hu1 hHr
              obtain ⟨x1, x2, x3, x4, x5, x6, dp, dl, dc, x8, x9, xd⟩ := u
              simp only at c0 c1 c2 c3 c4 c5' c6' hu2 hu3 HS1
              go_wp2
              refine ⟨⟨k + 1, by omega, by go_num, ?_, ?_⟩, by simp [intOf]; omega⟩
              · rw [HS1.out]
                exact (HI.out.step hvl hwc ((below_alloc _ _).mono HI.out.size)).set hvb 2 _ ((heap_set (heap_old HI.out.box _) _).trans rfl)
              · intro b h1 h2
                rw [Below.heap_setCell _ _ _ _ (by show b ≠ vb; omega), Below.heap_alloc _ _ _ (by
                  have e := HU.out b h1 h2
                  have : w6.heap[b]? = some w6.heap[b] := Array.getElem?_eq_getElem h2
                  rw [this] at e
                  exact (Array.getElem?_eq_some_iff.1 e).1)]
                exact HU.out b h1 h2
            · have hkm : mz = k := by omega
              subst hkm
              rw [List.take_of_length_le (by have := HMZ.out; omega), HZ.out] at HI
              obtain ⟨sm, hsm⟩ : ∃ sm, sm = n0 + sumO (ownOf ⟨k0, tx, n0, ss⟩ oq) := ⟨_, rfl⟩
              rw [← hsm] at HI
              have VN := HI
              have HSM := hid hsm
              clear hsm HU hbd f2
              have y0 : wr.cell? ⟨vb, 0, none⟩ = some (.int .i64 2) := (cell_of VN.out.box).trans rfl
              have y1 : wr.cell? ⟨vb, 1, none⟩ = some (.string tx) := (cell_of VN.out.box).trans rfl
              have y2 : wr.cell? ⟨vb, 2, none⟩ = some (.int .i64 sm) := (cell_of VN.out.box).trans rfl
              have y3 : wr.cell? ⟨vb, 3, none⟩ = some (.slice sa sn sc) := (cell_of VN.out.box).trans rfl
              have hrn := (VN.out.below.block _ hwr).trans R0.out
              have R4n := hid (row4 hrn)
              have S4 := hid (set4 hrn [.int .i64 2, .string tx, .int .i64 sm, .slice sa sn sc] rfl)
              clear hrn R4 z0 z1 z2 z3
              go_wp2_with (refine wpList_store_k _ rfl (.tmp 4) (.tmp 94) 41 rfl w.heap.size 0 [.int .i64 2, .string tx, .int .i64 sm, .slice sa sn sc] rfl rfl 4 rfl Tryz.sizeOf41 rfl _ ?hW R4n.out.1 R4n.out.2 ?_; case hW => rfl)
              exact bodyPost_ret (ret_cell_tmp (k := 4) Tryz.results33 Tryz.isAgg41 Tryz.sizeOf41 _ _ w.heap.size [.int .i64 2, .string tx, .int .i64 sm, .slice sa sn sc] _ rfl rfl rfl S4.out) rfl (by
                rw [← HOQ0.out]
                refine FIN.out wr _ _ _ _ ⟨2, tx, sm, ss⟩ VN.out ⟨_, rfl, VN.out.strs HV.out rfl HST.out⟩ ?_
                unfold ownVal
                rw [if_neg hown.out, HKK.out, if_neg (by decide), if_pos rfl, HSM.out])
        · subst hK
          have f3 : ∀ W : World, W.heap[vb]? = some (.cells #[.int .i64 3, .string tx, .int .i64 n0, .slice sa sn sc] 41 (0, 0)) → W.frozen? ⟨vb, 3, none⟩ = false ∧ W.cell? ⟨vb, 3, none⟩ = some (.slice sa sn sc) := fun W hW => ⟨by simp only [World.frozen?, hW]; simp, (cell_of hW).trans rfl⟩
          have F3 := hid f3
          have K56 := hid (textsT_any w6 xb pb aa an ac ov key (.slice sa sn sc) ss g6 mz c6 zs ds ((VA.out.below.block _ hx0).trans TB.out) (VA.out.strs HV.out rfl HST.out) hsl HMZ.out.symm hm12 hg6l HH6.out GZ.out (fun x hx => (opOk (EZ.out x hx).1).2.2.2) (fun hss => kind_three HX.out HKD.out hss) (fun text W hW => HK86.out text W (VA.out.below.trans (hW.mono VA.out.below.size))))
          clear f3
          go_upto_region 21 with (go_at_call 56; refine K56.out.mono ?_; rintro e w7 ⟨v7, rfl, hs7, hb7⟩; obtain ⟨a7, n7, c7, hv7⟩ : ∃ a7 n7 c7, v7 = .slice a7 n7 c7 := (by obtain ⟨a7, c7, q, _⟩ := hs7; exact ⟨_, _, _, q⟩); subst hv7; have S7 := hid hs7; have VA7 := hid (VA.out.step hvl hwc (hb7.mono VA.out.size)); obtain ⟨y3f, y3c⟩ := F3.out w7 VA7.out.box; clear hs7 hb7)
          obtain ⟨wn, hwn⟩ : ∃ wn, wn = w7.setCell ⟨vb, 3, none⟩ (.slice a7 n7 c7) := ⟨_, rfl⟩
          have VN : Hid (VaI w0 wc vb #[.int .i64 3, .string tx, .int .i64 n0, .slice a7 n7 c7] wn) := (show VaI _ _ _ _ _ from by rw [hwn]; exact VA7.out.set hvb 3 _ ((heap_set VA7.out.box _).trans rfl))
          have SN : Hid (StrsAt wn (.slice a7 n7 c7) (setA (ownTexts ds ss (zs.map Dd.op)))) := (show StrsAt _ _ _ from strs_set S7.out VA7.out.box rfl fun b _ h2 => by rw [hwn]; exact Below.heap_setCell _ _ _ _ h2)
          rw [← hwn]
          clear hwn y3f y3c
          have y0 : wn.cell? ⟨vb, 0, none⟩ = some (.int .i64 3) := (cell_of VN.out.box).trans rfl
          have y1 : wn.cell? ⟨vb, 1, none⟩ = some (.string tx) := (cell_of VN.out.box).trans rfl
          have y2 : wn.cell? ⟨vb, 2, none⟩ = some (.int .i64 n0) := (cell_of VN.out.box).trans rfl
          have y3 : wn.cell? ⟨vb, 3, none⟩ = some (.slice a7 n7 c7) := (cell_of VN.out.box).trans rfl
          have hrn := (VN.out.below.block _ hwr).trans R0.out
          have R4n := hid (row4 hrn)
          have S4 := hid (set4 hrn [.int .i64 3, .string tx, .int .i64 n0, .slice a7 n7 c7] rfl)
          clear hrn R4 z0 z1 z2 z3
          go_wp2_with (refine wpList_store_k _ rfl (.tmp 4) (.tmp 94) 41 rfl w.heap.size 0 [.int .i64 3, .string tx, .int .i64 n0, .slice a7 n7 c7] rfl rfl 4 rfl Tryz.sizeOf41 rfl _ ?hW R4n.out.1 R4n.out.2 ?_; case hW => rfl)
          exact bodyPost_ret (ret_cell_tmp (k := 4) Tryz.results33 Tryz.isAgg41 Tryz.sizeOf41 _ _ w.heap.size [.int .i64 3, .string tx, .int .i64 n0, .slice a7 n7 c7] _ rfl rfl rfl S4.out) rfl (by
            rw [← HOQ0.out]
            refine FIN.out wn _ _ _ _ ⟨3, tx, n0, setA (ownTexts ds ss (zs.map Dd.op))⟩ VN.out ⟨_, rfl, SN.out⟩ ?_
            unfold ownVal
            rw [if_neg hown.out, HKK.out, if_neg (by decide), if_neg (by decide), HZ.out])
    · have hxne : xs ≠ [] := fun e => by have := HLX.out; rw [e] at this; simp at this; omega
      obtain ⟨KK, hKK⟩ : ∃ KK, KK = xs[0]!.kind := ⟨_, rfl⟩
      have HKK : Hid (ownKind ⟨k0, tx, n0, ss⟩ oq = KK) := (show _ = _ from by
        unfold ownKind
        rw [if_pos hk, ← X5.out, hKK]
        cases xs with
        | nil => exact absurd rfl hxne
        | cons a r => rfl)
      have hr5 := R5.out
      rcases hr5 with ⟨_, q⟩ | ⟨g5, cp5, q, hg5, hg5l, hcp5, hH5⟩
      · exact absurd q hxne
      obtain ⟨hp5, hc5⟩ : p5 = some ⟨g5, 0, none⟩ ∧ c5 = cp5 := by injection q with q1 _ q2; exact ⟨q1, q2⟩
      subst hp5 hc5
      have kc : w5.cell? ⟨g5, 2, none⟩ = some (.int .i64 KK) := by
        have := (holdsO_cells hH5 (j := 0) (u := xs[0]!) (by have := List.length_pos_iff.2 hxne; simpa using this) (by have := List.length_pos_iff.2 hxne; rw [getElem!_pos xs.toArray 0 (by simpa using this), getElem!_pos xs 0 this]; simp)).2.2.1
        rw [hKK]
        simpa using this
      have yf : w5.frozen? ⟨vb, 0, none⟩ = false := by simp only [World.frozen?, V5.out]; simp
      obtain ⟨wk, hwk⟩ : ∃ wk, wk = w5.setCell ⟨vb, 0, none⟩ (.int .i64 KK) := ⟨_, rfl⟩
      have VAk : VaI w0 wc vb #[.int .i64 KK, .string tx, .int .i64 n0, .slice sa sn sc] wk := by rw [hwk]; exact VA5.out.set hvb 0 _ ((heap_set V5.out _).trans rfl)
      have VA5k := hid VAk
      have K54 := hid (delKind wk wc.heap.size vb KK _ _ _ (some ⟨g5, 0, none⟩) c5 lx xs HLX.out VAk.box (rowO_keep R5.out fun b hb => by rw [hwk]; exact Below.heap_setCell _ _ _ _ (Nat.ne_of_gt (Nat.lt_of_lt_of_le hvl hb))) hvl hl12)
      have hk' : (k0 == 0) = true := by simpa using hk
      have hz' : (0 : Int) < (lx : Int) := by omega
      clear hKK hk q VAk
      go_upto_region 7 with (fail)
      rw [← hwk]
      clear hwk kc yf y0
      go_upto_region 8 with (go_at_call 54; refine K54.out.mono ?_; rintro e w6 ⟨p6, c6, rfl, hR6, hb6⟩; have R6 := hid hR6; have VA := hid (VA5k.out.step hvl hwc hb6); clear hR6 hb6)
      clear K54 VA5k hk' hz' hz hH5 hg5 hg5l hcp5
      obtain ⟨zs, hzs⟩ : ∃ zs, zs = xs.filter fun x => decide (x.kind = KK) := ⟨_, rfl⟩
      rw [← hzs] at R6 ⊢
      have HZ : Hid (zs.map Dd.op = ownOf ⟨k0, tx, n0, ss⟩ oq) := (show _ = _ from by
        unfold ownOf
        rw [HKK.out, ← X5.out, List.filter_map, hzs]
        rfl)
      have GZ : Hid (∀ x ∈ zs, GoodD w6 x) := (show ∀ x ∈ zs, _ from fun x hx => by
        rw [hzs] at hx
        exact (G5.out x (List.mem_filter.1 hx).1).mono VA.out.below (Nat.le_refl _))
      have EZ : Hid (∀ x ∈ zs, opErr x.op 1 = 0 ∧ x.kind = KK) := (show ∀ x ∈ zs, _ from fun x hx => by
        rw [hzs] at hx
        refine ⟨HOQ.out x.op ?_, of_decide_eq_true (List.mem_filter.1 hx).2⟩
        rw [← X5.out]
        exact List.mem_map.2 ⟨x, (List.mem_filter.1 hx).1, rfl⟩)
      obtain ⟨mz, hmz⟩ : ∃ mz, mz = zs.length := ⟨_, rfl⟩
      have hm12 : mz ≤ 12 := by rw [hmz, hzs]; have := HLX.out; exact Nat.le_trans (List.length_filter_le _ _) (by omega)
      rw [← hmz] at R6 ⊢
      have HMZ := hid hmz
      have hr6 := (VA.out.below.block _ hwr).trans R0.out
      have z0 : w6.cell? ⟨vb, 0, none⟩ = some (.int .i64 KK) := (cell_of VA.out.box).trans rfl
      have z1 : w6.cell? ⟨vb, 1, none⟩ = some (.string tx) := (cell_of VA.out.box).trans rfl
      have z2 : w6.cell? ⟨vb, 2, none⟩ = some (.int .i64 n0) := (cell_of VA.out.box).trans rfl
      have z3 : w6.cell? ⟨vb, 3, none⟩ = some (.slice sa sn sc) := (cell_of VA.out.box).trans rfl
      have R4 := hid (row4 hr6)
      have HR6 := hid hr6
      have FIN := hid (fun (W : World) (a b c d : Value) (x : ValV) (hW : VaI w0 wc vb #[a, b, c, d] W) (hx : ValAt W (.agg #[a, b, c, d]) x) (hv : ownVal ds ⟨k0, tx, n0, ss⟩ oq = x) => va_fin w w0 wc W vb R0.out hwr B0.out hW hx hv)
      clear hzs hmz X5 G5 VA5 V5 R5 B5 hr6
      by_cases h0 : mz = 0
      · subst h0
        have S4 := hid (set4 HR6.out [.int .i64 KK, .string tx, .int .i64 n0, .slice sa sn sc] rfl)
        go_wp2_with (refine wpList_store_k _ rfl (.tmp 4) (.tmp 50) 41 rfl w.heap.size 0 [.int .i64 KK, .string tx, .int .i64 n0, .slice sa sn sc] rfl rfl 4 rfl Tryz.sizeOf41 rfl _ ?hW R4.out.1 R4.out.2 ?_; case hW => rfl)
        exact bodyPost_ret (ret_cell_tmp (k := 4) Tryz.results33 Tryz.isAgg41 Tryz.sizeOf41 _ _ w.heap.size [.int .i64 KK, .string tx, .int .i64 n0, .slice sa sn sc] _ rfl rfl rfl S4.out) rfl (by
          rw [← HOQ0.out]
          refine FIN.out w6 _ _ _ _ ⟨KK, tx, n0, ss⟩ VA.out ⟨_, rfl, VA.out.strs HV.out rfl HST.out⟩ ?_
          unfold ownVal
          rw [← HZ.out, if_pos (by rw [List.eq_nil_of_length_eq_zero HMZ.out.symm]; rfl), HKK.out])
      · have hzne : zs ≠ [] := fun e => h0 (by have := HMZ.out; rw [e] at this; exact this)
        have hrz := R6.out
        rcases hrz with ⟨_, q⟩ | ⟨g6, cp6, q, hg6, hg6l, hcp6, hH6⟩
        · exact absurd q hzne
        obtain ⟨hp6, hc6⟩ : p6 = some ⟨g6, 0, none⟩ ∧ c6 = cp6 := by injection q with q1 _ q2; exact ⟨q1, q2⟩
        subst hp6 hc6
        have HH6 := hid hH6
        have hKd : KK = 1 ∨ KK = 2 ∨ KK = 3 := by
          have hp := List.length_pos_iff.2 hzne
          obtain ⟨e1, e2⟩ := EZ.out zs[0] (List.getElem_mem _)
          have e3 : (zs[0].op).kind = KK := e2
          rw [← e3]
          exact (opOk e1).1
        have hown : Hid (ownOf ⟨k0, tx, n0, ss⟩ oq ≠ []) := (show _ ≠ _ from by rw [← HZ.out]; simpa using hzne)
        have hm0 : ((mz : Int) == 0) = false := by rw [beq_eq_false_iff_ne]; omega
        clear q hH6 R6
        rcases hKd with hK | hK | hK
        · subst hK
          obtain ⟨j, hj⟩ : ∃ j, mz = j + 1 := ⟨mz - 1, by omega⟩
          have hjz : j < zs.length := by have := HMZ.out; omega
          obtain ⟨u, hu⟩ : ∃ u, u = zs[j]! := ⟨_, rfl⟩
          have c3 := (holdsO_cells HH6.out (j := j) (u := u) (by simpa using hjz) (by rw [hu, getElem!_pos zs.toArray j (by simpa using hjz), getElem!_pos zs j hjz]; simp)).2.2.2.1
          have hlast : Hid (((ownOf ⟨k0, tx, n0, ss⟩ oq).getLast?.map (·.text)).getD ByteArray.empty = u.text) := (show _ = _ from by
            rw [← HZ.out, List.getLast?_eq_getElem?, List.getElem?_map, List.length_map, ← HMZ.out, hj, Nat.add_sub_cancel, List.getElem?_eq_getElem hjz, hu, getElem!_pos zs j hjz]
            rfl)
          obtain ⟨ut, hut⟩ : ∃ ut, ut = u.text := ⟨_, rfl⟩
          rw [← hut] at c3 hlast
          have f1 : w6.frozen? ⟨vb, 1, none⟩ = false := by simp only [World.frozen?, VA.out.box]; simp
          have i1 : (mz : Int) - 1 = (j : Int) := by omega
          have i2 : j < mz := by omega
          have i3 : (j : Int) < (mz : Int) := by omega
          obtain ⟨wn, hwn⟩ : ∃ wn, wn = w6.setCell ⟨vb, 1, none⟩ (.string ut) := ⟨_, rfl⟩
          have VN : Hid (VaI w0 wc vb #[.int .i64 1, .string ut, .int .i64 n0, .slice sa sn sc] wn) := (show VaI _ _ _ _ _ from by rw [hwn]; exact VA.out.set hvb 1 _ ((heap_set VA.out.box _).trans rfl))
          clear hu hut hj hjz
          go_upto_region 21 with (fail)
          rw [← hwn]
          clear hwn c3 f1 i1 i2 i3
          have y0 : wn.cell? ⟨vb, 0, none⟩ = some (.int .i64 1) := (cell_of VN.out.box).trans rfl
          have y1 : wn.cell? ⟨vb, 1, none⟩ = some (.string ut) := (cell_of VN.out.box).trans rfl
          have y2 : wn.cell? ⟨vb, 2, none⟩ = some (.int .i64 n0) := (cell_of VN.out.box).trans rfl
          have y3 : wn.cell? ⟨vb, 3, none⟩ = some (.slice sa sn sc) := (cell_of VN.out.box).trans rfl
          have hrn := (VN.out.below.block _ hwr).trans R0.out
          have R4n := hid (row4 hrn)
          have S4 := hid (set4 hrn [.int .i64 1, .string ut, .int .i64 n0, .slice sa sn sc] rfl)
          clear hrn R4 z0 z1 z2 z3
          go_wp2_with (refine wpList_store_k _ rfl (.tmp 4) (.tmp 94) 41 rfl w.heap.size 0 [.int .i64 1, .string ut, .int .i64 n0, .slice sa sn sc] rfl rfl 4 rfl Tryz.sizeOf41 rfl _ ?hW R4n.out.1 R4n.out.2 ?_; case hW => rfl)
          exact bodyPost_ret (ret_cell_tmp (k := 4) Tryz.results33 Tryz.isAgg41 Tryz.sizeOf41 _ _ w.heap.size [.int .i64 1, .string ut, .int .i64 n0, .slice sa sn sc] _ rfl rfl rfl S4.out) rfl (by
            rw [← HOQ0.out]
            refine FIN.out wn _ _ _ _ ⟨1, ut, n0, ss⟩ VN.out ⟨_, rfl, VN.out.strs HV.out rfl HST.out⟩ ?_
            unfold ownVal
            rw [if_neg hown.out, HKK.out, if_pos rfl, hlast.out])
        · subst hK
          have f2 : w6.frozen? ⟨vb, 2, none⟩ = false := by simp only [World.frozen?, VA.out.box]; simp
          have hbd : Hid (∀ k, k ≤ mz → -(1099511627776 * k) ≤ sumO ((zs.take k).map Dd.op) ∧ sumO ((zs.take k).map Dd.op) ≤ 1099511627776 * k) := (show ∀ k, _ → _ from fun k hk => sumO_bd (fun x hx => (opOk (EZ.out x hx).1).2.1) (fun x hx => (opOk (EZ.out x hx).1).2.2.1) k (by have := HMZ.out; omega))
          go_upto_region 14 with (fail)
          go_wp2
          go_loopw [67] (fun i wr => ∃ k : Nat, k ≤ mz ∧ i = .int .i64 k ∧ Hid (VaI w0 wc vb #[.int .i64 2, .string tx, .int .i64 (n0 + sumO ((zs.take k).map Dd.op)), .slice sa sn sc] wr) ∧ Hid (∀ b, wc.heap.size ≤ b → b < w6.heap.size → wr.heap[b]? = w6.heap[b]?)) (fun i _ => mz - (intOf i).toNat)
          case atStart => exact ⟨0, Nat.zero_le _, rfl, hid (p := VaI w0 wc vb #[.int .i64 2, .string tx, .int .i64 (n0 + sumO ((zs.take 0).map Dd.op)), .slice sa sn sc] w6) (by
            have e : n0 + sumO ((zs.take 0).map Dd.op) = n0 := by simp [sumO]
            rw [e]
            exact VA.out), fun _ _ _ => rfl⟩
          case round =>
            obtain ⟨k, hk, rfl, HI, HU⟩ := hrel
            by_cases hlt : k < mz
            · have hkz : k < zs.length := by have := HMZ.out; omega
              obtain ⟨u, hu⟩ : ∃ u, u = zs[k]! := ⟨_, rfl⟩
              have hHr : HoldsK Dd.enc7 7 wr g6 0 zs.toArray := by
                have e := HU.out g6 hg6 hg6l
                have hH := HH6.out
                rw [holdsO_iff] at hH ⊢
                intro j hj t ht
                have := hH j hj t ht
                simp only [World.cell?, World.frozen?, e]
                simpa only [World.cell?, World.frozen?] using this
              obtain ⟨c0, c1, c2, c3, c4, c5', c6'⟩ := holdsO_cells hHr (j := k) (u := u) (by simpa using hkz) (by rw [hu, getElem!_pos zs.toArray k (by simpa using hkz), getElem!_pos zs k hkz]; simp)
              obtain ⟨sm, hsm⟩ : ∃ sm, sm = n0 + sumO ((zs.take k).map Dd.op) := ⟨_, rfl⟩
              have hst : n0 + sumO ((zs.take (k + 1)).map Dd.op) = sm + u.n := by
                rw [hsm, List.take_succ_eq_append_getElem hkz, List.map_append, hu, getElem!_pos zs k hkz]
                unfold sumO
                rw [List.foldl_append]
                show n0 + (_ + _) = _
                rw [Int.add_assoc]
                rfl
              have hb1 := hbd.out k hk
              have hu1 := opOk (EZ.out u (by rw [hu, getElem!_pos zs k hkz]; exact List.getElem_mem _)).1
              have hu2 : -1099511627776 ≤ u.n := hu1.2.1
              have hu3 : u.n ≤ 1099511627776 := hu1.2.2.1
              have hs1 : -(1099511627776 * 1012) ≤ sm := by have := hnb.1; omega
              have hs2 : sm ≤ 1099511627776 * 1012 := by have := hnb.2; omega
              rw [← hsm] at HI
              have d2 : wr.cell? ⟨vb, 2, none⟩ = some (.int .i64 sm) := (cell_of HI.out.box).trans rfl
              have e2 := fun o => cell_alloc d2 o
              have f2 : ∀ o, (wr.alloc o).frozen? ⟨vb, 2, none⟩ = false := fun o => by simp only [World.frozen?, heap_old HI.out.box o]; simp
              have HS1 := hid hst
              clear hu hsm hst hb1 hu1 hHr
              obtain ⟨x1, x2, x3, x4, x5, x6, dp, dl, dc, x8, x9, xd⟩ := u
              simp only at c0 c1 c2 c3 c4 c5' c6' hu2 hu3 HS1
              go_wp2
              refine ⟨⟨k + 1, by omega, by go_num, ?_, ?_⟩, by simp [intOf]; omega⟩
              · rw [HS1.out]
                exact (HI.out.step hvl hwc ((below_alloc _ _).mono HI.out.size)).set hvb 2 _ ((heap_set (heap_old HI.out.box _) _).trans rfl)
              · intro b h1 h2
                rw [Below.heap_setCell _ _ _ _ (by show b ≠ vb; omega), Below.heap_alloc _ _ _ (by
                  have e := HU.out b h1 h2
                  have : w6.heap[b]? = some w6.heap[b] := Array.getElem?_eq_getElem h2
                  rw [this] at e
                  exact (Array.getElem?_eq_some_iff.1 e).1)]
                exact HU.out b h1 h2
            · have hkm : mz = k := by omega
              subst hkm
              rw [List.take_of_length_le (by have := HMZ.out; omega), HZ.out] at HI
              obtain ⟨sm, hsm⟩ : ∃ sm, sm = n0 + sumO (ownOf ⟨k0, tx, n0, ss⟩ oq) := ⟨_, rfl⟩
              rw [← hsm] at HI
              have VN := HI
              have HSM := hid hsm
              clear hsm HU hbd f2
              have y0 : wr.cell? ⟨vb, 0, none⟩ = some (.int .i64 2) := (cell_of VN.out.box).trans rfl
              have y1 : wr.cell? ⟨vb, 1, none⟩ = some (.string tx) := (cell_of VN.out.box).trans rfl
              have y2 : wr.cell? ⟨vb, 2, none⟩ = some (.int .i64 sm) := (cell_of VN.out.box).trans rfl
              have y3 : wr.cell? ⟨vb, 3, none⟩ = some (.slice sa sn sc) := (cell_of VN.out.box).trans rfl
              have hrn := (VN.out.below.block _ hwr).trans R0.out
              have R4n := hid (row4 hrn)
              have S4 := hid (set4 hrn [.int .i64 2, .string tx, .int .i64 sm, .slice sa sn sc] rfl)
              clear hrn R4 z0 z1 z2 z3
              go_wp2_with (refine wpList_store_k _ rfl (.tmp 4) (.tmp 94) 41 rfl w.heap.size 0 [.int .i64 2, .string tx, .int .i64 sm, .slice sa sn sc] rfl rfl 4 rfl Tryz.sizeOf41 rfl _ ?hW R4n.out.1 R4n.out.2 ?_; case hW => rfl)
              exact bodyPost_ret (ret_cell_tmp (k := 4) Tryz.results33 Tryz.isAgg41 Tryz.sizeOf41 _ _ w.heap.size [.int .i64 2, .string tx, .int .i64 sm, .slice sa sn sc] _ rfl rfl rfl S4.out) rfl (by
                rw [← HOQ0.out]
                refine FIN.out wr _ _ _ _ ⟨2, tx, sm, ss⟩ VN.out ⟨_, rfl, VN.out.strs HV.out rfl HST.out⟩ ?_
                unfold ownVal
                rw [if_neg hown.out, HKK.out, if_neg (by decide), if_pos rfl, HSM.out])
        · subst hK
          have f3 : ∀ W : World, W.heap[vb]? = some (.cells #[.int .i64 3, .string tx, .int .i64 n0, .slice sa sn sc] 41 (0, 0)) → W.frozen? ⟨vb, 3, none⟩ = false ∧ W.cell? ⟨vb, 3, none⟩ = some (.slice sa sn sc) := fun W hW => ⟨by simp only [World.frozen?, hW]; simp, (cell_of hW).trans rfl⟩
          have F3 := hid f3
          have K56 := hid (textsT_any w6 xb pb aa an ac ov key (.slice sa sn sc) ss g6 mz c6 zs ds ((VA.out.below.block _ hx0).trans TB.out) (VA.out.strs HV.out rfl HST.out) hsl HMZ.out.symm hm12 hg6l HH6.out GZ.out (fun x hx => (opOk (EZ.out x hx).1).2.2.2) (fun hss => kind_three HX.out HKD.out hss) (fun text W hW => HK86.out text W (VA.out.below.trans (hW.mono VA.out.below.size))))
          clear f3
          go_upto_region 21 with (go_at_call 56; refine K56.out.mono ?_; rintro e w7 ⟨v7, rfl, hs7, hb7⟩; obtain ⟨a7, n7, c7, hv7⟩ : ∃ a7 n7 c7, v7 = .slice a7 n7 c7 := (by obtain ⟨a7, c7, q, _⟩ := hs7; exact ⟨_, _, _, q⟩); subst hv7; have S7 := hid hs7; have VA7 := hid (VA.out.step hvl hwc (hb7.mono VA.out.size)); obtain ⟨y3f, y3c⟩ := F3.out w7 VA7.out.box; clear hs7 hb7)
          obtain ⟨wn, hwn⟩ : ∃ wn, wn = w7.setCell ⟨vb, 3, none⟩ (.slice a7 n7 c7) := ⟨_, rfl⟩
          have VN : Hid (VaI w0 wc vb #[.int .i64 3, .string tx, .int .i64 n0, .slice a7 n7 c7] wn) := (show VaI _ _ _ _ _ from by rw [hwn]; exact VA7.out.set hvb 3 _ ((heap_set VA7.out.box _).trans rfl))
          have SN : Hid (StrsAt wn (.slice a7 n7 c7) (setA (ownTexts ds ss (zs.map Dd.op)))) := (show StrsAt _ _ _ from strs_set S7.out VA7.out.box rfl fun b _ h2 => by rw [hwn]; exact Below.heap_setCell _ _ _ _ h2)
          rw [← hwn]
          clear hwn y3f y3c
          have y0 : wn.cell? ⟨vb, 0, none⟩ = some (.int .i64 3) := (cell_of VN.out.box).trans rfl
          have y1 : wn.cell? ⟨vb, 1, none⟩ = some (.string tx) := (cell_of VN.out.box).trans rfl
          have y2 : wn.cell? ⟨vb, 2, none⟩ = some (.int .i64 n0) := (cell_of VN.out.box).trans rfl
          have y3 : wn.cell? ⟨vb, 3, none⟩ = some (.slice a7 n7 c7) := (cell_of VN.out.box).trans rfl
          have hrn := (VN.out.below.block _ hwr).trans R0.out
          have R4n := hid (row4 hrn)
          have S4 := hid (set4 hrn [.int .i64 3, .string tx, .int .i64 n0, .slice a7 n7 c7] rfl)
          clear hrn R4 z0 z1 z2 z3
          go_wp2_with (refine wpList_store_k _ rfl (.tmp 4) (.tmp 94) 41 rfl w.heap.size 0 [.int .i64 3, .string tx, .int .i64 n0, .slice a7 n7 c7] rfl rfl 4 rfl Tryz.sizeOf41 rfl _ ?hW R4n.out.1 R4n.out.2 ?_; case hW => rfl)
          exact bodyPost_ret (ret_cell_tmp (k := 4) Tryz.results33 Tryz.isAgg41 Tryz.sizeOf41 _ _ w.heap.size [.int .i64 3, .string tx, .int .i64 n0, .slice a7 n7 c7] _ rfl rfl rfl S4.out) rfl (by
            rw [← HOQ0.out]
            refine FIN.out wn _ _ _ _ ⟨3, tx, n0, setA (ownTexts ds ss (zs.map Dd.op))⟩ VN.out ⟨_, rfl, SN.out⟩ ?_
            unfold ownVal
            rw [if_neg hown.out, HKK.out, if_neg (by decide), if_neg (by decide), HZ.out])
end Go.Proofs.YtepnghacjggkkaaGreatDoor
