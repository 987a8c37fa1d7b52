/- Messages come to places: arrive; A session reads; a session without ops of its own, and with one; A session writes its first op: Add, Set; SessionSees: a session among n places; The closed fact of the laws of sessions: opened; SessionSees: what each call of a visit comes to. -/
import Derived.Test.YtepnghacjggkkaaGreatDoorJYE
import Derived.Test.YtepnghacjggkkaaGreatDoorJYF
import Derived.Deep.RegionHeld
import Derived.Test.YtepnghacjggkkaaGreatDoorJYJ
import Derived.Test.YtepnghacjggkkaaGreatDoorJHE
import Derived.Test.YtepnghacjggkkaaGreatDoorJLG
import Derived.Test.YtepnghacjggkkaaGreatDoorJWMath2
import Derived.Test.YtepnghacjggkkaaGreatDoorJECode
namespace Go.Proofs.YtepnghacjggkkaaGreatDoor
open Go.RowKit Go.Maps
set_option maxRecDepth 100000
set_option linter.unusedSectionVars false
variable [Inhabited ComV] [DecidableEq D3] [Inhabited D3] [Inhabited Dd] [Inhabited Dn] [Inhabited OpV]

def ptrs (H : Nat → PlH) (n : Nat) : List Value := (List.range n).map fun i => .pointer (some ⟨(H i).pb, 0, none⟩)
variable {wb : World} {n k t : Nat} {C : List ComV} {U : List MsgV} {H : Nat → PlH} {V : Nat → PlV}
theorem ptr_cell {w : World} {B pb pc : Nat} (h : w.ownsRow B 30 1 (.slice (some ⟨pb, 0, none⟩) n pc) n (ptrs H n)) {j : Nat} (hj : j < n) : w.cell? ⟨pb, j, none⟩ = some (.pointer (some ⟨(H j).pb, 0, none⟩)) := by
  obtain ⟨n', rfl⟩ : ∃ n', n = n' + 1 := ⟨n - 1, by omega⟩
  exact row_cellsY h j _ (by unfold ptrs; simp [hj])
theorem f2_nth {α β : Type} {R : α → β → Prop} : ∀ {l : List α} {m : List β}, F2 R l m → ∀ (i : Nat) (x : α), l[i]? = some x → ∃ y, m[i]? = some y ∧ R x y
  | [], [], _, i, x, hx => by simp at hx
  | a :: l, b :: m, ⟨h1, h2⟩, 0, x, hx => by
    obtain rfl : a = x := by simpa using hx
    exact ⟨b, rfl, h1⟩
  | a :: l, b :: m, ⟨h1, h2⟩, i + 1, x, hx => f2_nth h2 i x (by simpa using hx)
  | [], _ :: _, h, _, _, _ => h.elim
  | _ :: _, [], h, _, _, _ => h.elim
set_option maxHeartbeats 16000000 in
theorem arrive_ok (A : Nat → Addr) (w : World) (hS : Sen A wb.heap.size wb) (a : NetAt wb n H V w) (hN : NetI n k C t U H V) (n1 : 1 ≤ n) (n6 : n ≤ 6) (ht : t ≤ 60) (B Bs pb pc : Nat) (hps : w.ownsRow B 30 1 (.slice (some ⟨pb, 0, none⟩) n pc) n (ptrs H n)) (hpo : Off n H V pb) (la : Option Addr) (lc : Nat) (rs : List Raw) (hR : SentRow n H V Bs (.slice la rs.length lc) rs U w) (hl : rs.length ≤ 9223372036854775807) :
    Calls Tryz.prog 8 #[.slice (some ⟨pb, 0, none⟩) n pc, .slice la rs.length lc] w fun e w' => ∃ (H' : Nat → PlH) (V' : Nat → PlV), e = .returned (.bool true) ∧ NetAt wb n H' V' w' ∧ NetI n k C t [] H' V' ∧ NetMv n w w' H V H' V' := by
  have hul : rs.length = U.length := f2_len hR.own
  obtain ⟨l, hle⟩ : ∃ l, l = rs.length := ⟨_, rfl⟩
  rw [← hle] at hR hl hul
  rw [← hle]
  have HL := hid hle
  have HS := hid hS
  have HR := hid hR
  have HPS := hid hps
  have HPO := hid hpo
  have HUL := hid hul
  have hpl : pb < w.heap.size := by
    have := ptr_cell hps (j := 0) (by omega)
    exact lt_of_cell this
  have I0 : Hid (NetAt wb n H V w ∧ NetI n k C t (U.drop 0) H V ∧ NetMv n w w H V H V) := (show _ ∧ _ from ⟨a, hN, NetMv.refl⟩)
  have i0 : (1 : Int) ≤ n := by omega
  clear a hN hR hps hpo hle hul hS
  go_enter Tryz.func8, Tryz.ntmps8
  go_wp2_with (fail)
  go_loopw [5] (fun i wr => ∃ (m : Nat) (Hm : Nat → PlH) (Vm : Nat → PlV), m ≤ l ∧ i = .int .i64 m ∧ Hid (NetAt wb n Hm Vm wr ∧ NetI n k C t (U.drop m) Hm Vm ∧ NetMv n w wr H V Hm Vm)) (fun i _ => l - (intOf i).toNat)
  case atStart => exact ⟨0, H, V, Nat.zero_le _, rfl, I0⟩
  case round =>
    clear I0
    obtain ⟨m, Hm, Vm, hm, rfl, HI⟩ := hrel
    by_cases hlt : m < l
    · have z4 : (m : Int) < (l : Int) := by omega
      obtain ⟨I1, I2, I3⟩ := HI.out
      obtain ⟨r, hr⟩ : ∃ r, rs[m]? = some r := ⟨_, List.getElem?_eq_getElem (by have := HL.out; omega)⟩
      obtain ⟨x, hx, hown⟩ := f2_nth HR.out.own m r hr
      have hxm : U.drop m = x :: U.drop (m + 1) := by
        obtain ⟨h1, h2⟩ := List.getElem?_eq_some_iff.1 hx
        rw [List.drop_eq_getElem_cons h1, h2]
      rw [hxm] at I2
      obtain ⟨i, j, s, hi, hj, hij, hs, hon, _⟩ := I2.msg x (by simp)
      have hrow := (I3.own HR.out.row HR.out.off).1
      obtain ⟨lb, hla, hbl, hcell⟩ := row_raw hrow rfl hr
      subst hla
      have hlo : Off n Hm Vm lb := (I3.own HR.out.row HR.out.off).2 lb hbl
      have hown' : RawOwn 0 wr r x := hown.kept I3.keeps
      have hps' : wr.cell? ⟨pb, j, none⟩ = some (.pointer (some ⟨(Hm j).pb, 0, none⟩)) := by
        rw [I3.pb j hj]
        exact (World.cell?_of_block (a := ⟨pb, j, none⟩) (I3.off pb hpl HPO.out).2).trans (ptr_cell HPS.out hj)
      have hpo' : Off n Hm Vm pb := (I3.off pb hpl HPO.out).1
      have hx2 : r.x2 = j := hown'.nums.x2.trans hon.2.1
      have K24 : Hid (∀ W, Below wr.heap.size wr W → Calls Tryz.prog 24 #[.pointer (some ⟨(Hm j).pb, 0, none⟩), .agg r.cells.toArray] W fun e W' => ∃ (a6 : Option Addr) (c6 : Nat), e = .returned (.tuple #[.slice a6 1 c6, .nilIface]) ∧ (∀ q, q = lb ∨ q = pb → W'.heap[q]? = wr.heap[q]?) ∧ ∃ (H' : Nat → PlH) (V' : Nat → PlV), NetAt wb n H' V' W' ∧ NetI n k C t (U.drop (m + 1)) H' V' ∧ NetMv n w W' H V H' V') := (show ∀ W, _ → _ from fun W hW => by
        refine (net_hear A ((HS.out.below (I1.below hW).bel)) (I1.below hW) I2 n1 n6 ht hon.2.1 r (hown'.kept (keeps_bel hW))).mono ?_
        rintro e W' ⟨h', v', a6, c6, he, hpb, hM, hA, hN'⟩
        have mv : NetMv n wr W' Hm Vm (updP Hm j h') (updP Vm j v') := (NetMv.below hW).trans (NetMv.of hj hM hpb)
        have ll : lb < wr.heap.size := lt_of_cell (hcell 0 (.int .i64 r.x1) rfl)
        refine ⟨a6, c6, he, fun q hq => ?_, _, _, hA, hN', I3.trans mv⟩
        rcases hq with rfl | rfl
        · exact (mv.off _ ll hlo).2
        · exact (mv.off _ (lt_of_cell hps') hpo').2)
      obtain ⟨x1, x2, x3, x4, x5, x6, a1, n1', c1, pp, a2, n2, c2⟩ := r
      obtain rfl : x2 = (j : Int) := hx2
      have u0 : wr.cell? ⟨lb, m * 9, none⟩ = some (.int .i64 x1) := hcell 0 _ rfl
      have u1 : wr.cell? ⟨lb, m * 9 + 1, none⟩ = some (.int .i64 (j : Int)) := hcell 1 _ rfl
      have u2 : wr.cell? ⟨lb, m * 9 + 2, none⟩ = some (.int .i64 x3) := hcell 2 _ rfl
      have u3 : wr.cell? ⟨lb, m * 9 + 3, none⟩ = some (.int .i64 x4) := hcell 3 _ rfl
      have u4 : wr.cell? ⟨lb, m * 9 + 4, none⟩ = some (.int .i64 x5) := hcell 4 _ rfl
      have u5 : wr.cell? ⟨lb, m * 9 + 5, none⟩ = some (.bool x6) := hcell 5 _ rfl
      have u6 : wr.cell? ⟨lb, m * 9 + 6, none⟩ = some (.slice a1 n1' c1) := hcell 6 _ rfl
      have u7 : wr.cell? ⟨lb, m * 9 + 7, none⟩ = some (.int .i64 pp) := hcell 7 _ rfl
      have u8 : wr.cell? ⟨lb, m * 9 + 8, none⟩ = some (.slice a2 n2 c2) := hcell 8 _ rfl
      have j0 : (0 : Int) ≤ (j : Int) := by omega
      have j1 : (j : Int) < (n : Int) := by omega
      clear I1 I2 I3 HI hcell hrow hown hown' hx hr hxm hon
      go_upto_region 6 with (fail)
      go_region_held (fun u => u.cell? ⟨pb, j, none⟩ = some (.pointer (some ⟨(Hm j).pb, 0, none⟩)) ∧ u.cell? ⟨lb, m * 9, none⟩ = some (.int .i64 x1) ∧ u.cell? ⟨lb, m * 9 + 1, none⟩ = some (.int .i64 (j : Int)) ∧ u.cell? ⟨lb, m * 9 + 2, none⟩ = some (.int .i64 x3) ∧ u.cell? ⟨lb, m * 9 + 3, none⟩ = some (.int .i64 x4) ∧ u.cell? ⟨lb, m * 9 + 4, none⟩ = some (.int .i64 x5) ∧ u.cell? ⟨lb, m * 9 + 5, none⟩ = some (.bool x6) ∧ u.cell? ⟨lb, m * 9 + 6, none⟩ = some (.slice a1 n1' c1) ∧ u.cell? ⟨lb, m * 9 + 7, none⟩ = some (.int .i64 pp) ∧ u.cell? ⟨lb, m * 9 + 8, none⟩ = some (.slice a2 n2 c2)) (first | exact ⟨vp, v0, v1, v2, v3, v4, v5, v6, v7, v8⟩ | exact ⟨hps', u0, u1, u2, u3, u4, u5, u6, u7, u8⟩ | go_keep) ((go_at_call 24; refine (K24.out _ ?hb).mono ?_; (case hb => exact (Below.refl wr.heap.size wr).drew); rintro e w5 ⟨a6, c6, rfl, hq, hX⟩; have cc : ∀ (b o : Nat) (v : Value), b = lb ∨ b = pb → wr.cell? ⟨b, o, none⟩ = some v → w5.cell? ⟨b, o, none⟩ = some v := (fun b o v hb hc => (World.cell?_of_block (a := ⟨b, o, none⟩) (hq b hb)).trans hc); have vp := cc pb _ _ (.inr rfl) hps'; have v0 := cc lb _ _ (.inl rfl) u0; have v1 := cc lb _ _ (.inl rfl) u1; have v2 := cc lb _ _ (.inl rfl) u2; have v3 := cc lb _ _ (.inl rfl) u3; have v4 := cc lb _ _ (.inl rfl) u4; have v5 := cc lb _ _ (.inl rfl) u5; have v6 := cc lb _ _ (.inl rfl) u6; have v7 := cc lb _ _ (.inl rfl) u7; have v8 := cc lb _ _ (.inl rfl) u8; have HX := hid hX; clear hq hX cc))
      all_goals
        obtain ⟨H', V', y1, y2, y3⟩ := HX.out
        have Z : Hid (NetAt wb n H' V' w5 ∧ NetI n k C t (U.drop (m + 1)) H' V' ∧ NetMv n w w5 H V H' V') := (show _ ∧ _ from ⟨y1, y2, y3⟩)
        clear y1 y2 y3 HX K24 u0 u1 u2 u3 u4 u5 u6 u7 u8 v0 v1 v2 v3 v4 v5 v6 v7 v8 vp hps'
        go_wp2_with (fail)
        exact ⟨⟨m + 1, H', V', by omega, by go_num, Z⟩, by simp [intOf]; omega⟩
    · obtain rfl : m = l := by omega
      have F : Hid (NetAt wb n Hm Vm wr ∧ NetI n k C t [] Hm Vm ∧ NetMv n w wr H V Hm Vm) := (show _ ∧ _ from by
        have h := HI.out
        rw [show U.drop m = [] from List.drop_eq_nil_of_le (by have := HUL.out; omega)] at h
        exact h)
      clear HI
      go_wp2_with (fail)
      go_ret
      exact ⟨Hm, Vm, rfl, F.out⟩
end Go.Proofs.YtepnghacjggkkaaGreatDoor
namespace Go.Proofs.YtepnghacjggkkaaGreatDoor
open Go.RowKit Go.Maps
set_option maxRecDepth 100000
set_option linter.unusedSectionVars false
variable [Inhabited ComV] [DecidableEq D3] [Inhabited D3] [Inhabited Dd] [Inhabited Dn] [Inhabited OpV]

set_option maxHeartbeats 4000000 in
theorem read_ses (w : World) (sb xb : Nat) (tv : Value) (key : ByteArray) (k0 n0 : Int) (Q : ByteArray → Prop) (h : SesBox w sb tv (some ⟨xb, 0, none⟩)) (K33 : ∀ W, Below w.heap.size w W → Calls Tryz.prog 33 #[.pointer (some ⟨xb, 0, none⟩), .string key] W (ReadRet k0 n0 Q W)) : Calls Tryz.prog 12 #[.pointer (some ⟨sb, 0, none⟩), .string key] w (ReadRet k0 n0 Q w) := by
  obtain ⟨w0, hw0⟩ : ∃ w0, w0 = w.alloc (.cells #[.int .i64 0, .string ⟨#[]⟩, .int .i64 0, .slice none 0 0] 41) := ⟨_, rfl⟩
  have b0 : Below w.heap.size w w0 := by rw [hw0]; exact below_alloc _ _
  have r0 : w0.heap[w.heap.size]? = some (.cells #[.int .i64 0, .string ⟨#[]⟩, .int .i64 0, .slice none 0 0] 41 (0, 0)) := by rw [hw0]; exact heap_new _ _
  have s0 : SesBox w0 sb tv (some ⟨xb, 0, none⟩) := (b0.block _ (lt_of_heap h)).trans h
  have t1 : w0.cell? ⟨sb, 1, none⟩ = some (.pointer (some ⟨xb, 0, none⟩)) := (cell_of s0).trans rfl
  have K20 := hid (open_yes w0 sb tv _ s0)
  have K33' := hid (K33 w0 b0)
  have B0 := hid b0
  have R0 := hid r0
  clear h K33 b0 s0 r0
  go_enter Tryz.func12, Tryz.ntmps12
  go_upto_region 1 with (fail)
  rw [← hw0]
  clear hw0
  go_wp2_with (go_at_call 20; refine K20.out.mono ?_; rintro e w' ⟨rfl, hw'⟩; rw [hw']; clear hw')
  refine K33'.out.mono ?_
  rintro e w5 ⟨t0, sa, sn, sc, hQ, rfl, hb5⟩
  have HQ := hid hQ
  have hr5 : w5.heap[w.heap.size]? = some (.cells #[.int .i64 0, .string ⟨#[]⟩, .int .i64 0, .slice none 0 0] 41 (0, 0)) := (hb5.block _ (lt_of_heap R0.out)).trans R0.out
  have R5 := hid (row4 hr5)
  have S5 := hid (set4 hr5 [.int .i64 k0, .string t0, .int .i64 n0, .slice sa sn sc] rfl)
  have B5 := hid (B0.out.trans (hb5.mono B0.out.size))
  clear hb5 hr5 K20 K33' hQ
  go_wp2_with (refine wpList_store_k _ rfl (.tmp 4) (.tmp 17) 41 rfl w.heap.size 0 [.int .i64 k0, .string t0, .int .i64 n0, .slice sa sn sc] rfl rfl 4 rfl Tryz.sizeOf41 rfl _ ?hW R5.out.1 R5.out.2 ?_; case hW => rfl)
  exact bodyPost_ret (ret_cell_tmp (k := 4) Tryz.results12 Tryz.isAgg41 Tryz.sizeOf41 _ _ w.heap.size [.int .i64 k0, .string t0, .int .i64 n0, .slice sa sn sc] _ rfl rfl rfl S5.out) rfl ⟨t0, sa, sn, sc, HQ.out, rfl, below_setCells (Nat.le_refl _) _ _ B5.out⟩
end Go.Proofs.YtepnghacjggkkaaGreatDoor
namespace Go.Proofs.YtepnghacjggkkaaGreatDoor
open Go.RowKit Go.Maps
set_option maxRecDepth 100000
set_option linter.unusedSectionVars false
variable [Inhabited ComV] [DecidableEq D3] [Inhabited D3] [Inhabited Dd] [Inhabited Dn] [Inhabited OpV]

structure WriteRet (w : World) (sb xb pb : Nat) (tv av : Value) (cs : List Value) (e : Ending) (w' : World) : Prop where
  ret : ∃ (ob oc : Nat), e = .returned .nilIface ∧ w.heap.size ≤ ob ∧ SesBox w' sb tv (some ⟨xb, 0, none⟩) ∧ TraBox w' xb pb av (.slice (some ⟨ob, 0, none⟩) 1 oc) ∧ w'.ownsRow w.heap.size 97 7 (.slice (some ⟨ob, 0, none⟩) 1 oc) 1 cs ∧ Only xb w w'
theorem base_le {w : World} {b b' e size n : Nat} {v : Value} {xs : List Value} (h : w.ownsRow b e size v n xs) (hb : b' ≤ b) : w.ownsRow b' e size v n xs := by
  refine ⟨h.1, ?_⟩
  rcases h.2 with h0 | ⟨g, cap, cur, hv, hg, r⟩
  · exact .inl h0
  · exact .inr ⟨g, cap, cur, hv, Nat.le_trans hb hg, r⟩
set_option maxHeartbeats 8000000 in
theorem write_first (A : Nat → Addr) (w : World) (hE : E4 A w) (h12 : 12 ≤ w.heap.size) (sb xb pb : Nat) (tv : Value) (aa : Option Addr) (an ac : Nat) (y1 : Int) (y2 : ByteArray) (y3 : Int) (y4 : ByteArray) (y5 : Int) (hs : SesBox w sb tv (some ⟨xb, 0, none⟩)) (h : TraBox w xb pb (.slice aa an ac) (.slice none 0 0)) (h0 : opErr ⟨y1, y2, y3, y4, y5, false, []⟩ an = 0) (ht : y4.size ≤ 1000000) : Calls Tryz.prog 34 #[.pointer (some ⟨sb, 0, none⟩), .agg #[.int .i64 y1, .string y2, .int .i64 y3, .string y4, .int .i64 y5, .bool false, .slice none 0 0]] w (WriteRet w sb xb pb tv (.slice aa an ac) [.int .i64 y1, .string y2, .int .i64 y3, .string y4, .int .i64 y5, .bool false, .slice none 0 0]) := by
  obtain ⟨w0, hw0⟩ : ∃ w0, w0 = w.alloc (.cells #[.int .i64 y1, .string y2, .int .i64 y3, .string y4, .int .i64 y5, .bool false, .slice none 0 0] 97) := ⟨_, rfl⟩
  have b0 : Below w.heap.size w w0 := by rw [hw0]; exact below_alloc _ _
  have tb : TraBox w0 xb pb (.slice aa an ac) (.slice none 0 0) := (b0.block _ (lt_of_heap h)).trans h
  have s0 : SesBox w0 sb tv (some ⟨xb, 0, none⟩) := (b0.block _ (lt_of_heap hs)).trans hs
  have ob0 : w0.heap[w.heap.size]? = some (.cells #[.int .i64 y1, .string y2, .int .i64 y3, .string y4, .int .i64 y5, .bool false, .slice none 0 0] 97 (0, 0)) := by rw [hw0]; exact heap_new _ _
  have K20 := hid (open_yes w0 sb tv _ s0)
  have K57 := hid (more_first A w0.drew (hE.below (b0.drew) h12) (Nat.le_trans h12 b0.size) xb pb aa an ac y1 y2 y3 y4 y5 tb h0 ht)
  have t1 : w0.cell? ⟨sb, 1, none⟩ = some (.pointer (some ⟨xb, 0, none⟩)) := (cell_of s0).trans rfl
  have o0 : w0.cell? ⟨w.heap.size, 0, none⟩ = some (.int .i64 y1) := (cell_of ob0).trans rfl
  have o1 : w0.cell? ⟨w.heap.size, 1, none⟩ = some (.string y2) := (cell_of ob0).trans rfl
  have o2 : w0.cell? ⟨w.heap.size, 2, none⟩ = some (.int .i64 y3) := (cell_of ob0).trans rfl
  have o3 : w0.cell? ⟨w.heap.size, 3, none⟩ = some (.string y4) := (cell_of ob0).trans rfl
  have o4 : w0.cell? ⟨w.heap.size, 4, none⟩ = some (.int .i64 y5) := (cell_of ob0).trans rfl
  have o5 : w0.cell? ⟨w.heap.size, 5, none⟩ = some (.bool false) := (cell_of ob0).trans rfl
  have o6 : w0.cell? ⟨w.heap.size, 6, none⟩ = some (.slice none 0 0) := (cell_of ob0).trans rfl
  have S0 := hid s0
  have B0 := hid b0
  have hsx : sb ≠ xb := cell_ne hs h (by decide)
  have hwl : w.heap.size < w0.heap.size := lt_of_heap ob0
  have hxw : xb < w.heap.size := lt_of_heap h
  clear hs h tb s0 ob0 b0 hE h12 h0
  go_enter Tryz.func34, Tryz.ntmps34
  go_upto_region 1 with (fail)
  rw [← hw0]
  clear hw0
  go_upto_region 3 with (go_at_call 20; refine K20.out.mono ?_; rintro e w' ⟨rfl, hw'⟩; rw [hw']; clear hw')
  go_region_held (fun u => u.cell? ⟨sb, 1, none⟩ = some (.pointer (some ⟨xb, 0, none⟩)) ∧ u.cell? ⟨w.heap.size, 0, none⟩ = some (.int .i64 y1) ∧ u.cell? ⟨w.heap.size, 1, none⟩ = some (.string y2) ∧ u.cell? ⟨w.heap.size, 2, none⟩ = some (.int .i64 y3) ∧ u.cell? ⟨w.heap.size, 3, none⟩ = some (.string y4) ∧ u.cell? ⟨w.heap.size, 4, none⟩ = some (.int .i64 y5) ∧ u.cell? ⟨w.heap.size, 5, none⟩ = some (.bool false) ∧ u.cell? ⟨w.heap.size, 6, none⟩ = some (.slice none 0 0)) (first | go_keep | exact ⟨t1, o0, o1, o2, o3, o4, o5, o6⟩ | exact ⟨t1', p0, p1, p2, p3, p4, p5, p6⟩) ((go_at_call 57; refine K57.out.mono ?_; rintro e w5 ⟨ob, oc, rfl, hob, hT5, hR5, hO5⟩; have c5 : ∀ (b j : Nat) (v : Value), b ≠ xb → w0.cell? ⟨b, j, none⟩ = some v → w5.cell? ⟨b, j, none⟩ = some v := (fun b j v hne hc => (World.cell?_of_block (a := ⟨b, j, none⟩) (hO5.block b (lt_of_cell hc) hne)).trans hc); have t1' := c5 _ _ _ hsx t1; have p0 := c5 _ _ _ (by omega) o0; have p1 := c5 _ _ _ (by omega) o1; have p2 := c5 _ _ _ (by omega) o2; have p3 := c5 _ _ _ (by omega) o3; have p4 := c5 _ _ _ (by omega) o4; have p5 := c5 _ _ _ (by omega) o5; have p6 := c5 _ _ _ (by omega) o6; have F5 : Hid (w.heap.size ≤ ob ∧ SesBox w5 sb tv (some ⟨xb, 0, none⟩) ∧ TraBox w5 xb pb (.slice aa an ac) (.slice (some ⟨ob, 0, none⟩) 1 oc) ∧ w5.ownsRow w.heap.size 97 7 (.slice (some ⟨ob, 0, none⟩) 1 oc) 1 [.int .i64 y1, .string y2, .int .i64 y3, .string y4, .int .i64 y5, .bool false, .slice none 0 0] ∧ Only xb w w5) := (show _ ∧ _ from ⟨Nat.le_trans (Nat.le_of_lt hwl) hob, (hO5.block _ (lt_of_heap S0.out) hsx).trans S0.out, hT5, base_le hR5 (Nat.le_of_lt hwl), (Only.of B0.out).trans ⟨hO5.os, hO5.tape, hO5.output, hO5.size, hO5.block⟩⟩); clear hob hT5 hR5 hO5 c5))
  go_wp2
  go_ret
  exact ⟨⟨ob, oc, rfl, F5.out⟩⟩
set_option maxHeartbeats 2000000 in
theorem add_first (A : Nat → Addr) (w : World) (hE : E4 A w) (h12 : 12 ≤ w.heap.size) (sb xb pb : Nat) (tv : Value) (aa : Option Addr) (an ac : Nat) (key : ByteArray) (x : Int) (hs : SesBox w sb tv (some ⟨xb, 0, none⟩)) (h : TraBox w xb pb (.slice aa an ac) (.slice none 0 0)) (h0 : opErr ⟨0, key, 2, ByteArray.empty, x, false, []⟩ an = 0) : Calls Tryz.prog 13 #[.pointer (some ⟨sb, 0, none⟩), .string key, .int .i64 x] w (WriteRet w sb xb pb tv (.slice aa an ac) [.int .i64 0, .string key, .int .i64 2, .string ⟨#[]⟩, .int .i64 x, .bool false, .slice none 0 0]) := by
  have K34 := hid (write_first A w hE h12 sb xb pb tv aa an ac 0 key 2 ⟨#[]⟩ x hs h h0 (by decide))
  clear hE h12 hs h h0
  go_enter Tryz.func13, Tryz.ntmps13
  go_wp2_with (fail)
  refine K34.out.mono ?_
  rintro e w5 ⟨ob, oc, rfl, F5⟩
  have F := hid F5
  clear F5
  go_wp2
  go_ret
  exact ⟨⟨ob, oc, rfl, F.out⟩⟩
set_option maxHeartbeats 2000000 in
theorem set_first (A : Nat → Addr) (w : World) (hE : E4 A w) (h12 : 12 ≤ w.heap.size) (sb xb pb : Nat) (tv : Value) (aa : Option Addr) (an ac : Nat) (key x : ByteArray) (hs : SesBox w sb tv (some ⟨xb, 0, none⟩)) (h : TraBox w xb pb (.slice aa an ac) (.slice none 0 0)) (h0 : opErr ⟨0, key, 1, x, 0, false, []⟩ an = 0) (hx : x.size ≤ 1000000) : Calls Tryz.prog 15 #[.pointer (some ⟨sb, 0, none⟩), .string key, .string x] w (WriteRet w sb xb pb tv (.slice aa an ac) [.int .i64 0, .string key, .int .i64 1, .string x, .int .i64 0, .bool false, .slice none 0 0]) := by
  have K34 := hid (write_first A w hE h12 sb xb pb tv aa an ac 0 key 1 x 0 hs h h0 hx)
  clear hE h12 hs h h0
  go_enter Tryz.func15, Tryz.ntmps15
  go_wp2_with (fail)
  refine K34.out.mono ?_
  rintro e w5 ⟨ob, oc, rfl, F5⟩
  have F := hid F5
  clear F5
  go_wp2
  go_ret
  exact ⟨⟨ob, oc, rfl, F.out⟩⟩
end Go.Proofs.YtepnghacjggkkaaGreatDoor
namespace Go.Proofs.YtepnghacjggkkaaGreatDoor
open Go.RowKit Go.Maps
set_option maxRecDepth 100000
set_option linter.unusedSectionVars false
variable [Inhabited ComV] [DecidableEq D3] [Inhabited D3] [Inhabited Dd] [Inhabited Dn] [Inhabited OpV]

structure SesI (wb : World) (n k t : Nat) (C : List ComV) (pb pc sb : Nat) (H : Nat → PlH) (V : Nat → PlV) (tok : List Int) (tv : Value) (W : World) : Prop where
  net : NetAt wb n H V W
  inv : NetI n k C t [] H V
  row : W.ownsRow wb.heap.size 30 1 (.slice (some ⟨pb, 0, none⟩) n pc) n (ptrs H n)
  rowo : Off n H V pb
  box : SesBox W sb tv none
  boxo : Off n H V sb
  low : wb.heap.size ≤ sb
  tokT : IntsT W tv tok
  chk : chk tok = 0
  len : tok.length = n
  all : ∀ c ∈ C, leB c.when_ tok = true
variable {wb W W' : World} {n k t : Nat} {C : List ComV} {pb pc sb : Nat} {H H' : Nat → PlH} {V V' : Nat → PlV} {tok : List Int} {tv : Value}
theorem ptrs_pb (h : ∀ i, i < n → (H' i).pb = (H i).pb) : ptrs H' n = ptrs H n := List.map_congr_left fun i hi => by rw [h i (List.mem_range.1 hi)]
theorem SesI.moved {C' : List ComV} {t' : Nat} (I : SesI wb n k t C pb pc sb H V tok tv W) (hA : NetAt wb n H' V' W') (hN : NetI n k C' t' [] H' V') (hM : NetMv n W W' H V H' V') (hc : ∀ c ∈ C', leB c.when_ tok = true) : SesI wb n k t' C' pb pc sb H' V' tok tv W' := by
  have hr := hM.own I.row (fun q hq => by
    have : q = pb := by simpa [Value.ownBlock] using hq.symm
    rw [this]
    exact I.rowo)
  have hs := hM.off sb (lt_of_heap I.box) I.boxo
  exact ⟨hA, hN, by rw [ptrs_pb hM.pb]; exact hr.1, hr.2 pb rfl, hs.2.trans I.box, hs.1, I.low, intsT_keep I.tokT (keep3_of hM.keeps), I.chk, I.len, hc⟩
end Go.Proofs.YtepnghacjggkkaaGreatDoor
namespace Go.Proofs.YtepnghacjggkkaaGreatDoor
open Go.RowKit Go.Maps
set_option maxRecDepth 100000
set_option linter.unusedSectionVars false
variable [Inhabited ComV] [DecidableEq D3] [Inhabited D3] [Inhabited Dd] [Inhabited Dn] [Inhabited OpV]

theorem PlAt.only {W W' : World} {h : PlH} {v : PlV} (a : PlAt W h v) {g : Nat} {cs : Array Value} {ty : TypeId} (hg : W.heap[g]? = some (.cells cs ty (0, 0))) (h1 : 3 ≠ ty) (h2 : 97 ≠ ty) (h3 : 175 ≠ ty) (hf : ¬ h.foot v g) (o : Only g W W') : PlAt W' h v :=
  a.keep (fun b hb => o.block b (a.lt hb) fun e => hf (e ▸ hb)) (keeps_only hg h1 h2 h3 o)
theorem snap11 : snapV (pv0 0 1 1) = [0] := by decide
theorem snap_ret {w : World} {h : PlH} {v : PlV} (a : PlAt w h v) : Calls Tryz.prog 29 #[.pointer (some ⟨h.pb, 0, none⟩)] w (SnapRet (snapV v) w) := by
  refine (snapshot_any w h v a).mono ?_
  rintro e w' ⟨he, h1, h2⟩
  exact ⟨by rw [he, snapV_len], h1, h2⟩
set_option maxHeartbeats 8000000 in
theorem opened_ok (A : Nat → Addr) (B : Nat) (w : World) (hS : Sen A B w) : Calls Tryz.prog 5 #[] w fun e w' => e = .returned (.bool true) ∧ Below w.heap.size w w' := by
  have hgl := hS.gl
  have hsz := hS.size
  have K7 := hid (new_any w 0 1 1 (by decide) (by decide) (by decide) (by decide))
  have HE := hid hS.e4
  have H12 : Hid (13 ≤ w.heap.size) := (show _ ≤ _ from Nat.le_trans hgl hsz)
  clear hgl hsz hS
  go_enter Tryz.func5, Tryz.ntmps5
  go_wp2_with (fail)
  refine K7.out.mono ?_
  rintro e w1 ⟨h, rfl, hP, hf, hb1, hnn, hX⟩
  go_wp2_with (fail)
  refine (sesNew_ok w1 1 (by decide) (by decide)).mono ?_
  rintro e w2 ⟨sb, tb, rfl, hsb, htb, hs2, ht2, hb2⟩
  have P2 : PlAt w2 h (pv0 0 1 1) := hP.below hb2
  have nf : ¬ h.foot (pv0 0 1 1) sb := fun q => by have := hP.lt q; omega
  have B2 : Hid (Below w.heap.size w w2) := (show Below _ _ _ from hb1.trans (hb2.mono hb1.size))
  have E2 := HE.out.below B2.out (by have := H12.out; omega)
  have K10 := hid (begin_ok A w2 E2 (by have := H12.out; have := B2.out.size; omega) sb h.pb _ [0] [0] hs2 (ints_heapY (zs := [0]) ht2) (by decide) (by decide) (by have := snap_ret P2; rw [snap11] at this; exact this))
  have hw1 : w.heap.size ≤ w1.heap.size := hb1.size
  have H2 := hid P2
  have HS2 := hid hs2
  clear hP hb1 hb2 hs2 ht2 htb K7 hX hnn P2 E2
  go_wp2_with (fail)
  refine K10.out.mono ?_
  rintro e w3 ⟨a3, c3, ta, tc, xb, rfl, hs3, hx3, hT3, hg3, hxl, hO3⟩
  have P3 : PlAt w3 h (pv0 0 1 1) := H2.out.only HS2.out (by decide) (by decide) (by decide) nf hO3
  have b3 : Below w.heap.size w w3 := ⟨hO3.os.trans B2.out.os, hO3.tape.trans B2.out.tape, hO3.output.trans B2.out.output, Nat.le_trans B2.out.size hO3.size, fun b hb => (hO3.block b (Nat.lt_of_lt_of_le hb B2.out.size) (by omega)).trans (B2.out.block b hb)⟩
  have E3 := HE.out.below b3 (by have := H12.out; omega)
  have nfx : ¬ h.foot (pv0 0 1 1) xb := fun q => by have := H2.out.lt q; omega
  have HG3 := hid hg3
  have K15 := hid (set_first A w3 E3 (by have := H12.out; have := b3.size; omega) sb xb h.pb _ (some ⟨w2.heap.size, 0, none⟩) 1 1 ⟨#[107]⟩ ⟨#[120]⟩ hs3 hx3 (by decide) (by decide))
  have H3 := hid P3
  have B3 := hid b3
  have HX3 := hid hx3
  have hw2 : w.heap.size ≤ w2.heap.size := B2.out.size
  clear hs3 hx3 hT3 hg3 hO3 P3 b3 E3 K10 H2 HS2 B2
  go_wp2_with (fail)
  refine K15.out.mono ?_
  rintro e w4 ⟨ob, oc, rfl, hob, hs4, hx4, hr4, hO4⟩
  have P4 : PlAt w4 h (pv0 0 1 1) := H3.out.only HX3.out (by decide) (by decide) (by decide) nfx hO4
  have b4 : Below w.heap.size w w4 := ⟨hO4.os.trans B3.out.os, hO4.tape.trans B3.out.tape, hO4.output.trans B3.out.output, Nat.le_trans B3.out.size hO4.size, fun b hb => (hO4.block b (Nat.lt_of_lt_of_le hb B3.out.size) (by omega)).trans (B3.out.block b hb)⟩
  have hg4 := (keeps_only HX3.out (by decide) (by decide) (by decide) hO4 3 (.inl rfl) _ _ HG3.out).trans HG3.out
  have K33 := hid (fun W (hW : Below w4.heap.size w4 W) => value_reg0 W xb h.pb (some ⟨w2.heap.size, 0, none⟩) 1 1 ⟨#[107]⟩ 0 (fun _ => True) ob oc 0 ⟨#[120]⟩ 0 false none 0 0 (fun j u hj => (hW.cell (p := ⟨ob, j, none⟩) (lt_of_cell (row_cellsY hr4 j u hj))).trans (row_cellsY hr4 j u hj)) (by decide) ((hW.block _ (lt_of_heap hx4)).trans hx4) (fun W2 hW2 => by
    have bw := hW.trans (hW2.mono hW.size)
    have P := P4.below bw
    have b5 : Below w.heap.size w W2 := b4.trans (bw.mono b4.size)
    refine (read_any A W2 (HE.out.below b5 (by have := H12.out; omega)) (by have := H12.out; have := b5.size; omega) h (pv0 0 1 1) P ⟨#[107]⟩ (by decide) (some ⟨w2.heap.size, 0, none⟩) 1 1 [0] (ints_heapY (zs := [0]) ((bw.block _ (lt_of_heap hg4)).trans hg4)) (by decide) (by decide) (stOf_ok (KeptL.nil 1) (by decide) (by decide) (fun c hc => by simp at hc)) (by first | decide | exact Nat.zero_le _) (by first | decide | exact Nat.zero_le _)).mono ?_
    rintro e W3 ⟨v, ds, he, hI, ⟨sv, hv', hsv⟩, hb⟩
    have hd : ds = [] := isOps_nil hI
    subst hd
    obtain ⟨sa, sc, hsa, _⟩ := hsv
    rw [hv', hsa] at he
    exact ⟨_, sa, _, sc, trivial, he, hb⟩))
  have K12 := hid (read_ses w4 sb xb _ ⟨#[107]⟩ 1 0 (fun x => x = ⟨#[120]⟩) hs4 K33.out)
  have S4 := hid hs4
  have B4 := hid b4
  clear hs4 hx4 hr4 hO4 P4 b4 hg4 K15 H3 HX3 HG3 B3 K33
  go_wp2_with (fail)
  refine K12.out.mono ?_
  rintro e w5 ⟨t0, sa, sn, sc, rfl, rfl, hb5⟩
  have s5 : Hid (SesBox w5 sb _ (some ⟨xb, 0, none⟩)) := (show _ = _ from (hb5.block _ (lt_of_heap S4.out)).trans S4.out)
  have K20 := hid (fun W (hW : Below w5.heap.size w5 W) => open_yes W sb _ _ ((hW.block _ (lt_of_heap s5.out)).trans s5.out))
  have B5 := hid (B4.out.trans (hb5.mono B4.out.size))
  clear hb5 S4 B4 K12 s5
  go_wp2_with (fail)
  refine (K20.out _ (below_alloc _ _)).mono ?_
  rintro e w' ⟨rfl, hw'⟩
  rw [hw']
  clear hw' K20
  go_wp2_with (fail)
  go_ret
  exact ⟨rfl, B5.out.alloc B5.out.size _⟩
end Go.Proofs.YtepnghacjggkkaaGreatDoor
namespace Go.Proofs.YtepnghacjggkkaaGreatDoor
open Go.RowKit Go.Maps
set_option maxRecDepth 100000
set_option linter.unusedSectionVars false
variable [Inhabited ComV] [DecidableEq D3] [Inhabited D3] [Inhabited Dd] [Inhabited Dn] [Inhabited OpV]

structure TrI (wb : World) (n k t : Nat) (C : List ComV) (pb pc sb xb ab p : Nat) (H : Nat → PlH) (V : Nat → PlV) (tv ov : Value) (W : World) : Prop where
  net : NetAt wb n H V W
  inv : NetI n k C t [] H V
  row : W.ownsRow wb.heap.size 30 1 (.slice (some ⟨pb, 0, none⟩) n pc) n (ptrs H n)
  rowo : Off n H V pb
  box : SesBox W sb tv (some ⟨xb, 0, none⟩)
  boxo : Off n H V sb
  low : wb.heap.size ≤ sb
  tra : TraBox W xb (H p).pb (.slice (some ⟨ab, 0, none⟩) n n) ov
  trao : Off n H V xb
  xlow : wb.heap.size ≤ xb
  at_ : W.heap[ab]? = some (.cells ((snapV (V p)).map (Value.int .i64)).toArray 3 (0, 0))
  all : ∀ c ∈ C, leB c.when_ (snapV (V p)) = true
variable {wb W W' : World} {n k t : Nat} {C : List ComV} {pb pc sb xb ab p : Nat} {H H' : Nat → PlH} {V V' : Nat → PlV} {tok : List Int} {tv ov : Value}
theorem TrI.below (T : TrI wb n k t C pb pc sb xb ab p H V tv ov W) (hb : Below W.heap.size W W') : TrI wb n k t C pb pc sb xb ab p H V tv ov W' :=
  ⟨T.net.below hb, T.inv, (NetMv.own (NetMv.below (H := H) (V := V) hb) T.row (fun q hq => by
    have : q = pb := by simpa [Value.ownBlock] using hq.symm
    rw [this]
    exact T.rowo)).1, T.rowo, (hb.block _ (lt_of_heap T.box)).trans T.box, T.boxo, T.low, (hb.block _ (lt_of_heap T.tra)).trans T.tra, T.trao, T.xlow, (hb.block _ (lt_of_heap T.at_)).trans T.at_, T.all⟩
theorem TrI.ints (T : TrI wb n k t C pb pc sb xb ab p H V tv ov W) (hp : p < n) : IntsAt W (.slice (some ⟨ab, 0, none⟩) n n) (snapV (V p)) := by
  have h := ints_heapY (c := n) T.at_
  rw [snapV_len, T.inv.vn p hp] at h
  exact h
theorem nKey_ok (n : Nat) (h1 : 1 ≤ n) (h6 : n ≤ 6) : opErr ⟨0, nKey, 2, ByteArray.empty, 1, false, []⟩ n = 0 := cOp_err (by omega) (by omega) (by decide) rfl rfl rfl rfl rfl (by decide) (by decide)
theorem begin_yes (A : Nat → Addr) (hS : Sen A wb.heap.size W) (I : SesI wb n k t C pb pc sb H V tok tv W) (k1 : 1 ≤ k) (n6 : n ≤ 6) (ht : t ≤ 60) (hp : p < n) (hle : leB tok (snapV (V p)) = true) :
    Calls Tryz.prog 10 #[.pointer (some ⟨sb, 0, none⟩), .pointer (some ⟨(H p).pb, 0, none⟩)] W fun e W' => ∃ (a : Option Addr) (c xb ab : Nat) (tv' : Value), e = .returned (.tuple #[.slice a n c, .nilIface]) ∧ TrI wb n k t C pb pc sb xb ab p H V tv' (.slice none 0 0) W' := by
  have hgl := hS.gl
  have hsz := hS.size
  have hlen : (snapV (V p)).length = n := by rw [snapV_len, I.inv.vn p hp]
  have h2 : two tok (snapV (V p)) = 0 := two_zero.2 ⟨I.chk, I.inv.chkS k1 n6 hp (by omega), by rw [I.len, hlen]⟩
  refine (begin_ok A W hS.e4 (by omega) sb (H p).pb tv tok (snapV (V p)) I.box I.tokT.at h2 hle (snap_ret (I.net.at_ p hp))).mono ?_
  rintro e W' ⟨a, c, ta, tc, xb, he, hs, hx, hT, hg, hxl, hO⟩
  rw [hlen] at he hs hx
  have kp := keeps_only I.box (by decide) (by decide) (by decide) hO
  have hpb : pb < W.heap.size := (I.row.lt pb rfl).2
  have hne : pb ≠ sb := fun e => by
    have h1 := ptr_cell I.row (j := 0) (by omega)
    rw [e, cell_of I.box] at h1
    have h2 : some tv = some (.pointer (some ⟨(H 0).pb, 0, none⟩)) := h1
    obtain ⟨ad, cc, h3, _⟩ := I.tokT.at
    rw [h3] at h2
    cases h2
  refine ⟨a, c, xb, W.heap.size, _, he, I.net.turn I.boxo I.low kp hO.os hO.tape hO.output hO.size hO.block, I.inv, own_keep I.row fun q hq => hO.block q (I.row.lt q hq).2 (by
    have : q = pb := by simpa [Value.ownBlock] using hq.symm
    rw [this]
    exact hne), I.rowo, hs, I.boxo, I.low, hx, I.net.off_ge hxl, by omega, hg, fun c hc => leB_trans' (by rw [(I.inv.com c hc).len, I.len]) (I.all c hc) hle⟩
theorem tr_read0 (A : Nat → Addr) (hS : Sen A wb.heap.size W) (T : TrI wb n k t C pb pc sb xb ab p H V tv (.slice none 0 0) W) (k1 : 1 ≤ k) (n6 : n ≤ 6) (ht : t ≤ 60) (hp : p < n) :
    Calls Tryz.prog 12 #[.pointer (some ⟨sb, 0, none⟩), .string nKey] W (ReadRet (if C = [] then 0 else 2) C.length (fun _ => True) W) := by
  refine read_ses W sb xb tv nKey _ _ _ T.box fun W1 h1 => ?_
  refine value_none W1 xb (H p).pb (some ⟨ab, 0, none⟩) n n nKey _ _ _ (T.below h1).tra fun W2 h2 => ?_
  have T2 := (T.below h1).below h2
  refine (net_read A (hS.below ((h1.mono hS.size).trans (h2.mono (Nat.le_trans hS.size h1.size)))) T2.net T2.inv n6 k1 ht hp _ _ _ (T2.ints hp) T2.all).mono ?_
  rintro e W' ⟨x, sa, sc, he, hb⟩
  exact ⟨x, sa, 0, sc, trivial, he, hb⟩
theorem tr_add (A : Nat → Addr) (hS : Sen A wb.heap.size W) (T : TrI wb n k t C pb pc sb xb ab p H V tv (.slice none 0 0) W) (n1 : 1 ≤ n) (n6 : n ≤ 6) :
    Calls Tryz.prog 13 #[.pointer (some ⟨sb, 0, none⟩), .string nKey, .int .i64 1] W fun e W' => ∃ (ob oc : Nat), e = .returned .nilIface ∧ TrI wb n k t C pb pc sb xb ab p H V tv (.slice (some ⟨ob, 0, none⟩) 1 oc) W' ∧ Only xb W W' ∧ ∃ B, W'.ownsRow B 97 7 (.slice (some ⟨ob, 0, none⟩) 1 oc) 1 [.int .i64 0, .string nKey, .int .i64 2, .string ⟨#[]⟩, .int .i64 1, .bool false, .slice none 0 0] := by
  have hgl := hS.gl
  have hsz := hS.size
  refine (add_first A W hS.e4 (by omega) sb xb (H p).pb tv (some ⟨ab, 0, none⟩) n n nKey 1 T.box T.tra (nKey_ok n n1 n6)).mono ?_
  rintro e W' ⟨ob, oc, he, hob, hs, hx, hr, hO⟩
  have kp := keeps_only T.tra (by decide) (by decide) (by decide) hO
  have hne : pb ≠ xb := fun e => by
    have h1 := ptr_cell T.row (j := 0) (by omega)
    have h3 := T.row.lt pb rfl
    obtain ⟨b, cs, hh⟩ : ∃ b cs, b = pb ∧ W.heap[b]? = some (.cells cs 30 (0, 0)) := by
      obtain ⟨n', rfl⟩ : ∃ n', n = n' + 1 := ⟨n - 1, by omega⟩
      obtain ⟨b, cs, ha, _, hh, _⟩ := owns_cellsY T.row
      injection ha with ha
      injection ha with ha
      exact ⟨b, cs, ha.symm, hh⟩
    rw [hh.1, e] at hh
    have := hh.2.symm.trans T.tra
    injection this with this
    injection this with _ this
    cases this
  exact ⟨ob, oc, he, ⟨T.net.turn T.trao T.xlow kp hO.os hO.tape hO.output hO.size hO.block, T.inv, own_keep T.row fun q hq => hO.block q (T.row.lt q hq).2 (by
    have : q = pb := by simpa [Value.ownBlock] using hq.symm
    rw [this]
    exact hne), T.rowo, hs, T.boxo, T.low, hx, T.trao, T.xlow, (kp 3 (.inl rfl) _ _ T.at_).trans T.at_, T.all⟩, hO, _, hr⟩
theorem tr_read1 (A : Nat → Addr) (hS : Sen A wb.heap.size W) {ob oc B : Nat} (T : TrI wb n k t C pb pc sb xb ab p H V tv (.slice (some ⟨ob, 0, none⟩) 1 oc) W) (hr : W.ownsRow B 97 7 (.slice (some ⟨ob, 0, none⟩) 1 oc) 1 [.int .i64 0, .string nKey, .int .i64 2, .string ⟨#[]⟩, .int .i64 1, .bool false, .slice none 0 0]) (k1 : 1 ≤ k) (n6 : n ≤ 6) (ht : t ≤ 60) (hp : p < n) :
    Calls Tryz.prog 12 #[.pointer (some ⟨sb, 0, none⟩), .string nKey] W (ReadRet 2 ((C.length : Int) + 1) (fun _ => True) W) := by
  have hf := T.inv.few
  refine read_ses W sb xb tv nKey _ _ _ T.box fun W1 h1 => ?_
  have ho : ∀ j u, [Value.int .i64 0, .string nKey, .int .i64 2, .string ⟨#[]⟩, .int .i64 1, .bool false, .slice none 0 0][j]? = some u → W1.cell? ⟨ob, j, none⟩ = some u := fun j u hj => (h1.cell (p := ⟨ob, j, none⟩) (lt_of_cell (row_cellsY hr j u hj))).trans (row_cellsY hr j u hj)
  have K : ∀ W2, Below W1.heap.size W1 W2 → Calls Tryz.prog 52 #[.pointer (some ⟨(H p).pb, 0, none⟩), .string nKey, .slice (some ⟨ab, 0, none⟩) n n] W2 (ReadRet (if C = [] then 0 else 2) C.length (fun _ => True) W2) := fun W2 h2 => by
    have T2 := (T.below h1).below h2
    refine (net_read A (hS.below ((h1.mono hS.size).trans (h2.mono (Nat.le_trans hS.size h1.size)))) T2.net T2.inv n6 k1 ht hp _ _ _ (T2.ints hp) T2.all).mono ?_
    rintro e W' ⟨x, sa, sc, he, hb⟩
    exact ⟨x, sa, 0, sc, trivial, he, hb⟩
  by_cases hC : C = []
  · rw [if_pos hC] at K
    exact value_ctr0 W1 xb (H p).pb (some ⟨ab, 0, none⟩) n n nKey C.length (fun _ => True) ob oc 0 ⟨#[]⟩ 1 false none 0 0 ho (by omega) (T.below h1).tra K
  · rw [if_neg hC] at K
    exact value_ctr2 W1 xb (H p).pb (some ⟨ab, 0, none⟩) n n nKey C.length (fun _ => True) ob oc 0 ⟨#[]⟩ 1 false none 0 0 ho (by omega) (T.below h1).tra K
end Go.Proofs.YtepnghacjggkkaaGreatDoor
