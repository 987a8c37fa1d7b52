/- The reference's DotsOf by its contract. -/
import Derived.Test.YtdnebclemngdcaaGreatDoorJVOfRQ
import Derived.Test.YtdnebclemngdcaaGreatDoorJVOfVM
namespace Go.Proofs.YtdnebclemngdcaaGreatDoor
open Go.RowKit Go.Sort Go.Maps
set_option maxRecDepth 100000
set_option linter.unusedSectionVars false
variable [Inhabited ComV] [DecidableEq D3] [Inhabited D3] [Inhabited Dd] [Inhabited Dn] [Inhabited OpV]

theorem D3.flat_len (xs : List D3) : (xs.flatMap D3.cells).length = xs.length * 3 := by
  induction xs with
  | nil => rfl
  | cons x r ih => rw [List.flatMap_cons, List.length_append, ih, List.length_cons]; show 3 + _ = _; omega
theorem src_d3 {w : World} {b n c : Nat} {xs : List D3} (h : DotsAt w (.slice (some ⟨b, 0, none⟩) n c) xs) (s m c' X m' : Nat) (hm : s + m ≤ xs.length) (hX : X = s * 3) (hm' : m' = m) : SrcAt w (.slice (some ⟨b, X, none⟩) m' c') m 3 (((xs.drop s).take m).flatMap D3.cells) := by
  subst hX hm'; refine .inr ⟨_, c', rfl, by rw [D3.flat_len]; simp; omega, fun j u hu => ?_⟩; have hjl : j < m' * 3 := by have := (List.getElem?_eq_some_iff.1 hu).1; rw [D3.flat_len] at this; simp at this; omega
  have hq : j / 3 < m' := by omega
  have hq' : j / 3 < ((xs.drop s).take m').length := by simp; omega
  have e := flat3_get ((xs.drop s).take m') (j / 3) (j % 3) hq' (by omega); rw [show j / 3 * 3 + j % 3 = j by omega, hu] at e
  have hx : ((xs.drop s).take m')[j / 3]! = xs[s + j / 3]! := by
    rw [getElem!_pos ((xs.drop s).take m') (j / 3) hq', getElem!_pos xs (s + j / 3) (by omega)]; simp
  rw [hx] at e; obtain ⟨ad, cap, he, _, _, hh⟩ := h; injection he with he _ _; rcases hh with hh | ⟨b', off', rfl, hh⟩
  · have : xs = [] := by simpa using hh
    rw [this] at hm; simp at hm; omega
  · injection he with he; injection he with e1 e2 _; subst e1 e2; have hrow : (xs.map D3.cells)[s + j / 3]? = some (xs[s + j / 3]!.cells) := by rw [List.getElem?_map, List.getElem?_eq_getElem (by omega), getElem!_pos xs _ (by omega)]; rfl
    have hl3 : xs[s + j / 3]!.cells.length = 3 := rfl
    have := (hh (s + j / 3) _ hrow).2 (j % 3) u (by
      rw [List.getElem?_eq_getElem (by rw [hl3]; omega)]; rw [getElem!_pos _ _ (by rw [hl3]; omega)] at e; exact e.symm)
    rw [Addr.add_lit, ← this]
    congr 2
    omega
structure DInv (w wr : World) (v : Value) (out : List D3) : Prop where
  row : wr.ownsRow w.heap.size 87 3 v out.length (out.flatMap D3.cells)
  below : Below w.heap.size w wr
theorem DInv.start (w : World) : DInv w w (.slice none 0 0) [] := ⟨World.ownsRow_nil _ _ _ _, Below.refl _ _⟩
theorem DInv.moved {w wr w' : World} {v : Value} {out : List D3} (h : DInv w wr v out) (hb : Below wr.heap.size wr w') : DInv w w' v out :=
  ⟨owns_below h.row fun b _ hc => hb.block b (lt_of_heap hc), h.below.trans (hb.mono h.below.size)⟩
theorem DInv.insert {w4 w5 : World} {B : Nat} {v5 : Value} {ys : List D3} {z : D3} {j ny : Nat} (hny : ny = ys.length) (hj : j ≤ ny) (hlo : ∀ t, t < j → ltD ys[t]! z = true) (hhi : j = ny ∨ ltD ys[j]! z = false)
    (hrow : w5.ownsRow B 87 3 v5 (j + 1 + (ny - j)) (((ys.drop 0).take j).flatMap D3.cells ++ z.cells ++ ((ys.drop j).take (ny - j)).flatMap D3.cells)) (hB : w4.heap.size ≤ B) (hb : Below w4.heap.size w4 w5) : DInv w4 w5 v5 (insD ys z) := by
  have hins : insD ys z = ys.take j ++ z :: ys.drop j := split_atD hlo (by omega) (by rw [← hny]; exact hhi); refine ⟨?_, hb⟩; have h1 := owns_base hrow hB; rw [List.drop_zero, List.take_of_length_le (by simp; omega : (ys.drop j).length ≤ ny - j)] at h1; have h2 : (ys.take j ++ z :: ys.drop j).length = j + 1 + (ny - j) := by simp; omega
  rw [hins, h2]
  simpa using h1
def DotsOfRet (key text : ByteArray) (l : List ComV) (w : World) (e : Ending) (w' : World) : Prop := ∃ rv out, e = .returned rv ∧ DotsAt w' rv out ∧ IsDots text (opsR key l) out ∧ Below w.heap.size w w'
set_option maxHeartbeats 8000000 in
theorem dotsOf_any (w : World) (key text : ByteArray) (v : Value) (l : List ComV) (hv : ComsAt w v l) (hl : l.length ≤ 1000) (hok : ∀ i, i < l.length → listBad l i = 0) :
    Calls Tryz.prog 29 #[.string key, .string text, v] w fun e w' => DotsOfRet key text l w e w' := by
  obtain ⟨i0, hi, hz0, hz1, hz2⟩ := info_parts Tryz.info87; obtain ⟨a, n0, cp, rfl⟩ : ∃ a n cp, v = .slice a n cp := by obtain ⟨a, cp, rfl, _⟩ := hv.shape; exact ⟨_, _, _, rfl⟩
  have hC := comOk_list hok; have K55 := opsOf_any w key (.slice a n0 cp) l hv hl hC; have hI := opsR_isOps key l; have hOk := isOps_ok hI hok; have hlen := isOps_len hI (fun c hc => by obtain ⟨i, hi, rfl⟩ := List.getElem_of_mem hc; have := (hC i hi).few; rwa [getElem!_pos l i hi] at this); have HALL := hid (dotsTo_all (text := text) hI hC); unfold DotsOfRet; obtain ⟨ds, hds⟩ : ∃ ds, ds = opsR key l := ⟨_, rfl⟩; rw [← hds] at hOk hlen HALL ⊢; have HOK := hid hOk; have HDS := hid hds; clear hv hok hC hI hOk hds; go_enter Tryz.func29, Tryz.ntmps29; go_wp2_with fail; refine K55.mono ?_; rintro e w2 ⟨v2, xs, rfl, hdn, habs, hb⟩; rw [← HDS.out] at habs; have HB2 := hid hb; obtain ⟨av, cv, rfl⟩ := hdn.len; have hnl : ds.length = xs.length := by rw [← habs, List.length_map]
  obtain ⟨n, hn⟩ : ∃ n, n = xs.length := ⟨_, rfl⟩; rw [← hn] at hdn hnl ⊢; have hn12 : n ≤ 12000 := by omega
  have HDN := hid hdn; have HAB := hid habs; have HN := hid hn; have HNL := hid hnl
  have HDL : Hid (∀ x ∈ xs, x.ds.length ≤ 1000) := fun x hx => by
    have h := (HOK.out x.abs (by rw [← habs]; exact List.mem_map.2 ⟨x, hx, rfl⟩)).few; have h' : x.ds.length ≤ 60 := h; omega
  clear hb hdn habs hn hnl K55; go_wp2
  go_loopw [8, 9] (fun v i wr => ∃ k : Nat, k ≤ n ∧ i = .int .i64 k ∧ Hid (DInv w2 wr v (dotsTo text ds k))) (fun _ i _ => n - (intOf i).toNat)
  case atStart => exact ⟨0, Nat.zero_le _, rfl, DInv.start w2⟩
  case round =>
    obtain ⟨k, hk, rfl, HI⟩ := hrel
    by_cases hlt : k < n
    · obtain ⟨b, off, rfl, hc⟩ := HDN.out.cell (k := k) (by have := HN.out; omega); obtain ⟨z, hz⟩ : ∃ z, z = xs[k]! := ⟨_, rfl⟩; rw [← hz] at hc
      have hzd : ds[k]! = z.abs := by
        rw [← HAB.out, getElem!_pos (xs.map Dd.abs) k (by have := HN.out; simp; omega), List.getElem_map, hz, getElem!_pos xs k (by have := HN.out; omega)]
      have hss := dotsTo_succ (text := text) (ds := ds) (k := k) (by have := HNL.out; omega); have K56 := live_any wr _ xs (HDN.out.mono HI.out.below (Nat.le_refl _)) z (by have := HN.out; omega) HDL.out; unfold LiveRet at K56; rw [HAB.out, ← hzd] at K56; obtain ⟨r, hr⟩ : ∃ r, r = liveB ds ds[k]! := ⟨_, rfl⟩; rw [← hr] at K56
      have hdb : dotB2 text ds ds[k]! = (decide (z.kind = 3) && (decide (z.text = text) && r)) := by
        unfold dotB2; rw [← hr, hzd]; rfl
      rw [hdb, hzd] at hss; have HSS := hid hss; clear hz hzd hss hr hdb; obtain ⟨z1, z2, z3, z4, z5, z6, zp, zl, zc, ⟨z8, z9, z10⟩, z11, zd⟩ := z; have up : ∀ {a : Addr} {v : Value}, w2.cell? a = some v → wr.cell? a = some v := fun {a v} h => by rw [HI.out.below.cell (lt_of_cell h)]; exact h
      have HCC := hid hc; have f0 : wr.cell? ⟨b, off + k * 11, none⟩ = some (.int .i64 z1) := up (hc 0 _ rfl); have f1 := up (hc 1 _ rfl); have f2 := up (hc 2 _ rfl); have f3 := up (hc 3 _ rfl); have f4 := up (hc 4 _ rfl); have f5 := up (hc 5 _ rfl); have f6 := up (hc 6 _ rfl); have f7 := up (hc 7 _ rfl); have f8 := up (hc 8 _ rfl); have f9 := up (hc 9 _ rfl); have f10 := up (hc 10 _ rfl); clear hc up
      have HSN : Hid (∀ q, (decide (z3 = 3) && (decide (z4 = text) && r)) = q → dotsTo text ds (k + 1) = if q = true then insD (dotsTo text ds k) ⟨z8, z9, z10⟩ else dotsTo text ds k) := fun q hq => by
        have h := HSS.out; have hq' : (decide (Dd.kind ⟨z1, z2, z3, z4, z5, z6, zp, zl, zc, ⟨z8, z9, z10⟩, z11, zd⟩ = 3) && (decide (Dd.text ⟨z1, z2, z3, z4, z5, z6, zp, zl, zc, ⟨z8, z9, z10⟩, z11, zd⟩ = text) && r)) = q := hq; rw [hq'] at h; exact h
      go_upto_region 7 with (go_at_call 59; refine K56.mono ?_; rintro e w5 ⟨rfl, hb5⟩; have g2 : w5.cell? ⟨b, off + k * 11 + 2, none⟩ = some (.int .i64 z3) := (by rw [hb5.cell (lt_of_cell f2)]; exact f2); have g3 : w5.cell? ⟨b, off + k * 11 + 3, none⟩ = some (.string z4) := (by rw [hb5.cell (lt_of_cell f3)]; exact f3))
      have I5 := hid (HI.out.moved hb5); clear f0 f1 f2 f3 f4 f5 f6 f7 f8 f9 f10 hb5 K56
      by_cases h3 : z3 = 3
      · subst h3
        by_cases ht : z4 = text
        · subst ht
          cases r with
          | false =>
            go_wp2; refine ⟨⟨k + 1, by omega, by go_num, ?_⟩, by simp [intOf]; omega⟩
            rw [HSN.out false (by simp), if_neg (by decide)]; exact I5.out
          | true =>
            have HSU : Hid (dotsTo z4 ds (k + 1) = insD (dotsTo z4 ds k) ⟨z8, z9, z10⟩) := by
              have h := HSN.out true (by simp); rw [if_pos rfl] at h; exact h
            have hbo := I5.out.below; have hrowy := I5.out.row; obtain ⟨wo, hwo⟩ : ∃ wo : World, wo = w5 := ⟨w5, rfl⟩; subst hwo; have hyl := dotsTo_len z4 ds k; obtain ⟨ys, hys⟩ : ∃ ys, ys = dotsTo z4 ds k := ⟨_, rfl⟩; rw [← hys] at hrowy HSU hyl; have HDY := hid (dots_of_owns hrowy rfl); have HBO := hid hbo; have cases2 := hrowy.2; obtain ⟨ny, hny⟩ : ∃ ny, ny = ys.length := ⟨_, rfl⟩; rw [← hny] at cases2 hyl; have HNY := hid hny; have hny12 : ny ≤ 12000 := by omega
            have hsh : ∃ ay cy, u8 = .slice ay ny cy := by
              rcases cases2 with ⟨e, e0⟩ | ⟨g, cy, cur, e, _⟩
              · exact ⟨none, 0, by rw [e, e0]⟩
              · exact ⟨_, _, e⟩
            obtain ⟨ay, cy, rfl⟩ := hsh
            have HCS : Hid ((ay = none ∧ cy = 0 ∧ ny = 0) ∨ ∃ g, ay = some ⟨g, 0, none⟩ ∧ ny ≤ cy) := by
              rcases cases2 with ⟨e, e0⟩ | ⟨g, cy', cur, e, _, _, hcy, _⟩
              · injection e with e1 e2 e3; exact .inl ⟨e1, e3, e0⟩
              · injection e with e1 e2 e3; exact .inr ⟨g, e1, by omega⟩
            clear cases2 hny hys hrowy hbo I5 HSN HSS hyl; go_wp2; clear g2 g3
            go_loopw [11] (fun iv wk => ∃ j : Nat, j ≤ ny ∧ iv = .int .i64 j ∧ Hid (Below wo.heap.size wo wk) ∧ Hid (∀ t, t < j → ltD ys[t]! ⟨z8, z9, z10⟩ = true)) (fun iv _ => ny - (intOf iv).toNat)
            case atStart => exact ⟨0, Nat.zero_le _, rfl, Below.refl _ _, fun t ht => absurd ht (Nat.not_lt_zero _)⟩
            case round =>
              obtain ⟨j, hj, rfl, HBR, HLO⟩ := hrel; have upk : ∀ {a : Addr} {v : Value}, w2.cell? a = some v → wr.cell? a = some v := fun {a v} h => by rw [(HBO.out.trans (HBR.out.mono HBO.out.size)).cell (lt_of_cell h)]; exact h
              have d7 : wr.cell? ⟨b, off + k * 11 + 7, none⟩ = some (.int .i64 z8) := upk (HCC.out 7 _ rfl); have d8 : wr.cell? ⟨b, off + k * 11 + 8, none⟩ = some (.int .i64 z9) := upk (HCC.out 8 _ rfl); have d9 : wr.cell? ⟨b, off + k * 11 + 9, none⟩ = some (.int .i64 z10) := upk (HCC.out 9 _ rfl); clear upk
              by_cases hjl : j < ny
              · obtain ⟨g, rfl, hcy⟩ : ∃ g, ay = some ⟨g, 0, none⟩ ∧ ny ≤ cy := HCS.out.resolve_left (fun h => by omega); have hdy := HDY.out.mono HBR.out (Nat.le_refl _); rw [HNY.out] at hdy; obtain ⟨bg, og, heq, p1, p2, p3⟩ := dots_cells hdy (k := j) (by have := HNY.out; omega); injection heq with heq; injection heq with eg eo _; subst eg eo; obtain ⟨y, hy⟩ : ∃ y, y = ys[j]! := ⟨_, rfl⟩; rw [← hy] at p1 p2 p3; rw [Nat.zero_add] at p1 p2 p3; have HY := hid hy; obtain ⟨y1, y2, y3⟩ := y; simp only at p1 p2 p3; have hd : decide ((j : Int) < (ny : Int)) = true := decide_eq_true (by omega); have K58 := fun W => lessDot_any W ⟨y1, y2, y3⟩ ⟨z8, z9, z10⟩
                obtain ⟨r, hr⟩ : ∃ r, r = ltD ⟨y1, y2, y3⟩ ⟨z8, z9, z10⟩ := ⟨_, rfl⟩; rw [← hr] at K58; have HR := hid hr; clear hy hr hdy; obtain ⟨wk, hwk⟩ : ∃ wk, wk = ((wr.alloc (.cells (D3.cells ⟨y1, y2, y3⟩).toArray 87)).alloc (.cells (D3.cells ⟨z8, z9, z10⟩).toArray 87)).drew := ⟨_, rfl⟩
                have HBK : Hid (Below wo.heap.size wo wk) := by
                  rw [hwk]; exact HBR.out.trans ((below_draws ((below_alloc wr _).trans ((below_alloc _ _).mono (by simp))) 1).mono HBR.out.size)
                cases r with
                | true =>
                  go_upto_region 9 with (fail)
                  go_region_held (fun w' => w'.cell? ⟨g, j * 3, none⟩ = some (.int .i64 y1) ∧ w'.cell? ⟨g, j * 3 + 1, none⟩ = some (.int .i64 y2) ∧ w'.cell? ⟨g, j * 3 + 2, none⟩ = some (.int .i64 y3) ∧ w'.cell? ⟨b, off + k * 11 + 7, none⟩ = some (.int .i64 z8) ∧ w'.cell? ⟨b, off + k * 11 + 8, none⟩ = some (.int .i64 z9) ∧ w'.cell? ⟨b, off + k * 11 + 9, none⟩ = some (.int .i64 z10)) (go_keep) (first | (go_at_call 62; refine (K58 _).mono ?_; rintro e w' ⟨rfl, rfl⟩))
                  rw [← hwk]; clear hwk; go_wp2; refine ⟨⟨j + 1, by omega, by go_num, HBK.out, fun t ht => ?_⟩, by simp [intOf]; omega⟩; rcases Nat.lt_succ_iff_lt_or_eq.1 ht with h | rfl
                  · exact HLO.out t h
                  · rw [← HY.out]; exact HR.out.symm
                | false =>
                  have HHI : Hid (ltD ys[j]! ⟨z8, z9, z10⟩ = false) := by rw [← HY.out]; exact HR.out.symm
                  go_upto_region 9 with (fail)
                  go_region_held (fun w' => w'.cell? ⟨g, j * 3, none⟩ = some (.int .i64 y1) ∧ w'.cell? ⟨g, j * 3 + 1, none⟩ = some (.int .i64 y2) ∧ w'.cell? ⟨g, j * 3 + 2, none⟩ = some (.int .i64 y3) ∧ w'.cell? ⟨b, off + k * 11 + 7, none⟩ = some (.int .i64 z8) ∧ w'.cell? ⟨b, off + k * 11 + 8, none⟩ = some (.int .i64 z9) ∧ w'.cell? ⟨b, off + k * 11 + 9, none⟩ = some (.int .i64 z10)) (go_keep) (first | (go_at_call 62; refine (K58 _).mono ?_; rintro e w' ⟨rfl, rfl⟩))
                  rw [← hwk]; have HDK := hid (HDY.out.mono HBK.out (Nat.le_refl _)); have upk : ∀ {a : Addr} {v : Value}, w2.cell? a = some v → wk.cell? a = some v := fun {a v} h => by rw [(HBO.out.trans (HBK.out.mono HBO.out.size)).cell (lt_of_cell h)]; exact h
                  clear d7 d8 d9 p1 p2 p3 hwk; have d7 : wk.cell? ⟨b, off + k * 11 + 7, none⟩ = some (.int .i64 z8) := upk (HCC.out 7 _ rfl); have d8 : wk.cell? ⟨b, off + k * 11 + 8, none⟩ = some (.int .i64 z9) := upk (HCC.out 8 _ rfl); have d9 : wk.cell? ⟨b, off + k * 11 + 9, none⟩ = some (.int .i64 z10) := upk (HCC.out 9 _ rfl); clear upk
                  go_upto_region 13 with (at_builtin; refine wpList_append_src rfl _ _ 65 rfl wk.heap.size 87 i0 _ 3 24 Tryz.underlying65 hi hz0 hz1 hz2 rfl (by decide) rfl _ j (((ys.drop 0).take j).flatMap D3.cells) rfl ?hs1 (dots_one _) ?hm2 ?hm3 ?hm4 ?_; (case hs1 => exact src_d3 HDK.out 0 j _ _ _ (by have := HNY.out; omega) (by omega) rfl); (case hm2 => unfold maxLen; omega); (case hm3 => omega); (case hm4 => exact Nat.le_refl _); intro v3 w3 hown3 hgrow3; obtain ⟨a3, c3, rfl⟩ := row_shape hown3)
                  have h7 := hgrow3.cell d7 (by simp); have h8 := hgrow3.cell d8 (by simp); have h9 := hgrow3.cell d9 (by simp); clear d7 d8 d9
                  go_upto_region 14 with (at_builtin; refine wpList_append_own _ rfl _ _ 65 rfl wk.heap.size 87 i0 _ 3 24 Tryz.underlying65 hi hz0 hz1 hz2 rfl (by decide) _ _ _ rfl (hown3.alloc _) ⟨w3.heap.size, 0, none⟩ 1 1 [.int .i64 z8, .int .i64 z9, .int .i64 z10] rfl rfl (cells11_new _ _ _ _ rfl) ?ho1 ?ho2 ?ho3 ?ho4 ?_; (case ho1 => exact D3.one ⟨z8, z9, z10⟩); (case ho2 => unfold maxLen; omega); (case ho3 => omega); (case ho4 => have := hgrow3.size; simp; omega); intro v4 w7 hown4 hgrow4 _; obtain ⟨a4, c4, rfl⟩ := row_shape hown4)
                  have B3 : Below wk.heap.size wk w3 := (Below.refl wk.heap.size wk).grown hgrow3 (Nat.le_refl _) (fun j hj => by cases hj); have B4 : Below wk.heap.size wk w7 := (B3.alloc B3.size _).grown hgrow4 (by have := B3.size; simp; omega) (fun j hj => (hown3.lt j hj).1); have hs4 := B4.size; have HB4 := hid B4; have HD4 := hid (HDK.out.mono B4 (Nat.le_refl _)); clear hown3 hgrow3 hgrow4 B3 B4 h7 h8 h9
                  go_wp2_with (at_builtin; refine wpList_append_own_src rfl _ _ 65 rfl wk.heap.size 87 i0 _ 3 24 Tryz.underlying65 hi hz0 hz1 hz2 rfl (by decide) _ _ _ rfl hown4 _ (ny - j) (((ys.drop j).take (ny - j)).flatMap D3.cells) rfl ?hs2 (dots_one _) ?hp2 ?hp3 ?hp4 ?_; (case hs2 => exact src_d3 HD4.out j (ny - j) _ _ _ (by have := HNY.out; omega) (by omega) (by omega)); (case hp2 => unfold maxLen; omega); (case hp3 => omega); (case hp4 => exact hs4); intro v5 w8 hown5 hgrow5)
                  refine ⟨⟨k + 1, by omega, by go_num, ?_⟩, by simp [intOf]; omega⟩; rw [HSU.out]; exact DInv.insert (B := wk.heap.size) (j := j) (ny := ny) HNY.out (by omega) HLO.out (.inr HHI.out) hown5 (Nat.le_trans HBO.out.size HBK.out.size) ((HBO.out.trans (HBK.out.mono HBO.out.size)).trans ((HB4.out.grown hgrow5 HB4.out.size (fun j hj => (hown4.lt j hj).1)).mono (Nat.le_trans HBO.out.size HBK.out.size)))
              · obtain rfl : j = ny := by omega
                have hd : decide ((j : Int) < (j : Int)) = false := decide_eq_false (by omega); go_upto_region 9 with (fail)
                go_quiet (fail)
                obtain ⟨wk, hwk⟩ : ∃ wk, wk = wr.drewN nq := ⟨_, rfl⟩; rw [← hwk]; have HBK : Hid (Below wo.heap.size wo wk) := by rw [hwk]; exact below_draws HBR.out _
                have upk : ∀ {a : Addr} {v : Value}, wr.cell? a = some v → wk.cell? a = some v := fun {a v} h => by rw [hwk]; exact h
                replace d7 := upk d7; replace d8 := upk d8; replace d9 := upk d9; clear upk hwk; rcases HCS.out with ⟨rfl, rfl, rfl⟩ | ⟨g, rfl, hcy⟩
                · have hy0 : ys = [] := List.eq_nil_of_length_eq_zero HNY.out.symm; subst hy0
                  go_upto_region 13 with (at_builtin; refine wpList_append_src rfl _ _ 65 rfl wk.heap.size 87 i0 _ 3 24 Tryz.underlying65 hi hz0 hz1 hz2 rfl (by decide) rfl _ 0 [] rfl ?hs1 (fun u hu => by simp at hu) ?hm2 ?hm3 ?hm4 ?_; (case hs1 => exact .inl ⟨rfl, rfl, rfl⟩); (case hm2 => unfold maxLen; omega); (case hm3 => omega); (case hm4 => exact Nat.le_refl _); intro v3 w3 hown3 hgrow3; obtain ⟨a3, c3, rfl⟩ := row_shape hown3)
                  have h7 := hgrow3.cell d7 (by simp); have h8 := hgrow3.cell d8 (by simp); have h9 := hgrow3.cell d9 (by simp); clear d7 d8 d9
                  go_upto_region 14 with (at_builtin; refine wpList_append_own _ rfl _ _ 65 rfl wk.heap.size 87 i0 _ 3 24 Tryz.underlying65 hi hz0 hz1 hz2 rfl (by decide) _ _ _ rfl (hown3.alloc _) ⟨w3.heap.size, 0, none⟩ 1 1 [.int .i64 z8, .int .i64 z9, .int .i64 z10] rfl rfl (cells11_new _ _ _ _ rfl) ?ho1 ?ho2 ?ho3 ?ho4 ?_; (case ho1 => exact D3.one ⟨z8, z9, z10⟩); (case ho2 => unfold maxLen; omega); (case ho3 => omega); (case ho4 => have := hgrow3.size; simp; omega); intro v4 w7 hown4 hgrow4 _; obtain ⟨a4, c4, rfl⟩ := row_shape hown4)
                  have B3 : Below wk.heap.size wk w3 := (Below.refl wk.heap.size wk).grown hgrow3 (Nat.le_refl _) (fun j hj => by cases hj); have B4 : Below wk.heap.size wk w7 := (B3.alloc B3.size _).grown hgrow4 (by have := B3.size; simp; omega) (fun j hj => (hown3.lt j hj).1); have hs4 := B4.size; have HB4 := hid B4; clear hown3 hgrow3 hgrow4 B3 B4 h7 h8 h9
                  go_wp2_with (at_builtin; refine wpList_append_own_src rfl _ _ 65 rfl wk.heap.size 87 i0 _ 3 24 Tryz.underlying65 hi hz0 hz1 hz2 rfl (by decide) _ _ _ rfl hown4 _ 0 [] rfl ?hs2 (fun u hu => by simp at hu) ?hp2 ?hp3 ?hp4 ?_; (case hs2 => exact .inl ⟨rfl, rfl, rfl⟩); (case hp2 => unfold maxLen; omega); (case hp3 => omega); (case hp4 => exact hs4); intro v5 w8 hown5 hgrow5)
                  refine ⟨⟨k + 1, by omega, by go_num, ?_⟩, by simp [intOf]; omega⟩; rw [HSU.out]; exact DInv.insert (B := wk.heap.size) (j := 0) (ny := 0) HNY.out (by omega) HLO.out (.inl rfl) hown5 (Nat.le_trans HBO.out.size HBK.out.size) ((HBO.out.trans (HBK.out.mono HBO.out.size)).trans ((HB4.out.grown hgrow5 HB4.out.size (fun j hj => (hown4.lt j hj).1)).mono (Nat.le_trans HBO.out.size HBK.out.size)))
                · have HDK := hid (HDY.out.mono HBK.out (Nat.le_refl _))
                  go_upto_region 13 with (at_builtin; refine wpList_append_src rfl _ _ 65 rfl wk.heap.size 87 i0 _ 3 24 Tryz.underlying65 hi hz0 hz1 hz2 rfl (by decide) rfl _ j (((ys.drop 0).take j).flatMap D3.cells) rfl ?hs1 (dots_one _) ?hm2 ?hm3 ?hm4 ?_; (case hs1 => exact src_d3 HDK.out 0 j _ _ _ (by have := HNY.out; omega) (by omega) rfl); (case hm2 => unfold maxLen; omega); (case hm3 => omega); (case hm4 => exact Nat.le_refl _); intro v3 w3 hown3 hgrow3; obtain ⟨a3, c3, rfl⟩ := row_shape hown3)
                  have h7 := hgrow3.cell d7 (by simp); have h8 := hgrow3.cell d8 (by simp); have h9 := hgrow3.cell d9 (by simp); clear d7 d8 d9
                  go_upto_region 14 with (at_builtin; refine wpList_append_own _ rfl _ _ 65 rfl wk.heap.size 87 i0 _ 3 24 Tryz.underlying65 hi hz0 hz1 hz2 rfl (by decide) _ _ _ rfl (hown3.alloc _) ⟨w3.heap.size, 0, none⟩ 1 1 [.int .i64 z8, .int .i64 z9, .int .i64 z10] rfl rfl (cells11_new _ _ _ _ rfl) ?ho1 ?ho2 ?ho3 ?ho4 ?_; (case ho1 => exact D3.one ⟨z8, z9, z10⟩); (case ho2 => unfold maxLen; omega); (case ho3 => omega); (case ho4 => have := hgrow3.size; simp; omega); intro v4 w7 hown4 hgrow4 _; obtain ⟨a4, c4, rfl⟩ := row_shape hown4)
                  have B3 : Below wk.heap.size wk w3 := (Below.refl wk.heap.size wk).grown hgrow3 (Nat.le_refl _) (fun j hj => by cases hj); have B4 : Below wk.heap.size wk w7 := (B3.alloc B3.size _).grown hgrow4 (by have := B3.size; simp; omega) (fun j hj => (hown3.lt j hj).1); have hs4 := B4.size; have HB4 := hid B4; clear hown3 hgrow3 hgrow4 B3 B4 h7 h8 h9
                  go_wp2_with (at_builtin; refine wpList_append_own_src rfl _ _ 65 rfl wk.heap.size 87 i0 _ 3 24 Tryz.underlying65 hi hz0 hz1 hz2 rfl (by decide) _ _ _ rfl hown4 _ 0 [] rfl ?hs2 (fun u hu => by simp at hu) ?hp2 ?hp3 ?hp4 ?_; (case hs2 => exact src_ite); (case hp2 => unfold maxLen; omega); (case hp3 => omega); (case hp4 => exact hs4); intro v5 w8 hown5 hgrow5)
                  all_goals
                    refine ⟨⟨k + 1, by omega, by go_num, ?_⟩, by simp [intOf]; omega⟩; rw [HSU.out]; exact DInv.insert (B := wk.heap.size) (j := j) (ny := j) HNY.out (by omega) HLO.out (.inl rfl) (by have h := hown5; rw [Nat.sub_self, List.take_zero]; exact h) (Nat.le_trans HBO.out.size HBK.out.size) ((HBO.out.trans (HBK.out.mono HBO.out.size)).trans ((HB4.out.grown hgrow5 HB4.out.size (fun j hj => (hown4.lt j hj).1)).mono (Nat.le_trans HBO.out.size HBK.out.size)))
        · have bt : (z4.toList == text.toList) = false := beq_eq_false_iff_ne.2 (ne_toList ht); have bn : (z4.toList != text.toList) = true := by rw [bne, bt]; rfl
          have HSU := hid (HSN.out false (by rw [decide_eq_false ht]; simp)); clear ht; go_wp2; refine ⟨⟨k + 1, by omega, by go_num, ?_⟩, by simp [intOf]; omega⟩; rw [HSU.out, if_neg (by decide)]; exact I5.out
      · have b3 : (z3 != 3) = true := by simpa using h3
        have HSU := hid (HSN.out false (by rw [decide_eq_false h3]; rfl)); clear h3; go_wp2; refine ⟨⟨k + 1, by omega, by go_num, ?_⟩, by simp [intOf]; omega⟩; rw [HSU.out, if_neg (by decide)]; exact I5.out
    · obtain rfl : k = n := by omega
      have hI := HI.out; rw [← HNL.out] at hI; have HR := hid (dots_of_owns hI.row rfl); have HBB := hid (HB2.out.trans (hI.below.mono HB2.out.size)); obtain ⟨ra, rc, rfl⟩ := row_shape hI.row; clear hI HI; go_wp2; go_ret; exact ⟨_, _, rfl, HR.out, HALL.out, HBB.out⟩
end Go.Proofs.YtdnebclemngdcaaGreatDoor
