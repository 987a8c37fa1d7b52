/- The reference's SameDots of the same, live by their contracts; The reference's live by its contract. -/
import Derived.Test.YtdnebclemngdcaaGreatDoorJVOfRA
import Derived.Test.YtdnebclemngdcaaGreatDoorJVRefO
namespace Go.Proofs.YtdnebclemngdcaaGreatDoor
open Go.RowKit Go.Sort Go.Maps
set_option maxRecDepth 100000
set_option linter.unusedSectionVars false
variable [Inhabited ComV] [DecidableEq D3] [Inhabited D3] [Inhabited Dd] [Inhabited Dn] [Inhabited OpV]

set_option maxHeartbeats 1000000 in
theorem sameDots_same (w : World) (v v' : Value) (ds : List D3) (h : DotsAt w v ds) (h' : DotsAt w v' ds) (hl : ds.length ≤ 1000000) :
    Calls Tryz.prog 28 #[v, v'] w fun e w' => e = .returned (.bool true) ∧ ∃ q, w' = w.drewN q := by
  obtain ⟨a1, c1, rfl⟩ := h.len; obtain ⟨a2, c2, rfl⟩ := h'.len; have H1 := hid h; have H2 := hid h'; obtain ⟨n, hn⟩ : ∃ n, n = ds.length := ⟨_, rfl⟩; rw [← hn] at hl H1 H2 ⊢; have HN := hid hn; have bn : ((n : Int) != (n : Int)) = false := by simp
  clear hn h h'; go_enter Tryz.func28, Tryz.ntmps28; go_wp2
  go_loopw [5] (fun i wr => ∃ k : Nat, k ≤ n ∧ i = .int .i64 k ∧ Hid (∃ q, wr = w.drewN q)) (fun i _ => n - (intOf i).toNat)
  case atStart => exact ⟨0, Nat.zero_le _, rfl, 0, rfl⟩
  case round =>
    obtain ⟨k, hk, rfl, HQ⟩ := hrel
    by_cases hlt : k < n
    · have hn := HN.out; have h1 := H1.out; have h2 := H2.out; rw [hn] at h1 h2; obtain ⟨b1, o1, rfl, p1, p2, p3⟩ := dots_cells h1 (k := k) (by omega); obtain ⟨b2, o2, rfl, q1, q2, q3⟩ := dots_cells h2 (k := k) (by omega); have up : ∀ {a : Addr} {v : Value}, w.cell? a = some v → wr.cell? a = some v := fun {a v} h => by obtain ⟨q, hq⟩ := HQ.out; rw [hq]; exact h
      have e1 := up p1; have e2 := up p2; have e3 := up p3; have f1 := up q1; have f2 := up q2; have f3 := up q3; obtain ⟨d, hd⟩ : ∃ d, d = ds[k]! := ⟨_, rfl⟩; rw [← hd] at e1 e2 e3 f1 f2 f3; obtain ⟨x, y, z⟩ := d; simp only at e1 e2 e3 f1 f2 f3; clear hn h1 h2 p1 p2 p3 q1 q2 q3 up hd; go_upto_region 6 with (fail)
      go_quiet (fail)
      go_wp2; go_roundw
      case rel => exact ⟨k + 1, by omega, by go_num, by obtain ⟨q, hq⟩ := HQ.out; exact ⟨_, by rw [hq]; exact World.drewN_drewN _ _ _⟩⟩
      case measure => simp [intOf]; omega
    · obtain rfl : k = n := by omega
      go_wp2; go_ret
      exact ⟨rfl, HQ.out⟩
end Go.Proofs.YtdnebclemngdcaaGreatDoor
namespace Go.Proofs.YtdnebclemngdcaaGreatDoor
open Go.RowKit Go.Sort Go.Maps
set_option maxRecDepth 100000
set_option linter.unusedSectionVars false
variable [Inhabited ComV] [DecidableEq D3] [Inhabited D3] [Inhabited Dd] [Inhabited Dn] [Inhabited OpV]

structure DnsAt (w : World) (v : Value) (xs : List Dd) : Prop where
  row : RowAt 11 w v (xs.map Dd.enc)
  good : ∀ x ∈ xs, GoodD w x
theorem DnsAt.mono {w w' : World} {v : Value} {xs : List Dd} {B : Nat} (h : DnsAt w v xs) (hb : Below B w w') (hB : w.heap.size ≤ B) : DnsAt w' v xs := ⟨h.row.mono hb hB, fun x hx => (h.good x hx).mono hb hB⟩
theorem DnsAt.len {w : World} {v : Value} {xs : List Dd} (h : DnsAt w v xs) : ∃ a c, v = .slice a xs.length c := by
  obtain ⟨a, c, h, _⟩ := h.row; exact ⟨a, c, by rw [h, List.length_map]⟩
theorem DnsAt.cell {w : World} {p : Option Addr} {n c : Nat} {xs : List Dd} (h : DnsAt w (.slice p n c) xs) {k : Nat} (hk : k < xs.length) : ∃ b off, p = some ⟨b, off, none⟩ ∧ ∀ i u, (xs[k]!.enc)[i]? = some u → w.cell? ⟨b, off + k * 11 + i, none⟩ = some u := by
  obtain ⟨ad, cap, he, _, _, hq⟩ := h.row; injection he with e1 _ _; subst e1; rcases hq with hq | ⟨b, off, rfl, hq⟩
  · have : xs = [] := by simpa using hq
    rw [this] at hk; simp at hk
  · have hr := hq k xs[k]!.enc (by rw [List.getElem?_map, List.getElem?_eq_getElem hk, getElem!_pos xs k hk]; rfl); exact ⟨b, off, rfl, hr.2⟩
def LiveRet (xs : List Dd) (a : Dd) (w : World) (e : Ending) (w' : World) : Prop := e = .returned (.bool (liveB (xs.map Dd.abs) a.abs)) ∧ Below w.heap.size w w'
def freeB (xs : List Dd) (a : Dd) (k : Nat) : Prop := ∀ j, j < k → ¬(xs[j]!.rem = true ∧ xs[j]!.text = a.text ∧ a.dot ∈ xs[j]!.ds)
theorem live_yes {xs : List Dd} {a : Dd} (h : freeB xs a xs.length) : liveB (xs.map Dd.abs) a.abs = !a.rem := by
  unfold liveB
  have : ((xs.map Dd.abs).any fun y => y.o.rem && (decide (y.o.text = a.abs.o.text) && decide (a.abs.dot ∈ y.o.dots))) = false := List.any_eq_false.2 fun y hy hc => by
    obtain ⟨x, hx, rfl⟩ := List.mem_map.1 hy; obtain ⟨j, hj, rfl⟩ := List.getElem_of_mem hx; have := h j hj; rw [getElem!_pos xs j hj] at this; simp only [Bool.and_eq_true, decide_eq_true_eq] at hc; exact this ⟨hc.1, hc.2.1, hc.2.2⟩
  rw [this]; show (!a.rem && true) = !a.rem; simp
theorem live_no {xs : List Dd} {a : Dd} {j : Nat} (hj : j < xs.length) (h : xs[j]!.rem = true ∧ xs[j]!.text = a.text ∧ a.dot ∈ xs[j]!.ds) : liveB (xs.map Dd.abs) a.abs = false := by
  unfold liveB
  have : ((xs.map Dd.abs).any fun y => y.o.rem && (decide (y.o.text = a.abs.o.text) && decide (a.abs.dot ∈ y.o.dots))) = true := List.any_eq_true.2 ⟨xs[j]!.abs, List.mem_map.2 ⟨_, by rw [getElem!_pos xs j hj]; exact List.getElem_mem _, rfl⟩, by
    simp only [Bool.and_eq_true, decide_eq_true_eq]; exact ⟨h.1, h.2.1, h.2.2⟩⟩
  rw [this]; simp
set_option maxHeartbeats 4000000 in
theorem live_any (w : World) (v : Value) (xs : List Dd) (h : DnsAt w v xs) (a : Dd) (hl : xs.length ≤ 100000) (hd : ∀ x ∈ xs, x.ds.length ≤ 1000) :
    Calls Tryz.prog 59 #[v, .agg a.enc.toArray] w fun e w' => LiveRet xs a w e w' := by
  obtain ⟨av, cv, rfl⟩ := h.len; obtain ⟨n, hn⟩ : ∃ n, n = xs.length := ⟨_, rfl⟩; rw [← hn] at hl ⊢; have HN := hid hn; have HX := hid h; have HDL := hid hd; rw [← hn] at HX; obtain ⟨w1, hw1⟩ : ∃ w1, w1 = w.alloc (.cells a.enc.toArray 113) := ⟨_, rfl⟩; have b1 : Below w.heap.size w w1 := by rw [hw1]; exact below_alloc _ _
  obtain ⟨rv, hrv⟩ : ∃ rv, rv = liveB (xs.map Dd.abs) a.abs := ⟨_, rfl⟩; unfold LiveRet; rw [← hrv]; have YES : Hid (freeB xs a n → rv = !a.rem) := fun h => by rw [hrv]; exact live_yes (by rw [← HN.out]; exact h)
  have NO : Hid (∀ j, j < n → xs[j]!.rem = true ∧ xs[j]!.text = a.text ∧ a.dot ∈ xs[j]!.ds → rv = false) := fun j hj h => by rw [hrv]; exact live_no (by rw [← HN.out]; exact hj) h
  have HF : Hid (∀ k, freeB xs a k → ∀ t d r, xs[k]!.text = t → xs[k]!.ds = d → xs[k]!.rem = r → ¬(r = true ∧ t = a.text ∧ a.dot ∈ d) → freeB xs a (k + 1)) := fun k hf t d r ht hd hr hne j hj => by
    rcases Nat.lt_succ_iff_lt_or_eq.1 hj with h | rfl
    · exact hf j h
    · rw [ht, hd, hr]; exact hne
  obtain ⟨A1, A2, A3, A4, A5, A6, Ap, Al, Ac, ⟨A8, A9, A10⟩, A11, Ad⟩ := a; have c3 : w1.cell? ⟨w.heap.size, 3, none⟩ = some (.string A4) := by rw [hw1]; exact (World.cell?_alloc_at _ _ _ _ rfl).trans rfl
  have c5 : w1.cell? ⟨w.heap.size, 5, none⟩ = some (.bool A6) := by rw [hw1]; exact (World.cell?_alloc_at _ _ _ _ rfl).trans rfl
  have c7 : w1.cell? ⟨w.heap.size, 7, none⟩ = some (.int .i64 A8) := by rw [hw1]; exact (World.cell?_alloc_at _ _ _ _ rfl).trans rfl
  have c8 : w1.cell? ⟨w.heap.size, 8, none⟩ = some (.int .i64 A9) := by rw [hw1]; exact (World.cell?_alloc_at _ _ _ _ rfl).trans rfl
  have c9 : w1.cell? ⟨w.heap.size, 9, none⟩ = some (.int .i64 A10) := by rw [hw1]; exact (World.cell?_alloc_at _ _ _ _ rfl).trans rfl
  simp only at YES NO HF; have HB1 := hid b1; have C3 := hid c3; have C5 := hid c5; have C7 := hid c7; have C8 := hid c8; have C9 := hid c9; have HW1 := hid hw1; clear hn h hd hrv b1 c3 c5 c7 c8 c9 hw1; show Calls Tryz.prog 59 #[.slice av n cv, .agg #[.int .i64 A1, .string A2, .int .i64 A3, .string A4, .int .i64 A5, .bool A6, .slice Ap Al Ac, .int .i64 A8, .int .i64 A9, .int .i64 A10, .int .i64 A11]] w _; go_enter Tryz.func59, Tryz.ntmps59; go_wp2
  go_loopw [5] (fun i wr => ∃ k : Nat, k ≤ n ∧ i = .int .i64 k ∧ Hid (∃ q, wr = w1.drewN q) ∧ Hid (freeB xs ⟨A1, A2, A3, A4, A5, A6, Ap, Al, Ac, ⟨A8, A9, A10⟩, A11, Ad⟩ k)) (fun i _ => n - (intOf i).toNat)
  case atStart => exact ⟨0, Nat.zero_le _, rfl, ⟨0, HW1.out.symm⟩, fun j hj => absurd hj (Nat.not_lt_zero _)⟩
  case round =>
    obtain ⟨k, hk, rfl, HQ, HFR⟩ := hrel; have up1 : ∀ {a : Addr} {v : Value}, w1.cell? a = some v → wr.cell? a = some v := fun {a v} h => by obtain ⟨q, hq⟩ := HQ.out; rw [hq]; exact h
    have HBR : Hid (Below w.heap.size w wr) := by obtain ⟨q, hq⟩ := HQ.out; rw [hq]; exact below_draws HB1.out q
    have d3 := up1 C3.out; have d5 := up1 C5.out; have d7 := up1 C7.out; have d8 := up1 C8.out; have d9 := up1 C9.out
    by_cases hlt : k < n
    · obtain ⟨b, off, rfl, hc⟩ := HX.out.cell (k := k) (by have := HN.out; omega); have hgood := HX.out.good xs[k]! (by rw [getElem!_pos xs k (by have := HN.out; omega)]; exact List.getElem_mem _); have hdl := HDL.out xs[k]! (by rw [getElem!_pos xs k (by have := HN.out; omega)]; exact List.getElem_mem _); obtain ⟨x, hx⟩ : ∃ x, x = xs[k]! := ⟨_, rfl⟩; have HNK := hid (NO.out k hlt); have HFK := hid (HF.out k HFR.out); rw [← hx] at hc hgood hdl HNK HFK; obtain ⟨x1, x2, x3, x4, x5, x6, xp, xl, xc, ⟨x8, x9, x10⟩, x11, xd⟩ := x; have up : ∀ {a : Addr} {v : Value}, w.cell? a = some v → wr.cell? a = some v := fun {a v} h => by rw [HBR.out.cell (lt_of_cell h)]; exact h
      have e3 := up (hc 3 _ rfl); have e5 := up (hc 5 _ rfl); have e6 := up (hc 6 _ rfl); simp only at hdl HNK HFK; have hgd : DotsAt w (.slice xp xl xc) xd := hgood; have hxl : xl = xd.length := by obtain ⟨_, _, hq⟩ := hgd.len; injection hq
      have HXL := hid hxl; have HGD := hid hgd; have HC6 := hid (hc 6 _ rfl); clear hc hgood hx hgd hxl up up1
      cases x6 with
      | false =>
        go_upto_region 4 with (fail)
        go_quiet (fail)
        go_wp2; go_roundw
        case rel => exact ⟨k + 1, by omega, by go_num, by obtain ⟨q, hq⟩ := HQ.out; exact ⟨_, by rw [hq]; exact World.drewN_drewN _ _ _⟩, HFK.out _ _ _ rfl rfl rfl (fun h => by cases h.1)⟩
        case measure => simp [intOf]; omega
      | true =>
        by_cases ht : x4 = A4
        · subst ht; obtain ⟨m, hm⟩ : ∃ m, m = xl := ⟨_, rfl⟩; rw [← hm] at e6 HXL HGD HC6; clear hm; have hm1000 : m ≤ 1000 := by have := HXL.out; omega
          go_upto_region 4 with (fail)
          go_quiet (fail)
          go_wp2; obtain ⟨wo, hwo⟩ : ∃ wo, wo = wr.drewN nq := ⟨_, rfl⟩
          rw [← hwo]; have HQO : Hid (∃ q, wo = w1.drewN q) := by obtain ⟨q, hq⟩ := HQ.out; exact ⟨_, by rw [hwo, hq]; exact World.drewN_drewN _ _ _⟩
          clear hwo e3 e5 e6 d3 d5 d7 d8 d9
          go_loopw [6] (fun i wr2 => ∃ j : Nat, j ≤ m ∧ i = .int .i64 j ∧ Hid (∃ q, wr2 = w1.drewN q) ∧ Hid (∀ t, t < j → xd[t]! ≠ ⟨A8, A9, A10⟩)) (fun i _ => m - (intOf i).toNat)
          case atStart => exact ⟨0, Nat.zero_le _, rfl, HQO.out, fun t ht => absurd ht (Nat.not_lt_zero _)⟩
          case round =>
            obtain ⟨j, hj, rfl, HQ2, HJ⟩ := hrel; have up2 : ∀ {a : Addr} {v : Value}, w1.cell? a = some v → wr.cell? a = some v := fun {a v} h => by obtain ⟨q, hq⟩ := HQ2.out; rw [hq]; exact h
            have HBR2 : Hid (Below w.heap.size w wr) := by obtain ⟨q, hq⟩ := HQ2.out; rw [hq]; exact below_draws HB1.out q
            have upw : ∀ {a : Addr} {v : Value}, w.cell? a = some v → wr.cell? a = some v := fun {a v} h => by rw [HBR2.out.cell (lt_of_cell h)]; exact h
            have g6 := upw HC6.out; have g7 := up2 C7.out; have g8 := up2 C8.out; have g9 := up2 C9.out; clear up2
            by_cases hlj : j < m
            · have hgd := HGD.out; have hxl := HXL.out; rw [hxl] at hgd; obtain ⟨bd, od, rfl, p1, p2, p3⟩ := dots_cells hgd (k := j) (by omega); have f1 := upw p1; have f2 := upw p2; have f3 := upw p3; obtain ⟨d, hde⟩ : ∃ d, d = xd[j]! := ⟨_, rfl⟩; rw [← hde] at f1 f2 f3; have HDE := hid hde; have hjx : j < xd.length := by omega
              have HMEM : Hid (d ∈ xd) := by rw [hde, getElem!_pos xd j hjx]; exact List.getElem_mem _
              clear hgd hxl p1 p2 p3 hde upw hjx; obtain ⟨y1, y2, y3⟩ := d; simp only at f1 f2 f3
              have go_next : Hid ((⟨y1, y2, y3⟩ : D3) ≠ ⟨A8, A9, A10⟩ → ∀ t, t < j + 1 → xd[t]! ≠ ⟨A8, A9, A10⟩) := fun hne t ht => by
                rcases Nat.lt_succ_iff_lt_or_eq.1 ht with h | rfl
                · exact HJ.out t h
                · rw [← HDE.out]; exact hne
              by_cases h1 : y1 = A8
              · by_cases h2 : y2 = A9
                · by_cases h3 : y3 = A10
                  · subst h1 h2 h3; have hrv : rv = false := HNK.out ⟨by first | rfl | trivial, by first | rfl | trivial, HMEM.out⟩; subst hrv; go_upto_region 8 with (fail)
                    go_quiet (fail)
                    go_wp2; go_ret
                    exact ⟨rfl, below_draws HBR2.out _⟩
                  · subst h1 h2; have b3 : (y3 == A10) = false := beq_eq_false_iff_ne.2 h3; have HNE : Hid ((⟨y1, y2, y3⟩ : D3) ≠ ⟨y1, y2, A10⟩) := fun e => h3 (by injection e)
                    clear h3; go_upto_region 8 with (fail)
                    go_quiet (fail)
                    go_wp2; go_roundw
                    case rel => exact ⟨j + 1, by omega, by go_num, by obtain ⟨q, hq⟩ := HQ2.out; exact ⟨_, by rw [hq]; exact World.drewN_drewN _ _ _⟩, go_next.out HNE.out⟩
                    case measure => simp [intOf]; omega
                · subst h1; have b2 : (y2 == A9) = false := beq_eq_false_iff_ne.2 h2; have HNE : Hid ((⟨y1, y2, y3⟩ : D3) ≠ ⟨y1, A9, A10⟩) := fun e => h2 (by injection e)
                  clear h2; go_upto_region 8 with (fail)
                  go_quiet (fail)
                  go_wp2; go_roundw
                  case rel => exact ⟨j + 1, by omega, by go_num, by obtain ⟨q, hq⟩ := HQ2.out; exact ⟨_, by rw [hq]; exact World.drewN_drewN _ _ _⟩, go_next.out HNE.out⟩
                  case measure => simp [intOf]; omega
              · have b1 : (y1 == A8) = false := beq_eq_false_iff_ne.2 h1; have HNE : Hid ((⟨y1, y2, y3⟩ : D3) ≠ ⟨A8, A9, A10⟩) := fun e => h1 (by injection e)
                clear h1; go_upto_region 8 with (fail)
                go_quiet (fail)
                go_wp2; go_roundw
                case rel => exact ⟨j + 1, by omega, by go_num, by obtain ⟨q, hq⟩ := HQ2.out; exact ⟨_, by rw [hq]; exact World.drewN_drewN _ _ _⟩, go_next.out HNE.out⟩
                case measure => simp [intOf]; omega
            · obtain rfl : j = m := by omega
              have HNM : Hid (¬(⟨A8, A9, A10⟩ : D3) ∈ xd) := fun hm => by
                obtain ⟨t, ht, e⟩ := List.getElem_of_mem hm; have := HJ.out t (by have := HXL.out; omega); rw [getElem!_pos xd t ht] at this; exact this e
              clear upw; go_wp2; go_roundw
              case rel => exact ⟨k + 1, by omega, by go_num, HQ2.out, HFK.out _ _ _ rfl rfl rfl (fun h => HNM.out h.2.2)⟩
              case measure => simp [intOf]; omega
        · have bt : (x4.toList == A4.toList) = false := beq_eq_false_iff_ne.2 (ne_toList ht); have HT := hid ht; clear ht; go_upto_region 4 with (fail)
          go_quiet (fail)
          go_wp2; go_roundw
          case rel => exact ⟨k + 1, by omega, by go_num, by obtain ⟨q, hq⟩ := HQ.out; exact ⟨_, by rw [hq]; exact World.drewN_drewN _ _ _⟩, HFK.out _ _ _ rfl rfl rfl (fun h => HT.out h.2.1)⟩
          case measure => simp [intOf]; omega
    · obtain rfl : k = n := by omega
      have hrv := YES.out HFR.out; subst hrv; clear up1; go_wp2; go_ret; exact ⟨rfl, HBR.out⟩
end Go.Proofs.YtdnebclemngdcaaGreatDoor
