/- The reference's Same.. of the same. -/
import Derived.Test.YtkonjpcgfdcfbaaDoorJXEi
import Derived.Deep.Cut
namespace Go.Proofs.YtkonjpcgfdcfbaaDoor
open Go.RowKit
set_option maxRecDepth 100000

set_option maxHeartbeats 1000000 in
theorem sameInts_n (w : World) (b1 o1 c1 b2 o2 c2 n : Nat) (zs : List Int) (hl : n ≤ 1000000)
    (h1 : ∀ t, t < n → w.cell? ⟨b1, o1 + t, none⟩ = some (.int .i64 (zs.getD t 0)))
    (h2 : ∀ t, t < n → w.cell? ⟨b2, o2 + t, none⟩ = some (.int .i64 (zs.getD t 0))) :
    Calls Tryd.prog 41 #[.slice (some ⟨b1, o1, none⟩) n c1, .slice (some ⟨b2, o2, none⟩) n c2] w fun e w' => e = .returned (.bool true) ∧ ∃ q, w' = w.drewN q := by
  have H1 := hid h1
  have H2 := hid h2
  clear h1 h2
  go_enter Tryd.func41, Tryd.ntmps41
  go_wp2
  go_loopw [5] (fun i wr => ∃ k q : Nat, k ≤ n ∧ i = .int .i64 k ∧ wr = w.drewN q) (fun i _ => n - (intOf i).toNat)
  case atStart => exact ⟨0, 0, Nat.zero_le _, rfl, rfl⟩
  case round =>
    obtain ⟨k, q, hk, rfl, rfl⟩ := hrel
    by_cases hlt : k < n
    · have e1 := H1.out k hlt
      have e2 := H2.out k hlt
      obtain ⟨z, hz⟩ : ∃ z, z = zs.getD k 0 := ⟨_, rfl⟩
      rw [← hz] at e1 e2
      clear hz
      have hi : (k : Int) < (n : Int) := by omega
      go_wp2
      go_quiet (fail)
      go_wp2
      go_roundw
      case rel => exact ⟨k + 1, _, by omega, by go_num, rfl⟩
      case measure => simp [intOf]; omega
    · obtain rfl : k = n := by omega
      go_wp2
      go_ret
      exact ⟨rfl, _, rfl⟩
theorem sameInts_nil (w : World) (a1 a2 : Option Addr) (c1 c2 : Nat) :
    Calls Tryd.prog 41 #[.slice a1 0 c1, .slice a2 0 c2] w fun e w' => e = .returned (.bool true) ∧ w' = w := by
  go_enter Tryd.func41, Tryd.ntmps41
  go_wp2
  refine wp_loop_rounds 1 ?_
  rw [rounds_succ]
  go_wp2
  go_ret
  exact ⟨rfl, rfl⟩
theorem sameInts_same (w : World) (v1 v2 : Value) (zs : List Int) (h1 : IntsAt w v1 zs) (h2 : IntsAt w v2 zs) (hl : zs.length ≤ 1000000) :
    Calls Tryd.prog 41 #[v1, v2] w fun e w' => e = .returned (.bool true) ∧ ∃ q, w' = w.drewN q := by
  obtain ⟨a1, c1, rfl, _, h1⟩ := h1
  obtain ⟨a2, c2, rfl, _, h2⟩ := h2
  rcases h1 with rfl | ⟨b1, o1, rfl, h1⟩
  · refine (sameInts_nil w a1 a2 c1 c2).mono ?_
    rintro e w' ⟨rfl, rfl⟩
    exact ⟨rfl, 0, rfl⟩
  · rcases h2 with rfl | ⟨b2, o2, rfl, h2⟩
    · refine (sameInts_nil w _ a2 c1 c2).mono ?_
      rintro e w' ⟨rfl, rfl⟩
      exact ⟨rfl, 0, rfl⟩
    · exact sameInts_n w b1 o1 c1 b2 o2 c2 zs.length zs hl h1 h2

theorem dots_cells {w : World} {a : Option Addr} {n c : Nat} {ds : List D3} (h : DotsAt w (.slice a n c) ds) {k : Nat} {d : D3} (hk : ds[k]? = some d) :
    ∃ b o, a = some ⟨b, o, none⟩ ∧ w.cell? ⟨b, o + k * 3, none⟩ = some (.int .i64 d.p) ∧ w.cell? ⟨b, o + k * 3 + 1, none⟩ = some (.int .i64 d.t) ∧ w.cell? ⟨b, o + k * 3 + 2, none⟩ = some (.int .i64 d.a) := by
  obtain ⟨ad, cap, hv, _, _, h⟩ := h
  injection hv with hv _ _
  subst hv
  rcases h with h | ⟨b, o, rfl, h⟩
  · rw [List.map_eq_nil_iff] at h
    rw [h] at hk; simp at hk
  · refine ⟨b, o, rfl, ?_⟩
    have hc := (h k d.cells (by rw [List.getElem?_map, hk]; rfl)).2
    exact ⟨hc 0 _ rfl, hc 1 _ rfl, hc 2 _ rfl⟩
set_option maxHeartbeats 1000000 in
theorem sameDots_same (w : World) (v v' : Value) (ds : List D3) (h : DotsAt w v ds) (h' : DotsAt w v' ds) (hl : ds.length ≤ 1000000) :
    Calls Tryd.prog 54 #[v, v'] w fun e w' => e = .returned (.bool true) ∧ ∃ q, w' = w.drewN q := by
  obtain ⟨a1, c1, rfl⟩ := h.len
  obtain ⟨a2, c2, rfl⟩ := h'.len
  have H1 := hid h
  have H2 := hid h'
  obtain ⟨n, hn⟩ : ∃ n, n = ds.length := ⟨_, rfl⟩
  rw [← hn] at hl H1 H2 ⊢
  have HN := hid hn
  have bn : ((n : Int) != (n : Int)) = false := by simp
  clear hn h h'
  go_enter Tryd.func54, Tryd.ntmps54
  go_wp2
  go_loopw [5] (fun i wr => ∃ k : Nat, k ≤ n ∧ i = .int .i64 k ∧ Hid (∃ q, wr = w.drewN q)) (fun i _ => n - (intOf i).toNat)
  case atStart => exact ⟨0, Nat.zero_le _, rfl, 0, rfl⟩
  case round =>
    obtain ⟨k, hk, rfl, HQ⟩ := hrel
    by_cases hlt : k < n
    · have hn := HN.out
      obtain ⟨d, hd⟩ : ∃ d, ds[k]? = some d := ⟨_, List.getElem?_eq_getElem (by omega)⟩
      obtain ⟨b1, o1, rfl, p1, p2, p3⟩ := dots_cells H1.out hd
      obtain ⟨b2, o2, rfl, q1, q2, q3⟩ := dots_cells H2.out hd
      have up : ∀ {a : Addr} {v : Value}, w.cell? a = some v → wr.cell? a = some v := fun {a v} h => by obtain ⟨q, hq⟩ := HQ.out; rw [hq]; exact h
      have e1 := up p1
      have e2 := up p2
      have e3 := up p3
      have f1 := up q1
      have f2 := up q2
      have f3 := up q3
      clear hd
      obtain ⟨x, y, z⟩ := d
      simp only at e1 e2 e3 f1 f2 f3
      clear hn p1 p2 p3 q1 q2 q3 up
      go_upto_region 6 with (fail)
      go_quiet (fail)
      go_wp2
      go_roundw
      case rel => exact ⟨k + 1, by omega, by go_num, by obtain ⟨q, hq⟩ := HQ.out; exact ⟨_, by rw [hq]; exact World.drewN_drewN _ _ _⟩⟩
      case measure => simp [intOf]; omega
    · obtain rfl : k = n := by omega
      go_wp2
      go_ret
      exact ⟨rfl, HQ.out⟩
theorem below2 (w : World) (o1 o2 : Obj) : Below w.heap.size w ((w.alloc o1).alloc o2) := (below_alloc w o1).alloc (by simp) _
set_option maxHeartbeats 1000000 in
theorem sameOp_same (w : World) (o : OpV) (dv dv' : Value) (h : DotsAt w dv o.dots) (h' : DotsAt w dv' o.dots) (hl : o.dots.length ≤ 1000000) :
    Calls Tryd.prog 42 #[.agg #[.int .i64 o.at_, .string o.key, .int .i64 o.kind, .string o.text, .int .i64 o.n, .bool o.rem, dv], .agg #[.int .i64 o.at_, .string o.key, .int .i64 o.kind, .string o.text, .int .i64 o.n, .bool o.rem, dv']] w fun e w' => e = .returned (.bool true) ∧ Below w.heap.size w w' := by
  have hb := below2 w (.cells #[.int .i64 o.at_, .string o.key, .int .i64 o.kind, .string o.text, .int .i64 o.n, .bool o.rem, dv] 52) (.cells #[.int .i64 o.at_, .string o.key, .int .i64 o.kind, .string o.text, .int .i64 o.n, .bool o.rem, dv'] 52)
  have K := hid (sameDots_same _ dv dv' o.dots (h.mono hb (Nat.le_refl _)) (h'.mono hb (Nat.le_refl _)) hl)
  obtain ⟨a1, c1, rfl⟩ := h.len
  obtain ⟨a2, c2, rfl⟩ := h'.len
  have HB := hid hb
  clear h h' hb
  obtain ⟨x1, x2, x3, x4, x5, x6, ds⟩ := o
  simp only at K HB hl ⊢
  go_enter Tryd.func42, Tryd.ntmps42
  go_wp2_with fail
  refine K.out.mono ?_
  rintro e w2 ⟨rfl, q, rfl⟩
  clear K
  go_wp2
  go_ret
  exact ⟨rfl, below_draws HB.out q⟩
end Go.Proofs.YtkonjpcgfdcfbaaDoor
