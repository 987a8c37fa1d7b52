/- The reference's OpError by its contract; The reference's live by its contract. -/
import Derived.Test.YtngjooemanapnaaGreatDoorJVRefN
import Derived.Test.YtngjooemanapnaaGreatDoorJVDel
import Derived.Test.YtngjooemanapnaaGreatDoorJVMath
import Derived.Test.YtngjooemanapnaaGreatDoorJVOnce
import Derived.Test.YtngjooemanapnaaGreatDoorJJM
namespace Go.Proofs.YtngjooemanapnaaGreatDoor
open Go.RowKit
set_option maxRecDepth 100000

theorem ret_nat {a b : Nat} (h : b = a) : Ending.returned (.int .i64 ((a : Nat) : Int)) = .returned (.int .i64 ((b : Nat) : Int)) := by rw [h]
theorem dots_cells {w : World} {p : Option Addr} {c : Nat} {ds : List D3} (h : DotsAt w (.slice p ds.length c) ds) {k : Nat} (hk : k < ds.length) : ∃ b off, p = some ⟨b, off, none⟩ ∧ w.cell? ⟨b, off + k * 3, none⟩ = some (.int .i64 ds[k]!.p) ∧ w.cell? ⟨b, off + k * 3 + 1, none⟩ = some (.int .i64 ds[k]!.t) ∧ w.cell? ⟨b, off + k * 3 + 2, none⟩ = some (.int .i64 ds[k]!.a) := by
  obtain ⟨ad, cap, he, _, _, h⟩ := h
  injection he with e1 _ _
  subst e1
  rcases h with h | ⟨b, off, rfl, h⟩
  · have : ds = [] := by simpa using h
    rw [this] at hk
    simp at hk
  · have hr := h k ds[k]!.cells (by rw [List.getElem?_map, List.getElem?_eq_getElem hk, getElem!_pos ds k hk]; rfl)
    exact ⟨b, off, rfl, hr.2 0 _ rfl, hr.2 1 _ rfl, hr.2 2 _ rfl⟩
theorem dot_true {n : Int} {d : D3} (h : dotB n d = true) : 0 ≤ d.p ∧ d.p < n ∧ 1 ≤ d.t ∧ d.t ≤ 1099511627776 ∧ 0 ≤ d.a ∧ d.a < 12 := by
  simp only [dotB, Bool.and_eq_true, decide_eq_true_eq] at h
  omega
theorem dot_false {n : Int} {d : D3} (h : dotB n d = false) : ¬ (0 ≤ d.p ∧ d.p < n ∧ 1 ≤ d.t ∧ d.t ≤ 1099511627776 ∧ 0 ≤ d.a ∧ d.a < 12) := fun e => by
  have : dotB n d = true := by simp only [dotB, Bool.and_eq_true, decide_eq_true_eq]; omega
  rw [this] at h
  cases h
set_option maxHeartbeats 4000000 in
theorem rOpError (w : World) (x1 : Int) (x2 : ByteArray) (x3 : Int) (x4 : ByteArray) (x5 : Int) (x6 : Bool) (xp : Option Addr) (xc : Nat) (ds : List D3) (n : Int)
    (hd : DotsAt w (.slice xp ds.length xc) ds) (hl : ds.length ≤ 1000000) (ht : x4.size ≤ 1000000) :
    Calls Tryz.prog 54 #[.agg #[.int .i64 x1, .string x2, .int .i64 x3, .string x4, .int .i64 x5, .bool x6, .slice xp ds.length xc], .int .i64 n] w
    fun e w' => e = .returned (.int .i64 ((opErr ⟨x1, x2, x3, x4, x5, x6, ds⟩ n : Nat) : Int)) ∧ Below w.heap.size w w' := by
  have K22 := fun W => rIsName W x2
  obtain ⟨er, her⟩ : ∃ er, er = opErr ⟨x1, x2, x3, x4, x5, x6, ds⟩ n := ⟨_, rfl⟩
  have her' := her
  unfold opErr at her'
  simp only at her'
  rw [← her]
  have hall : Hid ((∀ t, t < ds.length → dotB n ds[t]! = true) → ds.all (dotB n) = true) := fun h => List.all_eq_true.2 fun d hd => by
    obtain ⟨i, hi, rfl⟩ := List.getElem_of_mem hd
    have := h i hi
    rwa [getElem!_pos ds i hi] at this
  have hone : Hid (∀ t, t < ds.length → dotB n ds[t]! = false → ds.all (dotB n) = false) := fun t ht hf => List.all_eq_false.2 ⟨ds[t], List.getElem_mem ht, by rw [getElem!_pos ds t ht] at hf; rw [hf]; decide⟩
  obtain ⟨m, hm⟩ : ∃ m, m = ds.length := ⟨_, rfl⟩
  have HD := hid hd
  rw [← hm] at her' hl HD hall hone ⊢
  obtain ⟨fb, hfb⟩ : ∃ fb, fb = foreignB ⟨x1, x2, x3, x4, x5, x6, ds⟩ := ⟨_, rfl⟩
  rw [← hfb] at her'
  unfold foreignB at hfb
  simp only at hfb
  rw [← hm] at hfb
  obtain ⟨nb, hnb⟩ : ∃ nb, nb = nameB x2 := ⟨_, rfl⟩
  rw [← hnb] at K22 her'
  have HER := hid her'
  have HFB := hid hfb
  have HM := hid hm
  clear her' her hm hfb hnb hd
  by_cases n1 : n < 1
  · have hr : er = 2 := by rw [HER.out, if_pos (.inl n1)]
    subst hr
    go_enter Tryz.func54, Tryz.ntmps54
    go_wp2
    go_ret
    exact ⟨rfl, below_alloc _ _⟩
  by_cases n6 : 6 < n
  · have hr : er = 2 := by rw [HER.out, if_pos (.inr (.inl n6))]
    subst hr
    go_enter Tryz.func54, Tryz.ntmps54
    go_wp2
    go_ret
    exact ⟨rfl, below_alloc _ _⟩
  by_cases a1 : x1 < 0
  · have hr : er = 2 := by rw [HER.out, if_pos (.inr (.inr (.inl a1)))]
    subst hr
    go_enter Tryz.func54, Tryz.ntmps54
    go_wp2
    go_ret
    exact ⟨rfl, below_alloc _ _⟩
  by_cases a2 : 12 ≤ x1
  · have hr : er = 2 := by rw [HER.out, if_pos (.inr (.inr (.inr a2)))]
    subst hr
    go_enter Tryz.func54, Tryz.ntmps54
    go_wp2
    go_ret
    exact ⟨rfl, below_alloc _ _⟩
  have H1 := HER.out
  rw [if_neg (by omega)] at H1
  cases nb with
  | false =>
    have hr : er = 4 := by rw [H1, if_pos rfl]
    clear H1
    subst hr
    go_enter Tryz.func54, Tryz.ntmps54
    go_wp2_with (go_at_call 55; refine (K22 _).mono ?_; rintro e w' ⟨rfl, rfl⟩)
    go_ret
    exact ⟨rfl, below_alloc _ _⟩
  | true =>
    rw [if_neg (by decide)] at H1
    by_cases hk : kindB x3 = false
    · have hr : er = 12 := by rw [H1, if_pos hk]
      clear H1
      subst hr
      have k1 : (x3 == 1) = false := by rw [beq_eq_false_iff_ne]; rintro rfl; exact absurd hk (by decide)
      have k2 : (x3 == 2) = false := by rw [beq_eq_false_iff_ne]; rintro rfl; exact absurd hk (by decide)
      have k3 : (x3 == 3) = false := by rw [beq_eq_false_iff_ne]; rintro rfl; exact absurd hk (by decide)
      clear hk
      go_enter Tryz.func54, Tryz.ntmps54
      go_wp2_with (go_at_call 55; refine (K22 _).mono ?_; rintro e w' ⟨rfl, rfl⟩)
      go_ret
      exact ⟨rfl, below_alloc _ _⟩
    rw [if_neg hk] at H1
    have hk' : x3 = 1 ∨ x3 = 2 ∨ x3 = 3 := by
      have : kindB x3 = true := by simpa using hk
      simpa [kindB] using this
    have HX := hid H1
    clear H1 hk
    cases fb with
    | true =>
      have hr : er = 3 := by rw [HX.out, if_pos rfl]
      subst hr
      rcases hk' with rfl | rfl | rfl
      · have hq := HFB.out
        rw [if_pos rfl] at hq
        by_cases z5 : x5 = 0
        · subst z5
          cases x6 with
          | true =>
            clear hq
            go_enter Tryz.func54, Tryz.ntmps54
            go_wp2_with (go_at_call 55; refine (K22 _).mono ?_; rintro e w' ⟨rfl, rfl⟩)
            go_ret
            exact ⟨rfl, below_alloc _ _⟩
          | false =>
            have hm0 : 0 < m := by simpa using hq.symm
            have hm0' : (0 : Int) < (m : Int) := by omega
            clear hq
            go_enter Tryz.func54, Tryz.ntmps54
            go_wp2_with (go_at_call 55; refine (K22 _).mono ?_; rintro e w' ⟨rfl, rfl⟩)
            go_ret
            exact ⟨rfl, below_alloc _ _⟩
        · have z5' : (x5 != 0) = true := by simpa using z5
          clear hq
          go_enter Tryz.func54, Tryz.ntmps54
          go_wp2_with (go_at_call 55; refine (K22 _).mono ?_; rintro e w' ⟨rfl, rfl⟩)
          go_ret
          exact ⟨rfl, below_alloc _ _⟩
      · have hq := HFB.out
        rw [if_neg (by decide), if_pos rfl] at hq
        by_cases z4 : x4 = ByteArray.empty
        · subst z4
          cases x6 with
          | true =>
            clear hq
            go_enter Tryz.func54, Tryz.ntmps54
            go_wp2_with (go_at_call 55; refine (K22 _).mono ?_; rintro e w' ⟨rfl, rfl⟩)
            go_ret
            exact ⟨rfl, below_alloc _ _⟩
          | false =>
            have hm0 : 0 < m := by simpa using hq.symm
            have hm0' : (0 : Int) < (m : Int) := by omega
            clear hq
            go_enter Tryz.func54, Tryz.ntmps54
            go_wp2_with (go_at_call 55; refine (K22 _).mono ?_; rintro e w' ⟨rfl, rfl⟩)
            go_ret
            exact ⟨rfl, below_alloc _ _⟩
        · have z4' : (x4.toList == []) = false := by
            rw [beq_eq_false_iff_ne]
            intro h
            have h2 : x4.data.toList = [] := by rw [← Lib.toList_data]; exact h
            exact z4 (WideShapes.bytes_inj (by rw [h2]; rfl))
          clear hq
          go_enter Tryz.func54, Tryz.ntmps54
          go_wp2_with (go_at_call 55; refine (K22 _).mono ?_; rintro e w' ⟨rfl, rfl⟩)
          go_ret
          exact ⟨rfl, below_alloc _ _⟩
      · have hq := HFB.out
        rw [if_neg (by decide), if_neg (by decide)] at hq
        by_cases z5 : x5 = 0
        · subst z5
          cases x6 with
          | true => exact absurd hq (by simp)
          | false =>
            have hm0 : 0 < m := by simpa using hq.symm
            have hm0' : (0 : Int) < (m : Int) := by omega
            clear hq
            go_enter Tryz.func54, Tryz.ntmps54
            go_wp2_with (go_at_call 55; refine (K22 _).mono ?_; rintro e w' ⟨rfl, rfl⟩)
            go_ret
            exact ⟨rfl, below_alloc _ _⟩
        · have z5' : (x5 != 0) = true := by simpa using z5
          clear hq
          go_enter Tryz.func54, Tryz.ntmps54
          go_wp2_with (go_at_call 55; refine (K22 _).mono ?_; rintro e w' ⟨rfl, rfl⟩)
          go_ret
          exact ⟨rfl, below_alloc _ _⟩
    | false =>
      have H2 := HX.out
      rw [if_neg (by decide)] at H2
      have HY := hid H2
      clear H2
      have E : x3 = 1 ∧ x5 = 0 ∧ x6 = false ∧ m = 0 ∨ x3 = 2 ∧ x4 = ByteArray.empty ∧ x6 = false ∧ m = 0 ∨ x3 = 3 ∧ x5 = 0 ∧ x6 = false ∧ m = 0 ∨ x3 = 3 ∧ x5 = 0 ∧ x6 = true := by
        have hq := HFB.out
        rcases hk' with rfl | rfl | rfl
        · rw [if_pos rfl] at hq
          have h2 := hq.symm
          simp only [Bool.or_eq_false_iff, Bool.not_eq_false', decide_eq_true_eq, decide_eq_false_iff_not] at h2
          exact .inl ⟨rfl, h2.1, h2.2.1, by omega⟩
        · rw [if_neg (by decide), if_pos rfl] at hq
          have h2 := hq.symm
          simp only [Bool.or_eq_false_iff, Bool.not_eq_false', decide_eq_true_eq, decide_eq_false_iff_not] at h2
          exact .inr (.inl ⟨rfl, h2.1, h2.2.1, by omega⟩)
        · rw [if_neg (by decide), if_neg (by decide)] at hq
          have h2 := hq.symm
          simp only [Bool.or_eq_false_iff, Bool.not_eq_false', decide_eq_true_eq] at h2
          cases x6 with
          | false => exact .inr (.inr (.inl ⟨rfl, h2.1, rfl, by simpa using h2.2⟩))
          | true => exact .inr (.inr (.inr ⟨rfl, h2.1, rfl⟩))
      clear hk'
      rcases E with ⟨rfl, rfl, rfl, rfl⟩ | ⟨rfl, rfl, rfl, rfl⟩ | ⟨rfl, rfl, rfl, rfl⟩ | ⟨rfl, rfl, rfl⟩
      · by_cases t1 : 60 < x4.size
        · have hr : er = 2 := by rw [HY.out, if_pos (.inl t1)]
          have t1' : 60 < (x4.size : Int) := by omega
          subst hr
          go_enter Tryz.func54, Tryz.ntmps54
          go_wp2_with (go_at_call 55; refine (K22 _).mono ?_; rintro e w' ⟨rfl, rfl⟩)
          go_ret
          exact ⟨rfl, below_alloc _ _⟩
        · have hr : er = 0 := by rw [HY.out, if_neg (by omega), if_neg (by rw [hall.out (fun t ht => absurd ht (Nat.not_lt_zero _))]; decide)]
          have t1' : ¬ 60 < (x4.size : Int) := by omega
          subst hr
          go_enter Tryz.func54, Tryz.ntmps54
          go_wp2_with (go_at_call 55; refine (K22 _).mono ?_; rintro e w' ⟨rfl, rfl⟩)
          refine wp_loop_rounds 1 ?_
          rw [rounds_succ]
          go_wp2
          go_ret
          exact ⟨rfl, below_alloc _ _⟩
      · by_cases t2 : x5 < -1099511627776
        · have hr : er = 2 := by rw [HY.out, if_pos (.inr (.inl t2))]
          subst hr
          go_enter Tryz.func54, Tryz.ntmps54
          go_wp2_with (go_at_call 55; refine (K22 _).mono ?_; rintro e w' ⟨rfl, rfl⟩)
          go_ret
          exact ⟨rfl, below_alloc _ _⟩
        by_cases t3 : 1099511627776 < x5
        · have hr : er = 2 := by rw [HY.out, if_pos (.inr (.inr (.inl t3)))]
          subst hr
          go_enter Tryz.func54, Tryz.ntmps54
          go_wp2_with (go_at_call 55; refine (K22 _).mono ?_; rintro e w' ⟨rfl, rfl⟩)
          go_ret
          exact ⟨rfl, below_alloc _ _⟩
        · have hr : er = 0 := by rw [HY.out, if_neg (by have : ByteArray.empty.size = 0 := rfl; omega), if_neg (by rw [hall.out (fun t ht => absurd ht (Nat.not_lt_zero _))]; decide)]
          subst hr
          go_enter Tryz.func54, Tryz.ntmps54
          go_wp2_with (go_at_call 55; refine (K22 _).mono ?_; rintro e w' ⟨rfl, rfl⟩)
          refine wp_loop_rounds 1 ?_
          rw [rounds_succ]
          go_wp2
          go_ret
          exact ⟨rfl, below_alloc _ _⟩
      · by_cases t1 : 60 < x4.size
        · have hr : er = 2 := by rw [HY.out, if_pos (.inl t1)]
          have t1' : 60 < (x4.size : Int) := by omega
          subst hr
          go_enter Tryz.func54, Tryz.ntmps54
          go_wp2_with (go_at_call 55; refine (K22 _).mono ?_; rintro e w' ⟨rfl, rfl⟩)
          go_ret
          exact ⟨rfl, below_alloc _ _⟩
        · have hr : er = 0 := by rw [HY.out, if_neg (by omega), if_neg (by rw [hall.out (fun t ht => absurd ht (Nat.not_lt_zero _))]; decide)]
          have t1' : ¬ 60 < (x4.size : Int) := by omega
          subst hr
          go_enter Tryz.func54, Tryz.ntmps54
          go_wp2_with (go_at_call 55; refine (K22 _).mono ?_; rintro e w' ⟨rfl, rfl⟩)
          refine wp_loop_rounds 1 ?_
          rw [rounds_succ]
          go_wp2
          go_ret
          exact ⟨rfl, below_alloc _ _⟩
      · by_cases t1 : 60 < x4.size
        · have hr : er = 2 := by rw [HY.out, if_pos (.inl t1)]
          have t1' : 60 < (x4.size : Int) := by omega
          subst hr
          go_enter Tryz.func54, Tryz.ntmps54
          go_wp2_with (go_at_call 55; refine (K22 _).mono ?_; rintro e w' ⟨rfl, rfl⟩)
          go_ret
          exact ⟨rfl, below_alloc _ _⟩
        have t1' : ¬ 60 < (x4.size : Int) := by omega
        by_cases t4 : 60 < m
        · have hr : er = 2 := by rw [HY.out, if_pos (.inr (.inr (.inr t4)))]
          have t4' : 60 < (m : Int) := by omega
          subst hr
          go_enter Tryz.func54, Tryz.ntmps54
          go_wp2_with (go_at_call 55; refine (K22 _).mono ?_; rintro e w' ⟨rfl, rfl⟩)
          go_ret
          exact ⟨rfl, below_alloc _ _⟩
        have t4' : ¬ 60 < (m : Int) := by omega
        have H3 := HY.out
        rw [if_neg (by omega)] at H3
        have HZ := hid H3
        clear H3
        obtain ⟨w1, hw1⟩ : ∃ w1, w1 = w.alloc (.cells #[.int .i64 x1, .string x2, .int .i64 3, .string x4, .int .i64 0, .bool true, .slice xp m xc] 80) := ⟨_, rfl⟩
        have B1 : Hid (Below w.heap.size w w1) := by rw [hw1]; exact below_alloc _ _
        have S1 : Hid (w1.heap.size = w.heap.size + 1) := hid (by rw [hw1]; simp)
        have C6 : Hid (w1.cell? ⟨w.heap.size, 6, none⟩ = some (.slice xp m xc)) := hid (by rw [hw1]; simp)
        have HW1 := hid hw1
        clear hw1
        go_enter Tryz.func54, Tryz.ntmps54
        go_wp2_with (go_at_call 55; refine (K22 _).mono ?_; rintro e w' ⟨rfl, rfl⟩)
        go_loopw [6] (fun i wr => ∃ k : Nat, k ≤ m ∧ i = .int .i64 k ∧ Hid (Below (w.heap.size + 1) w1 wr) ∧ Hid (∀ t, t < k → dotB n ds[t]! = true)) (fun i _ => m - (intOf i).toNat)
        case atStart => exact ⟨0, Nat.zero_le _, rfl, (by rw [HW1.out]; exact Below.refl _ _), fun t ht => absurd ht (Nat.not_lt_zero _)⟩
        case round =>
          obtain ⟨k, hk, rfl, HB, HI⟩ := hrel
          have hB := HB.out
          have hs1 := S1.out
          have hsz : w.heap.size + 1 ≤ wr.heap.size := by have := hB.size; omega
          have wB : Hid (Below w.heap.size w wr) := B1.out.trans (hB.mono (by omega))
          have e6 : wr.cell? ⟨w.heap.size, 6, none⟩ = some (.slice xp m xc) := by rw [hB.cell (p := ⟨w.heap.size, 6, none⟩) (by simp)]; exact C6.out
          clear hB hs1
          by_cases hlt : k < m
          · have hmm := HM.out
            have hdd := HD.out
            rw [hmm] at hdd
            obtain ⟨b, off, rfl, q0, q1, q2⟩ := dots_cells hdd (k := k) (by omega)
            have up : ∀ {a : Addr} {v : Value}, w.cell? a = some v → wr.cell? a = some v := fun {a v} h => by rw [wB.out.cell (lt_of_cell h)]; exact h
            have r0 := up q0
            have r1 := up q1
            have r2 := up q2
            obtain ⟨d, hde⟩ : ∃ d, d = ds[k]! := ⟨_, rfl⟩
            rw [← hde] at r0 r1 r2
            have HDE := hid hde
            clear q0 q1 q2 up hde hmm hdd
            obtain ⟨p, t, a⟩ := d
            simp only at r0 r1 r2
            cases hb : dotB n ⟨p, t, a⟩ with
            | true =>
              have hh := dot_true hb
              simp only at hh
              obtain ⟨g1, g2, g3, g4, g5, g6⟩ := hh
              have HBD := hid hb
              clear hb
              go_wp2
              go_roundw
              case rel => exact ⟨k + 1, by omega, by go_num, HB.out.alloc hsz _, fun t ht => by rcases Nat.lt_succ_iff_lt_or_eq.1 ht with h | rfl; exact HI.out t h; rw [← HDE.out]; exact HBD.out⟩
              case measure => simp [intOf]; omega
            | false =>
              have HN := hid (dot_false hb)
              have hr : er = 2 := by rw [HZ.out, if_pos (hone.out k hlt (by rw [← HDE.out]; exact hb))]
              clear hb
              subst hr
              go_wp2
              all_goals first
                | (exfalso; have := HN.out; simp only at this; omega)
                | (go_ret; exact ⟨rfl, wB.out.alloc (by have := wB.out.size; omega) _⟩)
          · obtain rfl : k = m := by omega
            have hr : er = 0 := by rw [HZ.out, if_neg (by rw [hall.out HI.out]; decide)]
            subst hr
            go_wp2
            go_ret
            exact ⟨rfl, wB.out⟩
end Go.Proofs.YtngjooemanapnaaGreatDoor
namespace Go.Proofs.YtngjooemanapnaaGreatDoor
open Go.RowKit Go.Sort Go.Maps
set_option maxRecDepth 100000

/-- A slice of ops with their dots, as the reference has it. -/
structure DnsAt (w : World) (v : Value) (xs : List Dd) : Prop where
  row : RowAt 11 w v (xs.map Dd.enc)
  good : ∀ x ∈ xs, GoodD w x
theorem DnsAt.mono {w w' : World} {v : Value} {xs : List Dd} {B : Nat} (h : DnsAt w v xs) (hb : Below B w w') (hB : w.heap.size ≤ B) : DnsAt w' v xs := ⟨h.row.mono hb hB, fun x hx => (h.good x hx).mono hb hB⟩
theorem DnsAt.len {w : World} {v : Value} {xs : List Dd} (h : DnsAt w v xs) : ∃ a c, v = .slice a xs.length c := by
  obtain ⟨a, c, h, _⟩ := h.row
  exact ⟨a, c, by rw [h, List.length_map]⟩
theorem DnsAt.cell {w : World} {p : Option Addr} {n c : Nat} {xs : List Dd} (h : DnsAt w (.slice p n c) xs) {k : Nat} (hk : k < xs.length) : ∃ b off, p = some ⟨b, off, none⟩ ∧ ∀ i u, (xs[k]!.enc)[i]? = some u → w.cell? ⟨b, off + k * 11 + i, none⟩ = some u := by
  obtain ⟨ad, cap, he, _, _, hq⟩ := h.row
  injection he with e1 _ _
  subst e1
  rcases hq with hq | ⟨b, off, rfl, hq⟩
  · have : xs = [] := by simpa using hq
    rw [this] at hk
    simp at hk
  · have hr := hq k xs[k]!.enc (by rw [List.getElem?_map, List.getElem?_eq_getElem hk, getElem!_pos xs k hk]; rfl)
    exact ⟨b, off, rfl, hr.2⟩
def LiveRet (xs : List Dd) (a : Dd) (w : World) (e : Ending) (w' : World) : Prop := e = .returned (.bool (liveB (xs.map Dd.abs) a.abs)) ∧ Below w.heap.size w w'
/-- No op of the first k removes the dot. -/
def freeB (xs : List Dd) (a : Dd) (k : Nat) : Prop := ∀ j, j < k → ¬(xs[j]!.rem = true ∧ xs[j]!.text = a.text ∧ a.dot ∈ xs[j]!.ds)
theorem live_yes {xs : List Dd} {a : Dd} (h : freeB xs a xs.length) : liveB (xs.map Dd.abs) a.abs = !a.rem := by
  unfold liveB
  have : ((xs.map Dd.abs).any fun y => y.o.rem && (decide (y.o.text = a.abs.o.text) && decide (a.abs.dot ∈ y.o.dots))) = false := List.any_eq_false.2 fun y hy hc => by
    obtain ⟨x, hx, rfl⟩ := List.mem_map.1 hy
    obtain ⟨j, hj, rfl⟩ := List.getElem_of_mem hx
    have := h j hj
    rw [getElem!_pos xs j hj] at this
    simp only [Bool.and_eq_true, decide_eq_true_eq] at hc
    exact this ⟨hc.1, hc.2.1, hc.2.2⟩
  rw [this]
  show (!a.rem && true) = !a.rem
  simp
theorem live_no {xs : List Dd} {a : Dd} {j : Nat} (hj : j < xs.length) (h : xs[j]!.rem = true ∧ xs[j]!.text = a.text ∧ a.dot ∈ xs[j]!.ds) : liveB (xs.map Dd.abs) a.abs = false := by
  unfold liveB
  have : ((xs.map Dd.abs).any fun y => y.o.rem && (decide (y.o.text = a.abs.o.text) && decide (a.abs.dot ∈ y.o.dots))) = true := List.any_eq_true.2 ⟨xs[j]!.abs, List.mem_map.2 ⟨_, by rw [getElem!_pos xs j hj]; exact List.getElem_mem _, rfl⟩, by
    simp only [Bool.and_eq_true, decide_eq_true_eq]
    exact ⟨h.1, h.2.1, h.2.2⟩⟩
  rw [this]
  simp
set_option maxHeartbeats 4000000 in
theorem live_any (w : World) (v : Value) (xs : List Dd) (h : DnsAt w v xs) (a : Dd) (hl : xs.length ≤ 100000) (hd : ∀ x ∈ xs, x.ds.length ≤ 1000) :
    Calls Tryz.prog 78 #[v, .agg a.enc.toArray] w fun e w' => LiveRet xs a w e w' := by
  obtain ⟨av, cv, rfl⟩ := h.len
  obtain ⟨n, hn⟩ : ∃ n, n = xs.length := ⟨_, rfl⟩
  rw [← hn] at hl ⊢
  have HN := hid hn
  have HX := hid h
  have HDL := hid hd
  rw [← hn] at HX
  obtain ⟨w1, hw1⟩ : ∃ w1, w1 = w.alloc (.cells a.enc.toArray 137) := ⟨_, rfl⟩
  have b1 : Below w.heap.size w w1 := by rw [hw1]; exact below_alloc _ _
  obtain ⟨rv, hrv⟩ : ∃ rv, rv = liveB (xs.map Dd.abs) a.abs := ⟨_, rfl⟩
  unfold LiveRet
  rw [← hrv]
  have YES : Hid (freeB xs a n → rv = !a.rem) := fun h => by rw [hrv]; exact live_yes (by rw [← HN.out]; exact h)
  have NO : Hid (∀ j, j < n → xs[j]!.rem = true ∧ xs[j]!.text = a.text ∧ a.dot ∈ xs[j]!.ds → rv = false) := fun j hj h => by rw [hrv]; exact live_no (by rw [← HN.out]; exact hj) h
  have HF : Hid (∀ k, freeB xs a k → ∀ t d r, xs[k]!.text = t → xs[k]!.ds = d → xs[k]!.rem = r → ¬(r = true ∧ t = a.text ∧ a.dot ∈ d) → freeB xs a (k + 1)) := fun k hf t d r ht hd hr hne j hj => by
    rcases Nat.lt_succ_iff_lt_or_eq.1 hj with h | rfl
    · exact hf j h
    · rw [ht, hd, hr]; exact hne
  obtain ⟨A1, A2, A3, A4, A5, A6, Ap, Al, Ac, ⟨A8, A9, A10⟩, A11, Ad⟩ := a
  have c3 : w1.cell? ⟨w.heap.size, 3, none⟩ = some (.string A4) := by rw [hw1]; exact (World.cell?_alloc_at _ _ _ _ rfl).trans rfl
  have c5 : w1.cell? ⟨w.heap.size, 5, none⟩ = some (.bool A6) := by rw [hw1]; exact (World.cell?_alloc_at _ _ _ _ rfl).trans rfl
  have c7 : w1.cell? ⟨w.heap.size, 7, none⟩ = some (.int .i64 A8) := by rw [hw1]; exact (World.cell?_alloc_at _ _ _ _ rfl).trans rfl
  have c8 : w1.cell? ⟨w.heap.size, 8, none⟩ = some (.int .i64 A9) := by rw [hw1]; exact (World.cell?_alloc_at _ _ _ _ rfl).trans rfl
  have c9 : w1.cell? ⟨w.heap.size, 9, none⟩ = some (.int .i64 A10) := by rw [hw1]; exact (World.cell?_alloc_at _ _ _ _ rfl).trans rfl
  simp only at YES NO HF
  have HB1 := hid b1
  have C3 := hid c3
  have C5 := hid c5
  have C7 := hid c7
  have C8 := hid c8
  have C9 := hid c9
  have HW1 := hid hw1
  clear hn h hd hrv b1 c3 c5 c7 c8 c9 hw1
  show Calls Tryz.prog 78 #[.slice av n cv, .agg #[.int .i64 A1, .string A2, .int .i64 A3, .string A4, .int .i64 A5, .bool A6, .slice Ap Al Ac, .int .i64 A8, .int .i64 A9, .int .i64 A10, .int .i64 A11]] w _
  go_enter Tryz.func78, Tryz.ntmps78
  go_wp2
  go_loopw [5] (fun i wr => ∃ k : Nat, k ≤ n ∧ i = .int .i64 k ∧ Hid (∃ q, wr = w1.drewN q) ∧ Hid (freeB xs ⟨A1, A2, A3, A4, A5, A6, Ap, Al, Ac, ⟨A8, A9, A10⟩, A11, Ad⟩ k)) (fun i _ => n - (intOf i).toNat)
  case atStart => exact ⟨0, Nat.zero_le _, rfl, ⟨0, HW1.out.symm⟩, fun j hj => absurd hj (Nat.not_lt_zero _)⟩
  case round =>
    obtain ⟨k, hk, rfl, HQ, HFR⟩ := hrel
    have up1 : ∀ {a : Addr} {v : Value}, w1.cell? a = some v → wr.cell? a = some v := fun {a v} h => by obtain ⟨q, hq⟩ := HQ.out; rw [hq]; exact h
    have HBR : Hid (Below w.heap.size w wr) := by obtain ⟨q, hq⟩ := HQ.out; rw [hq]; exact below_draws HB1.out q
    have d3 := up1 C3.out
    have d5 := up1 C5.out
    have d7 := up1 C7.out
    have d8 := up1 C8.out
    have d9 := up1 C9.out
    by_cases hlt : k < n
    · obtain ⟨b, off, rfl, hc⟩ := HX.out.cell (k := k) (by have := HN.out; omega)
      have hgood := HX.out.good xs[k]! (by rw [getElem!_pos xs k (by have := HN.out; omega)]; exact List.getElem_mem _)
      have hdl := HDL.out xs[k]! (by rw [getElem!_pos xs k (by have := HN.out; omega)]; exact List.getElem_mem _)
      obtain ⟨x, hx⟩ : ∃ x, x = xs[k]! := ⟨_, rfl⟩
      have HNK := hid (NO.out k hlt)
      have HFK := hid (HF.out k HFR.out)
      rw [← hx] at hc hgood hdl HNK HFK
      obtain ⟨x1, x2, x3, x4, x5, x6, xp, xl, xc, ⟨x8, x9, x10⟩, x11, xd⟩ := x
      have up : ∀ {a : Addr} {v : Value}, w.cell? a = some v → wr.cell? a = some v := fun {a v} h => by rw [HBR.out.cell (lt_of_cell h)]; exact h
      have e3 := up (hc 3 _ rfl)
      have e5 := up (hc 5 _ rfl)
      have e6 := up (hc 6 _ rfl)
      simp only at hdl HNK HFK
      have hgd : DotsAt w (.slice xp xl xc) xd := hgood
      have hxl : xl = xd.length := by obtain ⟨_, _, hq⟩ := hgd.len; injection hq
      have HXL := hid hxl
      have HGD := hid hgd
      have HC6 := hid (hc 6 _ rfl)
      clear hc hgood hx hgd hxl up up1
      cases x6 with
      | false =>
        go_upto_region 4 with (fail)
        go_quiet (fail)
        go_wp2
        go_roundw
        case rel => exact ⟨k + 1, by omega, by go_num, by obtain ⟨q, hq⟩ := HQ.out; exact ⟨_, by rw [hq]; exact World.drewN_drewN _ _ _⟩, HFK.out _ _ _ rfl rfl rfl (fun h => by cases h.1)⟩
        case measure => simp [intOf]; omega
      | true =>
        by_cases ht : x4 = A4
        · subst ht
          obtain ⟨m, hm⟩ : ∃ m, m = xl := ⟨_, rfl⟩
          rw [← hm] at e6 HXL HGD HC6
          clear hm
          have hm1000 : m ≤ 1000 := by have := HXL.out; omega
          go_upto_region 4 with (fail)
          go_quiet (fail)
          go_wp2
          obtain ⟨wo, hwo⟩ : ∃ wo, wo = wr.drewN nq := ⟨_, rfl⟩
          rw [← hwo]
          have HQO : Hid (∃ q, wo = w1.drewN q) := by obtain ⟨q, hq⟩ := HQ.out; exact ⟨_, by rw [hwo, hq]; exact World.drewN_drewN _ _ _⟩
          clear hwo e3 e5 e6 d3 d5 d7 d8 d9
          go_loopw [6] (fun i wr2 => ∃ j : Nat, j ≤ m ∧ i = .int .i64 j ∧ Hid (∃ q, wr2 = w1.drewN q) ∧ Hid (∀ t, t < j → xd[t]! ≠ ⟨A8, A9, A10⟩)) (fun i _ => m - (intOf i).toNat)
          case atStart => exact ⟨0, Nat.zero_le _, rfl, HQO.out, fun t ht => absurd ht (Nat.not_lt_zero _)⟩
          case round =>
            obtain ⟨j, hj, rfl, HQ2, HJ⟩ := hrel
            have up2 : ∀ {a : Addr} {v : Value}, w1.cell? a = some v → wr.cell? a = some v := fun {a v} h => by obtain ⟨q, hq⟩ := HQ2.out; rw [hq]; exact h
            have HBR2 : Hid (Below w.heap.size w wr) := by obtain ⟨q, hq⟩ := HQ2.out; rw [hq]; exact below_draws HB1.out q
            have upw : ∀ {a : Addr} {v : Value}, w.cell? a = some v → wr.cell? a = some v := fun {a v} h => by rw [HBR2.out.cell (lt_of_cell h)]; exact h
            have g6 := upw HC6.out
            have g7 := up2 C7.out
            have g8 := up2 C8.out
            have g9 := up2 C9.out
            clear up2
            by_cases hlj : j < m
            · have hgd := HGD.out
              have hxl := HXL.out
              rw [hxl] at hgd
              obtain ⟨bd, od, rfl, p1, p2, p3⟩ := dots_cells hgd (k := j) (by omega)
              have f1 := upw p1
              have f2 := upw p2
              have f3 := upw p3
              obtain ⟨d, hde⟩ : ∃ d, d = xd[j]! := ⟨_, rfl⟩
              rw [← hde] at f1 f2 f3
              have HDE := hid hde
              have hjx : j < xd.length := by omega
              have HMEM : Hid (d ∈ xd) := by rw [hde, getElem!_pos xd j hjx]; exact List.getElem_mem _
              clear hgd hxl p1 p2 p3 hde upw hjx
              obtain ⟨y1, y2, y3⟩ := d
              simp only at f1 f2 f3
              have go_next : Hid ((⟨y1, y2, y3⟩ : D3) ≠ ⟨A8, A9, A10⟩ → ∀ t, t < j + 1 → xd[t]! ≠ ⟨A8, A9, A10⟩) := fun hne t ht => by
                rcases Nat.lt_succ_iff_lt_or_eq.1 ht with h | rfl
                · exact HJ.out t h
                · rw [← HDE.out]; exact hne
              by_cases h1 : y1 = A8
              · by_cases h2 : y2 = A9
                · by_cases h3 : y3 = A10
                  · subst h1 h2 h3
                    have hrv : rv = false := HNK.out ⟨by first | rfl | trivial, by first | rfl | trivial, HMEM.out⟩
                    subst hrv
                    go_upto_region 8 with (fail)
                    go_quiet (fail)
                    go_wp2
                    go_ret
                    exact ⟨rfl, below_draws HBR2.out _⟩
                  · subst h1 h2
                    have b3 : (y3 == A10) = false := beq_eq_false_iff_ne.2 h3
                    have HNE : Hid ((⟨y1, y2, y3⟩ : D3) ≠ ⟨y1, y2, A10⟩) := fun e => h3 (by injection e)
                    clear h3
                    go_upto_region 8 with (fail)
                    go_quiet (fail)
                    go_wp2
                    go_roundw
                    case rel => exact ⟨j + 1, by omega, by go_num, by obtain ⟨q, hq⟩ := HQ2.out; exact ⟨_, by rw [hq]; exact World.drewN_drewN _ _ _⟩, go_next.out HNE.out⟩
                    case measure => simp [intOf]; omega
                · subst h1
                  have b2 : (y2 == A9) = false := beq_eq_false_iff_ne.2 h2
                  have HNE : Hid ((⟨y1, y2, y3⟩ : D3) ≠ ⟨y1, A9, A10⟩) := fun e => h2 (by injection e)
                  clear h2
                  go_upto_region 8 with (fail)
                  go_quiet (fail)
                  go_wp2
                  go_roundw
                  case rel => exact ⟨j + 1, by omega, by go_num, by obtain ⟨q, hq⟩ := HQ2.out; exact ⟨_, by rw [hq]; exact World.drewN_drewN _ _ _⟩, go_next.out HNE.out⟩
                  case measure => simp [intOf]; omega
              · have b1 : (y1 == A8) = false := beq_eq_false_iff_ne.2 h1
                have HNE : Hid ((⟨y1, y2, y3⟩ : D3) ≠ ⟨A8, A9, A10⟩) := fun e => h1 (by injection e)
                clear h1
                go_upto_region 8 with (fail)
                go_quiet (fail)
                go_wp2
                go_roundw
                case rel => exact ⟨j + 1, by omega, by go_num, by obtain ⟨q, hq⟩ := HQ2.out; exact ⟨_, by rw [hq]; exact World.drewN_drewN _ _ _⟩, go_next.out HNE.out⟩
                case measure => simp [intOf]; omega
            · obtain rfl : j = m := by omega
              have HNM : Hid (¬(⟨A8, A9, A10⟩ : D3) ∈ xd) := fun hm => by
                obtain ⟨t, ht, e⟩ := List.getElem_of_mem hm
                have := HJ.out t (by have := HXL.out; omega)
                rw [getElem!_pos xd t ht] at this
                exact this e
              clear upw
              go_wp2
              go_roundw
              case rel => exact ⟨k + 1, by omega, by go_num, HQ2.out, HFK.out _ _ _ rfl rfl rfl (fun h => HNM.out h.2.2)⟩
              case measure => simp [intOf]; omega
        · have bt : (x4.toList == A4.toList) = false := beq_eq_false_iff_ne.2 (ne_toList ht)
          have HT := hid ht
          clear ht
          go_upto_region 4 with (fail)
          go_quiet (fail)
          go_wp2
          go_roundw
          case rel => exact ⟨k + 1, by omega, by go_num, by obtain ⟨q, hq⟩ := HQ.out; exact ⟨_, by rw [hq]; exact World.drewN_drewN _ _ _⟩, HFK.out _ _ _ rfl rfl rfl (fun h => HT.out h.2.1)⟩
          case measure => simp [intOf]; omega
    · obtain rfl : k = n := by omega
      have hrv := YES.out HFR.out
      subst hrv
      clear up1
      go_wp2
      go_ret
      exact ⟨rfl, HBR.out⟩
end Go.Proofs.YtngjooemanapnaaGreatDoor
