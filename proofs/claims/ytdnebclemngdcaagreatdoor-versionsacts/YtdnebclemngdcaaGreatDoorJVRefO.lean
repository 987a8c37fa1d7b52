/- The reference's VectorError, IsName, OpError by their contracts; The reference's OpError by its contract. -/
import Derived.Test.YtdnebclemngdcaaGreatDoorJVList
namespace Go.Proofs.YtdnebclemngdcaaGreatDoor
open Go.RowKit
set_option maxRecDepth 100000
set_option linter.unusedSectionVars false
variable [Inhabited ComV] [DecidableEq D3] [Inhabited D3] [Inhabited Dd] [Inhabited OpV]

/-! ### the reference -/
theorem vectorError_shape (w : World) (ad : Option Addr) (n c : Nat) (h : n < 1 ∨ 6 < n) (hn : n ≤ 1000000) :
    Calls Tryz.prog 30 #[.slice ad n c] w fun e w' => e = .returned (.int .i64 3) ∧ w' = w := by
  rcases h with h | h
  · obtain rfl : n = 0 := by omega
    go_enter Tryz.func30, Tryz.ntmps30; go_wp2; go_ret; exact ⟨rfl, rfl⟩
  · have h1 : ¬ n < 1 := by omega
    go_enter Tryz.func30, Tryz.ntmps30; go_wp2; go_ret; exact ⟨rfl, rfl⟩

set_option maxHeartbeats 1000000 in
theorem vectorError_n (w : World) (b o n c : Nat) (zs : List Int) (hz : zs.length = n) (h1 : 1 ≤ n) (h6 : n ≤ 6)
    (hc : ∀ t, t < n → w.cell? ⟨b, o + t, none⟩ = some (.int .i64 (zs.getD t 0))) :
    Calls Tryz.prog 30 #[.slice (some ⟨b, o, none⟩) n c] w fun e w' => e = .returned (.int .i64 (chk zs)) ∧ w' = w := by
  have HZ : Hid (zs.length = n) := hz; have HC : Hid (∀ t, t < n → w.cell? ⟨b, o + t, none⟩ = some (.int .i64 (zs.getD t 0))) := hc; clear hz hc; go_enter Tryz.func30, Tryz.ntmps30; go_wp2
  go_loop [3] (fun i => ∃ k : Nat, k ≤ n ∧ i = .int .i64 k ∧ ∀ t, t < k → 0 ≤ zs.getD t 0 ∧ zs.getD t 0 ≤ 1099511627776) (fun i => n - (intOf i).toNat)
  case atStart => exact ⟨0, Nat.zero_le _, rfl, fun t ht => absurd ht (Nat.not_lt_zero _)⟩
  case round =>
    obtain ⟨k, hk, rfl, hin⟩ := hrel; have HI : Hid (∀ t, t < k → 0 ≤ zs.getD t 0 ∧ zs.getD t 0 ≤ 1099511627776) := hin; clear hin
    by_cases hlt : k < n
    · have e1 := HC.out k hlt; obtain ⟨z, hzz⟩ : ∃ z, z = zs.getD k 0 := ⟨_, rfl⟩; rw [← hzz] at e1; have HZZ : Hid (z = zs.getD k 0) := hzz; clear hzz
      by_cases ha : z < 0
      · go_wp2; go_ret
        exact ⟨ret_int (chk_bad (t := k) (by have := HZ.out; omega) (by have := HZ.out; omega) (by have := HZ.out; omega) (by rw [← HZZ.out]; omega)).symm, rfl⟩
      · by_cases hb : 1099511627776 < z
        · go_wp2; go_ret
          exact ⟨ret_int (chk_bad (t := k) (by have := HZ.out; omega) (by have := HZ.out; omega) (by have := HZ.out; omega) (by rw [← HZZ.out]; omega)).symm, rfl⟩
        · go_wp2
          go_round
          case rel =>
            refine ⟨k + 1, by omega, by go_num, fun t ht => ?_⟩; rcases Nat.lt_succ_iff_lt_or_eq.1 ht with h | rfl
            · exact HI.out t h
            · rw [← HZZ.out]; omega
          case measure => simp [intOf]; omega
    · obtain rfl : k = n := by omega
      go_wp2; go_ret
      exact ⟨ret_int (chk_zero.2 ⟨by have := HZ.out; omega, by have := HZ.out; omega, fun t ht => HI.out t (by have := HZ.out; omega)⟩).symm, rfl⟩

theorem vectorError (w : World) (v : Value) (zs : List Int) (h : IntsAt w v zs) (hl : zs.length ≤ 1000000) :
    Calls Tryz.prog 30 #[v] w fun e w' => e = .returned (.int .i64 (chk zs)) ∧ w' = w := by
  obtain ⟨ad, c, rfl, _, h⟩ := h
  by_cases hs : zs.length < 1 ∨ 6 < zs.length
  · rw [chk_shape hs]; exact vectorError_shape w ad _ c hs hl
  · rcases h with rfl | ⟨b, o, rfl, h⟩
    · exact absurd (.inl (by decide)) hs
    · exact vectorError_n w b o zs.length c zs rfl (by omega) (by omega) h

set_option maxHeartbeats 1000000 in
theorem rIsName (w : World) (s : ByteArray) : Calls Tryz.prog 57 #[.string s] w fun e w' => e = .returned (.bool (nameB s)) ∧ w' = w := by
  by_cases h1 : s.size < 1
  · have e1 : (s.size : Int) < 1 := by omega
    go_enter Tryz.func57, Tryz.ntmps57; go_wp2; go_ret; exact ⟨ret_bool (nameB_false (.inl h1)).symm, rfl⟩
  · have e1 : ¬ (s.size : Int) < 1 := by omega
    by_cases h2 : 16 < s.size
    · have e2 : 16 < (s.size : Int) := by omega
      go_enter Tryz.func57, Tryz.ntmps57; go_wp2; go_ret; exact ⟨ret_bool (nameB_false (.inr h2)).symm, rfl⟩
    · have e2 : ¬ 16 < (s.size : Int) := by omega
      go_enter Tryz.func57, Tryz.ntmps57; go_wp2
      go_loop [3] (fun i => ∃ k : Nat, k ≤ s.size ∧ i = .int .i64 k ∧ ∀ t (ht : t < s.size), t < k → letterB s[t] = true) (fun i => s.size - (intOf i).toNat)
      case atStart => exact ⟨0, Nat.zero_le _, rfl, fun t _ ht => absurd ht (Nat.not_lt_zero _)⟩
      case round =>
        obtain ⟨k, hk, rfl, hin⟩ := hrel; have HI := hid hin; clear hin
        by_cases hlt : k < s.size
        · by_cases hb : letterB s[k] = true
          · have hb' := hb; simp only [letterB, decide_eq_true_eq] at hb'; have HB := hid hb; clear hb
            by_cases a1 : 97 ≤ (s[k].toNat : Int)
            · have a2 : (s[k].toNat : Int) ≤ 122 := by omega
              clear hb'; go_wp2
              go_round
              case rel => exact ⟨k + 1, by omega, by go_num, fun t ht h => by rcases Nat.lt_succ_iff_lt_or_eq.1 h with h | rfl; exact HI.out t ht h; exact HB.out⟩
              case measure => simp [intOf]; omega
            · by_cases a3 : 48 ≤ (s[k].toNat : Int)
              · have a4 : (s[k].toNat : Int) ≤ 57 := by omega
                clear hb'; go_wp2
                go_round
                case rel => exact ⟨k + 1, by omega, by go_num, fun t ht h => by rcases Nat.lt_succ_iff_lt_or_eq.1 h with h | rfl; exact HI.out t ht h; exact HB.out⟩
                case measure => simp [intOf]; omega
              · have a5 : (s[k].toNat : Int) = 45 := by omega
                have a6 : ((s[k].toNat : Int) == 45) = true := by rw [a5]; rfl
                clear hb' a5; go_wp2
                go_round
                case rel => exact ⟨k + 1, by omega, by go_num, fun t ht h => by rcases Nat.lt_succ_iff_lt_or_eq.1 h with h | rfl; exact HI.out t ht h; exact HB.out⟩
                case measure => simp [intOf]; omega
          · have hf : letterB s[k] = false := by simpa using hb
            have hb' := hf; simp only [letterB, decide_eq_false_iff_not] at hb'; have a6 : ((s[k].toNat : Int) == 45) = false := by simp; omega
            have HF := hid (letters_bad hlt hf); have HN := hid hb'; clear hf hb hb'
            by_cases a1 : 97 ≤ (s[k].toNat : Int)
            · have a2 : ¬ (s[k].toNat : Int) ≤ 122 := by have := HN.out; omega
              have a3 : 48 ≤ (s[k].toNat : Int) := by omega
              have a4 : ¬ (s[k].toNat : Int) ≤ 57 := by omega
              go_wp2; go_ret
              exact ⟨ret_bool HF.out.symm, rfl⟩
            · by_cases a3 : 48 ≤ (s[k].toNat : Int)
              · have a4 : ¬ (s[k].toNat : Int) ≤ 57 := by have := HN.out; omega
                go_wp2; go_ret
                exact ⟨ret_bool HF.out.symm, rfl⟩
              · go_wp2; go_ret
                exact ⟨ret_bool HF.out.symm, rfl⟩
        · obtain rfl : k = s.size := by omega
          go_wp2; go_ret
          exact ⟨ret_bool (letters_ok (by omega) (by omega) fun t ht => HI.out t ht ht).symm, rfl⟩
end Go.Proofs.YtdnebclemngdcaaGreatDoor
namespace Go.Proofs.YtdnebclemngdcaaGreatDoor
open Go.RowKit
set_option maxRecDepth 100000
set_option linter.unusedSectionVars false
variable [Inhabited ComV] [DecidableEq D3] [Inhabited D3] [Inhabited Dd] [Inhabited OpV]

theorem dots_cells {w : World} {p : Option Addr} {c : Nat} {ds : List D3} (h : DotsAt w (.slice p ds.length c) ds) {k : Nat} (hk : k < ds.length) : ∃ b off, p = some ⟨b, off, none⟩ ∧ w.cell? ⟨b, off + k * 3, none⟩ = some (.int .i64 ds[k]!.p) ∧ w.cell? ⟨b, off + k * 3 + 1, none⟩ = some (.int .i64 ds[k]!.t) ∧ w.cell? ⟨b, off + k * 3 + 2, none⟩ = some (.int .i64 ds[k]!.a) := by
  obtain ⟨ad, cap, he, _, _, h⟩ := h; injection he with e1 _ _; subst e1; rcases h with h | ⟨b, off, rfl, h⟩
  · have : ds = [] := by simpa using h
    rw [this] at hk; simp at hk
  · have hr := h k ds[k]!.cells (by rw [List.getElem?_map, List.getElem?_eq_getElem hk, getElem!_pos ds k hk]; rfl); exact ⟨b, off, rfl, hr.2 0 _ rfl, hr.2 1 _ rfl, hr.2 2 _ rfl⟩
theorem dot_true {n : Int} {d : D3} (h : dotB n d = true) : 0 ≤ d.p ∧ d.p < n ∧ 1 ≤ d.t ∧ d.t ≤ 1099511627776 ∧ 0 ≤ d.a ∧ d.a < 12 := by
  simp only [dotB, Bool.and_eq_true, decide_eq_true_eq] at h; omega
theorem dot_false {n : Int} {d : D3} (h : dotB n d = false) : ¬ (0 ≤ d.p ∧ d.p < n ∧ 1 ≤ d.t ∧ d.t ≤ 1099511627776 ∧ 0 ≤ d.a ∧ d.a < 12) := fun e => by
  have : dotB n d = true := by simp only [dotB, Bool.and_eq_true, decide_eq_true_eq]; omega
  rw [this] at h; cases h

set_option maxHeartbeats 4000000 in
theorem rOpError (w : World) (x1 : Int) (x2 : ByteArray) (x3 : Int) (x4 : ByteArray) (x5 : Int) (x6 : Bool) (xp : Option Addr) (xc : Nat) (ds : List D3) (n : Int)
    (hd : DotsAt w (.slice xp ds.length xc) ds) (hl : ds.length ≤ 1000000) (ht : x4.size ≤ 1000000) :
    Calls Tryz.prog 86 #[.agg #[.int .i64 x1, .string x2, .int .i64 x3, .string x4, .int .i64 x5, .bool x6, .slice xp ds.length xc], .int .i64 n] w
    fun e w' => e = .returned (.int .i64 ((opErr ⟨x1, x2, x3, x4, x5, x6, ds⟩ n : Nat) : Int)) ∧ Below w.heap.size w w' := by
  have K22 := fun W => rIsName W x2
  obtain ⟨er, her⟩ : ∃ er, er = opErr ⟨x1, x2, x3, x4, x5, x6, ds⟩ n := ⟨_, rfl⟩; have her' := her; unfold opErr at her'; simp only at her'; rw [← her]
  have hall : Hid ((∀ t, t < ds.length → dotB n ds[t]! = true) → ds.all (dotB n) = true) := fun h => List.all_eq_true.2 fun d hd => by
    obtain ⟨i, hi, rfl⟩ := List.getElem_of_mem hd; have := h i hi; rwa [getElem!_pos ds i hi] at this
  have hone : Hid (∀ t, t < ds.length → dotB n ds[t]! = false → ds.all (dotB n) = false) := fun t ht hf => List.all_eq_false.2 ⟨ds[t], List.getElem_mem ht, by rw [getElem!_pos ds t ht] at hf; rw [hf]; decide⟩
  obtain ⟨m, hm⟩ : ∃ m, m = ds.length := ⟨_, rfl⟩; have HD := hid hd; rw [← hm] at her' hl HD hall hone ⊢; obtain ⟨fb, hfb⟩ : ∃ fb, fb = foreignB ⟨x1, x2, x3, x4, x5, x6, ds⟩ := ⟨_, rfl⟩; rw [← hfb] at her'; unfold foreignB at hfb; simp only at hfb; rw [← hm] at hfb; obtain ⟨nb, hnb⟩ : ∃ nb, nb = nameB x2 := ⟨_, rfl⟩; rw [← hnb] at K22 her'; have HER := hid her'; have HFB := hid hfb; have HM := hid hm; clear her' her hm hfb hnb hd
  by_cases n1 : n < 1
  · have hr : er = 2 := by rw [HER.out, if_pos (.inl n1)]
    subst hr; go_enter Tryz.func86, Tryz.ntmps86; go_wp2; go_ret; exact ⟨rfl, below_alloc _ _⟩
  by_cases n6 : 6 < n
  · have hr : er = 2 := by rw [HER.out, if_pos (.inr (.inl n6))]
    subst hr; go_enter Tryz.func86, Tryz.ntmps86; go_wp2; go_ret; exact ⟨rfl, below_alloc _ _⟩
  by_cases a1 : x1 < 0
  · have hr : er = 2 := by rw [HER.out, if_pos (.inr (.inr (.inl a1)))]
    subst hr; go_enter Tryz.func86, Tryz.ntmps86; go_wp2; go_ret; exact ⟨rfl, below_alloc _ _⟩
  by_cases a2 : 12 ≤ x1
  · have hr : er = 2 := by rw [HER.out, if_pos (.inr (.inr (.inr a2)))]
    subst hr; go_enter Tryz.func86, Tryz.ntmps86; go_wp2; go_ret; exact ⟨rfl, below_alloc _ _⟩
  have H1 := HER.out; rw [if_neg (by omega)] at H1
  cases nb with
  | false =>
    have hr : er = 4 := by rw [H1, if_pos rfl]
    clear H1; subst hr; go_enter Tryz.func86, Tryz.ntmps86
    go_wp2_with (go_at_call 57; refine (K22 _).mono ?_; rintro e w' ⟨rfl, rfl⟩)
    go_ret; exact ⟨rfl, below_alloc _ _⟩
  | true =>
    rw [if_neg (by decide)] at H1
    by_cases hk : kindB x3 = false
    · have hr : er = 12 := by rw [H1, if_pos hk]
      clear H1; subst hr; have k1 : (x3 == 1) = false := by rw [beq_eq_false_iff_ne]; rintro rfl; exact absurd hk (by decide)
      have k2 : (x3 == 2) = false := by rw [beq_eq_false_iff_ne]; rintro rfl; exact absurd hk (by decide)
      have k3 : (x3 == 3) = false := by rw [beq_eq_false_iff_ne]; rintro rfl; exact absurd hk (by decide)
      clear hk; go_enter Tryz.func86, Tryz.ntmps86
      go_wp2_with (go_at_call 57; refine (K22 _).mono ?_; rintro e w' ⟨rfl, rfl⟩)
      go_ret; exact ⟨rfl, below_alloc _ _⟩
    rw [if_neg hk] at H1
    have hk' : x3 = 1 ∨ x3 = 2 ∨ x3 = 3 := by
      have : kindB x3 = true := by simpa using hk
      simpa [kindB] using this
    have HX := hid H1; clear H1 hk
    cases fb with
    | true =>
      have hr : er = 3 := by rw [HX.out, if_pos rfl]
      subst hr; rcases hk' with rfl | rfl | rfl
      · have hq := HFB.out; rw [if_pos rfl] at hq
        by_cases z5 : x5 = 0
        · subst z5
          cases x6 with
          | true =>
            clear hq; go_enter Tryz.func86, Tryz.ntmps86
            go_wp2_with (go_at_call 57; refine (K22 _).mono ?_; rintro e w' ⟨rfl, rfl⟩)
            go_ret; exact ⟨rfl, below_alloc _ _⟩
          | false =>
            have hm0 : 0 < m := by simpa using hq.symm
            have hm0' : (0 : Int) < (m : Int) := by omega
            clear hq; go_enter Tryz.func86, Tryz.ntmps86
            go_wp2_with (go_at_call 57; refine (K22 _).mono ?_; rintro e w' ⟨rfl, rfl⟩)
            go_ret; exact ⟨rfl, below_alloc _ _⟩
        · have z5' : (x5 != 0) = true := by simpa using z5
          clear hq; go_enter Tryz.func86, Tryz.ntmps86
          go_wp2_with (go_at_call 57; refine (K22 _).mono ?_; rintro e w' ⟨rfl, rfl⟩)
          go_ret; exact ⟨rfl, below_alloc _ _⟩
      · have hq := HFB.out; rw [if_neg (by decide), if_pos rfl] at hq
        by_cases z4 : x4 = ByteArray.empty
        · subst z4
          cases x6 with
          | true =>
            clear hq; go_enter Tryz.func86, Tryz.ntmps86
            go_wp2_with (go_at_call 57; refine (K22 _).mono ?_; rintro e w' ⟨rfl, rfl⟩)
            go_ret; exact ⟨rfl, below_alloc _ _⟩
          | false =>
            have hm0 : 0 < m := by simpa using hq.symm
            have hm0' : (0 : Int) < (m : Int) := by omega
            clear hq; go_enter Tryz.func86, Tryz.ntmps86
            go_wp2_with (go_at_call 57; refine (K22 _).mono ?_; rintro e w' ⟨rfl, rfl⟩)
            go_ret; exact ⟨rfl, below_alloc _ _⟩
        · have z4' : (x4.toList == []) = false := by
            rw [beq_eq_false_iff_ne]; intro h; have h2 : x4.data.toList = [] := by rw [← Lib.toList_data]; exact h
            exact z4 (WideShapes.bytes_inj (by rw [h2]; rfl))
          clear hq; go_enter Tryz.func86, Tryz.ntmps86
          go_wp2_with (go_at_call 57; refine (K22 _).mono ?_; rintro e w' ⟨rfl, rfl⟩)
          go_ret; exact ⟨rfl, below_alloc _ _⟩
      · have hq := HFB.out; rw [if_neg (by decide), if_neg (by decide)] at hq
        by_cases z5 : x5 = 0
        · subst z5
          cases x6 with
          | true => exact absurd hq (by simp)
          | false =>
            have hm0 : 0 < m := by simpa using hq.symm
            have hm0' : (0 : Int) < (m : Int) := by omega
            clear hq; go_enter Tryz.func86, Tryz.ntmps86
            go_wp2_with (go_at_call 57; refine (K22 _).mono ?_; rintro e w' ⟨rfl, rfl⟩)
            go_ret; exact ⟨rfl, below_alloc _ _⟩
        · have z5' : (x5 != 0) = true := by simpa using z5
          clear hq; go_enter Tryz.func86, Tryz.ntmps86
          go_wp2_with (go_at_call 57; refine (K22 _).mono ?_; rintro e w' ⟨rfl, rfl⟩)
          go_ret; exact ⟨rfl, below_alloc _ _⟩
    | false =>
      have H2 := HX.out; rw [if_neg (by decide)] at H2; have HY := hid H2; clear H2
      have E : x3 = 1 ∧ x5 = 0 ∧ x6 = false ∧ m = 0 ∨ x3 = 2 ∧ x4 = ByteArray.empty ∧ x6 = false ∧ m = 0 ∨ x3 = 3 ∧ x5 = 0 ∧ x6 = false ∧ m = 0 ∨ x3 = 3 ∧ x5 = 0 ∧ x6 = true := by
        have hq := HFB.out; rcases hk' with rfl | rfl | rfl
        · rw [if_pos rfl] at hq; have h2 := hq.symm; simp only [Bool.or_eq_false_iff, Bool.not_eq_false', decide_eq_true_eq, decide_eq_false_iff_not] at h2; exact .inl ⟨rfl, h2.1, h2.2.1, by omega⟩
        · rw [if_neg (by decide), if_pos rfl] at hq; have h2 := hq.symm; simp only [Bool.or_eq_false_iff, Bool.not_eq_false', decide_eq_true_eq, decide_eq_false_iff_not] at h2; exact .inr (.inl ⟨rfl, h2.1, h2.2.1, by omega⟩)
        · rw [if_neg (by decide), if_neg (by decide)] at hq; have h2 := hq.symm; simp only [Bool.or_eq_false_iff, Bool.not_eq_false', decide_eq_true_eq] at h2
          cases x6 with
          | false => exact .inr (.inr (.inl ⟨rfl, h2.1, rfl, by simpa using h2.2⟩))
          | true => exact .inr (.inr (.inr ⟨rfl, h2.1, rfl⟩))
      clear hk'; rcases E with ⟨rfl, rfl, rfl, rfl⟩ | ⟨rfl, rfl, rfl, rfl⟩ | ⟨rfl, rfl, rfl, rfl⟩ | ⟨rfl, rfl, rfl⟩
      · by_cases t1 : 60 < x4.size
        · have hr : er = 2 := by rw [HY.out, if_pos (.inl t1)]
          have t1' : 60 < (x4.size : Int) := by omega
          subst hr; go_enter Tryz.func86, Tryz.ntmps86
          go_wp2_with (go_at_call 57; refine (K22 _).mono ?_; rintro e w' ⟨rfl, rfl⟩)
          go_ret; exact ⟨rfl, below_alloc _ _⟩
        · have hr : er = 0 := by rw [HY.out, if_neg (by omega), if_neg (by rw [hall.out (fun t ht => absurd ht (Nat.not_lt_zero _))]; decide)]
          have t1' : ¬ 60 < (x4.size : Int) := by omega
          subst hr; go_enter Tryz.func86, Tryz.ntmps86
          go_wp2_with (go_at_call 57; refine (K22 _).mono ?_; rintro e w' ⟨rfl, rfl⟩)
          refine wp_loop_rounds 1 ?_; rw [rounds_succ]; go_wp2; go_ret; exact ⟨rfl, below_alloc _ _⟩
      · by_cases t2 : x5 < -1099511627776
        · have hr : er = 2 := by rw [HY.out, if_pos (.inr (.inl t2))]
          subst hr; go_enter Tryz.func86, Tryz.ntmps86
          go_wp2_with (go_at_call 57; refine (K22 _).mono ?_; rintro e w' ⟨rfl, rfl⟩)
          go_ret; exact ⟨rfl, below_alloc _ _⟩
        by_cases t3 : 1099511627776 < x5
        · have hr : er = 2 := by rw [HY.out, if_pos (.inr (.inr (.inl t3)))]
          subst hr; go_enter Tryz.func86, Tryz.ntmps86
          go_wp2_with (go_at_call 57; refine (K22 _).mono ?_; rintro e w' ⟨rfl, rfl⟩)
          go_ret; exact ⟨rfl, below_alloc _ _⟩
        · have hr : er = 0 := by rw [HY.out, if_neg (by have : ByteArray.empty.size = 0 := rfl; omega), if_neg (by rw [hall.out (fun t ht => absurd ht (Nat.not_lt_zero _))]; decide)]
          subst hr; go_enter Tryz.func86, Tryz.ntmps86
          go_wp2_with (go_at_call 57; refine (K22 _).mono ?_; rintro e w' ⟨rfl, rfl⟩)
          refine wp_loop_rounds 1 ?_; rw [rounds_succ]; go_wp2; go_ret; exact ⟨rfl, below_alloc _ _⟩
      · by_cases t1 : 60 < x4.size
        · have hr : er = 2 := by rw [HY.out, if_pos (.inl t1)]
          have t1' : 60 < (x4.size : Int) := by omega
          subst hr; go_enter Tryz.func86, Tryz.ntmps86
          go_wp2_with (go_at_call 57; refine (K22 _).mono ?_; rintro e w' ⟨rfl, rfl⟩)
          go_ret; exact ⟨rfl, below_alloc _ _⟩
        · have hr : er = 0 := by rw [HY.out, if_neg (by omega), if_neg (by rw [hall.out (fun t ht => absurd ht (Nat.not_lt_zero _))]; decide)]
          have t1' : ¬ 60 < (x4.size : Int) := by omega
          subst hr; go_enter Tryz.func86, Tryz.ntmps86
          go_wp2_with (go_at_call 57; refine (K22 _).mono ?_; rintro e w' ⟨rfl, rfl⟩)
          refine wp_loop_rounds 1 ?_; rw [rounds_succ]; go_wp2; go_ret; exact ⟨rfl, below_alloc _ _⟩
      · by_cases t1 : 60 < x4.size
        · have hr : er = 2 := by rw [HY.out, if_pos (.inl t1)]
          have t1' : 60 < (x4.size : Int) := by omega
          subst hr; go_enter Tryz.func86, Tryz.ntmps86
          go_wp2_with (go_at_call 57; refine (K22 _).mono ?_; rintro e w' ⟨rfl, rfl⟩)
          go_ret; exact ⟨rfl, below_alloc _ _⟩
        have t1' : ¬ 60 < (x4.size : Int) := by omega
        by_cases t4 : 60 < m
        · have hr : er = 2 := by rw [HY.out, if_pos (.inr (.inr (.inr t4)))]
          have t4' : 60 < (m : Int) := by omega
          subst hr; go_enter Tryz.func86, Tryz.ntmps86
          go_wp2_with (go_at_call 57; refine (K22 _).mono ?_; rintro e w' ⟨rfl, rfl⟩)
          go_ret; exact ⟨rfl, below_alloc _ _⟩
        have t4' : ¬ 60 < (m : Int) := by omega
        have H3 := HY.out; rw [if_neg (by omega)] at H3; have HZ := hid H3; clear H3; obtain ⟨w1, hw1⟩ : ∃ w1, w1 = w.alloc (.cells #[.int .i64 x1, .string x2, .int .i64 3, .string x4, .int .i64 0, .bool true, .slice xp m xc] 76) := ⟨_, rfl⟩; have B1 : Hid (Below w.heap.size w w1) := by rw [hw1]; exact below_alloc _ _
        have S1 : Hid (w1.heap.size = w.heap.size + 1) := hid (by rw [hw1]; simp); have C6 : Hid (w1.cell? ⟨w.heap.size, 6, none⟩ = some (.slice xp m xc)) := hid (by rw [hw1]; simp); have HW1 := hid hw1; clear hw1; go_enter Tryz.func86, Tryz.ntmps86
        go_wp2_with (go_at_call 57; refine (K22 _).mono ?_; rintro e w' ⟨rfl, rfl⟩)
        go_loopw [6] (fun i wr => ∃ k : Nat, k ≤ m ∧ i = .int .i64 k ∧ Hid (Below (w.heap.size + 1) w1 wr) ∧ Hid (∀ t, t < k → dotB n ds[t]! = true)) (fun i _ => m - (intOf i).toNat)
        case atStart => exact ⟨0, Nat.zero_le _, rfl, (by rw [HW1.out]; exact Below.refl _ _), fun t ht => absurd ht (Nat.not_lt_zero _)⟩
        case round =>
          obtain ⟨k, hk, rfl, HB, HI⟩ := hrel; have hB := HB.out; have hs1 := S1.out; have hsz : w.heap.size + 1 ≤ wr.heap.size := by have := hB.size; omega
          have wB : Hid (Below w.heap.size w wr) := B1.out.trans (hB.mono (by omega)); have e6 : wr.cell? ⟨w.heap.size, 6, none⟩ = some (.slice xp m xc) := by rw [hB.cell (p := ⟨w.heap.size, 6, none⟩) (by simp)]; exact C6.out
          clear hB hs1
          by_cases hlt : k < m
          · have hmm := HM.out; have hdd := HD.out; rw [hmm] at hdd; obtain ⟨b, off, rfl, q0, q1, q2⟩ := dots_cells hdd (k := k) (by omega); have up : ∀ {a : Addr} {v : Value}, w.cell? a = some v → wr.cell? a = some v := fun {a v} h => by rw [wB.out.cell (lt_of_cell h)]; exact h
            have r0 := up q0; have r1 := up q1; have r2 := up q2; obtain ⟨d, hde⟩ : ∃ d, d = ds[k]! := ⟨_, rfl⟩; rw [← hde] at r0 r1 r2; have HDE := hid hde; clear q0 q1 q2 up hde hmm hdd; obtain ⟨p, t, a⟩ := d; simp only at r0 r1 r2
            cases hb : dotB n ⟨p, t, a⟩ with
            | true =>
              have hh := dot_true hb; simp only at hh; obtain ⟨g1, g2, g3, g4, g5, g6⟩ := hh; have HBD := hid hb; clear hb; go_wp2; go_roundw
              case rel => exact ⟨k + 1, by omega, by go_num, HB.out.alloc hsz _, fun t ht => by rcases Nat.lt_succ_iff_lt_or_eq.1 ht with h | rfl; exact HI.out t h; rw [← HDE.out]; exact HBD.out⟩
              case measure => simp [intOf]; omega
            | false =>
              have HN := hid (dot_false hb); have hr : er = 2 := by rw [HZ.out, if_pos (hone.out k hlt (by rw [← HDE.out]; exact hb))]
              clear hb; subst hr; go_wp2
              all_goals first
                | (exfalso; have := HN.out; simp only at this; omega)
                | (go_ret; exact ⟨rfl, wB.out.alloc (by have := wB.out.size; omega) _⟩)
          · obtain rfl : k = m := by omega
            have hr : er = 0 := by rw [HZ.out, if_neg (by rw [hall.out HI.out]; decide)]
            subst hr; go_wp2; go_ret; exact ⟨rfl, wB.out⟩
end Go.Proofs.YtdnebclemngdcaaGreatDoor
