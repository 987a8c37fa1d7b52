/- Read, at a place, where nothing is wrong; Read, at a place, of a key that is no name; The reference's OpError by its contract; PlaceWhole: what is read of each key; The closed fact placed, out of New and Commit. -/
import Derived.Test.YtefpnojanldkeaaGreatDoorJLM
import Derived.Test.YtefpnojanldkeaaGreatDoorJWMath
import Derived.Test.YtefpnojanldkeaaGreatDoorJWPart
import Derived.Test.YtefpnojanldkeaaGreatDoorJVRefN
import Derived.Test.YtefpnojanldkeaaGreatDoorJME
import Derived.Test.YtefpnojanldkeaaGreatDoorJLP
import Derived.Test.YtefpnojanldkeaaGreatDoorJLB
namespace Go.Proofs.YtefpnojanldkeaaGreatDoor
open Go.RowKit Go.Maps
set_option maxRecDepth 100000
set_option linter.unusedSectionVars false
variable [Inhabited ComV] [DecidableEq D3] [Inhabited D3] [Inhabited Dd] [Inhabited Dn] [Inhabited OpV]

theorem checkAsked_any (A : Nat → Addr) (w : World) (hE : E4 A w) (h12 : 12 ≤ w.heap.size) (h : PlH) (v : PlV) (a : PlAt w h v) (key : ByteArray) (hk : nameB key = true) (va : Option Addr) (vn vc : Nat) (at_ : List Int) (hv : IntsAt w (.slice va vn vc) at_) (h2 : two at_ (snapV v) = 0) (hle : leB at_ (snapV v) = true) : Calls Tryz.prog 39 #[.pointer (some ⟨h.pb, 0, none⟩), .string key, .slice va vn vc] w fun e w' => e = .returned .nilIface ∧ Below w.heap.size w w' := by
  have K69 := hid (checkName_ok w key hk)
  have K25 := hid (checkAt_any A w hE h12 h v a va vn vc at_ hv h2 hle)
  clear hE a hv h2 hle
  go_enter Tryz.func39, Tryz.ntmps39
  go_wp2_with (first | (go_at_call 69; refine K69.out.mono ?_; rintro e w' ⟨rfl, hw'⟩; rw [hw']; clear hw') | (go_at_call 25; refine K25.out.mono ?_; rintro e w2 ⟨rfl, hb2⟩; have B2 := hid hb2; clear hb2))
  go_ret
  exact ⟨rfl, B2.out⟩
set_option maxHeartbeats 2000000 in
theorem read_any (A : Nat → Addr) (w : World) (hE : E4 A w) (h12 : 12 ≤ w.heap.size) (h : PlH) (v : PlV) (a : PlAt w h v) (key : ByteArray) (hk : nameB key = true) (va : Option Addr) (vn vc : Nat) (at_ : List Int) (hv : IntsAt w (.slice va vn vc) at_) (h2 : two at_ (snapV v) = 0) (hle : leB at_ (snapV v) = true) (hS : StOk v.st v.n) (hbs : leB v.st.base at_ = true) (hfew : (rowOf v.st key).length ≤ 1000) :
    Calls Tryz.prog 13 #[.pointer (some ⟨h.pb, 0, none⟩), .string key, .slice va vn vc] w (OfRet key (seenL v.st key at_) w) := by
  obtain ⟨w1, hw1⟩ : ∃ w1, w1 = w.alloc (.cells #[.int .i64 0, .string ⟨#[]⟩, .int .i64 0, .slice none 0 0] 47) := ⟨_, rfl⟩
  have b1 : Below w.heap.size w w1 := by rw [hw1]; exact below_alloc _ _
  have g1 : w1.heap[w.heap.size]? = some (.cells #[.int .i64 0, .string ⟨#[]⟩, .int .i64 0, .slice none 0 0] 47 (0, 0)) := by rw [hw1]; exact heap_new _ _
  have hlen : at_.length = v.n := by have := (two_zero.1 h2).2.2; rw [snapV_len] at this; exact this
  have hc := (two_zero.1 h2).1
  have hk6 : key.size ≤ 1000000 := by
    unfold nameB at hk
    simp only [Bool.and_eq_true, decide_eq_true_eq] at hk
    omega
  have K39 := hid (checkAsked_any A w1 (hE.below b1 h12) (Nat.le_trans h12 b1.size) h v (a.below b1) key hk va vn vc at_ (hv.mono b1 (Nat.le_refl _)) h2 hle)
  have K40 := hid (fun W (hW : Below w.heap.size w W) => read_ok A W (hE.below hW h12) (Nat.le_trans h12 hW.size) h.p h.mb h.db h.nn v.n h.f v.st (a.below hW).store hS key hk hk6 (.slice va vn vc) at_ (hv.mono hW (Nat.le_refl _)) hc hlen hbs hfew)
  have PX := hid (fun W (hW : Below w.heap.size w W) => (show W.cell? ⟨h.pb, 3, none⟩ = some (.pointer (some ⟨h.p, 0, none⟩)) from (cell_of (a.below hW).box).trans rfl))
  have B1 := hid b1
  have G1 := hid g1
  clear hE a hv h2 hle hS hbs hfew b1 g1 hlen hc hk hk6
  go_enter Tryz.func13, Tryz.ntmps13
  go_wp2_with fail
  rw [← hw1]
  clear hw1
  refine K39.out.mono ?_
  rintro e w2 ⟨rfl, hb2⟩
  have bw2 : Below w.heap.size w w2 := B1.out.trans (hb2.mono B1.out.size)
  have G2 := hid ((hb2.block _ (lt_of_heap G1.out)).trans G1.out)
  have p3 := PX.out w2 bw2
  have K40' := hid (K40.out w2 bw2)
  have BW2 := hid bw2
  clear hb2 bw2 K40 PX K39
  go_wp2_with fail
  refine K40'.out.mono ?_
  rintro e w3 ⟨v2, ds, rfl, hi2, hva, hb3⟩
  obtain ⟨sv, hve, hst⟩ := hva
  subst hve
  have HST := hid hst
  obtain ⟨sa, sc, hsv⟩ : ∃ sa sc, sv = .slice sa (valA ds).set.length sc := by obtain ⟨sa, sc, hsv, _⟩ := hst; exact ⟨sa, sc, hsv⟩
  subst hsv
  have x2 : w3.heap[w.heap.size]? = some (.cells #[.int .i64 0, .string ⟨#[]⟩, .int .i64 0, .slice none 0 0] 47 (0, 0)) := (hb3.block _ (lt_of_heap G2.out)).trans G2.out
  have X2 := hid x2
  have R4 := hid (row4 x2)
  have B3 := hid (BW2.out.trans (hb3.mono BW2.out.size))
  have I2 := hid hi2
  obtain ⟨x, hx⟩ : ∃ x, x = valA ds := ⟨_, rfl⟩
  rw [← hx] at HST ⊢
  have HX := hid hx
  obtain ⟨xk, xt, xn, xs⟩ := x
  obtain ⟨m, hm⟩ : ∃ m, m = xs.length := ⟨_, rfl⟩
  simp only at HST ⊢
  rw [← hm] at HST ⊢
  have S4 := hid (set4 x2 [.int .i64 xk, .string xt, .int .i64 xn, .slice sa m sc] rfl)
  clear hst hb3 x2 hi2 hx hm K40' p3
  go_wp2_with (refine wpList_store_k _ rfl (.tmp 6) (.tmp 25) 47 rfl w.heap.size 0 [.int .i64 xk, .string xt, .int .i64 xn, .slice sa m sc] rfl rfl 4 rfl Tryz.sizeOf47 rfl _ ?hW R4.out.1 R4.out.2 ?_; case hW => rfl)
  refine bodyPost_ret (ret_cell_tmp (k := 4) Tryz.results13 Tryz.isAgg47 Tryz.sizeOf47 _ _ w.heap.size [.int .i64 xk, .string xt, .int .i64 xn, .slice sa m sc] _ rfl rfl rfl S4.out) rfl ⟨_, ds, rfl, I2.out, ?_, below_setCells (Nat.le_refl _) _ _ B3.out⟩
  rw [← HX.out]
  refine ⟨_, rfl, strs_keep HST.out fun b hb t => ?_⟩
  have hne : b ≠ w.heap.size := fun e => by
    obtain ⟨y, hy⟩ := hb
    rw [e] at hy
    simp only [World.cell?, X2.out] at hy
    cases hy
  exact World.cell?_setCells_out _ _ _ _ _ (fun e _ => absurd e hne)
end Go.Proofs.YtefpnojanldkeaaGreatDoor
namespace Go.Proofs.YtefpnojanldkeaaGreatDoor
open Go.RowKit Go.Maps
set_option maxRecDepth 100000
set_option linter.unusedSectionVars false
variable [Inhabited ComV] [DecidableEq D3] [Inhabited D3] [Inhabited Dd] [Inhabited Dn] [Inhabited OpV]

theorem checkAsked_bad (A : Nat → Addr) (w : World) (hE : E5 A w) (pb : Nat) (key : ByteArray) (hk : nameB key = false) (va : Option Addr) (vn vc : Nat) : Calls Tryz.prog 39 #[.pointer (some ⟨pb, 0, none⟩), .string key, .slice va vn vc] w fun e w' => e = .returned (.iface 238 (.pointer (some (A 3)))) ∧ w' = w := by
  have K69 := hid (checkName_bad A w hE key hk)
  clear hE hk
  go_enter Tryz.func39, Tryz.ntmps39
  go_wp2_with (go_at_call 69; refine K69.out.mono ?_; rintro e w' ⟨rfl, hw'⟩; rw [hw']; clear hw')
  go_ret
  exact ⟨rfl, rfl⟩
set_option maxHeartbeats 2000000 in
theorem read_badName (A : Nat → Addr) (w : World) (hE : E5 A w) (pb : Nat) (key : ByteArray) (hk : nameB key = false) (va : Option Addr) (vn vc : Nat) :
    Calls Tryz.prog 13 #[.pointer (some ⟨pb, 0, none⟩), .string key, .slice va vn vc] w fun e w' => e = .returned (.tuple #[.agg #[.int .i64 0, .string ⟨#[]⟩, .int .i64 0, .slice none 0 0], .iface 238 (.pointer (some (A 3)))]) ∧ Below w.heap.size w w' := by
  obtain ⟨w1, hw1⟩ : ∃ w1, w1 = w.alloc (.cells #[.int .i64 0, .string ⟨#[]⟩, .int .i64 0, .slice none 0 0] 47) := ⟨_, rfl⟩
  have b1 : Below w.heap.size w w1 := by rw [hw1]; exact below_alloc _ _
  have g1 : w1.heap[w.heap.size]? = some (.cells #[.int .i64 0, .string ⟨#[]⟩, .int .i64 0, .slice none 0 0] 47 (0, 0)) := by rw [hw1]; exact heap_new _ _
  have K39 := hid (checkAsked_bad A w1 (hE.below b1 hE.size) pb key hk va vn vc)
  have B1 := hid b1
  have G1 := hid g1
  clear hE hk b1 g1
  go_enter Tryz.func13, Tryz.ntmps13
  go_wp2_with fail
  rw [← hw1]
  clear hw1
  refine K39.out.mono ?_
  rintro e w2 ⟨rfl, hw2⟩
  rw [hw2]
  clear hw2
  have R4 := hid (row4 G1.out)
  have S4 := hid (set4 G1.out [.int .i64 0, .string ⟨#[]⟩, .int .i64 0, .slice none 0 0] rfl)
  clear K39
  go_wp2_with (refine wpList_store_k _ rfl (.tmp 6) (.tmp 15) 47 rfl w.heap.size 0 [.int .i64 0, .string ⟨#[]⟩, .int .i64 0, .slice none 0 0] rfl rfl 4 rfl Tryz.sizeOf47 rfl _ ?hW R4.out.1 R4.out.2 ?_; case hW => rfl)
  refine bodyPost_ret (ret_cell_tmp (k := 4) Tryz.results13 Tryz.isAgg47 Tryz.sizeOf47 _ _ w.heap.size [.int .i64 0, .string ⟨#[]⟩, .int .i64 0, .slice none 0 0] _ rfl rfl rfl S4.out) rfl ⟨rfl, below_setCells (Nat.le_refl _) _ _ B1.out⟩
end Go.Proofs.YtefpnojanldkeaaGreatDoor
namespace Go.Proofs.YtefpnojanldkeaaGreatDoor
open Go.RowKit
set_option maxRecDepth 100000
set_option linter.unusedSectionVars false
variable [Inhabited ComV] [DecidableEq D3] [Inhabited D3] [Inhabited Dd] [Inhabited OpV]

theorem ret_nat {a b : Nat} (h : b = a) : Ending.returned (.int .i64 ((a : Nat) : Int)) = .returned (.int .i64 ((b : Nat) : Int)) := by rw [h]
theorem dots_cells {w : World} {p : Option Addr} {c : Nat} {ds : List D3} (h : DotsAt w (.slice p ds.length c) ds) {k : Nat} (hk : k < ds.length) : ∃ b off, p = some ⟨b, off, none⟩ ∧ w.cell? ⟨b, off + k * 3, none⟩ = some (.int .i64 ds[k]!.p) ∧ w.cell? ⟨b, off + k * 3 + 1, none⟩ = some (.int .i64 ds[k]!.t) ∧ w.cell? ⟨b, off + k * 3 + 2, none⟩ = some (.int .i64 ds[k]!.a) := by
  obtain ⟨ad, cap, he, _, _, h⟩ := h
  injection he with e1 _ _
  subst e1
  rcases h with h | ⟨b, off, rfl, h⟩
  · have : ds = [] := by simpa using h
    rw [this] at hk
    simp at hk
  · have hr := h k ds[k]!.cells (by rw [List.getElem?_map, List.getElem?_eq_getElem hk, getElem!_pos ds k hk]; rfl)
    exact ⟨b, off, rfl, hr.2 0 _ rfl, hr.2 1 _ rfl, hr.2 2 _ rfl⟩
theorem dot_true {n : Int} {d : D3} (h : dotB n d = true) : 0 ≤ d.p ∧ d.p < n ∧ 1 ≤ d.t ∧ d.t ≤ 1099511627776 ∧ 0 ≤ d.a ∧ d.a < 12 := by
  simp only [dotB, Bool.and_eq_true, decide_eq_true_eq] at h
  omega
theorem dot_false {n : Int} {d : D3} (h : dotB n d = false) : ¬ (0 ≤ d.p ∧ d.p < n ∧ 1 ≤ d.t ∧ d.t ≤ 1099511627776 ∧ 0 ≤ d.a ∧ d.a < 12) := fun e => by
  have : dotB n d = true := by simp only [dotB, Bool.and_eq_true, decide_eq_true_eq]; omega
  rw [this] at h
  cases h

set_option maxHeartbeats 4000000 in
theorem rOpError (w : World) (x1 : Int) (x2 : ByteArray) (x3 : Int) (x4 : ByteArray) (x5 : Int) (x6 : Bool) (xp : Option Addr) (xc : Nat) (ds : List D3) (n : Int)
    (hd : DotsAt w (.slice xp ds.length xc) ds) (hl : ds.length ≤ 9223372036854775807) (ht : x4.size ≤ 9223372036854775807) :
    Calls Tryz.prog 15 #[.agg #[.int .i64 x1, .string x2, .int .i64 x3, .string x4, .int .i64 x5, .bool x6, .slice xp ds.length xc], .int .i64 n] w
    fun e w' => e = .returned (.int .i64 ((opErr ⟨x1, x2, x3, x4, x5, x6, ds⟩ n : Nat) : Int)) ∧ Below w.heap.size w w' := by
  have K22 := fun W => rIsName W x2
  obtain ⟨er, her⟩ : ∃ er, er = opErr ⟨x1, x2, x3, x4, x5, x6, ds⟩ n := ⟨_, rfl⟩
  have her' := her
  unfold opErr at her'
  simp only at her'
  rw [← her]
  have hall : Hid ((∀ t, t < ds.length → dotB n ds[t]! = true) → ds.all (dotB n) = true) := fun h => List.all_eq_true.2 fun d hd => by
    obtain ⟨i, hi, rfl⟩ := List.getElem_of_mem hd
    have := h i hi
    rwa [getElem!_pos ds i hi] at this
  have hone : Hid (∀ t, t < ds.length → dotB n ds[t]! = false → ds.all (dotB n) = false) := fun t ht hf => List.all_eq_false.2 ⟨ds[t], List.getElem_mem ht, by rw [getElem!_pos ds t ht] at hf; rw [hf]; decide⟩
  obtain ⟨m, hm⟩ : ∃ m, m = ds.length := ⟨_, rfl⟩
  have HD := hid hd
  rw [← hm] at her' hl HD hall hone ⊢
  obtain ⟨fb, hfb⟩ : ∃ fb, fb = foreignB ⟨x1, x2, x3, x4, x5, x6, ds⟩ := ⟨_, rfl⟩
  rw [← hfb] at her'
  unfold foreignB at hfb
  simp only at hfb
  rw [← hm] at hfb
  obtain ⟨nb, hnb⟩ : ∃ nb, nb = nameB x2 := ⟨_, rfl⟩
  rw [← hnb] at K22 her'
  have HER := hid her'
  have HFB := hid hfb
  have HM := hid hm
  clear her' her hm hfb hnb hd
  by_cases n1 : n < 1
  · have hr : er = 2 := by rw [HER.out, if_pos (.inl n1)]
    subst hr
    go_enter Tryz.func15, Tryz.ntmps15
    go_wp2
    go_ret
    exact ⟨rfl, below_alloc _ _⟩
  by_cases n6 : 6 < n
  · have hr : er = 2 := by rw [HER.out, if_pos (.inr (.inl n6))]
    subst hr
    go_enter Tryz.func15, Tryz.ntmps15
    go_wp2
    go_ret
    exact ⟨rfl, below_alloc _ _⟩
  by_cases a1 : x1 < 0
  · have hr : er = 2 := by rw [HER.out, if_pos (.inr (.inr (.inl a1)))]
    subst hr
    go_enter Tryz.func15, Tryz.ntmps15
    go_wp2
    go_ret
    exact ⟨rfl, below_alloc _ _⟩
  by_cases a2 : 12 ≤ x1
  · have hr : er = 2 := by rw [HER.out, if_pos (.inr (.inr (.inr a2)))]
    subst hr
    go_enter Tryz.func15, Tryz.ntmps15
    go_wp2
    go_ret
    exact ⟨rfl, below_alloc _ _⟩
  have H1 := HER.out
  rw [if_neg (by omega)] at H1
  cases nb with
  | false =>
    have hr : er = 4 := by rw [H1, if_pos rfl]
    clear H1
    subst hr
    go_enter Tryz.func15, Tryz.ntmps15
    go_wp2_with (go_at_call 8; refine (K22 _).mono ?_; rintro e w' ⟨rfl, rfl⟩)
    go_ret
    exact ⟨rfl, below_alloc _ _⟩
  | true =>
    rw [if_neg (by decide)] at H1
    by_cases hk : kindB x3 = false
    · have hr : er = 12 := by rw [H1, if_pos hk]
      clear H1
      subst hr
      have k1 : (x3 == 1) = false := by rw [beq_eq_false_iff_ne]; rintro rfl; exact absurd hk (by decide)
      have k2 : (x3 == 2) = false := by rw [beq_eq_false_iff_ne]; rintro rfl; exact absurd hk (by decide)
      have k3 : (x3 == 3) = false := by rw [beq_eq_false_iff_ne]; rintro rfl; exact absurd hk (by decide)
      clear hk
      go_enter Tryz.func15, Tryz.ntmps15
      go_wp2_with (go_at_call 8; refine (K22 _).mono ?_; rintro e w' ⟨rfl, rfl⟩)
      go_ret
      exact ⟨rfl, below_alloc _ _⟩
    rw [if_neg hk] at H1
    have hk' : x3 = 1 ∨ x3 = 2 ∨ x3 = 3 := by
      have : kindB x3 = true := by simpa using hk
      simpa [kindB] using this
    have HX := hid H1
    clear H1 hk
    cases fb with
    | true =>
      have hr : er = 3 := by rw [HX.out, if_pos rfl]
      subst hr
      rcases hk' with rfl | rfl | rfl
      · have hq := HFB.out
        rw [if_pos rfl] at hq
        by_cases z5 : x5 = 0
        · subst z5
          cases x6 with
          | true =>
            clear hq
            go_enter Tryz.func15, Tryz.ntmps15
            go_wp2_with (go_at_call 8; refine (K22 _).mono ?_; rintro e w' ⟨rfl, rfl⟩)
            go_ret
            exact ⟨rfl, below_alloc _ _⟩
          | false =>
            have hm0 : 0 < m := by simpa using hq.symm
            have hm0' : (0 : Int) < (m : Int) := by omega
            clear hq
            go_enter Tryz.func15, Tryz.ntmps15
            go_wp2_with (go_at_call 8; refine (K22 _).mono ?_; rintro e w' ⟨rfl, rfl⟩)
            go_ret
            exact ⟨rfl, below_alloc _ _⟩
        · have z5' : (x5 != 0) = true := by simpa using z5
          clear hq
          go_enter Tryz.func15, Tryz.ntmps15
          go_wp2_with (go_at_call 8; refine (K22 _).mono ?_; rintro e w' ⟨rfl, rfl⟩)
          go_ret
          exact ⟨rfl, below_alloc _ _⟩
      · have hq := HFB.out
        rw [if_neg (by decide), if_pos rfl] at hq
        by_cases z4 : x4 = ByteArray.empty
        · subst z4
          cases x6 with
          | true =>
            clear hq
            go_enter Tryz.func15, Tryz.ntmps15
            go_wp2_with (go_at_call 8; refine (K22 _).mono ?_; rintro e w' ⟨rfl, rfl⟩)
            go_ret
            exact ⟨rfl, below_alloc _ _⟩
          | false =>
            have hm0 : 0 < m := by simpa using hq.symm
            have hm0' : (0 : Int) < (m : Int) := by omega
            clear hq
            go_enter Tryz.func15, Tryz.ntmps15
            go_wp2_with (go_at_call 8; refine (K22 _).mono ?_; rintro e w' ⟨rfl, rfl⟩)
            go_ret
            exact ⟨rfl, below_alloc _ _⟩
        · have z4' : (x4.toList == []) = false := by
            rw [beq_eq_false_iff_ne]
            intro h
            have h2 : x4.data.toList = [] := by rw [← Lib.toList_data]; exact h
            exact z4 (WideShapes.bytes_inj (by rw [h2]; rfl))
          clear hq
          go_enter Tryz.func15, Tryz.ntmps15
          go_wp2_with (go_at_call 8; refine (K22 _).mono ?_; rintro e w' ⟨rfl, rfl⟩)
          go_ret
          exact ⟨rfl, below_alloc _ _⟩
      · have hq := HFB.out
        rw [if_neg (by decide), if_neg (by decide)] at hq
        by_cases z5 : x5 = 0
        · subst z5
          cases x6 with
          | true => exact absurd hq (by simp)
          | false =>
            have hm0 : 0 < m := by simpa using hq.symm
            have hm0' : (0 : Int) < (m : Int) := by omega
            clear hq
            go_enter Tryz.func15, Tryz.ntmps15
            go_wp2_with (go_at_call 8; refine (K22 _).mono ?_; rintro e w' ⟨rfl, rfl⟩)
            go_ret
            exact ⟨rfl, below_alloc _ _⟩
        · have z5' : (x5 != 0) = true := by simpa using z5
          clear hq
          go_enter Tryz.func15, Tryz.ntmps15
          go_wp2_with (go_at_call 8; refine (K22 _).mono ?_; rintro e w' ⟨rfl, rfl⟩)
          go_ret
          exact ⟨rfl, below_alloc _ _⟩
    | false =>
      have H2 := HX.out
      rw [if_neg (by decide)] at H2
      have HY := hid H2
      clear H2
      have E : x3 = 1 ∧ x5 = 0 ∧ x6 = false ∧ m = 0 ∨ x3 = 2 ∧ x4 = ByteArray.empty ∧ x6 = false ∧ m = 0 ∨ x3 = 3 ∧ x5 = 0 ∧ x6 = false ∧ m = 0 ∨ x3 = 3 ∧ x5 = 0 ∧ x6 = true := by
        have hq := HFB.out
        rcases hk' with rfl | rfl | rfl
        · rw [if_pos rfl] at hq
          have h2 := hq.symm
          simp only [Bool.or_eq_false_iff, Bool.not_eq_false', decide_eq_true_eq, decide_eq_false_iff_not] at h2
          exact .inl ⟨rfl, h2.1, h2.2.1, by omega⟩
        · rw [if_neg (by decide), if_pos rfl] at hq
          have h2 := hq.symm
          simp only [Bool.or_eq_false_iff, Bool.not_eq_false', decide_eq_true_eq, decide_eq_false_iff_not] at h2
          exact .inr (.inl ⟨rfl, h2.1, h2.2.1, by omega⟩)
        · rw [if_neg (by decide), if_neg (by decide)] at hq
          have h2 := hq.symm
          simp only [Bool.or_eq_false_iff, Bool.not_eq_false', decide_eq_true_eq] at h2
          cases x6 with
          | false => exact .inr (.inr (.inl ⟨rfl, h2.1, rfl, by simpa using h2.2⟩))
          | true => exact .inr (.inr (.inr ⟨rfl, h2.1, rfl⟩))
      clear hk'
      rcases E with ⟨rfl, rfl, rfl, rfl⟩ | ⟨rfl, rfl, rfl, rfl⟩ | ⟨rfl, rfl, rfl, rfl⟩ | ⟨rfl, rfl, rfl⟩
      · by_cases t1 : 60 < x4.size
        · have hr : er = 2 := by rw [HY.out, if_pos (.inl t1)]
          have t1' : 60 < (x4.size : Int) := by omega
          subst hr
          go_enter Tryz.func15, Tryz.ntmps15
          go_wp2_with (go_at_call 8; refine (K22 _).mono ?_; rintro e w' ⟨rfl, rfl⟩)
          go_ret
          exact ⟨rfl, below_alloc _ _⟩
        · have hr : er = 0 := by rw [HY.out, if_neg (by omega), if_neg (by rw [hall.out (fun t ht => absurd ht (Nat.not_lt_zero _))]; decide)]
          have t1' : ¬ 60 < (x4.size : Int) := by omega
          subst hr
          go_enter Tryz.func15, Tryz.ntmps15
          go_wp2_with (go_at_call 8; refine (K22 _).mono ?_; rintro e w' ⟨rfl, rfl⟩)
          refine wp_loop_rounds 1 ?_
          rw [rounds_succ]
          go_wp2
          go_ret
          exact ⟨rfl, below_alloc _ _⟩
      · by_cases t2 : x5 < -1099511627776
        · have hr : er = 2 := by rw [HY.out, if_pos (.inr (.inl t2))]
          subst hr
          go_enter Tryz.func15, Tryz.ntmps15
          go_wp2_with (go_at_call 8; refine (K22 _).mono ?_; rintro e w' ⟨rfl, rfl⟩)
          go_ret
          exact ⟨rfl, below_alloc _ _⟩
        by_cases t3 : 1099511627776 < x5
        · have hr : er = 2 := by rw [HY.out, if_pos (.inr (.inr (.inl t3)))]
          subst hr
          go_enter Tryz.func15, Tryz.ntmps15
          go_wp2_with (go_at_call 8; refine (K22 _).mono ?_; rintro e w' ⟨rfl, rfl⟩)
          go_ret
          exact ⟨rfl, below_alloc _ _⟩
        · have hr : er = 0 := by rw [HY.out, if_neg (by have : ByteArray.empty.size = 0 := rfl; omega), if_neg (by rw [hall.out (fun t ht => absurd ht (Nat.not_lt_zero _))]; decide)]
          subst hr
          go_enter Tryz.func15, Tryz.ntmps15
          go_wp2_with (go_at_call 8; refine (K22 _).mono ?_; rintro e w' ⟨rfl, rfl⟩)
          refine wp_loop_rounds 1 ?_
          rw [rounds_succ]
          go_wp2
          go_ret
          exact ⟨rfl, below_alloc _ _⟩
      · by_cases t1 : 60 < x4.size
        · have hr : er = 2 := by rw [HY.out, if_pos (.inl t1)]
          have t1' : 60 < (x4.size : Int) := by omega
          subst hr
          go_enter Tryz.func15, Tryz.ntmps15
          go_wp2_with (go_at_call 8; refine (K22 _).mono ?_; rintro e w' ⟨rfl, rfl⟩)
          go_ret
          exact ⟨rfl, below_alloc _ _⟩
        · have hr : er = 0 := by rw [HY.out, if_neg (by omega), if_neg (by rw [hall.out (fun t ht => absurd ht (Nat.not_lt_zero _))]; decide)]
          have t1' : ¬ 60 < (x4.size : Int) := by omega
          subst hr
          go_enter Tryz.func15, Tryz.ntmps15
          go_wp2_with (go_at_call 8; refine (K22 _).mono ?_; rintro e w' ⟨rfl, rfl⟩)
          refine wp_loop_rounds 1 ?_
          rw [rounds_succ]
          go_wp2
          go_ret
          exact ⟨rfl, below_alloc _ _⟩
      · by_cases t1 : 60 < x4.size
        · have hr : er = 2 := by rw [HY.out, if_pos (.inl t1)]
          have t1' : 60 < (x4.size : Int) := by omega
          subst hr
          go_enter Tryz.func15, Tryz.ntmps15
          go_wp2_with (go_at_call 8; refine (K22 _).mono ?_; rintro e w' ⟨rfl, rfl⟩)
          go_ret
          exact ⟨rfl, below_alloc _ _⟩
        have t1' : ¬ 60 < (x4.size : Int) := by omega
        by_cases t4 : 60 < m
        · have hr : er = 2 := by rw [HY.out, if_pos (.inr (.inr (.inr t4)))]
          have t4' : 60 < (m : Int) := by omega
          subst hr
          go_enter Tryz.func15, Tryz.ntmps15
          go_wp2_with (go_at_call 8; refine (K22 _).mono ?_; rintro e w' ⟨rfl, rfl⟩)
          go_ret
          exact ⟨rfl, below_alloc _ _⟩
        have t4' : ¬ 60 < (m : Int) := by omega
        have H3 := HY.out
        rw [if_neg (by omega)] at H3
        have HZ := hid H3
        clear H3
        obtain ⟨w1, hw1⟩ : ∃ w1, w1 = w.alloc (.cells #[.int .i64 x1, .string x2, .int .i64 3, .string x4, .int .i64 0, .bool true, .slice xp m xc] 34) := ⟨_, rfl⟩
        have B1 : Hid (Below w.heap.size w w1) := by rw [hw1]; exact below_alloc _ _
        have S1 : Hid (w1.heap.size = w.heap.size + 1) := hid (by rw [hw1]; simp)
        have C6 : Hid (w1.cell? ⟨w.heap.size, 6, none⟩ = some (.slice xp m xc)) := hid (by rw [hw1]; simp)
        have HW1 := hid hw1
        clear hw1
        go_enter Tryz.func15, Tryz.ntmps15
        go_wp2_with (go_at_call 8; refine (K22 _).mono ?_; rintro e w' ⟨rfl, rfl⟩)
        go_loopw [6] (fun i wr => ∃ k : Nat, k ≤ m ∧ i = .int .i64 k ∧ Hid (Below (w.heap.size + 1) w1 wr) ∧ Hid (∀ t, t < k → dotB n ds[t]! = true)) (fun i _ => m - (intOf i).toNat)
        case atStart => exact ⟨0, Nat.zero_le _, rfl, (by rw [HW1.out]; exact Below.refl _ _), fun t ht => absurd ht (Nat.not_lt_zero _)⟩
        case round =>
          obtain ⟨k, hk, rfl, HB, HI⟩ := hrel
          have hB := HB.out
          have hs1 := S1.out
          have hsz : w.heap.size + 1 ≤ wr.heap.size := by have := hB.size; omega
          have wB : Hid (Below w.heap.size w wr) := B1.out.trans (hB.mono (by omega))
          have e6 : wr.cell? ⟨w.heap.size, 6, none⟩ = some (.slice xp m xc) := by rw [hB.cell (p := ⟨w.heap.size, 6, none⟩) (by simp)]; exact C6.out
          clear hB hs1
          by_cases hlt : k < m
          · have hmm := HM.out
            have hdd := HD.out
            rw [hmm] at hdd
            obtain ⟨b, off, rfl, q0, q1, q2⟩ := dots_cells hdd (k := k) (by omega)
            have up : ∀ {a : Addr} {v : Value}, w.cell? a = some v → wr.cell? a = some v := fun {a v} h => by rw [wB.out.cell (lt_of_cell h)]; exact h
            have r0 := up q0
            have r1 := up q1
            have r2 := up q2
            obtain ⟨d, hde⟩ : ∃ d, d = ds[k]! := ⟨_, rfl⟩
            rw [← hde] at r0 r1 r2
            have HDE := hid hde
            clear q0 q1 q2 up hde hmm hdd
            obtain ⟨p, t, a⟩ := d
            simp only at r0 r1 r2
            cases hb : dotB n ⟨p, t, a⟩ with
            | true =>
              have hh := dot_true hb
              simp only at hh
              obtain ⟨g1, g2, g3, g4, g5, g6⟩ := hh
              have HBD := hid hb
              clear hb
              go_wp2
              go_roundw
              case rel => exact ⟨k + 1, by omega, by go_num, HB.out.alloc hsz _, fun t ht => by rcases Nat.lt_succ_iff_lt_or_eq.1 ht with h | rfl; exact HI.out t h; rw [← HDE.out]; exact HBD.out⟩
              case measure => simp [intOf]; omega
            | false =>
              have HN := hid (dot_false hb)
              have hr : er = 2 := by rw [HZ.out, if_pos (hone.out k hlt (by rw [← HDE.out]; exact hb))]
              clear hb
              subst hr
              go_wp2
              all_goals first
                | (exfalso; have := HN.out; simp only at this; omega)
                | (go_ret; exact ⟨rfl, wB.out.alloc (by have := wB.out.size; omega) _⟩)
          · obtain rfl : k = m := by omega
            have hr : er = 0 := by rw [HZ.out, if_neg (by rw [hall.out HI.out]; decide)]
            subst hr
            go_wp2
            go_ret
            exact ⟨rfl, wB.out⟩
end Go.Proofs.YtefpnojanldkeaaGreatDoor
namespace Go.Proofs.YtefpnojanldkeaaGreatDoor
open Go.RowKit Go.Maps
set_option maxRecDepth 10000
set_option linter.unusedSectionVars false
variable [Inhabited ComV] [DecidableEq D3] [Inhabited D3] [Inhabited Dd] [Inhabited Dn] [Inhabited OpV]

theorem snapJ0 (id n k : Nat) (k1 : 1 ≤ k) (j : Nat) : snapJ (pv0 id n k) j = 0 := by
  unfold snapJ
  split
  · rfl
  · exact least_none (rt := fun _ => (0 : Int)) (k := k) (s := 0) (fun s _ => .inl rfl) (by omega) rfl
theorem snapV0 (id n k : Nat) (k1 : 1 ≤ k) : snapV (pv0 id n k) = List.replicate n 0 := by
  unfold snapV
  show (List.range n).map (snapJ (pv0 id n k)) = _
  rw [show snapJ (pv0 id n k) = fun _ => 0 from funext fun j => snapJ0 id n k k1 j, List.map_const', List.length_range]
/-- The one commit. -/
def cW (ks : List ByteArray) : ComV := comN [0, 0] 0 1 (cOps ks)
theorem cW_when (ks : List ByteArray) : (cW ks).when_ = [1, 0] := rfl
theorem cW_src {ks : List ByteArray} (hks : ks ≠ []) (h12 : ks.length ≤ 12) (hn : ∀ key ∈ ks, nameB key = true) : ∀ j, j = 0 → SrcOk 2 (fun _ => cW ks) j := by
  rintro j rfl
  exact cCom_ok rfl (by decide) (by decide) (fun j hj => by
    rcases (by omega : j = 0 ∨ j = 1) with rfl | rfl <;> exact .inl rfl) hks h12 hn
theorem snap_pair {k i : Nat} {C : Nat → ComV} {h : PlH} {v : PlV} (hI : RcI 2 1 k C (· = 0) i h v) : snapV v = [snapJ v 0, 0] := by
  unfold snapV
  rw [hI.vn]
  have : snapJ v 1 = 0 := by
    unfold snapJ
    rw [if_pos hI.vid.symm, hI.ck]
  show [snapJ v 0, snapJ v 1] = _
  rw [this]
/-- A key of the commit reads as a counter, or as nothing: by the snapshot alone. -/
theorem whole_kind {k i : Nat} {ks : List ByteArray} {h : PlH} {v : PlV} (k1 : 1 ≤ k) (hI : RcI 2 1 k (fun _ => cW ks) (· = 0) i h v) (hks : ks ≠ []) (h12 : ks.length ≤ 12) (hn : ∀ key ∈ ks, nameB key = true) {key : ByteArray} (hkey : key ∈ ks) {ds : List Dn} (hd : IsOps key (seenL v.st key (snapV v)) ds) : (valA ds).kind = if snapJ v 0 = 1 then 2 else 0 := by
  obtain ⟨D, hK, hlen, hSt, hst, hD, hmem⟩ := hI.kept (cW_src hks h12 hn) (by decide) (by decide)
  rw [snap_pair hI, hst] at hd
  rcases hI.snap k1 0 (by decide) (by decide) with e | ⟨e, _, hall⟩
  · rw [e] at hd
    rw [if_neg (by omega)]
    have : seenL (stOf 2 (D.map (partP (fun _ => cW ks) k))) key [0, 0] = [] := by
      rw [List.eq_nil_iff_forall_not_mem]
      intro x hx
      obtain ⟨p, _, o, _, _, _, _, hle⟩ := seen_mem hx
      exact absurd hle (by rw [cW_when]; decide)
    rw [this] at hd
    rw [isOps_nil hd]
    rfl
  · rw [e] at hd
    rw [if_pos e]
    obtain ⟨o, ho, rfl⟩ := cOps_has hkey
    have hq : qS (cW ks) k (shardN o.key k) = 1 := qS_one fun e0 => by
      have : o ∈ partOps (cW ks).ops k (shardN o.key k) := List.mem_filter.2 ⟨ho, by simp⟩
      rw [e0] at this
      simp at this
    have hsk : shardN o.key k < k := Nat.mod_lt _ (by omega)
    have hin : (0, shardN o.key k) ∈ D := (hmem _).2 ⟨⟨by rw [hI.vn]; exact (by decide : 0 < 2), by rw [hI.vid]; exact (by decide : 0 ≠ 1), by rw [hI.vk]; exact hsk⟩, rfl, hq, hall _ hsk⟩
    have hs := seen_some (C := fun _ => cW ks) (n := 2) (k := k) (j := 0) (D := D) (at_ := [1, 0]) (by rw [cW_when]; decide) ho hin
    have hone : OneDot (seenL (stOf 2 (D.map (partP (fun _ => cW ks) k))) o.key [1, 0]) := fun a ha b hb e => by
      have hsub : ∀ c ∈ seenL (stOf 2 (D.map (partP (fun _ => cW ks) k))) o.key [1, 0], c ∈ (D.map (partP (fun _ => cW ks) k)).flatMap partsC := fun c hc => seenL_mem hc
      exact oneDot_parts hK a (flat_sub hsub ha) b (flat_sub hsub hb) e
    have h2 := isOps_two hd hone (fun e0 => by
      have : dnOf (partC (cW ks) o) o ∈ flatA (seenL (stOf 2 (D.map (partP (fun _ => cW ks) k))) o.key [1, 0]) := flat_mem.2 ⟨_, hs, by simp [partC]⟩
      rw [e0] at this
      simp at this) fun d hd' => by
      obtain ⟨x, hx, hdx⟩ := flat_mem.1 hd'
      obtain ⟨p, _, o', ho', rfl, hk', _, _⟩ := seen_mem hx
      have hd0 : d = dnOf (partC (cW ks) o') o' := by simpa [partC] using hdx
      subst hd0
      exact ⟨hk', (cOps_mem ho').2.1⟩
    exact (valA_two h2.1 h2.2.1).1
end Go.Proofs.YtefpnojanldkeaaGreatDoor
namespace Go.Proofs.YtefpnojanldkeaaGreatDoor
open Go.RowKit Go.Maps
set_option maxRecDepth 100000
set_option linter.unusedSectionVars false
variable [Inhabited ComV] [DecidableEq D3] [Inhabited D3] [Inhabited Dd] [Inhabited Dn] [Inhabited OpV]

def opKV : OpV := ⟨0, ⟨#[107]⟩, 2, ⟨#[]⟩, 5, false, []⟩
theorem snap_two : snapV (pv0 0 2 1) = [0, 0] := by decide
theorem shardN_one (key : ByteArray) : shardN key 1 = 0 := Nat.mod_one _
theorem parts_one (c : ComV) : partV c 1 0 = c := by
  obtain ⟨w, p, os⟩ := c
  simp [partV, partOps, shardN_one]
theorem tx_two (w : World) (h : PlH) (hnn : h.nn ≤ 1000000) : TxOk w h (pv0 0 2 1) [0, 0] [opKV] where
  two := by rw [snap_two]; decide
  le := by rw [snap_two]; decide
  light := ⟨by decide, by decide, fun o ho => by simp at ho; rw [ho]; decide⟩
  put := ⟨(by first | decide | kernel_rfl), (by first | decide | kernel_rfl), (by first | decide | kernel_rfl), fun o _ => by simp [pv0]⟩
  base := by decide
  few := fun k => by simp [pv0, rowOf]
  nn := hnn
  ck := by decide
  parts := fun s hs _ => by
    obtain rfl : s = 0 := by have : s < 1 := hs; omega
    show (comE (partV _ 1 0)).1 = 0
    rw [parts_one]
    decide
theorem pvOk0 (id n k : Nat) : PvOk (pv0 id n k) :=
  ⟨(by decide : (0 : Int) ≤ 0), (by decide : (0 : Int) ≤ 1000), fun _ _ _ => (by decide : (0 : Int) ≤ 0), fun _ _ _ => (by decide : (0 : Int) ≤ 900), fun _ _ _ => (by decide : 0 ≤ 900), fun _ _ _ => (by decide : (0 : Int) ≤ 0), fun _ _ _ => (by decide : (0 : Int) ≤ 0), fun _ _ _ => (by decide : (0 : Int) ≤ 0), fun _ _ _ => (by decide : (0 : Int) ≤ 1000)⟩
theorem clock_any (w : World) (h : PlH) (v : PlV) (a : PlAt w h v) : Calls Tryz.prog 21 #[.pointer (some ⟨h.pb, 0, none⟩)] w fun e w' => e = .returned (.int .i64 v.ck) ∧ w' = w := by
  have q : w.cell? ⟨h.pb, 2, none⟩ = some (.int .i64 v.ck) := (cell_of a.box).trans rfl
  clear a
  go_enter Tryz.func21, Tryz.ntmps21
  go_wp2
  go_ret
  exact ⟨rfl, rfl⟩
theorem ms_two (c : ComV) (h : c.ops ≠ []) : allMs (sendT (comV1 (pv0 0 2 1) c) c) 0 1 2 = [sendM (comV1 (pv0 0 2 1) c) c 1 0] := by
  have e : partOps c.ops (comV1 (pv0 0 2 1) c).k 0 ≠ [] := by
    show partOps c.ops 1 0 ≠ []
    rw [show partOps c.ops 1 0 = c.ops by simp [partOps, shardN_one]]
    exact h
  simp [allMs, rowMs, sendT, e]
theorem ints_two {W : World} {b c : Nat} {x y : Int} (h : W.heap[b]? = some (.cells #[.int .i64 x, .int .i64 y] 3 (0, 0))) : IntsAt W (.slice (some ⟨b, 0, none⟩) 2 c) [x, y] := ints_heap (zs := [x, y]) h
theorem ops_lit {W : World} {b : Nat} {o : OpV} (h : W.heap[b]? = some (.cells (opCells o (.slice none 0 0)).toArray 34 (0, 0))) (hd : o.dots = []) : OpsAt W (.slice (some ⟨b, 0, none⟩) 1 1) [o] := by
  refine ⟨[opCells o (.slice none 0 0)], ⟨_, _, rfl, by simp, by simp, .inr ⟨b, 0, rfl, fun j r hj => ?_⟩⟩, ⟨.slice none 0 0, rfl, ?_⟩, trivial⟩
  · obtain ⟨rfl, rfl⟩ : j = 0 ∧ r = opCells o (.slice none 0 0) := by
      cases j with
      | zero => exact ⟨rfl, by simpa using hj.symm⟩
      | succ j => simp at hj
    refine ⟨rfl, fun i u hu => ?_⟩
    rw [Nat.zero_mul, Nat.zero_add, cell_of h]
    simpa using hu
  · rw [hd]
    exact ⟨none, 0, rfl, fun _ => rfl, Nat.le_refl _, .inl rfl⟩
theorem Sen.whole {A : Nat → Addr} {B : Nat} {w : World} (h : Sen A B w) : Sen A w.heap.size w :=
  ⟨Nat.le_trans h.gl h.size, Nat.le_refl _, h.e4⟩
def comK : ComV := comN [0, 0] 0 1 [opKV]
set_option maxHeartbeats 4000000 in
theorem commit_placed (A : Nat → Addr) (B : Nat) (w : World) (hS : Sen A B w) (h : PlH) (hP : PlAt w h (pv0 0 2 1)) (hf : ∀ b, h.foot (pv0 0 2 1) b → B ≤ b) (hnn : h.nn = 0) (b1 b2 : Nat) (g1 : w.heap[b1]? = some (.cells #[.int .i64 0, .int .i64 0] 3 (0, 0))) (g2 : w.heap[b2]? = some (.cells (opCells opKV (.slice none 0 0)).toArray 34 (0, 0))) :
    Calls Tryz.prog 9 #[.pointer (some ⟨h.pb, 0, none⟩), .slice (some ⟨b1, 0, none⟩) 2 2, .slice (some ⟨b2, 0, none⟩) 1 1] w fun e w' => ∃ (a3 a4 : Option Addr) (c3 c4 b5 c5 : Nat), e = .returned (.tuple #[.agg #[.slice a3 2 c3, .int .i64 0, .slice a4 1 c4], .slice (some ⟨b5, 0, none⟩) 1 c5, .nilIface]) ∧ w'.cell? ⟨b5, 1, none⟩ = some (.int .i64 1) ∧ IntsAt w' (.slice a3 2 c3) [1, 0] ∧ (∃ cs, w'.heap[h.pb]? = some (.cells cs 68 (0, 0)) ∧ cs[2]? = some (.int .i64 1)) ∧ Below B w w' := by
  refine (commit_any A B w hS hS.e4 h (pv0 0 2 1) hP hf (pvOk0 0 2 1) (some ⟨b1, 0, none⟩) (some ⟨b2, 0, none⟩) 2 2 1 1 [0, 0] [opKV] (ints_two g1) (ops_lit g2 rfl) (tx_two w h (by omega))).mono ?_
  rintro e w3 ⟨⟨h', a3, a4, c3, c4, rv, rs, rfl, hP3, hM3, hpb, hnn3, hfr, hrow, hF, hco, _⟩⟩
  have hF' : F2 (RawOwn 0 w3) rs [sendM (comV1 (pv0 0 2 1) comK) comK 1 0] := by
    have hc : comN [0, 0] (pv0 0 2 1).id ((pv0 0 2 1).ck + 1) [opKV] = comK := rfl
    rw [hc] at hF
    have e1 : (pv0 0 2 1).id = 0 := rfl
    have e2 : (pv0 0 2 1).k = 1 := rfl
    have e3 : (pv0 0 2 1).n = 2 := rfl
    rw [e1, e2, e3, ms_two comK (by decide)] at hF
    exact hF
  match rs, hF', hrow with
  | [r], hF', hrow =>
    have hx3 : r.x2 = 1 := hF'.1.nums.x2
    have hrow' : w3.ownsRow w.heap.size 44 9 rv 1 r.cells := by
      have e : raws [r] = r.cells := by simp [raws]
      rw [e] at hrow
      exact hrow
    obtain ⟨a5, c5, hv5⟩ := row_shape hrow'
    subst hv5
    obtain ⟨b5, cs5, rfl, _, h5, ht5, hz5⟩ := owns_cells hrow' (by decide)
    have x1 : cs5[1]? = some (.int .i64 1) := by
      have e : (cs5.toList.take (1 * 9))[1]? = some (.int .i64 1) := by rw [ht5]; simp [Raw.cells, hx3]
      rw [List.getElem?_take, if_pos (by omega), Array.getElem?_toList] at e
      exact e
    exact ⟨a3, a4, c3, c4, b5, c5, rfl, (cell_of h5).trans x1, hco.ints, ⟨_, hpb ▸ hP3.box, rfl⟩, ⟨hM3.os, hM3.tape, hM3.output, hM3.size, fun k hk => hM3.block k (Nat.lt_of_lt_of_le hk hS.size) fun e => by have := hf k e; omega⟩⟩
end Go.Proofs.YtefpnojanldkeaaGreatDoor
