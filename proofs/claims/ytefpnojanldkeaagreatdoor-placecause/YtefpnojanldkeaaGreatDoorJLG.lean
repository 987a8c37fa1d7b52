/- gather: what each line tells, by place, then by shard; One line of a place turns, the others stand. -/
import Derived.Test.YtefpnojanldkeaaGreatDoorJLD
namespace Go.Proofs.YtefpnojanldkeaaGreatDoor
open Go.RowKit Go.Maps
set_option maxRecDepth 100000
set_option linter.unusedSectionVars false
variable [Inhabited ComV] [DecidableEq D3] [Inhabited D3] [Inhabited Dd] [Inhabited Dn] [Inhabited OpV]

/-- What gather asks of what it goes on: I j s rs o W: behind all lines ahead of line (j, s), rs is gathered, in a row of block o of which nothing else knows. -/
structure GaOk (n k id lb : Nat) (b : Nat → Nat) (g gr : Nat → Nat → Nat) (base : Nat) (I : Nat → Nat → List Raw → Option Nat → World → Prop) : Prop where
  n6 : n ≤ 6
  k6 : k ≤ 6
  size : ∀ {j s rs o W}, I j s rs o W → base ≤ W.heap.size
  len : ∀ {j s rs o W}, I j s rs o W → rs.length ≤ 100000
  lines : ∀ {j s rs o W}, I j s rs o W → ∀ j', j' < n → W.cell? ⟨lb, j', none⟩ = some (if j' = id then .slice none 0 0 else .slice (some ⟨b j', 0, none⟩) k k)
  line : ∀ {j s rs o W}, I j s rs o W → ∀ j' s', j' < n → j' ≠ id → s' < k → W.cell? ⟨b j', s' * 2, none⟩ = some (.pointer (some ⟨g j' s', 0, none⟩)) ∧ W.cell? ⟨b j', s' * 2 + 1, none⟩ = some (.pointer (some ⟨gr j' s', 0, none⟩))
  below : ∀ {j s rs o W W'}, I j s rs o W → Below W.heap.size W W' → I j s rs o W'
  grown : ∀ {j s rs o o' W W'}, I j s rs o W → W.grownBy W' o → (∀ q, o = some q → ∃ cs, W.heap[q]? = some (.cells cs 44 (0, 0))) → (o' = o ∨ ∃ q, o' = some q ∧ W.heap.size ≤ q) → (∀ q, o' = some q → q < W'.heap.size) → I j s rs o' W'
  row : ∀ {j rs o W}, j < n → I j (if j = id then 0 else k) rs o W → I (j + 1) 0 rs o W
def GaCall (n k id : Nat) (g gr : Nat → Nat → Nat) (I : Nat → Nat → List Raw → Option Nat → World → Prop) (F : Nat) (cap : Value) : Prop :=
  ∀ j s rs o W, j < n → j ≠ id → s < k → I j s rs o W → Calls Tryz.prog F #[.int .i64 (s : Nat), .agg #[.pointer (some ⟨g j s, 0, none⟩), .pointer (some ⟨gr j s, 0, none⟩)], cap] W (fun e W' => ∃ (a : Option Addr) (c : Nat) (rs' : List Raw), e = .returned (.slice a rs'.length c) ∧ SrcAt W' (.slice a rs'.length c) rs'.length 9 (raws rs') ∧ I j (s + 1) (rs ++ rs') o W' ∧ (∀ q, o = some q → W'.heap[q]? = W.heap[q]?) ∧ W.heap.size ≤ W'.heap.size)
def GaRet (n base : Nat) (I : Nat → Nat → List Raw → Option Nat → World → Prop) (e : Ending) (W' : World) : Prop := ∃ (v : Value) (rs : List Raw), e = .returned v ∧ I n 0 rs v.ownBlock W' ∧ W'.ownsRow base 44 9 v rs.length (raws rs)
theorem oneRs : ∀ l : List Raw, ∀ u ∈ raws l, u.oneCell' = true := fun l u hu => by
  obtain ⟨r, _, h2⟩ := List.mem_flatMap.1 hu
  exact oneR r u h2
theorem raws_app (l m : List Raw) : raws (l ++ m) = raws l ++ raws m := by simp [raws]
set_option maxHeartbeats 4000000 in
theorem gather_30 (w : World) (n k id pb lb : Nat) (b : Nat → Nat) (g gr : Nat → Nat → Nat) (I : Nat → Nat → List Raw → Option Nat → World → Prop) (cap : Value) (hG : GaOk n k id lb b g gr w.heap.size I) (hF : GaCall n k id g gr I 30 cap) (hpb : w.cell? ⟨pb, 4, none⟩ = some (.slice (some ⟨lb, 0, none⟩) n n)) (h0 : I 0 0 [] none w) :
    Calls Tryz.prog 29 #[.pointer (some ⟨pb, 0, none⟩), .func (.func 30) #[] #[cap]] w (GaRet n w.heap.size I) := by
  obtain ⟨i44, hi, hz0, hz1, hz2⟩ := info_parts Tryz.info44
  have HG := hid hG
  have HF := hid hF
  have H0 := hid h0
  have n6 := hG.n6
  have k6 := hG.k6
  clear hG hF h0
  go_enter Tryz.func29, Tryz.ntmps29
  go_wp2
  clear hpb
  go_loopw [5, 15] (fun x i wr => ∃ (m : Nat) (xv : Value) (rs : List Raw), m ≤ n ∧ i = .int .i64 m ∧ x = xv ∧ Hid (wr.ownsRow w.heap.size 44 9 xv rs.length (raws rs)) ∧ Hid (I m 0 rs xv.ownBlock wr)) (fun _ i _ => n - (intOf i).toNat)
  case atStart => exact ⟨0, _, [], Nat.zero_le _, rfl, rfl, World.ownsRow_nil _ _ _ _, H0⟩
  case round =>
    obtain ⟨m, xv, rs, hm, rfl, hxx, HX, HI⟩ := hrel
    obtain rfl := hxx.symm
    by_cases hlt : m < n
    · have hi1 : (m : Int) < (n : Int) := by omega
      have ql := HG.out.lines HI.out m hlt
      by_cases hne : m = id
      · rw [if_pos hne] at ql
        have J : Hid (I (m + 1) 0 rs xv.ownBlock wr) := (show I _ _ _ _ _ from HG.out.row hlt (by rw [if_pos hne]; exact HI.out))
        clear hne
        go_wp2
        refine wp_loop_rounds 1 ?_
        rw [rounds_succ]
        go_wp2
        exact ⟨⟨m + 1, xv, rs, by omega, by go_num, rfl, HX, J⟩, by simp [intOf]; omega⟩
      · rw [if_neg hne] at ql
        go_wp2
        obtain ⟨wq, hwq⟩ : ∃ wq, wq = wr := ⟨_, rfl⟩
        subst hwq
        clear ql
        go_loopw [5, 21] (fun x i wr => ∃ (s : Nat) (xv : Value) (rs : List Raw), s ≤ k ∧ i = .int .i64 s ∧ x = xv ∧ Hid (wr.ownsRow w.heap.size 44 9 xv rs.length (raws rs)) ∧ Hid (I m s rs xv.ownBlock wr)) (fun _ i _ => k - (intOf i).toNat)
        case atStart => exact ⟨0, _, rs, Nat.zero_le _, rfl, rfl, HX, HI⟩
        case round =>
          clear HX HI
          obtain ⟨s, xv', rs', hs, rfl, hxx, HX, HI⟩ := hrel
          obtain rfl := hxx.symm
          by_cases hls : s < k
          · have hi2 : (s : Int) < (k : Int) := by omega
            obtain ⟨q0, q1⟩ := HG.out.line HI.out m s hlt hne hls
            have K := hid (fun o => HF.out m s rs' xv'.ownBlock (wr.alloc o) hlt hne hls (HG.out.below HI.out (below_alloc _ o)))
            obtain ⟨ob, hob⟩ : ∃ ob, ob = xv'.ownBlock := ⟨_, rfl⟩
            rw [← hob] at K
            obtain ⟨xa, xc, hxv⟩ := row_shape HX.out
            subst hxv
            have HOB := hid hob
            have LEN := hid (fun W x => HG.out.len (j := m) (s := s + 1) (rs := rs' ++ x) (o := ob) (W := W))
            have SIZE := hid (HG.out.size HI.out)
            clear hob
            go_wp2_with fail
            refine (K.out _).mono ?_
            rintro e w2 ⟨a, c, r2, rfl, hsrc, hI2, ho2, hs2⟩
            have hlen := LEN.out _ _ hI2
            rw [List.length_append] at hlen
            have X2 : Hid (w2.ownsRow w.heap.size 44 9 (.slice xa rs'.length xc) rs'.length (raws rs')) := (show World.ownsRow _ _ _ _ _ _ _ from own_keep HX.out fun q hq => by
              rw [← HOB.out] at hq
              rw [ho2 q hq]
              exact Below.heap_alloc _ _ _ ((HX.out.lt q (by rw [← HOB.out]; exact hq)).2))
            have SRC := hid hsrc
            have I2 := hid hI2
            have SZ2 : Hid (w.heap.size ≤ w2.heap.size) := (show _ ≤ _ from Nat.le_trans SIZE.out (Nat.le_trans (by show wr.heap.size ≤ (wr.alloc _).heap.size; simp) hs2))
            clear hsrc hI2 ho2 hs2 q0 q1
            go_wp2_with (at_builtin; refine wpList_append_own_srcS rfl _ _ 37 rfl w.heap.size 44 i44 _ 9 104 Tryz.underlying37 hi hz0 hz1 hz2 rfl (by decide) _ _ _ rfl X2.out _ r2.length (raws r2) rfl SRC.out (oneRs r2) ?hm2 ?hm3 SZ2.out ?_; (case hm2 => unfold maxLen; omega); (case hm3 => omega); intro v3 w3 hown3 hgr3 hv3; have I3 : Hid (I m (s + 1) (rs' ++ r2) v3.ownBlock w3) := (show I _ _ _ _ _ from HG.out.grown I2.out (by rw [HOB.out]; exact hgr3) (fun q hq => own_type X2.out (by rw [← HOB.out]; exact hq)) (by rw [HOB.out]; rcases hv3 with h | h; exact .inl h; exact .inr ⟨_, h, Nat.le_refl _⟩) (fun q hq => (hown3.lt q hq).2)); have X3 := hid hown3; clear hown3 hgr3 hv3)
            refine ⟨⟨s + 1, v3, rs' ++ r2, by omega, by go_num, rfl, ?_, I3⟩, by simp [intOf]; omega⟩
            show World.ownsRow _ _ _ _ _ _ _
            rw [raws_app, List.length_append]
            exact X3.out
          · obtain rfl : s = k := by omega
            have J : Hid (I (m + 1) 0 rs' xv'.ownBlock wr) := (show I _ _ _ _ _ from HG.out.row hlt (by rw [if_neg hne]; exact HI.out))
            go_wp2
            exact ⟨⟨m + 1, xv', rs', by omega, by go_num, rfl, HX, J⟩, by simp [intOf]; omega⟩
    · obtain rfl : m = n := by omega
      go_wp2
      go_ret
      exact ⟨xv, rs, rfl, HI.out, HX.out⟩
set_option maxHeartbeats 4000000 in
theorem gather_58 (w : World) (n k id pb lb : Nat) (b : Nat → Nat) (g gr : Nat → Nat → Nat) (I : Nat → Nat → List Raw → Option Nat → World → Prop) (cap : Value) (hG : GaOk n k id lb b g gr w.heap.size I) (hF : GaCall n k id g gr I 58 cap) (hpb : w.cell? ⟨pb, 4, none⟩ = some (.slice (some ⟨lb, 0, none⟩) n n)) (h0 : I 0 0 [] none w) :
    Calls Tryz.prog 29 #[.pointer (some ⟨pb, 0, none⟩), .func (.func 58) #[] #[cap]] w (GaRet n w.heap.size I) := by
  obtain ⟨i44, hi, hz0, hz1, hz2⟩ := info_parts Tryz.info44
  have HG := hid hG
  have HF := hid hF
  have H0 := hid h0
  have n6 := hG.n6
  have k6 := hG.k6
  clear hG hF h0
  go_enter Tryz.func29, Tryz.ntmps29
  go_wp2
  clear hpb
  go_loopw [5, 15] (fun x i wr => ∃ (m : Nat) (xv : Value) (rs : List Raw), m ≤ n ∧ i = .int .i64 m ∧ x = xv ∧ Hid (wr.ownsRow w.heap.size 44 9 xv rs.length (raws rs)) ∧ Hid (I m 0 rs xv.ownBlock wr)) (fun _ i _ => n - (intOf i).toNat)
  case atStart => exact ⟨0, _, [], Nat.zero_le _, rfl, rfl, World.ownsRow_nil _ _ _ _, H0⟩
  case round =>
    obtain ⟨m, xv, rs, hm, rfl, hxx, HX, HI⟩ := hrel
    obtain rfl := hxx.symm
    by_cases hlt : m < n
    · have hi1 : (m : Int) < (n : Int) := by omega
      have ql := HG.out.lines HI.out m hlt
      by_cases hne : m = id
      · rw [if_pos hne] at ql
        have J : Hid (I (m + 1) 0 rs xv.ownBlock wr) := (show I _ _ _ _ _ from HG.out.row hlt (by rw [if_pos hne]; exact HI.out))
        clear hne
        go_wp2
        refine wp_loop_rounds 1 ?_
        rw [rounds_succ]
        go_wp2
        exact ⟨⟨m + 1, xv, rs, by omega, by go_num, rfl, HX, J⟩, by simp [intOf]; omega⟩
      · rw [if_neg hne] at ql
        go_wp2
        obtain ⟨wq, hwq⟩ : ∃ wq, wq = wr := ⟨_, rfl⟩
        subst hwq
        clear ql
        go_loopw [5, 21] (fun x i wr => ∃ (s : Nat) (xv : Value) (rs : List Raw), s ≤ k ∧ i = .int .i64 s ∧ x = xv ∧ Hid (wr.ownsRow w.heap.size 44 9 xv rs.length (raws rs)) ∧ Hid (I m s rs xv.ownBlock wr)) (fun _ i _ => k - (intOf i).toNat)
        case atStart => exact ⟨0, _, rs, Nat.zero_le _, rfl, rfl, HX, HI⟩
        case round =>
          clear HX HI
          obtain ⟨s, xv', rs', hs, rfl, hxx, HX, HI⟩ := hrel
          obtain rfl := hxx.symm
          by_cases hls : s < k
          · have hi2 : (s : Int) < (k : Int) := by omega
            obtain ⟨q0, q1⟩ := HG.out.line HI.out m s hlt hne hls
            have K := hid (fun o => HF.out m s rs' xv'.ownBlock (wr.alloc o) hlt hne hls (HG.out.below HI.out (below_alloc _ o)))
            obtain ⟨ob, hob⟩ : ∃ ob, ob = xv'.ownBlock := ⟨_, rfl⟩
            rw [← hob] at K
            obtain ⟨xa, xc, hxv⟩ := row_shape HX.out
            subst hxv
            have HOB := hid hob
            have LEN := hid (fun W x => HG.out.len (j := m) (s := s + 1) (rs := rs' ++ x) (o := ob) (W := W))
            have SIZE := hid (HG.out.size HI.out)
            clear hob
            go_wp2_with fail
            refine (K.out _).mono ?_
            rintro e w2 ⟨a, c, r2, rfl, hsrc, hI2, ho2, hs2⟩
            have hlen := LEN.out _ _ hI2
            rw [List.length_append] at hlen
            have X2 : Hid (w2.ownsRow w.heap.size 44 9 (.slice xa rs'.length xc) rs'.length (raws rs')) := (show World.ownsRow _ _ _ _ _ _ _ from own_keep HX.out fun q hq => by
              rw [← HOB.out] at hq
              rw [ho2 q hq]
              exact Below.heap_alloc _ _ _ ((HX.out.lt q (by rw [← HOB.out]; exact hq)).2))
            have SRC := hid hsrc
            have I2 := hid hI2
            have SZ2 : Hid (w.heap.size ≤ w2.heap.size) := (show _ ≤ _ from Nat.le_trans SIZE.out (Nat.le_trans (by show wr.heap.size ≤ (wr.alloc _).heap.size; simp) hs2))
            clear hsrc hI2 ho2 hs2 q0 q1
            go_wp2_with (at_builtin; refine wpList_append_own_srcS rfl _ _ 37 rfl w.heap.size 44 i44 _ 9 104 Tryz.underlying37 hi hz0 hz1 hz2 rfl (by decide) _ _ _ rfl X2.out _ r2.length (raws r2) rfl SRC.out (oneRs r2) ?hm2 ?hm3 SZ2.out ?_; (case hm2 => unfold maxLen; omega); (case hm3 => omega); intro v3 w3 hown3 hgr3 hv3; have I3 : Hid (I m (s + 1) (rs' ++ r2) v3.ownBlock w3) := (show I _ _ _ _ _ from HG.out.grown I2.out (by rw [HOB.out]; exact hgr3) (fun q hq => own_type X2.out (by rw [← HOB.out]; exact hq)) (by rw [HOB.out]; rcases hv3 with h | h; exact .inl h; exact .inr ⟨_, h, Nat.le_refl _⟩) (fun q hq => (hown3.lt q hq).2)); have X3 := hid hown3; clear hown3 hgr3 hv3)
            refine ⟨⟨s + 1, v3, rs' ++ r2, by omega, by go_num, rfl, ?_, I3⟩, by simp [intOf]; omega⟩
            show World.ownsRow _ _ _ _ _ _ _
            rw [raws_app, List.length_append]
            exact X3.out
          · obtain rfl : s = k := by omega
            have J : Hid (I (m + 1) 0 rs' xv'.ownBlock wr) := (show I _ _ _ _ _ from HG.out.row hlt (by rw [if_neg hne]; exact HI.out))
            go_wp2
            exact ⟨⟨m + 1, xv', rs', by omega, by go_num, rfl, HX, J⟩, by simp [intOf]; omega⟩
    · obtain rfl : m = n := by omega
      go_wp2
      go_ret
      exact ⟨xv, rs, rfl, HI.out, HX.out⟩
set_option maxHeartbeats 4000000 in
theorem gather_72 (w : World) (n k id pb lb : Nat) (b : Nat → Nat) (g gr : Nat → Nat → Nat) (I : Nat → Nat → List Raw → Option Nat → World → Prop) (cap : Value) (hG : GaOk n k id lb b g gr w.heap.size I) (hF : GaCall n k id g gr I 72 cap) (hpb : w.cell? ⟨pb, 4, none⟩ = some (.slice (some ⟨lb, 0, none⟩) n n)) (h0 : I 0 0 [] none w) :
    Calls Tryz.prog 29 #[.pointer (some ⟨pb, 0, none⟩), .func (.func 72) #[] #[cap]] w (GaRet n w.heap.size I) := by
  obtain ⟨i44, hi, hz0, hz1, hz2⟩ := info_parts Tryz.info44
  have HG := hid hG
  have HF := hid hF
  have H0 := hid h0
  have n6 := hG.n6
  have k6 := hG.k6
  clear hG hF h0
  go_enter Tryz.func29, Tryz.ntmps29
  go_wp2
  clear hpb
  go_loopw [5, 15] (fun x i wr => ∃ (m : Nat) (xv : Value) (rs : List Raw), m ≤ n ∧ i = .int .i64 m ∧ x = xv ∧ Hid (wr.ownsRow w.heap.size 44 9 xv rs.length (raws rs)) ∧ Hid (I m 0 rs xv.ownBlock wr)) (fun _ i _ => n - (intOf i).toNat)
  case atStart => exact ⟨0, _, [], Nat.zero_le _, rfl, rfl, World.ownsRow_nil _ _ _ _, H0⟩
  case round =>
    obtain ⟨m, xv, rs, hm, rfl, hxx, HX, HI⟩ := hrel
    obtain rfl := hxx.symm
    by_cases hlt : m < n
    · have hi1 : (m : Int) < (n : Int) := by omega
      have ql := HG.out.lines HI.out m hlt
      by_cases hne : m = id
      · rw [if_pos hne] at ql
        have J : Hid (I (m + 1) 0 rs xv.ownBlock wr) := (show I _ _ _ _ _ from HG.out.row hlt (by rw [if_pos hne]; exact HI.out))
        clear hne
        go_wp2
        refine wp_loop_rounds 1 ?_
        rw [rounds_succ]
        go_wp2
        exact ⟨⟨m + 1, xv, rs, by omega, by go_num, rfl, HX, J⟩, by simp [intOf]; omega⟩
      · rw [if_neg hne] at ql
        go_wp2
        obtain ⟨wq, hwq⟩ : ∃ wq, wq = wr := ⟨_, rfl⟩
        subst hwq
        clear ql
        go_loopw [5, 21] (fun x i wr => ∃ (s : Nat) (xv : Value) (rs : List Raw), s ≤ k ∧ i = .int .i64 s ∧ x = xv ∧ Hid (wr.ownsRow w.heap.size 44 9 xv rs.length (raws rs)) ∧ Hid (I m s rs xv.ownBlock wr)) (fun _ i _ => k - (intOf i).toNat)
        case atStart => exact ⟨0, _, rs, Nat.zero_le _, rfl, rfl, HX, HI⟩
        case round =>
          clear HX HI
          obtain ⟨s, xv', rs', hs, rfl, hxx, HX, HI⟩ := hrel
          obtain rfl := hxx.symm
          by_cases hls : s < k
          · have hi2 : (s : Int) < (k : Int) := by omega
            obtain ⟨q0, q1⟩ := HG.out.line HI.out m s hlt hne hls
            have K := hid (fun o => HF.out m s rs' xv'.ownBlock (wr.alloc o) hlt hne hls (HG.out.below HI.out (below_alloc _ o)))
            obtain ⟨ob, hob⟩ : ∃ ob, ob = xv'.ownBlock := ⟨_, rfl⟩
            rw [← hob] at K
            obtain ⟨xa, xc, hxv⟩ := row_shape HX.out
            subst hxv
            have HOB := hid hob
            have LEN := hid (fun W x => HG.out.len (j := m) (s := s + 1) (rs := rs' ++ x) (o := ob) (W := W))
            have SIZE := hid (HG.out.size HI.out)
            clear hob
            go_wp2_with fail
            refine (K.out _).mono ?_
            rintro e w2 ⟨a, c, r2, rfl, hsrc, hI2, ho2, hs2⟩
            have hlen := LEN.out _ _ hI2
            rw [List.length_append] at hlen
            have X2 : Hid (w2.ownsRow w.heap.size 44 9 (.slice xa rs'.length xc) rs'.length (raws rs')) := (show World.ownsRow _ _ _ _ _ _ _ from own_keep HX.out fun q hq => by
              rw [← HOB.out] at hq
              rw [ho2 q hq]
              exact Below.heap_alloc _ _ _ ((HX.out.lt q (by rw [← HOB.out]; exact hq)).2))
            have SRC := hid hsrc
            have I2 := hid hI2
            have SZ2 : Hid (w.heap.size ≤ w2.heap.size) := (show _ ≤ _ from Nat.le_trans SIZE.out (Nat.le_trans (by show wr.heap.size ≤ (wr.alloc _).heap.size; simp) hs2))
            clear hsrc hI2 ho2 hs2 q0 q1
            go_wp2_with (at_builtin; refine wpList_append_own_srcS rfl _ _ 37 rfl w.heap.size 44 i44 _ 9 104 Tryz.underlying37 hi hz0 hz1 hz2 rfl (by decide) _ _ _ rfl X2.out _ r2.length (raws r2) rfl SRC.out (oneRs r2) ?hm2 ?hm3 SZ2.out ?_; (case hm2 => unfold maxLen; omega); (case hm3 => omega); intro v3 w3 hown3 hgr3 hv3; have I3 : Hid (I m (s + 1) (rs' ++ r2) v3.ownBlock w3) := (show I _ _ _ _ _ from HG.out.grown I2.out (by rw [HOB.out]; exact hgr3) (fun q hq => own_type X2.out (by rw [← HOB.out]; exact hq)) (by rw [HOB.out]; rcases hv3 with h | h; exact .inl h; exact .inr ⟨_, h, Nat.le_refl _⟩) (fun q hq => (hown3.lt q hq).2)); have X3 := hid hown3; clear hown3 hgr3 hv3)
            refine ⟨⟨s + 1, v3, rs' ++ r2, by omega, by go_num, rfl, ?_, I3⟩, by simp [intOf]; omega⟩
            show World.ownsRow _ _ _ _ _ _ _
            rw [raws_app, List.length_append]
            exact X3.out
          · obtain rfl : s = k := by omega
            have J : Hid (I (m + 1) 0 rs' xv'.ownBlock wr) := (show I _ _ _ _ _ from HG.out.row hlt (by rw [if_neg hne]; exact HI.out))
            go_wp2
            exact ⟨⟨m + 1, xv', rs', by omega, by go_num, rfl, HX, J⟩, by simp [intOf]; omega⟩
    · obtain rfl : m = n := by omega
      go_wp2
      go_ret
      exact ⟨xv, rs, rfl, HI.out, HX.out⟩
end Go.Proofs.YtefpnojanldkeaaGreatDoor
namespace Go.Proofs.YtefpnojanldkeaaGreatDoor
open Go.RowKit Go.Maps
set_option maxRecDepth 100000
set_option linter.unusedSectionVars false
variable [Inhabited ComV] [DecidableEq D3] [Inhabited D3] [Inhabited Dd] [Inhabited Dn] [Inhabited OpV]

/-- The kind of a block: its type, or none. -/
def tyAt (W : World) (b : Nat) : Nat := match W.heap[b]? with
  | some (.cells _ t _) => t + 1
  | _ => 0
theorem tyAt_cells {W : World} {b : Nat} {cs : Array Value} {t : TypeId} (h : W.heap[b]? = some (.cells cs t (0, 0))) : tyAt W b = t + 1 := by unfold tyAt; rw [h]
theorem tyAt_map {W : World} {b : Nat} {kt n : Nat} {α : Type} {R : Value → Option (DataW α × List MemPlace)} {D : DataW α} (h : W.ownsMap Tryz.prog kt R b n D) : tyAt W b = 0 := by
  obtain ⟨es, clock, hb, _⟩ := h
  unfold tyAt
  rw [hb]
theorem tyAt_own {W : World} {base e size n b : Nat} {v : Value} {xs : List Value} (h : W.ownsRow base e size v n xs) (hb : v.ownBlock = some b) : tyAt W b = e + 1 := by
  obtain ⟨cs, hc⟩ := own_type h hb
  exact tyAt_cells hc
theorem LnAt.ty {w : World} {i j s : Int} {x : Ln} {y : LnV} (h : LnAt w i j s x y) : tyAt w x.g = 124 ∧ tyAt w x.gr = 130 ∧ tyAt w x.gm = 0 ∧ ∀ b, x.v.ownBlock = some b → tyAt w b = 45 := by
  obtain ⟨D, hm, _⟩ := h.rcv.map
  exact ⟨tyAt_cells h.snd.box, tyAt_cells h.rcv.box, tyAt_map hm, fun b hb => tyAt_own h.snd.row hb⟩
/-- What is not of a line's foot. -/
theorem PlAt.off {w : World} {h : PlH} {v : PlV} (a : PlAt w h v) {j s : Nat} (q : v.line j s) {b : Nat} (hb : (h.X j s).foot b) : b ≠ h.pb ∧ b ≠ h.p ∧ b ≠ h.mb ∧ b ≠ h.db ∧ b ≠ h.lb ∧ (∀ k, (h.f k).ownBlock ≠ some b) ∧ ∀ j', j' < v.n → j' ≠ v.id → b ≠ h.b j' := by
  obtain ⟨t1, t2, t3, t4⟩ := (a.each j s q).ty
  have hty : tyAt w b = 124 ∨ tyAt w b = 45 ∨ tyAt w b = 130 ∨ b = (h.X j s).gm := by
    rcases hb with rfl | hb | rfl | rfl
    · exact .inl t1
    · exact .inr (.inl (t4 b hb))
    · exact .inr (.inr (.inl t2))
    · exact .inr (.inr (.inr rfl))
  have e1 : tyAt w h.pb = 69 := tyAt_cells a.box
  have e2 : tyAt w h.p = 110 := by obtain ⟨bv, q, _⟩ := a.store.box; exact tyAt_cells q
  have e3 : tyAt w h.mb = 0 := by obtain ⟨D, q, _⟩ := a.store.map; exact tyAt_map q
  have e4 : tyAt w h.db = 0 := by obtain ⟨D, q, _⟩ := a.store.dots; exact tyAt_map q
  have e5 : tyAt w h.lb = 70 := by obtain ⟨cs, q, _⟩ := a.lines; exact tyAt_cells q
  have m := a.mapne j s q
  refine ⟨fun e => ?_, fun e => ?_, fun e => ?_, fun e => ?_, fun e => ?_, fun k e => ?_, fun j' h1 h2 e => ?_⟩
  · rcases hty with h | h | h | h
    · rw [e, e1] at h; omega
    · rw [e, e1] at h; omega
    · rw [e, e1] at h; omega
    · rw [← h, e, e1] at t3; omega
  · rcases hty with h | h | h | h
    · rw [e, e2] at h; omega
    · rw [e, e2] at h; omega
    · rw [e, e2] at h; omega
    · rw [← h, e, e2] at t3; omega
  · rcases hty with h | h | h | h
    · rw [e, e3] at h; omega
    · rw [e, e3] at h; omega
    · rw [e, e3] at h; omega
    · exact m.1 (h.symm.trans e)
  · rcases hty with h | h | h | h
    · rw [e, e4] at h; omega
    · rw [e, e4] at h; omega
    · rw [e, e4] at h; omega
    · exact m.2 (h.symm.trans e)
  · rcases hty with h | h | h | h
    · rw [e, e5] at h; omega
    · rw [e, e5] at h; omega
    · rw [e, e5] at h; omega
    · rw [← h, e, e5] at t3; omega
  · obtain ⟨rs, r1, _⟩ := a.store.rows k
    have e6 : tyAt w b = 37 := tyAt_own r1 e
    rcases hty with h | h | h | h
    · omega
    · omega
    · omega
    · rw [← h] at t3; omega
  · have e7 : tyAt w b = 81 := by obtain ⟨cs, q, _⟩ := a.line j' h1 h2; rw [e]; exact tyAt_cells q
    rcases hty with h | h | h | h
    · omega
    · omega
    · omega
    · rw [← h] at t3; omega
theorem LnAt.apart {w : World} {i j s i' j' s' : Int} {x x' : Ln} {y y' : LnV} (h : LnAt w i j s x y) (h' : LnAt w i' j' s' x' y') (ha : Apart x x') {b : Nat} (hb : x.foot b) : ¬ x'.foot b := by
  obtain ⟨t1, t2, t3, t4⟩ := h.ty
  obtain ⟨u1, u2, u3, u4⟩ := h'.ty
  intro hb'
  rcases hb with rfl | hb | rfl | rfl <;> rcases hb' with e | e | e | e
  · exact ha.g e
  · have := u4 _ e; omega
  · rw [e] at t1; omega
  · rw [e] at t1; omega
  · have := t4 _ hb; rw [e] at this; omega
  · exact ha.v b hb e
  · have := t4 _ hb; rw [e] at this; omega
  · have := t4 _ hb; rw [e] at this; omega
  · rw [e] at t2; omega
  · have := u4 _ e; omega
  · exact ha.gr e
  · rw [e] at t2; omega
  · rw [e] at t3; omega
  · have := u4 _ e; omega
  · rw [e] at t3; omega
  · exact ha.gm e
def updL {α : Type} (X : Nat → Nat → α) (j s : Nat) (x : α) : Nat → Nat → α := fun j' s' => if j' = j ∧ s' = s then x else X j' s'
theorem updL_at {α : Type} (X : Nat → Nat → α) (j s : Nat) (x : α) : updL X j s x j s = x := if_pos ⟨rfl, rfl⟩
theorem updL_ne {α : Type} (X : Nat → Nat → α) {j s j' s' : Nat} (x : α) (h : (j', s') ≠ (j, s)) : updL X j s x j' s' = X j' s' := if_neg fun e => h (by rw [e.1, e.2])
/-- A line turns. -/
theorem PlAt.turn {w w' : World} {h : PlH} {v : PlV} (a : PlAt w h v) {j s : Nat} (q : v.line j s) {x' : Ln} {y' : LnV} (hx : LnAt w' v.id j s x' y') (hg : x'.g = (h.X j s).g) (hgr : x'.gr = (h.X j s).gr) (hgm : x'.gm = (h.X j s).gm) (hv : x'.v.ownBlock = (h.X j s).v.ownBlock ∨ ∃ c, x'.v.ownBlock = some c ∧ w.heap.size ≤ c)
    (ho : ∀ b, b < w.heap.size → ¬ (h.X j s).foot b → w'.heap[b]? = w.heap[b]?) (hk : Keeps w w') : PlAt w' { h with X := updL h.X j s x' } { v with Y := updL v.Y j s y' } := by
  have hs : ∀ b, b < w.heap.size → (∀ b', (h.X j s).foot b' → b' ≠ b) → w'.heap[b]? = w.heap[b]? := fun b h1 h2 => ho b h1 fun e => h2 b e rfl
  have same : ∀ j' s', v.line j' s' → (updL h.X j s x' j' s').g = (h.X j' s').g ∧ (updL h.X j s x' j' s').gr = (h.X j' s').gr ∧ (updL h.X j s x' j' s').gm = (h.X j' s').gm := fun j' s' _ => by
    by_cases e : (j', s') = (j, s)
    · obtain ⟨rfl, rfl⟩ := Prod.mk.inj e
      rw [updL_at]
      exact ⟨hg, hgr, hgm⟩
    · rw [updL_ne _ _ e]
      exact ⟨rfl, rfl, rfl⟩
  refine ⟨a.idn, a.n6, a.k1, a.k6, (hs _ (lt_of_heap a.box) fun b' hb' => (a.off q hb').1).trans a.box, ?_, fun j' h1 h2 => ?_, fun j' s' q' => ?_, fun j1 s1 j2 s2 q1 q2 hne => ?_, fun j' s' q' => ?_, ?_⟩
  · obtain ⟨cs, c1, c2⟩ := a.lines
    exact ⟨cs, (hs _ (lt_of_heap c1) fun b' hb' => (a.off q hb').2.2.2.2.1).trans c1, c2⟩
  · obtain ⟨cs, c1, c2⟩ := a.line j' h1 h2
    refine ⟨cs, (hs _ (lt_of_heap c1) fun b' hb' => (a.off q hb').2.2.2.2.2.2 j' h1 h2).trans c1, fun s' hs' => ?_⟩
    obtain ⟨g1, g2, _⟩ := same j' s' ⟨h1, h2, hs'⟩
    show cs[s' * 2]? = some (.pointer (some ⟨(updL h.X j s x' j' s').g, 0, none⟩)) ∧ cs[s' * 2 + 1]? = some (.pointer (some ⟨(updL h.X j s x' j' s').gr, 0, none⟩))
    rw [g1, g2]
    exact c2 s' hs'
  · show LnAt w' v.id j' s' (updL h.X j s x' j' s') (updL v.Y j s y' j' s')
    by_cases e : (j', s') = (j, s)
    · obtain ⟨rfl, rfl⟩ := Prod.mk.inj e
      rw [updL_at, updL_at]
      exact hx
    · rw [updL_ne _ _ e, updL_ne _ _ e]
      have l := a.each j' s' q'
      exact l.keep (fun b hb => ho b (l.lt hb) (l.apart (a.each j s q) (a.apart j' s' j s q' q e) hb)) hk
  · show Apart (updL h.X j s x' j1 s1) (updL h.X j s x' j2 s2)
    have hva : ∀ j2 s2, v.line j2 s2 → (j2, s2) ≠ (j, s) → Apart x' (h.X j2 s2) := fun j2 s2 q2 hne => by
      have p := a.apart j s j2 s2 q q2 (Ne.symm hne)
      refine ⟨hg ▸ p.g, hgr ▸ p.gr, hgm ▸ p.gm, fun b hb hb' => ?_⟩
      rcases hv with e | ⟨c, e, hc⟩
      · rw [e] at hb
        exact p.v b hb hb'
      · rw [e] at hb
        obtain rfl := Option.some.inj hb
        have := (a.each j2 s2 q2).lt (.inr (.inl hb'))
        omega
    by_cases e1 : (j1, s1) = (j, s)
    · obtain ⟨rfl, rfl⟩ := Prod.mk.inj e1
      rw [updL_at, updL_ne _ _ (Ne.symm hne)]
      exact hva j2 s2 q2 (Ne.symm hne)
    · by_cases e2 : (j2, s2) = (j, s)
      · obtain ⟨rfl, rfl⟩ := Prod.mk.inj e2
        rw [updL_at, updL_ne _ _ e1]
        exact (hva j1 s1 q1 hne).symm
      · rw [updL_ne _ _ e1, updL_ne _ _ e2]
        exact a.apart j1 s1 j2 s2 q1 q2 hne
  · show (updL h.X j s x' j' s').gm ≠ h.mb ∧ (updL h.X j s x' j' s').gm ≠ h.db
    rw [(same j' s' q').2.2]
    exact a.mapne j' s' q'
  · have lt : ∀ {b}, h.foot v b → b < w.heap.size := fun hb => a.lt hb
    exact a.store.keep (hs _ (lt (.inr (.inl rfl))) fun b' hb' => (a.off q hb').2.1) (hs _ (lt (.inr (.inr (.inl rfl)))) fun b' hb' => (a.off q hb').2.2.1) (hs _ (lt (.inr (.inr (.inr (.inl rfl))))) fun b' hb' => (a.off q hb').2.2.2.1)
      (fun k b hb => hs b (lt (.inr (.inr (.inr (.inr (.inr (.inl ⟨k, hb⟩))))))) fun b' hb' e => (a.off q hb').2.2.2.2.2.1 k (by rw [e]; exact hb)) (keep3_of hk)
theorem PlH.foot_turn {h : PlH} {v : PlV} {j s B : Nat} {x' : Ln} {y' : LnV} (q : v.line j s) (hg : x'.g = (h.X j s).g) (hgr : x'.gr = (h.X j s).gr) (hgm : x'.gm = (h.X j s).gm) (hv : x'.v.ownBlock = (h.X j s).v.ownBlock ∨ ∃ c, x'.v.ownBlock = some c ∧ B ≤ c) {b : Nat} (hb : PlH.foot { h with X := updL h.X j s x' } { v with Y := updL v.Y j s y' } b) : h.foot v b ∨ B ≤ b := by
  rcases hb with e | e | e | e | e | e | e | ⟨j', s', q', e⟩
  · exact .inl (.inl e)
  · exact .inl (.inr (.inl e))
  · exact .inl (.inr (.inr (.inl e)))
  · exact .inl (.inr (.inr (.inr (.inl e))))
  · exact .inl (.inr (.inr (.inr (.inr (.inl e)))))
  · exact .inl (.inr (.inr (.inr (.inr (.inr (.inl e))))))
  · exact .inl (.inr (.inr (.inr (.inr (.inr (.inr (.inl e)))))))
  · have up : ∀ j s, v.line j s → (h.X j s).foot b → h.foot v b := fun j s q hb => .inr (.inr (.inr (.inr (.inr (.inr (.inr ⟨j, s, q, hb⟩))))))
    have e' : (updL h.X j s x' j' s').foot b := e
    by_cases k : (j', s') = (j, s)
    · obtain ⟨rfl, rfl⟩ := Prod.mk.inj k
      rw [updL_at] at e'
      rcases e' with e | e | e | e
      · exact .inl (up j' s' q (.inl (e.trans hg)))
      · rcases hv with p | ⟨c, p, hc⟩
        · exact .inl (up j' s' q (.inr (.inl (p.symm.trans e))))
        · rw [p] at e
          exact .inr (by have := Option.some.inj e; omega)
      · exact .inl (up j' s' q (.inr (.inr (.inl (e.trans hgr)))))
      · exact .inl (up j' s' q (.inr (.inr (.inr (e.trans hgm)))))
    · rw [updL_ne _ _ k] at e'
      exact .inl (up j' s' q' e')
end Go.Proofs.YtefpnojanldkeaaGreatDoor
