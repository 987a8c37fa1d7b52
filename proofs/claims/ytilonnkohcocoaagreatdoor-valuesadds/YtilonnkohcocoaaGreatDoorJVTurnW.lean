/- ValuesTurned: the walk. -/
import Derived.Test.YtilonnkohcocoaaGreatDoorJVFlt
import Derived.Test.YtilonnkohcocoaaGreatDoorJVTurnM
import Derived.Test.YtilonnkohcocoaaGreatDoorJVAddsW
namespace Go.Proofs.YtilonnkohcocoaaGreatDoor
open Go.RowKit Go.Sort Go.Maps
set_option maxRecDepth 100000
set_option linter.unusedSectionVars false
variable [Inhabited ComV] [DecidableEq D3] [Inhabited D3] [Inhabited Dd] [Inhabited Dn] [Inhabited OpV]

/-- A right commit's time at its place lies in memory. -/
theorem time_cell {w : World} {v : Value} {c : ComV} (h : IntsAt w v c.when_) (hc : ComOk c) : ∃ b o cap, v = .slice (some ⟨b, o, none⟩) c.when_.length cap ∧ w.cell? ⟨b, o + c.place.toNat, none⟩ = some (.int .i64 (timeC c)) ∧ 0 ≤ c.place ∧ c.place.toNat < c.when_.length := by
  have h1 := hc.lo
  have h2 := hc.hi
  obtain ⟨ad, cap, rfl, _, h⟩ := h
  rcases h with h | ⟨b, o, rfl, h⟩
  · rw [h] at h2; simp at h2; omega
  · exact ⟨b, o, cap, rfl, h _ (by omega), h1, by omega⟩
theorem turnC_none {l : List ComV} {order : List Int} {cut : Int} {i : Nat} (h : ¬(0 ≤ turnK order i ∧ turnK order i < l.length)) : turnC l order cut i = [] := if_neg h
theorem turnC_some {l : List ComV} {order : List Int} {cut : Int} {i z : Nat} (h : turnK order i = z) (hz : z < l.length) : turnC l order cut i = cutC cut l[z]! := by
  unfold turnC
  rw [h, if_pos ⟨by omega, by omega⟩, Int.toNat_natCast]
theorem cutC_one {cut : Int} {c : ComV} (h : ¬(0 < cut ∧ cut < c.ops.length)) : cutC cut c = [c] := if_neg h
theorem ComT.ops_at {w : World} {wv : Value} {p : Int} {x : Option Addr} {n y : Nat} {c : ComV} (h : ComT w [wv, .int .i64 p, .slice x n y] c) (hn : 0 < n) : ∃ b o, x = some ⟨b, o, none⟩ := by
  obtain ⟨wv', ov', he, _, rows, ⟨a2, c2, h2, _, _, h3⟩, hf⟩ := h
  injection he with _ e2
  injection e2 with _ e2
  injection e2 with e2
  rw [← e2] at h2
  injection h2 with e3 e4 _
  subst e3
  rcases h3 with h | ⟨b, o, _, h, _⟩
  · rw [h] at e4; simp at e4; omega
  · exact ⟨b, o, h⟩
theorem ComT.ops_cap {w : World} {wv : Value} {p : Int} {x : Option Addr} {n y : Nat} {c : ComV} (h : ComT w [wv, .int .i64 p, .slice x n y] c) : n ≤ y := by
  obtain ⟨wv', ov', he, _, rows, ⟨a2, c2, h2, _, h4, h3⟩, hf⟩ := h
  injection he with _ e2
  injection e2 with _ e2
  injection e2 with e2
  rw [← e2] at h2
  injection h2 with e3 e4 e5
  omega
theorem f2_drop {α β : Type} {R : α → β → Prop} : ∀ {l : List α} {m : List β} (s : Nat), F2 R l m → F2 R (l.drop s) (m.drop s)
  | _, _, 0, h => h
  | [], [], _ + 1, _ => trivial
  | _ :: _, _ :: _, s + 1, ⟨_, h⟩ => f2_drop s h
theorem f2_take {α β : Type} {R : α → β → Prop} : ∀ {l : List α} {m : List β} (s : Nat), F2 R l m → F2 R (l.take s) (m.take s)
  | _, _, 0, _ => trivial
  | [], [], _ + 1, _ => trivial
  | _ :: _, _ :: _, s + 1, ⟨h1, h⟩ => ⟨h1, f2_take s h⟩
theorem ComT.drop {w : World} {wv : Value} {p : Int} {b o n y : Nat} {zs : List Int} {os : List OpV} (h : ComT w [wv, .int .i64 p, .slice (some ⟨b, o, none⟩) n y] ⟨zs, p, os⟩) {s : Nat} (hs : s < n) : ComT w [wv, .int .i64 p, .slice (some ⟨b, o + s * 7, none⟩) (n - s) (y - s)] ⟨zs, p, os.drop s⟩ := by
  obtain ⟨wv', ov', he, h1, rows, h2, hf⟩ := h
  injection he with e1 e2
  injection e2 with _ e2
  injection e2 with e2
  subst e1 e2
  exact ⟨_, _, rfl, h1, rows.drop s, h2.drop hs, f2_drop s hf⟩
theorem ComT.take {w : World} {wv : Value} {p : Int} {b o n y : Nat} {zs : List Int} {os : List OpV} (h : ComT w [wv, .int .i64 p, .slice (some ⟨b, o, none⟩) n y] ⟨zs, p, os⟩) {s : Nat} (hs : s ≤ n) : ComT w [wv, .int .i64 p, .slice (some ⟨b, o, none⟩) s y] ⟨zs, p, os.take s⟩ := by
  obtain ⟨wv', ov', he, h1, rows, h2, hf⟩ := h
  injection he with e1 e2
  injection e2 with _ e2
  injection e2 with e2
  subst e1 e2
  exact ⟨_, _, rfl, h1, rows.take s, h2.take hs, f2_take s hf⟩
theorem turn_small {l : List ComV} {order : List Int} {cut : Int} {m : Nat} (h : ∀ c ∈ l, SmallC c) : ∀ c ∈ turnL l order cut m, SmallC c := fun x hx => by
  obtain ⟨c, hc, hx⟩ := turnL_mem hx
  obtain ⟨h1, _, s, n, h3, h4, _⟩ := cutC_mem hx
  have := h c hc
  refine ⟨by rw [h1]; exact this.1, by have := this.2.1; omega, fun o ho => this.2.2 o ?_⟩
  rw [h3] at ho
  exact List.mem_of_mem_drop (List.mem_of_mem_take ho)
theorem turn_step {w8 w3 w4 : World} {o : Obj} {l1 : List ComV} {d c : ComV} {rows : List (List Value)} {r r' : List Value} {v v4 : Value} {L : Nat} (h : OwnsInv w8 (l1 ++ [d]) v (rows ++ [r]) w3) (hc : ComT w3 r' c) (hL : L = l1.length) (hg : (w3.alloc o).grownBy w4 v.ownBlock) (hr : w4.ownsRow w8.heap.size 28 3 v4 (L + 1 + 1) (rows.flatten ++ r ++ r')) : OwnsInv w8 ((l1 ++ [d]) ++ [c]) v4 (rows ++ [r] ++ [r']) w4 := by
  refine (h.moved (below_alloc w3 o)).step (hc.kept (Keep3.of_below (below_alloc w3 o) (Nat.le_refl _))) hg ?_
  rw [List.length_append, List.length_singleton, ← hL, List.flatten_append]
  simpa using hr
theorem turn_meas {a q : Nat} (h : q < a) : a - (intOf (.int .i64 ((q : Int) + 1))).toNat < a - (intOf (.int .i64 (q : Int))).toNat := by simp [intOf]; omega
theorem run_field40 (a b : Int) (w : World) : (Instr.field 40 (.agg #[.int .i64 a, .int .i64 b]) 0).run Tryz.prog w = .ok (.int .i64 a) w := by kernel_rfl
set_option maxHeartbeats 8000000 in
theorem turn_walk (A : Nat → Addr) (w : World) (hE : E5 A w) (key : ByteArray) (v : Value) (l : List ComV) (hv : ComsAt w v l) (vo : Value) (order : List Int) (hvo : IntsAt w vo order) (cut : Int) :
    Calls Tryz.prog 5 #[.string key, v, vo, .int .i64 cut] w fun e w' => e = .returned (.bool true) ∧ Below w.heap.size w w' := by
  have h13 := hE.size
  have K8 := worth_true A w hE.e4 (by omega)
  have hf40 := run_field40
  obtain ⟨i28, hi28, hy0, hy1, hy2⟩ := info_parts Tryz.info28o
  obtain ⟨a1, c1, rfl, _, hnc⟩ := hvo
  obtain ⟨n, hnn⟩ : ∃ n, n = order.length := ⟨_, rfl⟩
  obtain ⟨av, cv, hve, hvs⟩ : ∃ av cv, v = .slice av l.length cv ∧ (l = [] ∨ ∃ b off, av = some ⟨b, off, none⟩ ∧ ∀ j, j < l.length → ∃ wv ov, IntsAt w wv l[j]!.when_ ∧ OpsAt w ov l[j]!.ops ∧
      w.cell? ⟨b, off + j * 3, none⟩ = some wv ∧ w.cell? ⟨b, off + j * 3 + 1, none⟩ = some (.int .i64 l[j]!.place) ∧ w.cell? ⟨b, off + j * 3 + 2, none⟩ = some ov) := by obtain ⟨a, c, h, _, _, h2⟩ := hv.shape; exact ⟨a, c, h, h2⟩
  obtain ⟨m, hm⟩ : ∃ m, m = l.length := ⟨_, rfl⟩
  rw [← hm] at hve
  subst hve
  rw [← hnn]
  have HE := hid hE
  have HV := hid hv
  have HVS := hid hvs
  have HC := hid hnc
  have HN := hid hnn
  have HM := hid hm
  clear hE hv hnc hnn hm hvs
  by_cases h1 : (60 : Int) < key.size
  · go_enter Tryz.func5, Tryz.ntmps5
    go_wp2_with (go_at_call 9; refine K8.mono ?_; rintro e w' ⟨rfl, hb⟩)
    go_ret
    exact ⟨rfl, hb⟩
  have d1 : decide ((60 : Int) < (key.size : Int)) = false := decide_eq_false h1
  clear h1
  go_enter Tryz.func5, Tryz.ntmps5
  go_wp2_with fail
  refine K8.mono ?_
  rintro e w0 ⟨rfl, hb0⟩
  have K17 := heavy_ok w0 (.slice av m cv) l (HV.out.mono hb0 (Nat.le_refl _))
  have B0 := hid hb0
  clear hb0 K8
  go_wp2_with fail
  refine K17.mono ?_
  rintro e w1 ⟨rfl, hb1⟩
  have B1 := hid (B0.out.trans (hb1.mono B0.out.size))
  clear hb1 K17 B0
  cases hh : heavyL l with
  | true =>
    go_wp2
    go_ret
    exact ⟨rfl, B1.out⟩
  | false =>
    have HH := hid hh
    have hm30 : m ≤ 30 := by have := (light hh).1; have := HM.out; omega
    have HL := hid (small_of_light hh)
    clear hh
    by_cases h2 : (60 : Int) < n
    · go_wp2
      go_ret
      exact ⟨rfl, B1.out⟩
    have d2 : decide ((60 : Int) < (n : Int)) = false := decide_eq_false h2
    have hn60 : n ≤ 60 := by omega
    clear h2
    go_upto_region 5 with (fail)
    clear d1 d2
    go_loopw [10] (fun i wr => ∃ k : Nat, k ≤ m ∧ i = .int .i64 k ∧ Hid (Below w.heap.size w wr) ∧ Hid (∀ t, t < k → (comErr l[t]!).1 = 0) ∧ Hid (∀ i, i < k → ∀ j, j < i → ¬(l[j]!.place = l[i]!.place ∧ timeC l[j]! = timeC l[i]!))) (fun i _ => m - (intOf i).toNat)
    case atStart => exact ⟨0, Nat.zero_le _, rfl, B1.out, fun t ht => absurd ht (Nat.not_lt_zero _), fun t ht => absurd ht (Nat.not_lt_zero _)⟩
    case round =>
      obtain ⟨k, hk, rfl, HB, HI, HT⟩ := hrel
      by_cases hlt : k < m
      · obtain ⟨b, off, rfl, ho'⟩ := HVS.out.resolve_left (fun h => by have := HM.out; rw [h] at this; simp at this; omega)
        have hkl : k < l.length := by have := HM.out; omega
        obtain ⟨wv, ov, hi, hop, q0, q1, q2⟩ := ho' k hkl
        have up : ∀ {a : Addr} {v : Value}, w.cell? a = some v → wr.cell? a = some v := fun {a v} h => by rw [HB.out.cell (lt_of_cell h)]; exact h
        have r0 := up q0
        have r1 := up q1
        have r2 := up q2
        have hmem : l[k]! ∈ l := by rw [getElem!_pos l k hkl]; exact List.getElem_mem _
        have hSm := HL.out _ hmem
        have K16 := rCommitFault wr l[k]! wv ov (hi.mono HB.out (Nat.le_refl _)) (hop.mono HB.out (Nat.le_refl _)) hSm.1 hSm.2.1 hSm.2.2
        have hi0 := hi
        obtain ⟨x1, y1, rfl, _⟩ := hi0
        obtain ⟨x2, y2, rfl, _⟩ := hop.shape
        obtain ⟨p, hp⟩ : ∃ p, p = l[k]!.place := ⟨_, rfl⟩
        obtain ⟨n1, hn1⟩ : ∃ n1, n1 = l[k]!.when_.length := ⟨_, rfl⟩
        obtain ⟨n2, hn2⟩ : ∃ n2, n2 = l[k]!.ops.length := ⟨_, rfl⟩
        rw [← hp, ← hn1, ← hn2] at K16
        rw [← hn1] at r0
        rw [← hn2] at r2
        rw [← hp] at r1
        have HIW := hid hi
        have HP := hid hp
        have HN1 := hid hn1
        have HO := hid ho'
        clear q0 q1 q2 ho' up hmem hSm hi hop hp hn1 hn2 hkl
        obtain ⟨cd, hcd⟩ : ∃ cd, cd = (comErr l[k]!).1 := ⟨_, rfl⟩
        obtain ⟨fa, hfa⟩ : ∃ fa, fa = faultAt (comErr l[k]!).2 := ⟨_, rfl⟩
        unfold FltRet at K16
        rw [← hcd, ← hfa] at K16
        have HCD := hid hcd
        clear hcd hfa
        cases cd with
        | succ er =>
          have g : (0 : Int) < ((er + 1 : Nat) : Int) := by omega
          go_wp2_with fail
          refine K16.mono ?_
          rintro e w' ⟨rfl, hb⟩
          have B2 := hid (HB.out.trans (hb.mono HB.out.size))
          clear hb K16
          go_wp2
          go_ret
          exact ⟨rfl, B2.out⟩
        | zero =>
          have HCE : Hid ((comErr l[k]!).1 = 0) := HCD.out.symm
          go_wp2_with fail
          refine K16.mono ?_
          rintro e w' ⟨rfl, hb⟩
          have B2 := hid (HB.out.trans (hb.mono HB.out.size))
          have r0' : w'.cell? ⟨b, off + k * 3, none⟩ = some (.slice x1 n1 y1) := by rw [hb.cell (lt_of_cell r0)]; exact r0
          have r1' : w'.cell? ⟨b, off + k * 3 + 1, none⟩ = some (.int .i64 p) := by rw [hb.cell (lt_of_cell r1)]; exact r1
          have R0 := hid r0'
          have R1 := hid r1'
          clear hb K16 r0 r1 r2 r0' r1' HB
          go_upto_region 10 with (fail)
          obtain ⟨wo, hwo⟩ : ∃ wo : World, wo = w' := ⟨w', rfl⟩
          rw [← hwo]
          rw [← hwo] at B2 R0 R1
          clear hwo
          go_loopw [11] (fun i wr => ∃ j : Nat, j ≤ k ∧ i = .int .i64 j ∧ Hid (Below wo.heap.size wo wr) ∧ Hid (∀ t, t < j → ¬(l[t]!.place = l[k]!.place ∧ timeC l[t]! = timeC l[k]!))) (fun i _ => k - (intOf i).toNat)
          case atStart => exact ⟨0, Nat.zero_le _, rfl, Below.refl _ _, fun t ht => absurd ht (Nat.not_lt_zero _)⟩
          case round =>
            obtain ⟨j, hj, rfl, HBJ, HJ⟩ := hrel
            have B3 := hid (B2.out.trans (HBJ.out.mono B2.out.size))
            by_cases hjk : j < k
            · have hjl : j < l.length := by have := HM.out; omega
              obtain ⟨wvj, ovj, hij, _, q0, q1, _⟩ := HO.out j hjl
              have upj : ∀ {a : Addr} {v : Value}, w.cell? a = some v → wr.cell? a = some v := fun {a v} h => by rw [B3.out.cell (lt_of_cell h)]; exact h
              have s0 := upj q0
              have s1 := upj q1
              have t0 : wr.cell? ⟨b, off + k * 3, none⟩ = some (.slice x1 n1 y1) := by rw [HBJ.out.cell (lt_of_cell R0.out)]; exact R0.out
              have t1 : wr.cell? ⟨b, off + k * 3 + 1, none⟩ = some (.int .i64 p) := by rw [HBJ.out.cell (lt_of_cell R1.out)]; exact R1.out
              obtain ⟨bj, oj, cj, hje, tj, pj0, pjn⟩ := time_cell hij (comOk_of (HI.out j hjk))
              obtain ⟨bk, ok, ck, hke, tk, pk0, pkn⟩ := time_cell HIW.out (comOk_of HCE.out)
              subst hje
              injection hke with hk1 hk2 hk3
              have tj' := upj tj
              have tk' := upj tk
              have HJT : Hid (∀ T, T = l[j]!.place → ∀ U, U = timeC l[j]! → ∀ V, V = timeC l[k]! → ¬(T = p ∧ U = V) → ∀ t, t < j + 1 → ¬(l[t]!.place = l[k]!.place ∧ timeC l[t]! = timeC l[k]!)) := fun T hT U hU V hV hne t ht => by
                rcases Nat.lt_succ_iff_lt_or_eq.1 ht with h | rfl
                · exact HJ.out t h
                · rw [← hT, ← hU, ← hV, ← HP.out]; exact hne
              obtain ⟨P, hP⟩ : ∃ P, P = l[j]!.place := ⟨_, rfl⟩
              obtain ⟨T, hT⟩ : ∃ T, T = timeC l[j]! := ⟨_, rfl⟩
              obtain ⟨U, hU⟩ : ∃ U, U = timeC l[k]! := ⟨_, rfl⟩
              obtain ⟨nj, hnj⟩ : ∃ nj, nj = l[j]!.when_.length := ⟨_, rfl⟩
              rw [← hP] at s1 tj' pj0 pjn
              rw [← hT] at tj'
              rw [← hU] at tk'
              rw [← hnj] at s0 pjn
              rw [← HP.out] at tk' pk0 pkn
              rw [← HN1.out] at pkn
              subst hk1 hk3
              have HJ2 := hid (HJT.out P hP T hT U hU)
              clear q0 q1 upj hij tj tk hP hT hU hnj hjl HJT hk2
              obtain ⟨pN, rfl⟩ : ∃ pN : Nat, p = pN := ⟨p.toNat, by omega⟩
              obtain ⟨PN, rfl⟩ : ∃ PN : Nat, P = PN := ⟨P.toNat, by omega⟩
              rw [Int.toNat_natCast] at tk' pkn tj' pjn
              clear pk0 pj0
              by_cases hPp : PN = pN
              · subst hPp
                by_cases hTU : T = U
                · subst hTU
                  go_upto_region 12 with (fail)
                  go_quiet (fail)
                  go_wp2
                  go_ret
                  exact ⟨rfl, below_draws B3.out _⟩
                · have bT : (T == U) = false := beq_eq_false_iff_ne.2 hTU
                  have HTU := hid hTU
                  clear hTU
                  go_upto_region 12 with (fail)
                  go_quiet (fail)
                  go_wp2
                  go_roundw
                  case rel => exact ⟨j + 1, by omega, by go_num, below_draws HBJ.out _, HJ2.out (fun h => HTU.out h.2)⟩
                  case measure => simp [intOf]; omega
              · have bP : ((PN : Int) == (pN : Int)) = false := beq_eq_false_iff_ne.2 (by omega)
                have HPp := hid hPp
                clear hPp
                go_upto_region 12 with (fail)
                go_quiet (fail)
                go_wp2
                go_roundw
                case rel => exact ⟨j + 1, by omega, by go_num, below_draws HBJ.out _, HJ2.out (fun h => HPp.out (by have := h.1; omega))⟩
                case measure => simp [intOf]; omega
            · obtain rfl : j = k := by omega
              go_wp2
              go_roundw
              case rel =>
                refine ⟨j + 1, by omega, by go_num, B3.out, fun t ht => ?_, fun i hi => ?_⟩
                · rcases Nat.lt_succ_iff_lt_or_eq.1 ht with h | rfl
                  · exact HI.out t h
                  · exact HCE.out
                · rcases Nat.lt_succ_iff_lt_or_eq.1 hi with h | rfl
                  · exact HT.out i h
                  · exact HJ.out
              case measure => simp [intOf]; omega
      · obtain rfl : k = m := by omega
        have hE2 := HE.out.below HB.out h13
        have HOT : Hid (OwnTimes l) := fun i hi => HT.out i (by have := HM.out; omega)
        have HOK : Hid (∀ c ∈ l, ComOk c) := fun c hc => by
          obtain ⟨i, hi, rfl⟩ := List.getElem_of_mem hc
          have := HI.out i (by have := HM.out; omega)
          rw [getElem!_pos l i hi] at this
          exact comOk_of this
        have K19 := ownCommits wr (.slice av k cv) l (HV.out.mono HB.out (Nat.le_refl _)) HH.out
        clear HI HT hE2
        go_wp2_with fail
        refine K19.mono ?_
        rintro e w6 ⟨v6, rfl, hv6, hb6⟩
        have B6 := hid (HB.out.trans (hb6.mono HB.out.size))
        have hE6 := HE.out.below B6.out h13
        have hz6 := hE6.size
        obtain ⟨a6, c6, hs6⟩ : ∃ a6 c6, v6 = .slice a6 l.length c6 := by obtain ⟨a, c, h, _⟩ := hv6.shape; exact ⟨a, c, h⟩
        subst hs6
        have hl30 : l.length ≤ 30 := by have := HM.out; omega
        clear K19 hb6 HB
        cases hk : (errOf key l).1 with
        | succ kk =>
          have K18b := of_err A w6 hE6 key _ l hv6 (by omega) HL.out kk hk
          clear hE6 hv6
          go_wp2_with fail
          refine K18b.mono ?_
          rintro e w7 ⟨t7, p7, rfl, _, hb7⟩
          have B7 := hid (B6.out.trans (hb7.mono B6.out.size))
          unfold zeroV
          clear K18b hb7
          go_wp2
          go_ret
          exact ⟨rfl, B7.out.alloc B7.out.size _⟩
        | zero =>
          obtain ⟨hnm, hok⟩ := errOf_zero hk
          have HLK := hid hok
          have HNM := hid hnm
          have K18b := of_ok A w6 hE6.e4 (by omega) key hnm _ l hv6 (by omega) HL.out hok
          clear hE6 hv6 hk hok hnm
          go_wp2_with fail
          refine K18b.mono ?_
          rintro e w7 ⟨v7, ds7, rfl, hds7, hv7, hb7⟩
          have B7 := hid (B6.out.trans (hb7.mono B6.out.size))
          obtain ⟨sv7, rfl, hsv7⟩ := hv7
          obtain ⟨sa, sc, hse⟩ := hsv7.len
          subst hse
          have hsl : (valA ds7).set.length ≤ 1000000 := set_few hds7 HLK.out (by omega)
          obtain ⟨X, hX⟩ : ∃ X, X = valA ds7 := ⟨_, rfl⟩
          rw [← hX] at hsv7 hsl ⊢
          have HX := hid hX
          have HDS := hid hds7
          obtain ⟨xk, xt, xn, ss⟩ := X
          simp only at hsv7 hsl
          simp only
          obtain ⟨w8, hw8⟩ : ∃ w8, w8 = w7.alloc (.cells #[.int .i64 xk, .string xt, .int .i64 xn, .slice sa ss.length sc] 47) := ⟨_, rfl⟩
          have B78 : Below w7.heap.size w7 w8 := by rw [hw8]; exact below_alloc _ _
          have B8 := hid (B7.out.trans (B78.mono B7.out.size))
          have z0 : w8.cell? ⟨w7.heap.size, 0, none⟩ = some (.int .i64 xk) := by rw [hw8]; exact (World.cell?_alloc_at _ _ _ _ rfl).trans rfl
          have z1 : w8.cell? ⟨w7.heap.size, 1, none⟩ = some (.string xt) := by rw [hw8]; exact (World.cell?_alloc_at _ _ _ _ rfl).trans rfl
          have z2 : w8.cell? ⟨w7.heap.size, 2, none⟩ = some (.int .i64 xn) := by rw [hw8]; exact (World.cell?_alloc_at _ _ _ _ rfl).trans rfl
          have z3 : w8.cell? ⟨w7.heap.size, 3, none⟩ = some (.slice sa ss.length sc) := by rw [hw8]; exact (World.cell?_alloc_at _ _ _ _ rfl).trans rfl
          have S8 := hid (hsv7.mono B78 (Nat.le_refl _))
          have Z0 := hid z0
          have Z1 := hid z1
          have Z2 := hid z2
          have Z3 := hid z3
          obtain ⟨sl, hsle⟩ : ∃ sl, sl = ss.length := ⟨_, rfl⟩
          rw [← hsle] at Z3 hw8 ⊢
          have HSL := hid hsle
          clear K18b hb7 hds7 hX hsv7 B78 z0 z1 z2 z3 hsle
          go_upto_region 19 with (fail)
          rw [← hw8]
          clear hw8
          go_loopw [14, 15] (fun v i wr => ∃ (q : Nat) (rows : List (List Value)), q ≤ n + k ∧ i = .int .i64 q ∧ Hid (OwnsInv w8 (turnL l order cut q) v rows wr)) (fun _ i _ => n + k - (intOf i).toNat)
          case atStart => exact ⟨0, [], Nat.zero_le _, rfl, OwnsInv.start w8⟩
          case round =>
            obtain ⟨q, rows, hq, rfl, HO⟩ := hrel
            have B9 := hid (B8.out.trans (HO.out.below.mono B8.out.size))
            by_cases hlt : q < n + k
            · have hlen := turnL_len l order cut q
              have hcs0 : ∃ z : Int, Hid (turnK order q = z) ∧ ((q < n ∧ ∃ bo oo, a1 = some ⟨bo, oo, none⟩ ∧ wr.cell? ⟨bo, oo + q, none⟩ = some (.int .i64 z)) ∨ (¬ q < n ∧ (q : Int) - (n : Int) = z)) := by
                by_cases hqn : q < n
                · obtain ⟨bo, oo, he, hcell⟩ := HC.out.resolve_left (fun h => by have := HN.out; rw [h] at this; simp at this; omega)
                  have q0 := hcell q (by have := HN.out; omega)
                  refine ⟨order.getD q 0, ?_, .inl ⟨hqn, bo, oo, he, ?_⟩⟩
                  · unfold turnK; rw [if_pos (by have := HN.out; omega)]; exact rfl
                  · rw [B9.out.cell (lt_of_cell q0)]; exact q0
                · refine ⟨(q : Int) - n, ?_, .inr ⟨hqn, rfl⟩⟩
                  unfold turnK; rw [if_neg (by have := HN.out; omega), HN.out]; exact rfl
              obtain ⟨z, HZ, hcs⟩ := hcs0
              by_cases z1 : z < 0
              · rcases hcs with ⟨hqn, bo, oo, rfl, r0⟩ | ⟨hqn, hz⟩
                · go_wp2
                  go_roundw
                  case rel => exact ⟨q + 1, rows, by omega, by go_num, by rw [turnL_succ, turnC_none (by rw [HZ.out]; omega), List.append_nil]; exact HO.out⟩
                  case measure => simp [intOf]; omega
                · omega
              by_cases z2 : (k : Int) ≤ z
              · rcases hcs with ⟨hqn, bo, oo, rfl, r0⟩ | ⟨hqn, hz⟩
                · go_wp2
                  go_roundw
                  case rel => exact ⟨q + 1, rows, by omega, by go_num, by rw [turnL_succ, turnC_none (by rw [HZ.out]; have := HM.out; omega), List.append_nil]; exact HO.out⟩
                  case measure => simp [intOf]; omega
                · omega
              obtain ⟨zN, rfl⟩ : ∃ zN : Nat, z = zN := ⟨z.toNat, by omega⟩
              have hzk : zN < k := by omega
              obtain ⟨b, off, hav, ho'⟩ := HVS.out.resolve_left (fun h => by have := HM.out; rw [h] at this; simp at this; omega)
              subst hav
              have hzl : zN < l.length := by have := HM.out; omega
              obtain ⟨wv, ov, hi, hop, q0, q1, q2⟩ := ho' zN hzl
              have up : ∀ {a : Addr} {v : Value}, w.cell? a = some v → wr.cell? a = some v := fun {a v} h => by rw [B9.out.cell (lt_of_cell h)]; exact h
              have e0 := up q0
              have e1 := up q1
              have e2 := up q2
              have hmem : l[zN]! ∈ l := by rw [getElem!_pos l zN hzl]; exact List.getElem_mem _
              have hcl := (light HH.out).2 _ hmem
              have K15 := ownCommit wr l[zN]! wv ov (hi.mono B9.out (Nat.le_refl _)) (hop.mono B9.out (Nat.le_refl _)) hcl.1 hcl.2.1 (fun o ho => (hcl.2.2 o ho).2.2)
              have HTC := hid (turnC_some (cut := cut) HZ.out hzl)
              obtain ⟨x1, y1, rfl, _⟩ := hi
              obtain ⟨x2, y2, rfl, _⟩ := hop.shape
              obtain ⟨C, hC⟩ : ∃ C, C = l[zN]! := ⟨_, rfl⟩
              rw [← hC] at K15 HTC e0 e1 e2
              obtain ⟨zs, p, os⟩ := C
              simp only at K15 e0 e1 e2
              obtain ⟨n1, hn1⟩ : ∃ n1, n1 = zs.length := ⟨_, rfl⟩
              obtain ⟨n2, hn2⟩ : ∃ n2, n2 = os.length := ⟨_, rfl⟩
              rw [← hn1, ← hn2] at K15
              rw [← hn1] at e0
              rw [← hn2] at e2
              have hn20 : n2 ≤ 20 := by rw [hn2]; have := hcl.2.1; rw [← hC] at this; exact this
              have HN1 := hid hn1
              have HN2 := hid hn2
              have HLN := hid hlen
              clear q0 q1 q2 ho' up hmem hcl hop hC hn1 hn2 hzl hlen HZ z1 z2
              rcases hcs with ⟨hqn, bo, oo, rfl, r0⟩ | ⟨hqn, hz⟩
              all_goals
                go_upto_region 26 with (go_at_call 16; refine K15.mono ?_; rintro e w2 ⟨wv2, ov2, rfl, hT, hb2⟩; obtain ⟨⟨x3, y3, ex⟩, x4, y4, ey⟩ := hT.shape; subst ex ey; simp only)
                have I2 := HO.out.moved hb2
                have hrow := I2.row
                obtain ⟨L, hL⟩ : ∃ L, L = (turnL l order cut q).length := ⟨_, rfl⟩
                have hL2 : L ≤ 2 * q := by rw [hL]; exact HLN.out
                have HLL := hid hL
                rw [← hL] at hrow
                have hbs := I2.below.size
                obtain ⟨av, cv', hve⟩ := row_shape hrow
                subst hve
                have HT := hid hT
                have H2 := hid I2
                have h1 := HN1.out
                have h2 := HN2.out
                simp only [← h1, ← h2] at HT ⊢
                clear K15 hT I2 hb2 e0 e1 e2 hL h1 h2
                by_cases c1 : 0 < cut
                · by_cases c2 : cut < (n2 : Int)
                  · obtain ⟨ct, rfl⟩ : ∃ ct : Nat, cut = ct := ⟨cut.toNat, by omega⟩
                    have hct : ct < n2 := by omega
                    have hct0 : 0 < ct := by omega
                    obtain ⟨b4, o4, hx4⟩ := HT.out.ops_at (by omega)
                    subst hx4
                    have hy4 : n2 ≤ y4 := HT.out.ops_cap
                    have HTD := hid (HT.out.drop hct)
                    have HTT := hid (HT.out.take (Nat.le_of_lt hct))
                    have HOD := HN2.out
                    have hown0 : ∀ g, (Value.slice av L cv').ownBlock = some g → g < w2.heap.size := fun g hg => (hrow.lt g hg).2
                    have HCUT : Hid (turnC l order ct q = [⟨zs, p, os.drop ct⟩, ⟨zs, p, os.take ct⟩]) := by
                      rw [HTC.out]
                      unfold cutC
                      rw [if_pos ⟨by omega, by show (ct : Int) < os.length; rw [← HOD]; omega⟩, Int.toNat_natCast]
                      exact rfl
                    clear HOD c1 c2
                    go_upto_region 31 with (at_builtin; refine wpList_append_own _ rfl _ _ 43 rfl w8.heap.size 28 i28 _ 3 56 Tryz.underlying43 hi28 hy0 hy1 hy2 rfl (by decide) _ _ _ rfl (((hrow.alloc _).alloc _).alloc _) ⟨w2.heap.size + 1 + 1, 0, none⟩ 1 1 [.slice x3 n1 y3, .int .i64 p, .slice (some ⟨b4, o4 + ct * 7, none⟩) (n2 - ct) (y4 - ct)] rfl rfl (cells11_new _ _ _ _ (by simp)) ?ho1 ?ho2 ?ho3 ?ho4 ?_; (case ho1 => exact one3v _ _ _ _ _ _ _ _ _ rfl rfl); (case ho2 => unfold maxLen; omega); (case ho3 => omega); (case ho4 => simp; omega); intro v3 w3 hown3 hgrow3 hnil3)
                    have I3 := (H2.out.moved (below3 _ _ _ _)).step (HTD.out.kept (Keep3.of_below (below3 _ _ _ _) (Nat.le_refl _))) hgrow3 (by rw [← HLL.out]; exact hown3)
                    have bx : ∀ j u, (w2.alloc (.cells #[.slice x3 n1 y3, .int .i64 p, .slice (some ⟨b4, o4, none⟩) ct y4] 28)).cell? ⟨w2.heap.size, j, none⟩ = some u → w3.cell? ⟨w2.heap.size, j, none⟩ = some u := fun j u h => hgrow3.cell (cell_alloc (cell_alloc h _) _) (fun e => by have := hown0 _ e.symm; simp at this)
                    have k0 : w3.cell? ⟨w2.heap.size, 0, none⟩ = some (.slice x3 n1 y3) := bx 0 _ ((World.cell?_alloc_at _ _ _ _ rfl).trans rfl)
                    have k1 : w3.cell? ⟨w2.heap.size, 1, none⟩ = some (.int .i64 p) := bx 1 _ ((World.cell?_alloc_at _ _ _ _ rfl).trans rfl)
                    have k2 : w3.cell? ⟨w2.heap.size, 2, none⟩ = some (.slice (some ⟨b4, o4, none⟩) ct y4) := bx 2 _ ((World.cell?_alloc_at _ _ _ _ rfl).trans rfl)
                    have KT : Hid (ComT w3 [.slice x3 n1 y3, .int .i64 p, .slice (some ⟨b4, o4, none⟩) ct y4] ⟨zs, p, os.take ct⟩) := (HTT.out.kept (Keep3.of_below (below3 _ _ _ _) (Nat.le_refl _))).kept (Keep3.grown (((hrow.alloc _).alloc _).alloc _) hgrow3)
                    have hs3 : w8.heap.size ≤ w3.heap.size := I3.below.size
                    obtain ⟨a3, c3, hve3⟩ := row_shape hown3
                    subst hve3
                    have H3 := hid I3
                    have HG3 := hown3
                    clear hgrow3 hnil3 bx I3 HTD HTT hown0 HT H2 hrow hbs hct
                    go_wp2_with (at_builtin; refine wpList_append_own _ rfl _ _ 43 rfl w8.heap.size 28 i28 _ 3 56 Tryz.underlying43 hi28 hy0 hy1 hy2 rfl (by decide) _ _ _ rfl (HG3.alloc _) ⟨w3.heap.size, 0, none⟩ 1 1 [.slice x3 n1 y3, .int .i64 p, .slice (some ⟨b4, o4, none⟩) ct y4] rfl rfl (cells11_new _ _ _ _ rfl) ?ho1 ?ho2 ?ho3 ?ho4 ?_; (case ho1 => exact one3v _ _ _ _ _ _ _ _ _ rfl rfl); (case ho2 => unfold maxLen; omega); (case ho3 => omega); (case ho4 => simp; omega); intro v4 w4 hown4 hgrow4 hnil4)
                    refine ⟨⟨q + 1, rows ++ [[.slice x3 n1 y3, .int .i64 p, .slice (some ⟨b4, o4 + ct * 7, none⟩) (n2 - ct) (y4 - ct)]] ++ [[.slice x3 n1 y3, .int .i64 p, .slice (some ⟨b4, o4, none⟩) ct y4]], Nat.succ_le_of_lt hlt, rfl, ?_⟩, turn_meas hlt⟩
                    rw [turnL_succ, HCUT.out, show turnL l order ct q ++ [⟨zs, p, os.drop ct⟩, ⟨zs, p, os.take ct⟩] = (turnL l order ct q ++ [⟨zs, p, os.drop ct⟩]) ++ [⟨zs, p, os.take ct⟩] by simp]
                    exact turn_step H3.out KT.out HLL.out hgrow4 hown4
                  · go_wp2_with (at_builtin; refine wpList_append_own _ rfl _ _ 43 rfl w8.heap.size 28 i28 _ 3 56 Tryz.underlying43 hi28 hy0 hy1 hy2 rfl (by decide) _ _ _ rfl ((hrow.alloc _).alloc _) ⟨w2.heap.size + 1, 0, none⟩ 1 1 [.slice x3 n1 y3, .int .i64 p, .slice x4 n2 y4] rfl rfl (cells11_new _ _ _ _ (by simp)) ?ho1 ?ho2 ?ho3 ?ho4 ?_; (case ho1 => exact one3v _ _ _ _ _ _ _ _ _ rfl rfl); (case ho2 => unfold maxLen; omega); (case ho3 => omega); (case ho4 => simp; omega); intro v' w3 hown' hgrow2 hnil2)
                    go_roundw
                    case rel => exact ⟨q + 1, _, by omega, by go_num, by rw [turnL_succ, HTC.out, cutC_one (by rw [← HN2.out]; omega)]; exact (H2.out.moved (below2 _ _ _)).step (HT.out.kept (Keep3.of_below (below2 _ _ _) (Nat.le_refl _))) hgrow2 (by rw [← HLL.out]; exact hown')⟩
                    case measure => simp [intOf]; omega
                · go_wp2_with (at_builtin; refine wpList_append_own _ rfl _ _ 43 rfl w8.heap.size 28 i28 _ 3 56 Tryz.underlying43 hi28 hy0 hy1 hy2 rfl (by decide) _ _ _ rfl ((hrow.alloc _).alloc _) ⟨w2.heap.size + 1, 0, none⟩ 1 1 [.slice x3 n1 y3, .int .i64 p, .slice x4 n2 y4] rfl rfl (cells11_new _ _ _ _ (by simp)) ?ho1 ?ho2 ?ho3 ?ho4 ?_; (case ho1 => exact one3v _ _ _ _ _ _ _ _ _ rfl rfl); (case ho2 => unfold maxLen; omega); (case ho3 => omega); (case ho4 => simp; omega); intro v' w3 hown' hgrow2 hnil2)
                  go_roundw
                  case rel => exact ⟨q + 1, _, by omega, by go_num, by rw [turnL_succ, HTC.out, cutC_one (by omega)]; exact (H2.out.moved (below2 _ _ _)).step (HT.out.kept (Keep3.of_below (below2 _ _ _) (Nat.le_refl _))) hgrow2 (by rw [← HLL.out]; exact hown')⟩
                  case measure => simp [intOf]; omega
            · obtain rfl : q = n + k := by omega
              have hI := HO.out
              have hlen := turnL_len l order cut (n + k)
              have hL : Hid (ComsAt wr u14 (turnL l order cut (n + k))) := coms_of_owns hI.row rfl hI.coms
              have hrow := hI.row
              obtain ⟨ua, uc, hu⟩ := row_shape hrow
              subst hu
              have hE9 := HE.out.below B9.out h13
              have hz9 := hE9.size
              have K18 := of_ok A wr hE9.e4 (by omega) key HNM.out _ (turnL l order cut (n + k)) hL.out (by omega) (turn_small HL.out) (turnL_ok HLK.out)
              have upz : ∀ j u, w8.cell? ⟨w7.heap.size, j, none⟩ = some u → wr.cell? ⟨w7.heap.size, j, none⟩ = some u := fun j u h => by rw [hI.below.cell (lt_of_cell h)]; exact h
              have y0 := upz 0 _ Z0.out
              have y1 := upz 1 _ Z1.out
              have y2 := upz 2 _ Z2.out
              have y3 := upz 3 _ Z3.out
              have S9 := hid (S8.out.mono hI.below (Nat.le_refl _))
              clear hI hrow hL HO upz hE9 hlen
              go_wp2_with fail
              refine K18.mono ?_
              rintro e w10 ⟨v10, ds10, rfl, hds10, hv10, hb10⟩
              have hdse : ds10 = ds7 := isOps_turned (oneDot_of HOK.out HOT.out) (fun d => by rw [HN.out, HM.out]; exact turnL_flat l order cut d) HDS.out hds10
              rw [hdse, ← HX.out] at hv10
              obtain ⟨sv10, rfl, hsv10⟩ := hv10
              simp only at hsv10
              simp only
              obtain ⟨ta, tc, hse⟩ := hsv10.len
              subst hse
              have B10 := hid (B9.out.trans (hb10.mono B9.out.size))
              have x0 : w10.cell? ⟨w7.heap.size, 0, none⟩ = some (.int .i64 xk) := by rw [hb10.cell (lt_of_cell y0)]; exact y0
              have x1 : w10.cell? ⟨w7.heap.size, 1, none⟩ = some (.string xt) := by rw [hb10.cell (lt_of_cell y1)]; exact y1
              have x2 : w10.cell? ⟨w7.heap.size, 2, none⟩ = some (.int .i64 xn) := by rw [hb10.cell (lt_of_cell y2)]; exact y2
              have x3 : w10.cell? ⟨w7.heap.size, 3, none⟩ = some (.slice sa sl sc) := by rw [hb10.cell (lt_of_cell y3)]; exact y3
              have K24 := sameValue_same (w10.alloc (.cells #[.int .i64 xk, .string xt, .int .i64 xn, .slice ta ss.length tc] 47)) xk xt xn (.slice sa ss.length sc) (.slice ta ss.length tc) ss ((S9.out.mono hb10 (Nat.le_refl _)).mono (below_alloc _ _) (Nat.le_refl _)) (hsv10.mono (below_alloc _ _) (Nat.le_refl _)) hsl
              have hslx := HSL.out
              rw [← hslx] at K24 ⊢
              clear K18 hds10 hb10 hdse hsv10 y0 y1 y2 y3 hslx S9
              have hlt10 := lt_of_cell x0
              have x0' := fun o => cell_alloc x0 o
              have x1' := fun o => cell_alloc x1 o
              have x2' := fun o => cell_alloc x2 o
              have x3' := fun o => cell_alloc x3 o
              clear x0 x1 x2 x3
              go_wp2_with fail
              refine K24.mono ?_
              rintro e w11 ⟨rfl, hb11⟩
              have B11 := hid ((B10.out.alloc B10.out.size _).trans (hb11.mono (by have := B10.out.size; simp; omega)))
              clear K24 hb11 x0' x1' x2' x3'
              go_wp2
              go_ret
              exact ⟨rfl, B11.out⟩
end Go.Proofs.YtilonnkohcocoaaGreatDoor
