/- vector.Read by its contract. -/
import Derived.Test.YtfechdagacmliaaDoorTextAny
namespace Go.Proofs.YtfechdagacmliaaDoor
open Go.RowKit
set_option maxRecDepth 100000

/-- What Read hands back. -/
def RdRet (l : List UInt8) (A : Nat → Addr) (w : World) (e : Ending) (w' : World) : Prop :=
  (∃ v o, e = .returned (.tuple #[v, .nilIface]) ∧ IntsAt w' v o ∧ chk o = 0 ∧ textOf o = l ∧ Below w.heap.size w w') ∨
  (e = .returned (.tuple #[.slice none 0 0, .iface 60 (.pointer (some (A 0)))]) ∧ (∀ o, chk o = 0 → textOf o ≠ l) ∧ Below w.heap.size w w')
theorem RdRet.yes {l : List UInt8} {A : Nat → Addr} {w w' : World} {v : Value} {o : List Int} (hv : IntsAt w' v o) (hk : chk o = 0) (ht : textOf o = l) (hb : Below w.heap.size w w') : RdRet l A w (.returned (.tuple #[v, .nilIface])) w' :=
  .inl ⟨v, o, rfl, hv, hk, ht, hb⟩
theorem RdRet.no {l : List UInt8} {A : Nat → Addr} {w w' : World} (hn : ∀ o, chk o = 0 → textOf o ≠ l) (hb : Below w.heap.size w w') : RdRet l A w (.returned (.tuple #[.slice none 0 0, .iface 60 (.pointer (some (A 0)))])) w' :=
  .inr ⟨rfl, hn, hb⟩

def fst2 (a _b : Int) : Int := a
theorem mid_all (zs : List Int) : mid fst2 zs zs zs.length zs.length = zs := by
  refine List.ext_getElem (by simp [mid]) fun i a b => ?_
  simp only [mid, List.getElem_map, List.getElem_range, fst2]
  rw [if_pos b, List.getD_eq_getElem?_getD, List.getElem?_eq_getElem b]
  rfl

set_option maxHeartbeats 8000000 in
theorem read_any (A : Nat → Addr) (w : World) (hT : TW A w) (s : ByteArray) (hs : s.size ≤ 1000) :
    Calls Tryd.prog 29 #[.string s] w fun e w' => RdRet s.data.toList A w e w' := by
  obtain ⟨m, hm⟩ := hT.mxl
  obtain ⟨P, hP⟩ : ∃ P, P = Lib.splitB ⟨#[46]⟩ 0 (min 7 (s.size + 1) - 1) s := ⟨_, rfl⟩
  obtain ⟨C, hC⟩ : ∃ C, C = min 7 (s.size + 1) := ⟨_, rfl⟩
  have KS : Calls Tryd.prog 43 #[.string s, .string ⟨#[46]⟩, .int .i64 7] w fun e w' => e = .returned (.slice (some ⟨w.heap.size, 0, none⟩) P.length C) ∧ w' = w.alloc (.cells (Lib.cellsOf P C) 9) := by
    rw [hP, hC]
    exact Tryd.strings_SplitN s ⟨#[46]⟩ 7 m w (by omega) hm (by decide) (by decide) (by decide)
  have hsz := hT.size
  have hPl : P.length ≤ 7 := by
    rw [hP]
    have := Lib.splitB_length_le ⟨#[46]⟩ 0 (min 7 (s.size + 1) - 1) s
    omega
  have hPs : ∀ p ∈ P, p.size ≤ 1000 := fun p hp => by
    rw [hP] at hp
    exact Nat.le_trans (split_size _ _ _ p hp) hs
  have hcell : ∀ j, j < P.length → (w.alloc (.cells (Lib.cellsOf P C) 9)).cell? ⟨w.heap.size, j, none⟩ = some (.string (P.getD j ⟨#[]⟩)) := fun j hj => by
    rw [World.cell?_alloc_at _ _ _ _ rfl, ← Array.getElem?_toList]
    simp only [Lib.cellsOf]
    rw [List.getElem?_append_left (by simpa using hj), List.getElem?_map, List.getElem?_eq_getElem hj, List.getD_eq_getElem?_getD, List.getElem?_eq_getElem hj]
    rfl
  have VT : Hid (∀ o, chk o = 0 → textOf o = s.data.toList → vals P = o) := fun o h0 h => by rw [hP]; exact vals_of_text h0 h
  have OT : Hid (∀ o, chk o = 0 → textOf o = s.data.toList → ∀ p ∈ P, numOf p.data.toList ≠ none) := fun o h0 h => by rw [hP]; exact ok_of_text h0 h
  have HK := hid KS
  have HPS := hid hPs
  have HCE := hid hcell
  have HT0 := hid hT
  obtain ⟨n, hn⟩ : ∃ n, n = P.length := ⟨_, rfl⟩
  rw [← hn] at HK hPl HCE
  have HN := hid hn
  obtain ⟨i0, hi, hz0, hz1, hz2⟩ := info_parts Tryd.info3
  clear KS hPs hcell hm hP hC hn hT
  go_enter Tryd.func29, Tryd.ntmps29
  go_wp2_with fail
  refine HK.out.mono ?_
  rintro e w1 ⟨rfl, hw1⟩
  have HB1 : Hid (Below w.heap.size w w1) := by rw [hw1]; exact below_alloc _ _
  have HC1 : Hid (∀ j, j < n → w1.cell? ⟨w.heap.size, j, none⟩ = some (.string (P.getD j ⟨#[]⟩))) := by rw [hw1]; exact HCE.out
  have hs1 : w.heap.size + 1 = w1.heap.size := by rw [hw1]; simp
  have hs1' : w.heap.size < w1.heap.size := by omega
  clear hw1 hs1 HCE
  go_wp2_with (refine wpList_make_full _ rfl _ _ 22 rfl w1.heap.size 3 i0 (.int .i64 0) 1 Tryd.underlying22 hi hz0 hz1 .i64 .i64 _ _ n rfl rfl rfl rfl ?b2 ?b3 ?b4 ?_)
  case b2 => rw [hz2]; omega
  case b3 => unfold maxLen; omega
  case b4 => exact Nat.le_refl _
  intro w2 hown hgrow
  have HO : Hid (w2.ownsRow w1.heap.size 3 1 (.slice (some ⟨w1.heap.size, 0, none⟩) n n) n ((mid fst2 (vals P) (vals P) n 0).map (Value.int .i64))) := by
    have e : (madeCells #[Value.int IntKind.i64 0] n).toList = (mid fst2 (vals P) (vals P) n 0).map (Value.int .i64) := by
      rw [mid_zero, List.map_replicate]
      exact toList_madeCells_one _ _
    rw [e] at hown
    exact hown
  have HB2 : Hid (Below w1.heap.size w1 w2) := (Below.refl _ _).grown hgrow (Nat.le_refl _) (fun k hk => by cases hk)
  clear hown hgrow
  go_wp2
  go_loopw [19] (fun i wr => ∃ k : Nat, k ≤ n ∧ i = .int .i64 k ∧ wr.ownsRow w1.heap.size 3 1 (.slice (some ⟨w1.heap.size, 0, none⟩) n n) n ((mid fst2 (vals P) (vals P) n k).map (Value.int .i64)) ∧ Below w1.heap.size w1 wr) (fun i _ => n - (intOf i).toNat)
  case atStart => exact ⟨0, Nat.zero_le _, rfl, HO.out, HB2.out⟩
  case round =>
    obtain ⟨k, hk, rfl, hown, hbl⟩ := hrel
    have HOW := hid hown
    have HBL := hid hbl
    have HBW : Hid (Below w.heap.size w wr) := HB1.out.trans (hbl.mono (by omega))
    have hsr := hbl.size
    have HTR := hid (HT0.out.below HBW.out (by omega))
    clear hown hbl
    by_cases hlt : k < n
    · have e1 : wr.cell? ⟨w.heap.size, k, none⟩ = some (.string (P.getD k ⟨#[]⟩)) := by rw [HBL.out.cell (p := ⟨w.heap.size, k, none⟩) hs1']; exact HC1.out k hlt
      have hkl : k < P.length := by have := HN.out; omega
      have hmem : P.getD k ⟨#[]⟩ ∈ P := by rw [List.getD_eq_getElem?_getD, List.getElem?_eq_getElem hkl]; exact List.getElem_mem hkl
      have hval : (vals P).getD k 0 = (numOf (P.getD k ⟨#[]⟩).data.toList).getD 0 := by
        unfold vals
        rw [List.getD_eq_getElem?_getD, List.getElem?_map, List.getElem?_eq_getElem hkl, List.getD_eq_getElem?_getD, List.getElem?_eq_getElem hkl]
        rfl
      have HMEM := hid hmem
      have HVAL := hid hval
      have hps := HPS.out _ hmem
      obtain ⟨p, hp⟩ : ∃ p, p = P.getD k ⟨#[]⟩ := ⟨_, rfl⟩
      rw [← hp] at e1 HMEM HVAL hps
      have hi' : (k : Int) < (n : Int) := by omega
      clear hmem hval hp hkl
      cases hnum : numOf p.data.toList with
      | none =>
        have NO : Hid (∀ o, chk o = 0 → textOf o ≠ s.data.toList) := fun o h0 h => OT.out o h0 h p HMEM.out hnum
        have KA := hid (atoi_no A wr HTR.out p hps hnum)
        clear hnum
        go_wp2_with fail
        refine KA.out.mono ?_
        rintro e w3 ⟨kk, NN, rfl, hb3⟩
        have HB3 : Hid (Below w.heap.size w w3) := HBW.out.trans (hb3.mono HBW.out.size)
        have g0 := (HTR.out.below hb3 (by omega)).text
        clear hb3
        go_wp2
        go_quiet (fail)
        go_wp2
        go_ret2
        exact RdRet.no NO.out (below_draws HB3.out _)
      | some z =>
        have KA := hid (atoi_yes wr p hps z hnum)
        have HZ : Hid ((vals P).getD k 0 = z) := by rw [HVAL.out, hnum]; rfl
        clear hnum
        go_wp2_with fail
        refine KA.out.mono ?_
        rintro e w3 ⟨rfl, hb3⟩
        have HO3 := hid (ownsRow_below HOW.out hb3)
        have HB3 : Hid (Below w1.heap.size w1 w3) := HBL.out.trans (hb3.mono hsr)
        obtain ⟨zz, e3⟩ : ∃ z, w3.cell? ⟨w1.heap.size, k, none⟩ = some z := by
          rw [HO3.out.cellAt k (by omega), List.getElem?_eq_getElem (by rw [List.length_map, mid_length]; omega)]
          exact ⟨_, rfl⟩
        have e4 := HO3.out.frozenAt k
        clear hb3 e1
        go_wp2
        go_roundw
        case rel =>
          refine ⟨k + 1, by omega, by go_num, ?_, ?_⟩
          · have hst := (HO3.out.stored k (.int .i64 z)).1
            rw [set_map, ← HZ.out] at hst
            have e5 := mid_succ fst2 (vals P) (vals P) n k
            have e6 : fst2 ((vals P).getD k 0) ((vals P).getD k 0) = (vals P).getD k 0 := rfl
            rw [e6] at e5
            rw [e5] at hst
            rw [← HZ.out]
            exact hst
          · exact HB3.out.setCell (p := ⟨w1.heap.size, k, none⟩) (Nat.le_refl _) _
        case measure => simp [intOf]; omega
    · obtain rfl : k = n := by omega
      have hvl : (vals P).length = k := by unfold vals; rw [List.length_map]; exact HN.out.symm
      have HV : Hid (IntsAt wr (.slice (some ⟨w1.heap.size, 0, none⟩) k k) (vals P)) := by
        refine ints_of_row (base := w1.heap.size) ?_
        have := HOW.out
        have e : mid fst2 (vals P) (vals P) k k = vals P := by
          have := mid_all (vals P)
          rw [hvl] at this
          exact this
        rw [e] at this
        rw [hvl]
        exact this
      have hvl' : (vals P).length ≤ 1000000 := by omega
      clear hvl
      by_cases h0 : chk (vals P) = 0
      · have KT := hid (text_ok A wr HTR.out _ _ HV.out h0)
        have H0 := hid h0
        clear h0
        go_wp2_with fail
        refine KT.out.mono ?_
        rintro e w3 ⟨rfl, hb3⟩
        have HB3 : Hid (Below w.heap.size w w3) := HBW.out.trans (hb3.mono HBW.out.size)
        have HV3 := hid (HV.out.mono hb3 (Nat.le_refl _))
        have g0 := (HTR.out.below hb3 (by omega)).text
        clear hb3
        obtain ⟨t, ht⟩ : ∃ t : ByteArray, t = ⟨(textOf (vals P)).toArray⟩ := ⟨_, rfl⟩
        rw [← ht]
        have HTT := hid ht
        clear ht
        by_cases heq : t = s
        · subst heq
          go_wp2
          go_ret2
          exact RdRet.yes HV3.out H0.out (by rw [HTT.out]) HB3.out
        · have NO : Hid (∀ o, chk o = 0 → textOf o ≠ s.data.toList) := fun o ho h => by
            have e1 := VT.out o ho h
            apply heq
            rw [HTT.out, e1, h]
          have hbe : (t.toList == s.toList) = false := by
            rw [beq_eq_false_iff_ne]
            intro e
            exact heq (WideShapes.bytes_inj (by rw [← Lib.toList_data, ← Lib.toList_data]; exact e))
          clear heq
          go_wp2
          go_quiet (fail)
          go_wp2
          go_ret2
          exact RdRet.no NO.out (below_draws HB3.out _)
      · have KT := hid (text_bad A wr HTR.out.e2 _ _ HV.out hvl' h0)
        have NO : Hid (∀ o, chk o = 0 → textOf o ≠ s.data.toList) := fun o ho h => h0 (by rw [VT.out o ho h]; exact ho)
        have g0 := HTR.out.text
        clear h0
        go_wp2_with fail
        refine KT.out.mono ?_
        rintro e wx ⟨rfl, hw⟩
        rw [hw]
        clear hw wx
        go_wp2
        go_quiet (fail)
        go_wp2
        go_ret2
        exact RdRet.no NO.out (below_draws HBW.out _)
end Go.Proofs.YtfechdagacmliaaDoor
