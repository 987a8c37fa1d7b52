/- vector.Text by its contract, over a contract of strconv.Itoa; causewaylaw1.timed. -/
import Derived.Test.YtfechdagacmliaaDoorShelf
import Derived.Test.YtfechdagacmliaaDoorCheck
import Derived.Test.YtfechdagacmliaaDoorOwn
import Derived.Test.YtfechdagacmliaaDoorComb
namespace Go.Proofs.YtfechdagacmliaaDoor
open Go.RowKit

theorem Tryd.info9 : (Tryd.prog.info? 9).map (fun i => (i.zero, i.size, i.bytes)) = some (some (.string ⟨#[]⟩), 1, 16) := by kernel_rfl

theorem ownsRow_below {w w' : World} {base : Nat} {e : TypeId} {size : Nat} {v : Value} {n : Nat} {xs : List Value} (h : w.ownsRow base e size v n xs) (hb : Below w.heap.size w w') : w'.ownsRow base e size v n xs := by
  obtain ⟨h1, h2⟩ := h
  refine ⟨h1, ?_⟩
  rcases h2 with h2 | ⟨g, cap, cur, hv, hg, hh, r⟩
  · exact .inl h2
  · exact .inr ⟨g, cap, cur, hv, hg, by rw [hb.block g (Array.getElem?_eq_some_iff.1 hh).1]; exact hh, r⟩

/-- Texts, the first k done. -/
def midS (ds : List ByteArray) (n k : Nat) : List ByteArray := (List.range n).map fun i => if i < k then ds.getD i ⟨#[]⟩ else ⟨#[]⟩
theorem midS_length (ds : List ByteArray) (n k : Nat) : (midS ds n k).length = n := by simp [midS]
theorem midS_zero (ds : List ByteArray) (n : Nat) : midS ds n 0 = List.replicate n ⟨#[]⟩ := by simp [midS, List.map_const']
theorem midS_succ (ds : List ByteArray) (n k : Nat) : (midS ds n k).set k (ds.getD k ⟨#[]⟩) = midS ds n (k + 1) := by
  refine List.ext_getElem (by simp [midS]) fun i a b => ?_
  simp only [midS, List.getElem_set, List.getElem_map, List.getElem_range]
  by_cases e : k = i
  · subst e; simp
  · rw [if_neg e]
    by_cases e2 : i < k
    · rw [if_pos e2, if_pos (by omega)]
    · rw [if_neg e2, if_neg (by omega)]
theorem midS_all (ds : List ByteArray) : midS ds ds.length ds.length = ds := by
  refine List.ext_getElem (by simp [midS]) fun i a b => ?_
  simp only [midS, List.getElem_map, List.getElem_range]
  rw [if_pos (by simpa using b), List.getD_eq_getElem?_getD, List.getElem?_eq_getElem b]
  rfl
theorem set_mapS (l : List ByteArray) (k : Nat) (x : ByteArray) : (l.map Value.string).set k (.string x) = (l.set k x).map Value.string := by
  rw [List.map_set]

set_option maxHeartbeats 4000000 in
theorem text_n (A : Nat → Addr) (w : World) (hE : E2 A w) (b o c n : Nat) (zs : List Int) (ds : List ByteArray) (hz : zs.length = n) (hd : ds.length = n) (h0 : chk zs = 0)
    (hc : ∀ t, t < n → w.cell? ⟨b, o + t, none⟩ = some (.int .i64 (zs.getD t 0)))
    (hI : ∀ t, t < n → ∀ w1, Below w.heap.size w w1 → Calls Tryd.prog 41 #[.int .i64 (zs.getD t 0)] w1 fun e w2 => e = .returned (.string (ds.getD t ⟨#[]⟩)) ∧ Below w1.heap.size w1 w2)
    (hlen : (Lib.join (ds.map (·.data.toList)) [46]).length ≤ 1000000) :
    Calls Tryd.prog 28 #[.slice (some ⟨b, o, none⟩) n c] w fun e w' => e = .returned (.tuple #[.string ⟨(Lib.join (ds.map (·.data.toList)) [46]).toArray⟩, .nilIface]) ∧ Below w.heap.size w w' := by
  have hl := chk_zero.1 h0
  have h6 : n ≤ 6 := by omega
  have h1 : 1 ≤ n := by omega
  have K1 := hid (check_ok A w hE (.slice (some ⟨b, o, none⟩) n c) zs ⟨_, c, by rw [hz], (fun h => by cases h), .inr ⟨b, o, rfl, by rw [hz]; exact hc⟩⟩ h0)
  have HZ : Hid (zs.length = n) := hz
  have HD : Hid (ds.length = n) := hd
  have HC := hid hc
  have HI := hid hI
  have HL := hid hlen
  obtain ⟨i0, hi, hz0, hz1, hz2⟩ := info_parts Tryd.info9
  clear hz hd hc h0 hl hI hlen
  go_enter Tryd.func28, Tryd.ntmps28
  go_wp2_with fail
  refine K1.out.mono ?_
  rintro e wx ⟨rfl, hw⟩
  rw [hw]
  clear hw wx
  go_wp2_with (refine wpList_make_full _ rfl _ _ 67 rfl w.heap.size 9 i0 (.string ⟨#[]⟩) 1 Tryd.underlying67 hi hz0 hz1 .i64 .i64 _ _ n rfl rfl rfl rfl ?b2 ?b3 ?b4 ?_)
  case b2 => rw [hz2]; omega
  case b3 => unfold maxLen; omega
  case b4 => exact Nat.le_refl _
  intro w1 hown hgrow
  have HO : Hid (w1.ownsRow w.heap.size 9 1 (.slice (some ⟨w.heap.size, 0, none⟩) n n) n ((midS ds n 0).map Value.string)) := by
    have e : (madeCells #[Value.string ⟨#[]⟩] n).toList = (midS ds n 0).map Value.string := by
      rw [midS_zero, List.map_replicate]
      exact toList_madeCells_one _ _
    rw [e] at hown
    exact hown
  have HB : Hid (Below w.heap.size w w1) := (Below.refl _ _).grown hgrow (Nat.le_refl _) (fun k hk => by cases hk)
  clear hown hgrow
  go_wp2
  go_loopw [18] (fun i wr => ∃ k : Nat, k ≤ n ∧ i = .int .i64 k ∧ wr.ownsRow w.heap.size 9 1 (.slice (some ⟨w.heap.size, 0, none⟩) n n) n ((midS ds n k).map Value.string) ∧ Below w.heap.size w wr) (fun i _ => n - (intOf i).toNat)
  case atStart => exact ⟨0, Nat.zero_le _, rfl, HO.out, HB.out⟩
  case round =>
    obtain ⟨k, hk, rfl, hown, hbl⟩ := hrel
    have HOW := hid hown
    have HBL := hid hbl
    have hsz : w.heap.size ≤ wr.heap.size := hbl.size
    by_cases hlt : k < n
    · have e1 : wr.cell? ⟨b, o + k, none⟩ = some (.int .i64 (zs.getD k 0)) := by rw [hbl.cell (p := ⟨b, o + k, none⟩) (lt_of_cell (HC.out k hlt))]; exact HC.out k hlt
      have KI := hid (HI.out k hlt wr hbl)
      obtain ⟨x, hx⟩ : ∃ x, x = zs.getD k 0 := ⟨_, rfl⟩
      obtain ⟨d, hd⟩ : ∃ d, d = ds.getD k ⟨#[]⟩ := ⟨_, rfl⟩
      rw [← hx] at e1 KI
      rw [← hd] at KI
      have HDD := hid hd
      have hi' : (k : Int) < (n : Int) := by omega
      clear hx hd hown hbl
      go_wp2_with fail
      refine KI.out.mono ?_
      rintro e w2 ⟨rfl, hb2⟩
      have HO2 := hid (ownsRow_below HOW.out hb2)
      have HB2 : Hid (Below w.heap.size w w2) := HBL.out.trans (hb2.mono hsz)
      obtain ⟨z, e3⟩ : ∃ z, w2.cell? ⟨w.heap.size, k, none⟩ = some z := by
        rw [HO2.out.cellAt k (by omega), List.getElem?_eq_getElem (by rw [List.length_map, midS_length]; omega)]
        exact ⟨_, rfl⟩
      have e4 := HO2.out.frozenAt k
      clear hb2 e1
      go_wp2
      go_roundw
      case rel =>
        refine ⟨k + 1, by omega, by go_num, ?_, ?_⟩
        · have hs := (HO2.out.stored k (.string d)).1
          rw [set_mapS, HDD.out, midS_succ] at hs
          rw [HDD.out]
          exact hs
        · exact HB2.out.setCell (p := ⟨w.heap.size, k, none⟩) (Nat.le_refl _) _
      case measure => simp [intOf]; omega
    · obtain rfl : k = n := by omega
      have hcells : ∀ (j : Nat) x, ds[j]? = some x → wr.cell? ⟨w.heap.size, 0 + j, none⟩ = some (.string x) := fun j x hj => by
        have hlt' : j < ds.length := (List.getElem?_eq_some_iff.1 hj).1
        have hk' := HD.out
        rw [Nat.zero_add, hown.cellAt j (by omega), List.getElem?_map, show midS ds k k = ds by rw [← hk']; exact midS_all ds, hj]
        rfl
      have hbk : w.heap.size < wr.heap.size := by
        obtain ⟨_, h⟩ := hown
        rcases h with ⟨h, _⟩ | ⟨g, _, _, h, _, hg, _⟩
        · cases h
        · simp only [Value.slice.injEq, Option.some.injEq, Addr.mk.injEq] at h
          obtain ⟨⟨rfl, _⟩, _⟩ := h
          exact (Array.getElem?_eq_some_iff.1 hg).1
      have KJ := hid (Tryd.strings_Join w.heap.size 0 ds.length ds ⟨#[46]⟩ wr hcells hbk (by have := HD.out; omega) (Nat.le_refl _) (by have := HL.out; exact Nat.le_trans this (by decide)))
      rw [HD.out] at KJ
      clear hcells hown hbl
      go_wp2_with fail
      refine KJ.out.mono ?_
      rintro e w2 ⟨rfl, hb2⟩
      have HB2 : Hid (Below w.heap.size w w2) := HBL.out.trans (hb2.mono hsz)
      clear hb2
      go_wp2
      go_ret2
      exact ⟨rfl, HB2.out⟩
end Go.Proofs.YtfechdagacmliaaDoor
