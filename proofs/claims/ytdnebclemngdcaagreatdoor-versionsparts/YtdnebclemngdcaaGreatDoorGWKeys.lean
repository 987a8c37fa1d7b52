/- Keys: the keys of a store, sorted. -/
import Derived.Test.YtdnebclemngdcaaGreatDoorGWMath2
import Derived.Test.YtdnebclemngdcaaGreatDoorGWIter
import Derived.Sort.KeysCollected
namespace Go.Proofs.YtdnebclemngdcaaGreatDoor
open Go.RowKit Go.Sort Go.Maps
set_option maxRecDepth 100000
set_option linter.unusedSectionVars false
variable [Inhabited ComV] [DecidableEq D3] [Inhabited D3] [Inhabited Dd] [Inhabited Dn] [Inhabited OpV]

/-- The keys of a store, sorted. -/
def KeysOfSt (s : St) (ss : List (List UInt8)) : Prop := ∃ ks : List (List UInt8), ks.Nodup ∧ (∀ x, x ∈ ks ↔ rowOf s ⟨x.toArray⟩ ≠ []) ∧ ss = ks.mergeSort fun x y => decide (x ≤ y)
theorem keysOfSt_one {s s' : St} {ss ss' : List (List UInt8)} (h : KeysOfSt s ss) (h' : KeysOfSt s' ss') (hr : ∀ k, rowOf s k ≠ [] ↔ rowOf s' k ≠ []) : ss = ss' := by
  obtain ⟨ks, h1, h2, rfl⟩ := h
  obtain ⟨ks', h1', h2', rfl⟩ := h'
  exact mergeSort_of_perm ((List.perm_ext_iff_of_nodup h1 h1').2 fun x => by rw [h2, h2', hr])
theorem strKeys_has {w : World} {b n : Nat} {R : Value → Option (DataW Unit × List MemPlace)} {D : DataW Unit} (h : w.ownsMap Tryz.prog 9 R b n D) : (strKeys D).Nodup ∧ ∀ x, x ∈ strKeys D ↔ Maps.has D (.string x) = true := by
  obtain ⟨es, hD, hpw, _⟩ := h.entries keyed9
  obtain ⟨es', hD', hko⟩ := h.keysOf
  obtain rfl : es = es' := by rw [hD] at hD'; simpa using hD'
  subst hD
  have hk : ∀ p ∈ es, ∃ x, p.1 = .string x := fun p hp => by obtain ⟨v, hv⟩ := hko p hp; obtain ⟨x, _, hx, _⟩ := Maps.keyOf_str Tryz.underlying9 hv; exact ⟨x, hx⟩
  refine ⟨?_, fun x => ?_⟩
  · show (es.map fun p => strOf p.1).Nodup
    refine List.pairwise_map.2 (hpw.imp_of_mem fun {p q} hp' hq' hne e => hne ?_)
    obtain ⟨a, ha⟩ := hk p hp'
    obtain ⟨b, hb⟩ := hk q hq'
    rw [ha, hb] at e ⊢
    exact congrArg _ e
  · rw [has_eq, List.any_eq_true]
    show x ∈ es.map (fun p => strOf p.1) ↔ _
    rw [List.mem_map]
    constructor
    · rintro ⟨p, hp', rfl⟩
      obtain ⟨a, ha⟩ := hk p hp'
      exact ⟨p, hp', by rw [ha]; simp [Lit.sameKey, strOf]⟩
    · rintro ⟨p, hp', hs⟩
      obtain ⟨a, ha⟩ := hk p hp'
      rw [ha] at hs
      exact ⟨p, hp', by rw [ha]; simpa [Lit.sameKey, strOf] using hs⟩
set_option maxHeartbeats 2000000 in
theorem keys_ok (w : World) (p mb db n : Nat) (f : ByteArray → Value) (s : St) (hV : VerAt w p mb db f s n) (hn : n ≤ 1000000) :
    Calls Tryz.prog 19 #[.pointer (some ⟨p, 0, none⟩)] w fun e w' => ∃ v ss, e = .returned v ∧ KeysOfSt s ss ∧ StrsAt w' v ss ∧ ss.length ≤ 1000000 ∧ Below w.heap.size w w' := by
  obtain ⟨ba, bc, p0, p1, p2, hbt, hpx⟩ := hV.boxAt
  obtain ⟨D, hD, hs⟩ := hV.map
  have hsz := hD.size_le
  have K52 := (callsIn_wide (n := 5)).1 (Tryz.maps_Keys_52 (some mb) w)
  have K51 := hid ((callsIn_wide (n := 5)).1 (Tryz.slices_Sorted_keys_51_52 mb n D sliceElem w hD (by unfold maxLen; omega) (by omega)))
  have HD := hid hD
  have HS := hid hs
  have HSZ := hid hsz
  clear hV hbt hpx p0 p2 hs hD hsz
  go_enter Tryz.func19, Tryz.ntmps19
  go_wp2_with (go_at_call 52; refine K52.mono ?_; rintro e w' ⟨rfl, rfl⟩)
  refine K51.out.mono ?_
  rintro e w1 ⟨v, ss, rfl, hperm, hrow, _, hb⟩
  have H1 := hid hperm
  have H2 := hid hrow
  have hb0 := below_alloc w (.cells #[.map (some mb)] 80)
  have B1 := hid (hb0.trans (hb.mono hb0.size))
  clear hperm hrow hb hb0 K52 K51
  go_wp2_with fail
  go_ret
  have hlen : (ss.mergeSort fun x y => decide (x ≤ y)).length = ss.length := List.length_mergeSort _
  obtain ⟨hnd, hmem⟩ := strKeys_has HD.out
  have hkl : (strKeys D).length = Maps.size D := by
    obtain ⟨es, hD', _⟩ := HD.out.keysOf
    rw [hD']
    simp [strKeys, Maps.size]
  refine ⟨_, ss.mergeSort fun x y => decide (x ≤ y), rfl, ⟨strKeys D, hnd, fun x => ?_, mergeSort_of_perm H1.out⟩, strs_of_row (by rw [hlen]; exact H2.out), ?_, B1.out⟩
  · have := (HS.out ⟨x.toArray⟩).1
    rw [hmem, show (Lit.string x) = klS ⟨x.toArray⟩ by simp [klS], this, decide_eq_true_eq]
  · rw [hlen, H1.out.length_eq, hkl]
    have := HSZ.out
    omega
end Go.Proofs.YtdnebclemngdcaaGreatDoor
