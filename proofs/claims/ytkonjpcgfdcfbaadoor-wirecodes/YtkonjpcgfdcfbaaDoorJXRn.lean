/- The reference's reading of numbers. -/
import Derived.Test.YtkonjpcgfdcfbaaDoorJXEi
import Derived.Deep.Cut
namespace Go.Proofs.YtkonjpcgfdcfbaaDoor
open Go.RowKit
set_option maxRecDepth 100000

theorem i64_step (a : Int) (z : Nat) : i64 (i64 a * 256 + z) = i64 (a * 256 + z) := by unfold i64; omega
/-- The number of the first k bytes. -/
theorem i64_take {x : List UInt8} {k : Nat} (h : k < x.length) : i64 (val (x.take (k + 1))) = i64 (i64 (val (x.take k)) * 256 + x[k].toNat) := by
  rw [val_take h, i64_step]
  congr 1
theorem rnumber_short (w : World) (b : Nat) (l : List UInt8) (bad : Bool) (h : w.heap[b]? = some (.cells #[.string ⟨l.toArray⟩, .bool bad] 71 (0, 0))) (hb : bad = true ∨ l.length < 8) :
    Calls Tryd.prog 28 #[.pointer (some ⟨b, 0, none⟩)] w fun e w' => e = .returned (.int .i64 0) ∧ w' = w.setCell ⟨b, 1, none⟩ (.bool true) := by
  have c0 := (cell_of (j := 0) h).trans rfl
  have c1 := (cell_of (j := 1) h).trans rfl
  have z1 := free_of (j := 1) h
  cases bad with
  | true =>
    go_enter Tryd.func28, Tryd.ntmps28
    go_wp2
    go_ret
    exact ⟨rfl, rfl⟩
  | false =>
    have hl : l.length < 8 := hb.resolve_left (by decide)
    go_enter Tryd.func28, Tryd.ntmps28
    go_wp2
    go_ret
    exact ⟨rfl, rfl⟩
/-- Hidden also from 'contradiction' (great numerals). -/
structure Shut (p : Prop) : Prop where
  out : p
theorem shut {p : Prop} (h : p) : Shut p := ⟨h⟩
set_option maxHeartbeats 2000000 in
theorem rnumber_ok (w : World) (b : Nat) (l : List UInt8) (h : w.heap[b]? = some (.cells #[.string ⟨l.toArray⟩, .bool false] 71 (0, 0))) (h8 : ¬ l.length < 8) (hl : l.length ≤ 6000) :
    Calls Tryd.prog 28 #[.pointer (some ⟨b, 0, none⟩)] w fun e w' => e = .returned (.int .i64 (num8 (l.take 8))) ∧ w' = w.setCell ⟨b, 0, none⟩ (.string ⟨(l.drop 8).toArray⟩) := by
  have c0 := (cell_of (j := 0) h).trans rfl
  have c1 := (cell_of (j := 1) h).trans rfl
  have z0 := free_of (j := 0) h
  obtain ⟨n8, hn8⟩ : ∃ n8, n8 = num8 (l.take 8) := ⟨_, rfl⟩
  rw [← hn8]
  have HN := shut hn8
  clear hn8 h
  go_enter Tryd.func28, Tryd.ntmps28
  go_wp2
  go_loopw [3, 4] (fun a i wr => ∃ (k : Nat) (z : Int), k ≤ 8 ∧ i = .int .i64 k ∧ a = .int .i64 z ∧ Shut (z = i64 (val (l.take k))) ∧ wr = w) (fun _ i _ => 8 - (intOf i).toNat)
  case atStart => exact ⟨0, 0, Nat.zero_le _, rfl, rfl, ⟨by rw [List.take_zero]; decide⟩, rfl⟩
  case round =>
    obtain ⟨k, z, hk, rfl, rfl, HZ, rfl⟩ := hrel
    by_cases hlt : k < 8
    · have hkl : k < l.length := by omega
      have HT := shut (i64_take hkl)
      obtain ⟨c, hc⟩ : ∃ c, c = l[k] := ⟨_, rfl⟩
      have e1 : (⟨l.toArray⟩ : ByteArray)[k]'hkl = c := hc.symm
      rw [← hc] at HT
      clear hc
      have HO := shut (or_i64 z c.toNat c.toNat_lt)
      go_wp2
      go_roundw
      case rel =>
        refine ⟨k + 1, _, by omega, by go_num, rfl, ⟨?_⟩, trivial⟩
        rw [HT.out, ← HZ.out, ← HO.out, wrap64_eq, ← wr_i64, wrap64_eq, i64_of (by unfold In64; have := c.toNat_lt; omega)]
      case measure => simp [intOf]; omega
    · obtain rfl : k = 8 := by omega
      have HV : Shut (n8 = z) := ⟨HN.out.trans HZ.out.symm⟩
      have HD := hid (ext_drop l 8)
      go_wp2
      go_ret
      exact ⟨ret_int HV.out.symm, by rw [HD.out]⟩
/-- The box of the reference's reading: what is left to read, or bad. -/
def Rq (b : Nat) (w : World) : Option (List UInt8) → Prop
  | some l => w.heap[b]? = some (.cells #[.string ⟨l.toArray⟩, .bool false] 71 (0, 0)) ∧ l.length ≤ 6000
  | none => ∃ l : List UInt8, w.heap[b]? = some (.cells #[.string ⟨l.toArray⟩, .bool true] 71 (0, 0)) ∧ l.length ≤ 6000
def gv {α : Type} (d : α) : Option (α × List UInt8) → α
  | some x => x.1
  | none => d
def gl {α : Type} : Option (α × List UInt8) → Option (List UInt8)
  | some x => some x.2
  | none => none
/-- How the reference's reading ends. -/
structure RqP {α : Type} (b : Nat) (w : World) (d : α) (r : α → Value) (q : Option (α × List UInt8)) (e : Ending) (w' : World) : Prop where
  e : e = .returned (r (gv d q))
  rq : Rq b w' (gl q)
  aside : Aside b w.heap.size w w'
  size : w'.heap.size = w.heap.size
theorem RqP.ok {α : Type} {b : Nat} {w w' : World} {d : α} {r : α → Value} {q : Option (α × List UInt8)} {x : α} {l : List UInt8} {e : Ending} (hq : q = some (x, l)) (he : e = .returned (r x)) (h : Rq b w' (some l)) (ha : Aside b w.heap.size w w') (hs : w'.heap.size = w.heap.size) : RqP b w d r q e w' := by
  subst hq
  exact ⟨he, h, ha, hs⟩
theorem RqP.bad {α : Type} {b : Nat} {w w' : World} {d : α} {r : α → Value} {q : Option (α × List UInt8)} {l : List UInt8} {e : Ending} (hq : q = none) (he : e = .returned (r d)) (h : w'.heap[b]? = some (.cells #[.string ⟨l.toArray⟩, .bool true] 71 (0, 0))) (hl : l.length ≤ 6000) (ha : Aside b w.heap.size w w') (hs : w'.heap.size = w.heap.size) : RqP b w d r q e w' := by
  subst hq
  exact ⟨he, ⟨l, h, hl⟩, ha, hs⟩
theorem size_set (w : World) (p : Addr) (v : Value) : (w.setCell p v).heap.size = w.heap.size := by simp
theorem Rq.box {b : Nat} {w : World} {q : Option (List UInt8)} (h : Rq b w q) : ∃ l : List UInt8, w.heap[b]? = some (.cells #[.string ⟨l.toArray⟩, .bool q.isNone] 71 (0, 0)) ∧ l.length ≤ 6000 ∧ (q = none ∨ q = some l) := by
  cases q with
  | none => obtain ⟨l, h1, h2⟩ := h; exact ⟨l, h1, h2, .inl rfl⟩
  | some l => exact ⟨l, h.1, h.2, .inr rfl⟩
theorem Rq.moved {b : Nat} {w w' : World} {q : Option (List UInt8)} (h : Rq b w q) (hb : w'.heap[b]? = w.heap[b]?) : Rq b w' q := by
  cases q with
  | none => obtain ⟨l, h1, h2⟩ := h; exact ⟨l, by rw [hb]; exact h1, h2⟩
  | some l => exact ⟨by rw [hb]; exact h.1, h.2⟩
theorem rnum_any (w : World) (b : Nat) (q : Option (List UInt8)) (h : Rq b w q) :
    Calls Tryd.prog 28 #[.pointer (some ⟨b, 0, none⟩)] w fun e w' => RqP b w 0 (Value.int .i64) (q.bind numP) e w' := by
  cases q with
  | none =>
    obtain ⟨l, h1, h2⟩ := h
    refine (rnumber_short w b l true h1 (.inl rfl)).mono ?_
    rintro e w' ⟨rfl, rfl⟩
    exact ⟨rfl, ⟨l, heap_set h1 _, h2⟩, (Aside.refl b _ w).set (.inl rfl) _, size_set _ _ _⟩
  | some l =>
    obtain ⟨h1, h2⟩ := h
    by_cases h8 : l.length < 8
    · refine (rnumber_short w b l false h1 (.inr h8)).mono ?_
      rintro e w' ⟨rfl, rfl⟩
      have hq : (some l).bind numP = none := num_none (by omega)
      exact RqP.bad hq rfl (heap_set h1 _) h2 ((Aside.refl b _ w).set (.inl rfl) _) (size_set _ _ _)
    · refine (rnumber_ok w b l h1 h8 h2).mono ?_
      rintro e w' ⟨rfl, rfl⟩
      have hq : (some l).bind numP = some (num8 (l.take 8), l.drop 8) := num_yes (by omega)
      exact RqP.ok hq rfl ⟨heap_set h1 _, by rw [List.length_drop]; omega⟩ ((Aside.refl b _ w).set (.inl rfl) _) (size_set _ _ _)
theorem bind_num {α : Type} {q : Option (List UInt8)} {f : Int × List UInt8 → Option (α × List UInt8)} : (q.bind fun l => (numP l).bind f) = (q.bind numP).bind f := by cases q <;> rfl
set_option maxHeartbeats 1000000 in
theorem rflag_any (w : World) (b : Nat) (q : Option (List UInt8)) (h : Rq b w q) :
    Calls Tryd.prog 29 #[.pointer (some ⟨b, 0, none⟩)] w fun e w' => RqP b w false Value.bool (q.bind bitP) e w' := by
  have K := hid (rnum_any w b q h)
  have HQ : Shut (q.bind bitP = (q.bind numP).bind fun x => if x.1 = 0 ∨ x.1 = 1 then some (decide (x.1 = 1), x.2) else none) := ⟨bind_num⟩
  clear h
  go_enter Tryd.func29, Tryd.ntmps29
  go_wp2_with fail
  refine K.out.mono ?_
  rintro e w1 ⟨he, hr, ha, hs⟩
  subst he
  clear K
  cases hq : q.bind numP with
  | none =>
    rw [hq] at hr HQ
    have HQ' : Shut (q.bind bitP = none) := ⟨HQ.out⟩
    have HR := hid hr
    have HA := hid ha
    have HS := hid hs
    clear hq hr ha hs HQ
    simp only [gv]
    go_wp2
    go_ret
    rw [HQ'.out]
    exact ⟨rfl, HR.out, HA.out, HS.out⟩
  | some y =>
    obtain ⟨x, l1⟩ := y
    rw [hq] at hr HQ
    have HQ' : Shut (q.bind bitP = if x = 0 ∨ x = 1 then some (decide (x = 1), l1) else none) := ⟨HQ.out⟩
    obtain ⟨r1, r2⟩ := hr
    have R1 := hid r1
    have R2 := hid r2
    have HA := hid ha
    have HS := hid hs
    have c1 := (cell_of (j := 1) r1).trans rfl
    have z1 := free_of (j := 1) r1
    clear hq r1 r2 ha hs HQ
    simp only [gv]
    by_cases h0 : x = 0
    · subst h0
      go_wp2
      go_ret
      rw [HQ'.out, if_pos (by simp)]
      exact ⟨rfl, ⟨R1.out, R2.out⟩, HA.out, HS.out⟩
    · by_cases h1 : x = 1
      · subst h1
        go_wp2
        go_ret
        rw [HQ'.out, if_pos (by simp)]
        exact ⟨rfl, ⟨R1.out, R2.out⟩, HA.out, HS.out⟩
      · have hb1 : (x == 1) = false := beq_eq_false_iff_ne.2 h1
        have HE : Shut ((if x = 0 ∨ x = 1 then some (decide (x = 1), l1) else none) = none) := ⟨if_neg fun e => e.elim h0 h1⟩
        by_cases h2 : x < 0
        all_goals
          go_wp2
          go_ret
          rw [HQ'.out, HE.out]
          exact ⟨rfl, ⟨l1, heap_set R1.out _, R2.out⟩, HA.out.set (.inl rfl) _, (size_set _ _ _).trans HS.out⟩
set_option maxHeartbeats 1000000 in
theorem rmany_any (w : World) (b : Nat) (q : Option (List UInt8)) (h : Rq b w q) :
    Calls Tryd.prog 30 #[.pointer (some ⟨b, 0, none⟩)] w fun e w' => RqP b w 0 (fun n : Nat => Value.int .i64 n) (q.bind cntP) e w' := by
  have K := hid (rnum_any w b q h)
  have HQ : Shut (q.bind cntP = (q.bind numP).bind fun x => if x.1 < 0 ∨ (x.2.length : Int) < x.1 then none else some (x.1.toNat, x.2)) := ⟨bind_num⟩
  clear h
  go_enter Tryd.func30, Tryd.ntmps30
  go_wp2_with fail
  refine K.out.mono ?_
  rintro e w1 ⟨he, hr, ha, hs⟩
  subst he
  clear K
  cases hq : q.bind numP with
  | none =>
    rw [hq] at hr HQ
    have HQ' : Shut (q.bind cntP = none) := ⟨HQ.out⟩
    have HR := hid hr
    obtain ⟨l1, r1, r2⟩ := hr
    have HA := hid ha
    have HS := hid hs
    have c0 := (cell_of (j := 0) r1).trans rfl
    clear hq ha hs HQ r1
    simp only [gv]
    go_wp2
    go_ret
    rw [HQ'.out]
    exact ⟨rfl, HR.out, HA.out, HS.out⟩
  | some y =>
    obtain ⟨x, l1⟩ := y
    rw [hq] at hr HQ
    have HQ' : Shut (q.bind cntP = if x < 0 ∨ (l1.length : Int) < x then none else some (x.toNat, l1)) := ⟨HQ.out⟩
    obtain ⟨r1, r2⟩ := hr
    have R1 := hid r1
    have HA := hid ha
    have HS := hid hs
    have c0 := (cell_of (j := 0) r1).trans rfl
    have c1 := (cell_of (j := 1) r1).trans rfl
    have z1 := free_of (j := 1) r1
    clear hq r1 ha hs HQ
    simp only [gv]
    by_cases h0 : x < 0
    · go_wp2
      go_ret
      rw [HQ'.out, if_pos (.inl h0)]
      exact ⟨rfl, ⟨l1, heap_set R1.out _, r2⟩, HA.out.set (.inl rfl) _, (size_set _ _ _).trans HS.out⟩
    · by_cases h1 : (l1.length : Int) < x
      · go_wp2
        go_ret
        rw [HQ'.out, if_pos (.inr h1)]
        exact ⟨rfl, ⟨l1, heap_set R1.out _, r2⟩, HA.out.set (.inl rfl) _, (size_set _ _ _).trans HS.out⟩
      · go_wp2
        go_ret
        rw [HQ'.out, if_neg (by omega)]
        exact ⟨ret_int (Int.toNat_of_nonneg (by omega)).symm, ⟨R1.out, r2⟩, HA.out, HS.out⟩
set_option maxHeartbeats 1000000 in
theorem rtext_any (w : World) (b : Nat) (q : Option (List UInt8)) (h : Rq b w q) :
    Calls Tryd.prog 31 #[.pointer (some ⟨b, 0, none⟩)] w fun e w' => RqP b w ⟨#[]⟩ Value.string (q.bind txtP) e w' := by
  have K := hid (rmany_any w b q h)
  have HQ : Shut (q.bind txtP = (q.bind cntP).bind fun x => some (⟨(x.2.take x.1).toArray⟩, x.2.drop x.1)) := ⟨by cases q <;> rfl⟩
  clear h
  go_enter Tryd.func31, Tryd.ntmps31
  go_wp2_with fail
  refine K.out.mono ?_
  rintro e w1 ⟨he, hr, ha, hs⟩
  subst he
  clear K
  cases hq : q.bind cntP with
  | none =>
    rw [hq] at hr HQ
    have HQ' : Shut (q.bind txtP = none) := ⟨HQ.out⟩
    obtain ⟨l1, r1, r2⟩ := hr
    have R1 := hid r1
    have HA := hid ha
    have HS := hid hs
    have c0 := (cell_of (j := 0) r1).trans rfl
    have z0 := free_of (j := 0) r1
    clear hq ha hs HQ r1
    simp only [gv]
    go_wp2
    go_ret
    rw [show (⟨l1.toArray⟩ : ByteArray).extract 0 l1.length = ⟨l1.toArray⟩ from (ext_drop l1 0).trans (by rw [List.drop_zero])]
    exact RqP.bad (l := l1) HQ'.out rfl (heap_set R1.out _) r2 (HA.out.set (.inl rfl) _) ((size_set _ _ _).trans HS.out)
  | some y =>
    obtain ⟨x, l1⟩ := y
    have hx : x ≤ l1.length := by
      cases q with
      | none => cases hq
      | some l => exact (cnt_some hq).2
    rw [hq] at hr HQ
    have HQ' : Shut (q.bind txtP = some (⟨(l1.take x).toArray⟩, l1.drop x)) := ⟨HQ.out⟩
    obtain ⟨r1, r2⟩ := hr
    have R1 := hid r1
    have HA := hid ha
    have HS := hid hs
    have c0 := (cell_of (j := 0) r1).trans rfl
    have z0 := free_of (j := 0) r1
    clear hq ha hs HQ r1
    simp only [gv]
    go_wp2
    go_ret
    rw [ext_take, ext_drop]
    exact RqP.ok HQ'.out rfl ⟨heap_set R1.out _, by rw [List.length_drop]; omega⟩ (HA.out.set (.inl rfl) _) ((size_set _ _ _).trans HS.out)
end Go.Proofs.YtkonjpcgfdcfbaaDoor
