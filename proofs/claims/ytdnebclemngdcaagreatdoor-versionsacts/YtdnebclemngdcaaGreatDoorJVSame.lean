/- withoutPlace and checkList by their contracts, where something is wrong; opsOn, Of and Dots by their contracts, where something is wrong; SameTexts, SameValue of the same; Index; SameValue of the same; Index; what stands where nothing, or something, is wrong. -/
import Derived.Test.YtdnebclemngdcaaGreatDoorJVAs
import Derived.Test.YtdnebclemngdcaaGreatDoorJVMath
import Derived.Test.YtdnebclemngdcaaGreatDoorJVList
import Derived.Test.YtdnebclemngdcaaGreatDoorJVOwns
namespace Go.Proofs.YtdnebclemngdcaaGreatDoor
open Go.RowKit
set_option maxRecDepth 100000
set_option linter.unusedSectionVars false
variable [Inhabited ComV] [DecidableEq D3] [Inhabited D3] [Inhabited Dd] [Inhabited Dn] [Inhabited OpV]

abbrev hnd : Value := .iface 208 (.agg #[.pointer (some ⟨13, 28, none⟩)])
end Go.Proofs.YtdnebclemngdcaaGreatDoor
namespace Go.Proofs.YtdnebclemngdcaaGreatDoor
open Go.RowKit Go.Sort Go.Maps
set_option maxRecDepth 100000
set_option linter.unusedSectionVars false
variable [Inhabited ComV] [DecidableEq D3] [Inhabited D3] [Inhabited Dd] [Inhabited Dn] [Inhabited OpV]

theorem errAt_mono {A : Nat → Addr} {w w' : World} {v : Value} {er : Nat × Option Nat} {B : Nat} (h : ErrAt A w v er) (hb : Below B w w') (hB : w.heap.size ≤ B) : ErrAt A w' v er := by
  obtain ⟨k, o⟩ := er
  cases o with
  | none => exact h
  | some i =>
    obtain ⟨pb, h1, h2, h3⟩ := h; exact ⟨pb, h1, by rw [hb.cell (Nat.lt_of_lt_of_le (lt_of_cell h2) hB)]; exact h2, by rw [hb.cell (Nat.lt_of_lt_of_le (lt_of_cell h3) hB)]; exact h3⟩
theorem checkName_bad (A : Nat → Addr) (w : World) (hE : E5 A w) (key : ByteArray) (hk : nameB key = false) : Calls Tryz.prog 75 #[.string key] w fun e w' => e = .returned (.iface 255 (.pointer (some (A 3)))) ∧ w' = w := by
  have K32 := fun W => isName_any W key
  rw [hk] at K32; have g1 := hE.e4.name; go_enter Tryz.func75, Tryz.ntmps75
  go_wp2_with (go_at_call 93; refine (K32 _).mono ?_; rintro e w' ⟨rfl, rfl⟩)
  go_ret; exact ⟨rfl, rfl⟩
theorem StrsAt.len {w : World} {v : Value} {ss : List (List UInt8)} (h : StrsAt w v ss) : ∃ ad cap, v = .slice ad ss.length cap := by
  obtain ⟨ad, cap, rfl, _⟩ := h; exact ⟨_, _, rfl⟩
theorem StrsAt.mono {w w' : World} {v : Value} {ss : List (List UInt8)} {B : Nat} (h : StrsAt w v ss) (hb : Below B w w') (hB : w.heap.size ≤ B) : StrsAt w' v ss := by
  obtain ⟨ad, cap, rfl, h⟩ := h; refine ⟨ad, cap, rfl, ?_⟩; rcases h with h | ⟨b, rfl, h⟩
  · exact .inl h
  · exact .inr ⟨b, rfl, fun t ht => by rw [hb.cell (Nat.lt_of_lt_of_le (lt_of_cell (h t ht)) hB)]; exact h t ht⟩
theorem encStr_shape (l : List UInt8) : ∃ s : ByteArray, encStr l = .string s := ⟨_, rfl⟩
set_option maxHeartbeats 1000000 in
theorem sameTexts_same (w : World) (v v' : Value) (ss : List (List UInt8)) (h : StrsAt w v ss) (h' : StrsAt w v' ss) (hl : ss.length ≤ 1000000) :
    Calls Tryz.prog 18 #[v, v'] w fun e w' => e = .returned (.bool true) ∧ ∃ q, w' = w.drewN q := by
  obtain ⟨a1, c1, rfl, h⟩ := h; obtain ⟨a2, c2, rfl, h'⟩ := h'; obtain ⟨n, hn⟩ : ∃ n, n = ss.length := ⟨_, rfl⟩; rw [← hn] at hl ⊢; have HN := hid hn; have H1 := hid h; have H2 := hid h'; have bn : ((n : Int) != (n : Int)) = false := by simp
  clear hn h h'; go_enter Tryz.func18, Tryz.ntmps18; go_wp2
  go_loopw [5] (fun i wr => ∃ k : Nat, k ≤ n ∧ i = .int .i64 k ∧ Hid (∃ q, wr = w.drewN q)) (fun i _ => n - (intOf i).toNat)
  case atStart => exact ⟨0, Nat.zero_le _, rfl, 0, rfl⟩
  case round =>
    obtain ⟨k, hk, rfl, HQ⟩ := hrel
    by_cases hlt : k < n
    · obtain ⟨b1, rfl, g1⟩ := H1.out.resolve_left (fun h => by have := HN.out; rw [h] at this; simp at this; omega); obtain ⟨b2, rfl, g2⟩ := H2.out.resolve_left (fun h => by have := HN.out; rw [h] at this; simp at this; omega); have e1 : wr.cell? ⟨b1, k, none⟩ = some (encStr ss[k]!) := by obtain ⟨q, hq⟩ := HQ.out; rw [hq]; exact g1 k (by have := HN.out; omega)
      have e2 : wr.cell? ⟨b2, k, none⟩ = some (encStr ss[k]!) := by obtain ⟨q, hq⟩ := HQ.out; rw [hq]; exact g2 k (by have := HN.out; omega)
      obtain ⟨s, hs⟩ := encStr_shape ss[k]!; rw [hs] at e1 e2; clear hs g1 g2; go_upto_region 6 with (fail)
      go_quiet (fail)
      go_wp2; go_roundw
      case rel => exact ⟨k + 1, by omega, by go_num, by obtain ⟨q, hq⟩ := HQ.out; exact ⟨_, by rw [hq]; exact World.drewN_drewN _ _ _⟩⟩
      case measure => simp [intOf]; omega
    · obtain rfl : k = n := by omega
      go_wp2; go_ret
      exact ⟨rfl, HQ.out⟩
end Go.Proofs.YtdnebclemngdcaaGreatDoor
namespace Go.Proofs.YtdnebclemngdcaaGreatDoor
open Go.RowKit Go.Sort Go.Maps
set_option maxRecDepth 100000
set_option linter.unusedSectionVars false
variable [Inhabited ComV] [DecidableEq D3] [Inhabited D3] [Inhabited Dd] [Inhabited Dn] [Inhabited OpV]

set_option maxHeartbeats 1000000 in
theorem sameValue_same (w : World) (k : Int) (t : ByteArray) (n : Int) (v v' : Value) (ss : List (List UInt8)) (h : StrsAt w v ss) (h' : StrsAt w v' ss) (hl : ss.length ≤ 1000000) :
    Calls Tryz.prog 17 #[.agg #[.int .i64 k, .string t, .int .i64 n, v], .agg #[.int .i64 k, .string t, .int .i64 n, v']] w fun e w' => e = .returned (.bool true) ∧ Below w.heap.size w w' := by
  have hb := below2 w (.cells #[.int .i64 k, .string t, .int .i64 n, v] 41) (.cells #[.int .i64 k, .string t, .int .i64 n, v'] 41); have K29 := sameTexts_same _ v v' ss (h.mono hb (Nat.le_refl _)) (h'.mono hb (Nat.le_refl _)) hl; obtain ⟨a1, c1, rfl⟩ := h.len; obtain ⟨a2, c2, rfl⟩ := h'.len; obtain ⟨m, hm⟩ : ∃ m, m = ss.length := ⟨_, rfl⟩; rw [← hm] at K29 hb ⊢; have HB := hid hb; clear h h' hm hb; go_enter Tryz.func17, Tryz.ntmps17; go_wp2_with fail; refine K29.mono ?_; rintro e w2 ⟨rfl, q, rfl⟩; clear K29; go_wp2; go_ret; exact ⟨rfl, below_draws HB.out q⟩
theorem encStr_eq {l : List UInt8} {s : ByteArray} (h : encStr l = .string s) : s.data.toList = l := by
  have h2 : encStr l = .string ⟨l.toArray⟩ := rfl; rw [h2] at h; injection h with h; rw [← h]
theorem rowT_lit {w : World} {b cap k : Nat} {t : TypeId} {rows : List (List Value)} {cs : Array Value} (h : w.heap[b]? = some (.cells cs t (0, 0))) (hf : cs.toList = rows.flatten) (hk : ∀ r ∈ rows, r.length = k) (hc : rows.length ≤ cap) : RowT t k w (.slice (some ⟨b, 0, none⟩) rows.length cap) rows := by
  refine ⟨_, cap, rfl, (fun h => by cases h), hc, .inr ⟨b, 0, cs, rfl, h, fun j r hr => ?_⟩⟩; have hrm : r ∈ rows := List.mem_of_getElem? hr; refine ⟨hk r hrm, fun i u hu => ?_⟩; have hi : i < k := by have := (List.getElem?_eq_some_iff.1 hu).1; rw [hk r hrm] at this; exact this
  have hfl : ∀ (rows : List (List Value)) (j : Nat) (r : List Value), (∀ r ∈ rows, r.length = k) → rows[j]? = some r → ∀ i u, i < k → r[i]? = some u → rows.flatten[j * k + i]? = some u := by
    intro rows
    induction rows with
    | nil => intro j r _ h; simp at h
    | cons x rest ih =>
      intro j r hk h i u hi hu; have hx := hk x (List.mem_cons_self ..); rw [List.flatten_cons]
      cases j with
      | zero =>
        simp at h; subst h; rw [List.getElem?_append_left (by omega), Nat.zero_mul, Nat.zero_add]; exact hu
      | succ j =>
        rw [List.getElem?_append_right (by rw [hx, Nat.add_mul]; omega), hx, show (j + 1) * k + i - k = j * k + i by rw [Nat.add_mul]; omega]; exact ih j r (fun r hr => hk r (List.mem_cons_of_mem _ hr)) (by simpa using h) i u hi hu
  have e := hfl rows j r hk hr i u hi hu; rw [← hf, Array.getElem?_toList] at e; rw [Nat.zero_add]; exact e
end Go.Proofs.YtdnebclemngdcaaGreatDoor
