/- The sender with any messages: its box, its row; Acked. -/
import Derived.Test.YtcojglkjbbgoaaaDoorJTD
import Derived.Test.YtcojglkjbbgoaaaDoorJSAck
namespace Go.Proofs.YtcojglkjbbgoaaaDoor
open Go.RowKit
set_option maxRecDepth 100000

/-- A sender: its box g, a row of its own with what is not acked. -/
structure SndR (w : World) (g : Nat) (f t s seq time : Int) (v : Value) (l : List Raw) : Prop where
  box : w.heap[g]? = some (.cells #[.int .i64 f, .int .i64 t, .int .i64 s, .int .i64 seq, .int .i64 time, v] 86 (0, 0))
  row : w.ownsRow (g + 1) 37 9 v l.length (raws l)
theorem SndR.moved {w w' : World} {g : Nat} {f t s seq time : Int} {v : Value} {l : List Raw} (h : SndR w g f t s seq time v l) (hb : Below w.heap.size w w') : SndR w' g f t s seq time v l :=
  ⟨by rw [hb.block _ (lt_of_heap h.box)]; exact h.box, owns_at h.row fun k _ h2 => hb.block k h2⟩
theorem acked_raw (w : World) (g : Nat) (f t s seq time : Int) (v : Value) (l : List Raw) (h : SndR w g f t s seq time v l) (hl : l.length ≤ 1000) (h0 : 0 ≤ seq) (h1 : seq ≤ 1000) :
    Calls Tryd.prog 39 #[.pointer (some ⟨g, 0, none⟩)] w fun e w' => e = .returned (.int .i64 (seq - l.length)) ∧ w' = w.drew := by
  obtain ⟨a, c, rfl⟩ := row_shape h.row
  have c3 : w.cell? ⟨g, 3, none⟩ = some (.int .i64 seq) := (cell_of h.box).trans rfl
  have c5 : w.cell? ⟨g, 5, none⟩ = some (.slice a l.length c) := (cell_of h.box).trans rfl
  obtain ⟨n, hn⟩ : ∃ n, n = l.length := ⟨_, rfl⟩
  rw [← hn] at c5 hl ⊢
  clear h hn
  have r1 : (-9223372036854775808 : Int) ≤ seq - n := by omega
  have r2 : seq - n ≤ (9223372036854775807 : Int) := by omega
  go_enter Tryd.func39, Tryd.ntmps39
  go_wp2
  go_region
  go_wp2
  go_ret
  exact ⟨rfl, rfl⟩
theorem SndR.drew {w : World} {g : Nat} {f t s seq time : Int} {v : Value} {l : List Raw} (h : SndR w g f t s seq time v l) : SndR w.drew g f t s seq time v l := ⟨h.box, owns_own h.row fun _ _ => rfl⟩
set_option maxHeartbeats 2000000 in
theorem ackedOld_raw (w : World) (g : Nat) (f t s seq time k : Int) (v : Value) (l : List Raw) (h : SndR w g f t s seq time v l) (hl : l.length ≤ 1000) (h0 : 0 ≤ seq) (h1 : seq ≤ 1000) (hk0 : 0 ≤ k) (hk : k ≤ seq - l.length) :
    Calls Tryd.prog 12 #[.pointer (some ⟨g, 0, none⟩), .int .i64 k] w fun e w' => e = .returned .nilIface ∧ SndR w' g f t s seq time v l ∧ OnlyS g v w w' := by
  have c3 : w.cell? ⟨g, 3, none⟩ = some (.int .i64 seq) := (cell_of h.box).trans rfl
  have K := hid (acked_raw w g f t s seq time v l h hl h0 h1)
  have H := hid h
  obtain ⟨n, hn⟩ : ∃ n, n = l.length := ⟨_, rfl⟩
  rw [← hn] at hl hk K
  clear h hn
  have r1 : ¬ seq < k := by omega
  have r2 : (-9223372036854775808 : Int) ≤ k - (seq - n) := by omega
  have r3 : k - (seq - n) ≤ (9223372036854775807 : Int) := by omega
  have r4 : ¬ 0 < k - (seq - n) := by omega
  go_enter Tryd.func12, Tryd.ntmps12
  go_wp2_with fail
  refine K.out.mono ?_
  rintro e w' ⟨rfl, rfl⟩
  go_wp2_with fail
  go_ret
  exact ⟨rfl, H.out.drew, ⟨rfl, rfl, rfl, Nat.le_refl _, fun _ _ _ _ => rfl⟩⟩
set_option maxHeartbeats 2000000 in
theorem ackedNew_raw (w : World) (g j : Nat) (f t s seq time : Int) (v : Value) (l : List Raw) (h : SndR w g f t s seq time v l) (hl : l.length ≤ 1000) (h0 : 0 ≤ seq) (h1 : seq ≤ 1000) (hq : (l.length : Int) ≤ seq) (hj0 : 0 < j) (hj : j ≤ l.length) :
    Calls Tryd.prog 12 #[.pointer (some ⟨g, 0, none⟩), .int .i64 (seq - l.length + j)] w fun e w' => ∃ v', e = .returned .nilIface ∧ SndR w' g f t s seq time v' (l.drop j) ∧ OnlyS g v w w' ∧ v'.ownBlock = v.ownBlock := by
  have c3 : w.cell? ⟨g, 3, none⟩ = some (.int .i64 seq) := (cell_of h.box).trans rfl
  have K := hid (acked_raw w g f t s seq time v l h hl h0 h1)
  have H := hid h.drew
  have hrow := h.drew.row
  obtain ⟨b, cap, hv, hgb⟩ : ∃ b cap, v = .slice (some ⟨b, 0, none⟩) l.length cap ∧ g + 1 ≤ b := by
    rcases hrow.2 with ⟨_, hz⟩ | ⟨b, cap, cur, hv, hb, _⟩
    · omega
    · exact ⟨b, cap, hv, hb⟩
  subst hv
  have c5 : w.drew.cell? ⟨g, 5, none⟩ = some (.slice (some ⟨b, 0, none⟩) l.length cap) := (cell_of H.out.box).trans rfl
  have D := hid (delete_raw w.drew (g + 1) b cap j l.length l hrow rfl hj0 hj hl)
  obtain ⟨n, hn⟩ : ∃ n, n = l.length := ⟨_, rfl⟩
  have HN := hid hn
  rw [← hn] at hl hq hj K c5 D H ⊢
  clear h hn hrow
  have r0 : ¬ seq - n + j < 0 := by omega
  have r1 : ¬ seq < seq - n + j := by omega
  have r5 : seq - n + j - (seq - n) = (j : Int) := by omega
  have r2 : (j : Int) ≤ (9223372036854775807 : Int) := by omega
  have r4 : 0 < (j : Int) := by omega
  go_enter Tryd.func12, Tryd.ntmps12
  go_wp2_with fail
  refine K.out.mono ?_
  rintro e w' ⟨rfl, rfl⟩
  go_wp2_with fail
  refine D.out.mono ?_
  rintro e w2 ⟨rfl, hs2, ho2⟩
  have hb2 : w2.heap[g]? = some (.cells #[.int .i64 f, .int .i64 t, .int .i64 s, .int .i64 seq, .int .i64 time, .slice (some ⟨b, 0, none⟩) n cap] 86 (0, 0)) := by
    rw [ho2.block g (by omega)]; exact H.out.box
  have q5 : (w2.cell? ⟨g, 5, none⟩) = some (.slice (some ⟨b, 0, none⟩) n cap) := (cell_of hb2).trans rfl
  have z5 : w2.frozen? ⟨g, 5, none⟩ = false := free_of hb2
  have B2 := hid hb2
  have S2 := hid hs2
  have O2 := hid ho2
  clear hb2 hs2 ho2
  go_wp2_with fail
  go_ret
  refine ⟨.slice (some ⟨b, 0, none⟩) (n - j) cap, rfl, ⟨heap_set B2.out _, ?_⟩, ⟨O2.out.os, O2.out.tape, O2.out.output, ?_, ?_⟩, rfl⟩
  · refine owns_own S2.out fun b' hb' => Below.heap_setCell _ _ _ _ fun e => ?_
    have h3 : b = b' := Option.some.inj hb'
    subst h3
    have e' : b = g := e
    omega
  · rw [size_set]; exact Nat.le_of_eq O2.out.size
  · intro k hk hkg hkv
    rw [Below.heap_setCell _ _ _ _ hkg, O2.out.block k fun e => hkv (by rw [e]; rfl)]
    rfl
theorem ackedBad_raw (w : World) (g : Nat) (f t s seq time k : Int) (v : Value) (l : List Raw) (h : SndR w g f t s seq time v l) (ev : Value) (hev : w.cell? ⟨0, 0, none⟩ = some ev) (hk : k < 0 ∨ seq < k) :
    Calls Tryd.prog 12 #[.pointer (some ⟨g, 0, none⟩), .int .i64 k] w fun e w' => e = .returned ev ∧ w' = w := by
  have c3 : w.cell? ⟨g, 3, none⟩ = some (.int .i64 seq) := (cell_of h.box).trans rfl
  clear h
  by_cases h0 : k < 0
  · clear hk
    go_enter Tryd.func12, Tryd.ntmps12
    go_wp2_with fail
    go_ret
    exact ⟨rfl, rfl⟩
  · have h1 : seq < k := by omega
    clear hk
    go_enter Tryd.func12, Tryd.ntmps12
    go_wp2_with fail
    go_ret
    exact ⟨rfl, rfl⟩
end Go.Proofs.YtcojglkjbbgoaaaDoor
