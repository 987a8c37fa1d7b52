/- Commits checked (values.CheckCommit); plain.Code by its contracts; plain.Code by its contracts. -/
import Derived.Test.YtefpnojanldkeaaGreatDoorJCA
import Derived.Test.YtefpnojanldkeaaGreatDoorJVMap
import Derived.Test.YtefpnojanldkeaaGreatDoorJSCome
import Derived.Test.YtefpnojanldkeaaGreatDoorJVOp
import Derived.Test.YtefpnojanldkeaaGreatDoorJTD
import Derived.Test.YtefpnojanldkeaaGreatDoorJVVec
import Derived.Test.YtefpnojanldkeaaGreatDoorJVRefN
import Derived.Test.YtefpnojanldkeaaGreatDoorJHR
import Derived.Test.YtefpnojanldkeaaGreatDoorJWPutN
import Derived.Test.YtefpnojanldkeaaGreatDoorJWState
import Derived.Laws.ResultCell
import Derived.Test.YtefpnojanldkeaaGreatDoorJVOnceM
import Derived.Test.YtefpnojanldkeaaGreatDoorJVRow
import Derived.Test.YtefpnojanldkeaaGreatDoorJVStandM
import Derived.Test.YtefpnojanldkeaaGreatDoorJSDel
import Derived.Test.YtefpnojanldkeaaGreatDoorJHF
import Derived.Test.YtefpnojanldkeaaGreatDoorJVOwnM
import Derived.Test.YtefpnojanldkeaaGreatDoorJVErr2
import Derived.Handy
import Derived.WalkKit
import Derived.LaidEql
import Derived.Stop.Asserts
import Derived.RowKitTokens
namespace Go.Proofs.YtefpnojanldkeaaGreatDoor.V
open Go.RowKit Go.Sort
set_option maxRecDepth 100000
set_option linter.unusedSectionVars false
variable [Inhabited _root_.Go.Proofs.YtefpnojanldkeaaGreatDoor.ComV] [DecidableEq _root_.Go.Proofs.YtefpnojanldkeaaGreatDoor.D3] [Inhabited _root_.Go.Proofs.YtefpnojanldkeaaGreatDoor.D3] [Inhabited _root_.Go.Proofs.YtefpnojanldkeaaGreatDoor.Dd] [Inhabited _root_.Go.Proofs.YtefpnojanldkeaaGreatDoor.Dn] [Inhabited _root_.Go.Proofs.YtefpnojanldkeaaGreatDoor.OpV]
variable [Inhabited D3] [Inhabited OpV]

/-- Two lists go along with one another. -/
def F2 {α β : Type} (R : α → β → Prop) : List α → List β → Prop
  | [], [] => True
  | a :: l, b :: m => R a b ∧ F2 R l m
  | _, _ => False
theorem f2_mono {α β : Type} {R S : α → β → Prop} (h : ∀ a b, R a b → S a b) : ∀ {l : List α} {m : List β}, F2 R l m → F2 S l m
  | [], [], _ => trivial
  | _ :: _, _ :: _, ⟨h1, h2⟩ => ⟨h _ _ h1, f2_mono h h2⟩
theorem f2_len {α β : Type} {R : α → β → Prop} : ∀ {l : List α} {m : List β}, F2 R l m → l.length = m.length
  | [], [], _ => rfl
  | _ :: _, _ :: _, ⟨_, h2⟩ => by simp [f2_len h2]
theorem f2_get {α β : Type} {R : α → β → Prop} : ∀ {l : List α} {m : List β}, F2 R l m → ∀ (j : Nat) (y : β), m[j]? = some y → ∃ x, l[j]? = some x ∧ R x y
  | [], [], _, _, _, h => by simp at h
  | _ :: _, _ :: _, ⟨h1, h2⟩, j, y, h => by
    cases j with
    | zero => simp at h; subst h; exact ⟨_, rfl, h1⟩
    | succ j => exact f2_get h2 j y (by simpa using h)
def opCells (o : OpV) (dv : Value) : List Value := [.int .i64 o.at_, .string o.key, .int .i64 o.kind, .string o.text, .int .i64 o.n, .bool o.rem, dv]
def OpRow (w : World) (cs : List Value) (o : OpV) : Prop := ∃ dv, cs = opCells o dv ∧ DotsAt w dv o.dots
def OpsAt (w : World) (v : Value) (os : List OpV) : Prop := ∃ rows, RowAt 7 w v rows ∧ F2 (OpRow w) rows os
theorem OpsAt.shape {w : World} {v : Value} {os : List OpV} (h : OpsAt w v os) : ∃ ad cap, v = .slice ad os.length cap ∧ (ad = none → cap = 0) ∧ os.length ≤ cap ∧
    (os = [] ∨ ∃ b off, ad = some ⟨b, off, none⟩ ∧ ∀ j, j < os.length → ∃ dp dc, DotsAt w (.slice dp os[j]!.dots.length dc) os[j]!.dots ∧
      w.cell? ⟨b, off + j * 7, none⟩ = some (.int .i64 os[j]!.at_) ∧ w.cell? ⟨b, off + j * 7 + 1, none⟩ = some (.string os[j]!.key) ∧ w.cell? ⟨b, off + j * 7 + 2, none⟩ = some (.int .i64 os[j]!.kind) ∧ w.cell? ⟨b, off + j * 7 + 3, none⟩ = some (.string os[j]!.text) ∧
      w.cell? ⟨b, off + j * 7 + 4, none⟩ = some (.int .i64 os[j]!.n) ∧ w.cell? ⟨b, off + j * 7 + 5, none⟩ = some (.bool os[j]!.rem) ∧ w.cell? ⟨b, off + j * 7 + 6, none⟩ = some (.slice dp os[j]!.dots.length dc)) := by
  obtain ⟨rows, ⟨ad, cap, rfl, h1, h2, h3⟩, hf⟩ := h
  have hl := f2_len hf
  refine ⟨ad, cap, by rw [hl], h1, by omega, ?_⟩
  rcases h3 with rfl | ⟨b, off, rfl, h3⟩
  · exact .inl (List.eq_nil_of_length_eq_zero hl.symm)
  · refine .inr ⟨b, off, rfl, fun j hj => ?_⟩
    obtain ⟨r, hr, dv, rfl, hd⟩ := f2_get hf j os[j]! (by rw [getElem!_pos os j hj, List.getElem?_eq_getElem hj])
    obtain ⟨dp, dc, rfl⟩ := hd.len
    have hc := (h3 j _ hr).2
    exact ⟨dp, dc, hd, hc 0 _ rfl, hc 1 _ rfl, hc 2 _ rfl, hc 3 _ rfl, hc 4 _ rfl, hc 5 _ rfl, hc 6 _ rfl⟩
/-- The number of the error of op i of a commit of n places. -/
def opBad (n : Int) (os : List OpV) (i : Nat) : Nat :=
  if opErr os[i]! n ≠ 0 then opErr os[i]! n else if 0 < i ∧ os[i]!.at_ ≤ os[i - 1]!.at_ then 3 else 0
/-- The first i below m at which f is not 0: f's number and i; else 0. -/
def scan (f : Nat → Nat) (m : Nat) : Nat × Option Nat :=
  match (List.range m).find? (fun i => decide (f i ≠ 0)) with
  | some i => (f i, some i)
  | none => (0, none)
theorem scan_none {f : Nat → Nat} {m : Nat} (h : ∀ i, i < m → f i = 0) : scan f m = (0, none) := by
  unfold scan
  rw [List.find?_eq_none.2 fun i hi => by rw [h i (List.mem_range.1 hi)]; decide]
theorem scan_some {f : Nat → Nat} {m i : Nat} (hi : i < m) (h : ∀ j, j < i → f j = 0) (hf : f i ≠ 0) : scan f m = (f i, some i) := by
  have : (List.range m).find? (fun i => decide (f i ≠ 0)) = some i := by
    rw [List.find?_range_eq_some]
    exact ⟨by simpa using hf, by simpa using hi, fun j hj => by simpa using h j hj⟩
  unfold scan
  rw [this]
/-- The error of a commit: its number, and at which op. -/
def comErr (c : ComV) : Nat × Option Nat :=
  if chk c.when_ ≠ 0 then ((chk c.when_).toNat, none)
  else if c.place < 0 ∨ (c.when_.length : Int) ≤ c.place ∨ c.when_.getD c.place.toNat 0 = 0 ∨ 12 < c.ops.length then (2, none)
  else if c.ops = [] then (3, none)
  else scan (opBad c.when_.length c.ops) c.ops.length
/-- What v tells, in the world w: the error with this number, bare or at a place. -/
def ErrAt (A : Nat → Addr) (w : World) (v : Value) (e : Nat × Option Nat) : Prop :=
  match e.2 with
  | none => v = errV A e.1
  | some i => ∃ pb, v = .iface 113 (.pointer (some ⟨pb, 0, none⟩)) ∧ w.cell? ⟨pb, 0, none⟩ = some (.int .i64 i) ∧ w.cell? ⟨pb, 1, none⟩ = some (errV A e.1)
theorem ErrAt.bare {A : Nat → Addr} {w : World} {e : Nat × Option Nat} (k : Nat) (h : e = (k, none)) : ErrAt A w (errV A k) e := by subst h; exact rfl
theorem ErrAt.at {A : Nat → Addr} {w : World} {e : Nat × Option Nat} {i k : Nat} (pb : Nat) (h : e = (k, some i)) (c0 : w.cell? ⟨pb, 0, none⟩ = some (.int .i64 i)) (c1 : w.cell? ⟨pb, 1, none⟩ = some (errV A k)) : ErrAt A w (.iface 113 (.pointer (some ⟨pb, 0, none⟩))) e := by
  subst h; exact ⟨pb, rfl, c0, c1⟩
/-- An op is not too great. -/
def Small (o : OpV) : Prop := o.text.size ≤ 1000000 ∧ o.dots.length ≤ 1000000
/-- What CheckCommit hands back. -/
def ComRet (A : Nat → Addr) (w : World) (er : Nat × Option Nat) (e : Ending) (w' : World) : Prop := ∃ v, e = .returned v ∧ ErrAt A w' v er ∧ Below w.heap.size w w'
theorem ComRet.bare {A : Nat → Addr} {w w' : World} {er : Nat × Option Nat} (k : Nat) (h : er = (k, none)) (hb : Below w.heap.size w w') : ComRet A w er (.returned (errV A k)) w' := ⟨_, rfl, ErrAt.bare k h, hb⟩
theorem checkCommit_when (A : Nat → Addr) (w : World) (hE : E4 A w) (h4 : 12 ≤ w.heap.size) (a1 : Option Addr) (c1 : Nat) (zs : List Int) (pl : Int) (a2 : Option Addr) (m c2 : Nat)
    (hw : IntsAt w (.slice a1 zs.length c1) zs) (hl : zs.length ≤ 1000000) (hc : chk zs ≠ 0) :
    Calls Tryz.prog 52 #[.agg #[.slice a1 zs.length c1, .int .i64 pl, .slice a2 m c2]] w fun e w' => e = .returned (.iface 238 (.pointer (some (A ((chk zs).toNat - 1))))) ∧ Below w.heap.size w w' := by
  have K := fun o => check_bad A (w.alloc o) (hE.below (below_alloc _ _) h4) (.slice a1 zs.length c1) zs (hw.mono (below_alloc _ _) (Nat.le_refl _)) hl hc
  obtain ⟨n, hn⟩ : ∃ n, n = zs.length := ⟨_, rfl⟩
  rw [← hn] at K ⊢
  clear hn hw hl
  go_enter Tryz.func52, Tryz.ntmps52
  go_wp2_with (go_at_call 79; refine (K _).mono ?_; rintro e w' ⟨rfl, rfl⟩)
  go_ret
  exact ⟨rfl, below_alloc _ _⟩
set_option maxHeartbeats 2000000 in
theorem checkCommit_bound (A : Nat → Addr) (w : World) (hE : E4 A w) (h4 : 12 ≤ w.heap.size) (b1 o1 : Nat) (c1 : Nat) (zs : List Int) (pl : Int) (a2 : Option Addr) (m c2 : Nat)
    (hw : ∀ t, t < zs.length → w.cell? ⟨b1, o1 + t, none⟩ = some (.int .i64 (zs.getD t 0))) (hc : chk zs = 0) (hm : m ≤ 1000000)
    (h : pl < 0 ∨ (zs.length : Int) ≤ pl ∨ zs.getD pl.toNat 0 = 0 ∨ 12 < m) :
    Calls Tryz.prog 52 #[.agg #[.slice (some ⟨b1, o1, none⟩) zs.length c1, .int .i64 pl, .slice a2 m c2]] w fun e w' => e = .returned (errV A 2) ∧ Below w.heap.size w w' := by
  have hn6 := (chk_zero.1 hc).2.1
  have K := fun o => check_ok A (w.alloc o) (hE.below (below_alloc _ _) h4) (.slice (some ⟨b1, o1, none⟩) zs.length c1) zs (IntsAt.mono ⟨_, _, rfl, (fun h => by cases h), .inr ⟨b1, o1, rfl, hw⟩⟩ (below_alloc w o) (Nat.le_refl _)) hc
  have hW := hid hw
  have g0 := fun o => cell_alloc hE.bound o
  obtain ⟨n, hn⟩ : ∃ n, n = zs.length := ⟨_, rfl⟩
  rw [← hn] at K hW h hn6 ⊢
  clear hn hw hc hE
  by_cases p0 : pl < 0
  · go_enter Tryz.func52, Tryz.ntmps52
    go_wp2_with (go_at_call 79; refine (K _).mono ?_; rintro e w' ⟨rfl, rfl⟩)
    go_ret
    exact ⟨rfl, below_alloc _ _⟩
  · obtain ⟨p, rfl⟩ : ∃ p : Nat, pl = p := ⟨pl.toNat, by omega⟩
    by_cases p1 : (n : Int) ≤ p
    · go_enter Tryz.func52, Tryz.ntmps52
      go_wp2_with (go_at_call 79; refine (K _).mono ?_; rintro e w' ⟨rfl, rfl⟩)
      go_ret
      exact ⟨rfl, below_alloc _ _⟩
    · have cz := fun o => cell_alloc (hW.out p (by omega)) o
      obtain ⟨z, hz⟩ : ∃ z, z = zs.getD p 0 := ⟨_, rfl⟩
      rw [← hz] at cz
      have HZ := hid hz
      clear hz
      have hlt : p < n := by omega
      by_cases z0 : z = 0
      · rw [z0] at cz
        clear h
        go_enter Tryz.func52, Tryz.ntmps52
        go_wp2_with (go_at_call 79; refine (K _).mono ?_; rintro e w' ⟨rfl, rfl⟩)
        go_ret
        exact ⟨rfl, below_alloc _ _⟩
      · have bz : (z == 0) = false := by simpa using z0
        have m12 : 12 < (m : Int) := by
          rcases h with h | h | h | h
          · omega
          · omega
          · rw [Int.toNat_natCast, ← HZ.out] at h; omega
          · omega
        clear h
        go_enter Tryz.func52, Tryz.ntmps52
        go_wp2_with (go_at_call 79; refine (K _).mono ?_; rintro e w' ⟨rfl, rfl⟩)
        go_ret
        exact ⟨rfl, below_alloc _ _⟩
set_option maxHeartbeats 2000000 in
theorem checkCommit_empty (A : Nat → Addr) (w : World) (hE : E4 A w) (h4 : 12 ≤ w.heap.size) (b1 o1 : Nat) (c1 : Nat) (zs : List Int) (p : Nat) (a2 : Option Addr) (c2 : Nat)
    (hw : ∀ t, t < zs.length → w.cell? ⟨b1, o1 + t, none⟩ = some (.int .i64 (zs.getD t 0))) (hc : chk zs = 0) (hp : p < zs.length) (hz : zs.getD p 0 ≠ 0) :
    Calls Tryz.prog 52 #[.agg #[.slice (some ⟨b1, o1, none⟩) zs.length c1, .int .i64 p, .slice a2 0 c2]] w fun e w' => e = .returned (errV A 3) ∧ Below w.heap.size w w' := by
  have hn6 := (chk_zero.1 hc).2.1
  have K := fun o => check_ok A (w.alloc o) (hE.below (below_alloc _ _) h4) (.slice (some ⟨b1, o1, none⟩) zs.length c1) zs (IntsAt.mono ⟨_, _, rfl, (fun h => by cases h), .inr ⟨b1, o1, rfl, hw⟩⟩ (below_alloc w o) (Nat.le_refl _)) hc
  have g0 := fun o => cell_alloc hE.shape o
  have cz := fun o => cell_alloc (hw p hp) o
  obtain ⟨z, hzz⟩ : ∃ z, z = zs.getD p 0 := ⟨_, rfl⟩
  rw [← hzz] at cz hz
  have bz : (z == 0) = false := by simpa using hz
  obtain ⟨n, hn⟩ : ∃ n, n = zs.length := ⟨_, rfl⟩
  rw [← hn] at K hp hn6 ⊢
  have p1 : ¬ (n : Int) ≤ p := by omega
  clear hn hw hc hE hzz hz
  go_enter Tryz.func52, Tryz.ntmps52
  go_wp2_with (go_at_call 79; refine (K _).mono ?_; rintro e w' ⟨rfl, rfl⟩)
  go_ret
  exact ⟨rfl, below_alloc _ _⟩
set_option maxHeartbeats 4000000 in
theorem checkCommit_ops (A : Nat → Addr) (w : World) (hE : E4 A w) (h4 : 12 ≤ w.heap.size) (b1 o1 : Nat) (c1 : Nat) (zs : List Int) (p : Nat) (b2 o2 m c2 : Nat) (os : List OpV)
    (hw : ∀ t, t < zs.length → w.cell? ⟨b1, o1 + t, none⟩ = some (.int .i64 (zs.getD t 0))) (hc : chk zs = 0) (hp : p < zs.length) (hz : zs.getD p 0 ≠ 0) (hm : os.length = m) (h0 : 0 < m) (h12 : m ≤ 12) (hsm : ∀ o ∈ os, Small o)
    (ho : ∀ j, j < m → ∃ dp dc, DotsAt w (.slice dp os[j]!.dots.length dc) os[j]!.dots ∧
      w.cell? ⟨b2, o2 + j * 7, none⟩ = some (.int .i64 os[j]!.at_) ∧ w.cell? ⟨b2, o2 + j * 7 + 1, none⟩ = some (.string os[j]!.key) ∧ w.cell? ⟨b2, o2 + j * 7 + 2, none⟩ = some (.int .i64 os[j]!.kind) ∧ w.cell? ⟨b2, o2 + j * 7 + 3, none⟩ = some (.string os[j]!.text) ∧
      w.cell? ⟨b2, o2 + j * 7 + 4, none⟩ = some (.int .i64 os[j]!.n) ∧ w.cell? ⟨b2, o2 + j * 7 + 5, none⟩ = some (.bool os[j]!.rem) ∧ w.cell? ⟨b2, o2 + j * 7 + 6, none⟩ = some (.slice dp os[j]!.dots.length dc)) :
    Calls Tryz.prog 52 #[.agg #[.slice (some ⟨b1, o1, none⟩) zs.length c1, .int .i64 p, .slice (some ⟨b2, o2, none⟩) m c2]] w fun e w' => ComRet A w (scan (opBad zs.length os) m) e w' := by
  have hn6 := (chk_zero.1 hc).2.1
  have K := fun o => check_ok A (w.alloc o) (hE.below (below_alloc _ _) h4) (.slice (some ⟨b1, o1, none⟩) zs.length c1) zs (IntsAt.mono ⟨_, _, rfl, (fun h => by cases h), .inr ⟨b1, o1, rfl, hw⟩⟩ (below_alloc w o) (Nat.le_refl _)) hc
  have cz := fun o => cell_alloc (hw p hp) o
  obtain ⟨z, hzz⟩ : ∃ z, z = zs.getD p 0 := ⟨_, rfl⟩
  rw [← hzz] at cz hz
  have bz : (z == 0) = false := by simpa using hz
  obtain ⟨n, hn⟩ : ∃ n, n = zs.length := ⟨_, rfl⟩
  rw [← hn] at K hp hn6 ⊢
  have p1 : ¬ (n : Int) ≤ p := by omega
  have m12 : ¬ 12 < (m : Int) := by omega
  have m0 : ((m : Int) == 0) = false := by rw [beq_eq_false_iff_ne]; omega
  have HO := hid ho
  have HE := hid hE
  have HM := hid hm
  have HS := hid hsm
  clear hn hw hc hE hzz hz ho hm hsm
  obtain ⟨w1, hw1⟩ : ∃ w1, w1 = w.alloc (.cells #[.slice (some ⟨b1, o1, none⟩) n c1, .int .i64 p, .slice (some ⟨b2, o2, none⟩) m c2] 36) := ⟨_, rfl⟩
  have B1 : Hid (Below w.heap.size w w1) := by rw [hw1]; exact below_alloc _ _
  have S1 : Hid (w1.heap.size = w.heap.size + 1) := hid (by rw [hw1]; simp)
  have C0 : Hid (w1.cell? ⟨w.heap.size, 0, none⟩ = some (.slice (some ⟨b1, o1, none⟩) n c1)) := hid (by rw [hw1]; simp)
  have C2 : Hid (w1.cell? ⟨w.heap.size, 2, none⟩ = some (.slice (some ⟨b2, o2, none⟩) m c2)) := hid (by rw [hw1]; simp)
  have HW1 := hid hw1
  clear hw1
  go_enter Tryz.func52, Tryz.ntmps52
  go_wp2_with (go_at_call 79; refine (K _).mono ?_; rintro e w' ⟨rfl, rfl⟩)
  go_loopw [48] (fun i wr => ∃ k : Nat, k ≤ m ∧ i = .int .i64 k ∧ Hid (Below (w.heap.size + 1) w1 wr) ∧ Hid (∀ t, t < k → opBad n os t = 0)) (fun i _ => m - (intOf i).toNat)
  case atStart => exact ⟨0, Nat.zero_le _, rfl, (by rw [HW1.out]; exact Below.refl _ _), fun t ht => absurd ht (Nat.not_lt_zero _)⟩
  case round =>
    obtain ⟨k, hk, rfl, HB, HI⟩ := hrel
    clear K cz
    have hB := HB.out
    have hs1 := S1.out
    have hsz : w.heap.size + 1 ≤ wr.heap.size := by have := hB.size; omega
    have wB : Hid (Below w.heap.size w wr) := B1.out.trans (hB.mono (by omega))
    have e0 : wr.cell? ⟨w.heap.size, 0, none⟩ = some (.slice (some ⟨b1, o1, none⟩) n c1) := by rw [hB.cell (p := ⟨w.heap.size, 0, none⟩) (by simp)]; exact C0.out
    have e2 : wr.cell? ⟨w.heap.size, 2, none⟩ = some (.slice (some ⟨b2, o2, none⟩) m c2) := by rw [hB.cell (p := ⟨w.heap.size, 2, none⟩) (by simp)]; exact C2.out
    have e0' := fun o => cell_alloc e0 o
    clear hB
    by_cases hlt : k < m
    · obtain ⟨dp, dc, hd, q0, q1, q2, q3, q4, q5, q6⟩ := HO.out k hlt
      have up : ∀ {a : Addr} {v : Value}, w.cell? a = some v → wr.cell? a = some v := fun {a v} h => by rw [wB.out.cell (lt_of_cell h)]; exact h
      have r0 := up q0
      have r1 := up q1
      have r2 := up q2
      have r3 := up q3
      have r4 := up q4
      have r5 := up q5
      have r6 := up q6
      have hSm : Small os[k]! := HS.out _ (by rw [getElem!_pos os k (by have := HM.out; omega)]; exact List.getElem_mem _)
      obtain ⟨x, hx⟩ : ∃ x, x = os[k]! := ⟨_, rfl⟩
      rw [← hx] at r0 r1 r2 r3 r4 r5 r6 hd hSm
      have HX := hid hx
      obtain ⟨er, her⟩ : ∃ er, er = opErr x n := ⟨_, rfl⟩
      have HER := hid her
      obtain ⟨x1, x2, x3, x4, x5, x6, ds⟩ := x
      have KC := fun o => check_op A (wr.alloc o) ((HE.out.below wB.out h4).below (below_alloc wr o) (by omega)) (by simp; omega) x1 x2 x3 x4 x5 x6 dp dc ds n ((hd.mono wB.out (Nat.le_refl _)).mono (below_alloc wr o) (Nat.le_refl _)) hSm.2 hSm.1
      rw [← her] at KC
      clear q0 q1 q2 q3 q4 q5 q6 hx her hd hSm
      simp only at r0 r1 r2 r3 r4 r5 r6
      cases er with
      | succ er =>
        have hbad : opBad n os k = er + 1 := by
          unfold opBad
          rw [← HX.out, ← HER.out, if_pos (by omega)]
        have hsc := hid (scan_some (f := opBad n os) hlt HI.out (by omega))
        rw [hbad] at hsc
        rw [show errV A (er + 1) = .iface 238 (.pointer (some (A er))) from rfl] at KC
        go_wp2_with (go_at_call 80; refine (KC _).mono ?_; rintro e w' ⟨rfl, hw⟩)
        go_ret
        refine ⟨_, rfl, ErrAt.at (k := er + 1) (i := k) w'.heap.size hsc.out (by simp) (by simp [errV]), ?_⟩
        exact (wB.out.trans ((below_alloc _ _).mono (by have := wB.out.size; omega))).trans ((hw.mono (by simp; have := wB.out.size; omega)).alloc (by have := hw.size; simp at this; have := wB.out.size; omega) _)
      | zero =>
        rw [show errV A 0 = .nilIface from rfl] at KC
        obtain ⟨BX, hBX⟩ : ∃ BX, BX = Obj.cells #[.int .i64 x1, .string x2, .int .i64 x3, .string x4, .int .i64 x5, .bool x6, .slice dp ds.length dc] 24 := ⟨_, rfl⟩
        go_wp2_with (go_at_call 80; refine (KC _).mono ?_; rintro e w' ⟨rfl, hw⟩)
        have hw2 : Below (w.heap.size + 1) w1 w' := (HB.out.alloc hsz _).trans (hw.mono (by simp; omega))
        have f0 : w'.cell? ⟨wr.heap.size, 0, none⟩ = some (.int .i64 x1) := by rw [hw.cell (p := ⟨wr.heap.size, 0, none⟩) (by simp)]; simp
        have f2 : w'.cell? ⟨w.heap.size, 2, none⟩ = some (.slice (some ⟨b2, o2, none⟩) m c2) := by rw [hw2.cell (p := ⟨w.heap.size, 2, none⟩) (by simp)]; exact C2.out
        have hwB : Hid (Below w.heap.size w w') := B1.out.trans (hw2.mono (by omega))
        have hw2' := hid hw2
        have hwH := hid hw
        clear hw hw2 KC
        have hsz' : w.heap.size + 1 ≤ w'.heap.size := by have := hw2'.out.size; omega
        rcases Nat.eq_zero_or_pos k with rfl | hk0
        · have hz0 : ¬ (0 : Int) < ((0 : Nat) : Int) := by omega
          go_quiet (fail)
          go_wp2
          refine ⟨⟨_, _, _, _, _, ⟨1, by omega, rfl, below_draws hw2'.out _, ?_⟩, rfl, rfl, rfl, rfl, by go_num⟩, by simp [intOf]; omega⟩
          intro t ht
          obtain rfl : t = 0 := by omega
          unfold opBad
          rw [← HX.out, ← HER.out, if_neg (by decide), if_neg (by omega)]
        · obtain ⟨j, rfl⟩ : ∃ j, k = j + 1 := ⟨k - 1, by omega⟩
          obtain ⟨_, _, _, q0, _⟩ := HO.out j (by omega)
          have g0 : w'.cell? ⟨b2, o2 + j * 7, none⟩ = some (.int .i64 os[j]!.at_) := by rw [hwB.out.cell (lt_of_cell q0)]; exact q0
          clear q0
          obtain ⟨y, hy⟩ : ∃ y, y = os[j]!.at_ := ⟨_, rfl⟩
          rw [← hy] at g0
          have HY := hid hy
          clear hy
          have hp0 : (0 : Int) < ((j + 1 : Nat) : Int) := by omega
          have hj1 : ((j + 1 : Nat) : Int) - 1 = (j : Int) := by omega
          have hjm : j < m := by omega
          by_cases hle : x1 ≤ y
          · have hbad : opBad n os (j + 1) = 3 := by
              unfold opBad
              rw [← HX.out, ← HER.out, if_neg (by decide), if_pos ⟨by omega, by rw [Nat.add_sub_cancel, ← HY.out]; exact hle⟩]
            have hsc := hid (scan_some (f := opBad n os) hlt HI.out (by omega))
            rw [hbad] at hsc
            have g3 : w'.cell? ⟨1, 0, none⟩ = some (.iface 238 (.pointer (some (A 2)))) := (HE.out.below hwB.out h4).shape
            go_quiet (fail)
            go_wp2
            go_ret
            refine ⟨_, rfl, ErrAt.at (k := 3) (i := j + 1) w'.heap.size hsc.out ((World.cell?_alloc_at _ _ _ _ rfl).trans (by simp)) ((World.cell?_alloc_at _ _ _ _ rfl).trans rfl), ?_⟩
            exact (below_draws hwB.out _).alloc (by simp; omega) _
          · go_quiet (fail)
            go_wp2
            refine ⟨⟨_, _, _, _, _, ⟨j + 1 + 1, by omega, rfl, below_draws hw2'.out _, ?_⟩, rfl, rfl, rfl, rfl, by go_num⟩, by simp [intOf]; omega⟩
            intro t ht
            rcases Nat.lt_succ_iff_lt_or_eq.1 ht with h | rfl
            · exact HI.out t h
            · unfold opBad
              rw [← HX.out, ← HER.out, if_neg (by decide), if_neg (fun h => by have h2 := h.2; rw [Nat.add_sub_cancel, ← HY.out] at h2; have h3 : x1 ≤ y := h2; omega)]
    · obtain rfl : k = m := by omega
      go_wp2
      go_ret
      exact ComRet.bare 0 (scan_none HI.out) wB.out
/-- CheckCommit, at any commit. -/
theorem checkCommit (A : Nat → Addr) (w : World) (hE : E4 A w) (h4 : 12 ≤ w.heap.size) (c : ComV) (wv ov : Value) (hw : IntsAt w wv c.when_) (ho : OpsAt w ov c.ops) (hl : c.when_.length ≤ 1000000) (hm : c.ops.length ≤ 1000000) (hsm : ∀ o ∈ c.ops, Small o) :
    Calls Tryz.prog 52 #[.agg #[wv, .int .i64 c.place, ov]] w fun e w' => ComRet A w (comErr c) e w' := by
  obtain ⟨a2, c2, rfl, hn2, hc2, ho'⟩ := ho.shape
  have hw0 := hw
  obtain ⟨a1, c1, rfl, hn1, hw⟩ := hw
  unfold comErr
  by_cases hc : chk c.when_ = 0
  · rw [if_neg (by simpa using hc)]
    rcases hw with h | ⟨b1, o1, rfl, hw⟩
    · have := (chk_zero.1 hc).1
      rw [h] at this
      simp at this
    · by_cases hb : c.place < 0 ∨ (c.when_.length : Int) ≤ c.place ∨ c.when_.getD c.place.toNat 0 = 0 ∨ 12 < c.ops.length
      · rw [if_pos hb]
        refine (checkCommit_bound A w hE h4 b1 o1 c1 c.when_ c.place a2 c.ops.length c2 hw hc hm hb).mono ?_
        rintro e w' ⟨rfl, h⟩
        exact ComRet.bare 2 rfl h
      · rw [if_neg hb]
        obtain ⟨p, hp⟩ : ∃ p : Nat, c.place = p := ⟨c.place.toNat, by omega⟩
        rw [hp] at hb ⊢
        rw [Int.toNat_natCast] at hb
        by_cases h0 : c.ops = []
        · rw [if_pos h0, h0]
          refine (checkCommit_empty A w hE h4 b1 o1 c1 c.when_ p a2 c2 hw hc (by omega) (by omega)).mono ?_
          rintro e w' ⟨rfl, h⟩
          exact ComRet.bare 3 rfl h
        · rw [if_neg h0]
          rcases ho' with h | ⟨b2, o2, rfl, ho'⟩
          · exact absurd h h0
          · exact checkCommit_ops A w hE h4 b1 o1 c1 c.when_ p b2 o2 c.ops.length c2 c.ops hw hc (by omega) (by omega) rfl (List.length_pos_iff.2 h0) (by omega) hsm ho'
  · rw [if_pos hc]
    refine (checkCommit_when A w hE h4 a1 c1 c.when_ c.place a2 c.ops.length c2 hw0 hl hc).mono ?_
    rintro e w' ⟨rfl, h⟩
    have hk : ∃ k, (chk c.when_).toNat = k + 1 := by
      rcases chk_cases c.when_ with h | h | h
      · exact absurd h hc
      · exact ⟨1, by rw [h]; rfl⟩
      · exact ⟨2, by rw [h]; rfl⟩
    obtain ⟨k, hk⟩ := hk
    rw [hk]
    exact ComRet.bare (k + 1) rfl h
end Go.Proofs.YtefpnojanldkeaaGreatDoor.V
namespace Go.Proofs.YtefpnojanldkeaaGreatDoor
open Go.RowKit
set_option linter.unusedSectionVars false
variable [Inhabited ComV] [DecidableEq D3] [Inhabited D3] [Inhabited Dd] [Inhabited Dn] [Inhabited OpV]

theorem code_nil (w : World) : Calls Tryz.prog 43 #[.nilIface] w fun e w' => e = .returned (.tuple #[.int .i64 0, .int .i64 (-1)]) ∧ w' = w := by
  go_enter Tryz.func43, Tryz.ntmps43
  go_wp2
  go_ret2
  exact ⟨rfl, rfl⟩
/-- The twelve errors, as a row. -/
def twelve (A : Nat → Addr) : Obj := .cells #[.iface 238 (.pointer (some (A 0))), .iface 238 (.pointer (some (A 1))), .iface 238 (.pointer (some (A 2))), .iface 238 (.pointer (some (A 3))), .iface 238 (.pointer (some (A 4))), .iface 238 (.pointer (some (A 5))), .iface 238 (.pointer (some (A 6))), .iface 238 (.pointer (some (A 7))), .iface 238 (.pointer (some (A 8))), .iface 238 (.pointer (some (A 9))), .iface 238 (.pointer (some (A 10))), .iface 238 (.pointer (some (A 11)))] 27
theorem twelve_cell (A : Nat → Addr) (w : World) (n m : Nat) (hn : n = w.heap.size) (h : m < 12) : (w.alloc (twelve A)).cell? ⟨n, m, none⟩ = some (.iface 238 (.pointer (some (A m)))) := by
  unfold twelve
  rw [World.cell?_alloc_at _ _ _ _ hn]
  rcases (by omega : m = 0 ∨ m = 1 ∨ m = 2 ∨ m = 3 ∨ m = 4 ∨ m = 5 ∨ m = 6 ∨ m = 7 ∨ m = 8 ∨ m = 9 ∨ m = 10 ∨ m = 11) with rfl | rfl | rfl | rfl | rfl | rfl | rfl | rfl | rfl | rfl | rfl | rfl <;> rfl
set_option maxHeartbeats 4000000 in
theorem code_sent (A : Nat → Addr) (B : Nat) (w : World) (k : Nat) (hS : Sents A B w) (hk : k < 12) :
    Calls Tryz.prog 43 #[.iface 238 (.pointer (some (A k)))] w fun e w' => e = .returned (.tuple #[.int .i64 (k + 1), .int .i64 (-1)]) ∧ Below w.heap.size w w' := by
  have g0 : ∀ o1 o2 o3 o4, ((((w.alloc o1).alloc o2).alloc o3).alloc o4).cell? ⟨6, 0, none⟩ = some (.iface 238 (.pointer (some (A 0)))) := fun _ _ _ _ => cell_alloc (cell_alloc (cell_alloc (cell_alloc (hS.cell 0 (by omega)) _) _) _) _
  have g1 : ∀ o1 o2 o3 o4, ((((w.alloc o1).alloc o2).alloc o3).alloc o4).cell? ⟨0, 0, none⟩ = some (.iface 238 (.pointer (some (A 1)))) := fun _ _ _ _ => cell_alloc (cell_alloc (cell_alloc (cell_alloc (hS.cell 1 (by omega)) _) _) _) _
  have g2 : ∀ o1 o2 o3 o4, ((((w.alloc o1).alloc o2).alloc o3).alloc o4).cell? ⟨1, 0, none⟩ = some (.iface 238 (.pointer (some (A 2)))) := fun _ _ _ _ => cell_alloc (cell_alloc (cell_alloc (cell_alloc (hS.cell 2 (by omega)) _) _) _) _
  have g3 : ∀ o1 o2 o3 o4, ((((w.alloc o1).alloc o2).alloc o3).alloc o4).cell? ⟨7, 0, none⟩ = some (.iface 238 (.pointer (some (A 3)))) := fun _ _ _ _ => cell_alloc (cell_alloc (cell_alloc (cell_alloc (hS.cell 3 (by omega)) _) _) _) _
  have g4 : ∀ o1 o2 o3 o4, ((((w.alloc o1).alloc o2).alloc o3).alloc o4).cell? ⟨8, 0, none⟩ = some (.iface 238 (.pointer (some (A 4)))) := fun _ _ _ _ => cell_alloc (cell_alloc (cell_alloc (cell_alloc (hS.cell 4 (by omega)) _) _) _) _
  have g5 : ∀ o1 o2 o3 o4, ((((w.alloc o1).alloc o2).alloc o3).alloc o4).cell? ⟨4, 0, none⟩ = some (.iface 238 (.pointer (some (A 5)))) := fun _ _ _ _ => cell_alloc (cell_alloc (cell_alloc (cell_alloc (hS.cell 5 (by omega)) _) _) _) _
  have g6 : ∀ o1 o2 o3 o4, ((((w.alloc o1).alloc o2).alloc o3).alloc o4).cell? ⟨5, 0, none⟩ = some (.iface 238 (.pointer (some (A 6)))) := fun _ _ _ _ => cell_alloc (cell_alloc (cell_alloc (cell_alloc (hS.cell 6 (by omega)) _) _) _) _
  have g7 : ∀ o1 o2 o3 o4, ((((w.alloc o1).alloc o2).alloc o3).alloc o4).cell? ⟨9, 0, none⟩ = some (.iface 238 (.pointer (some (A 7)))) := fun _ _ _ _ => cell_alloc (cell_alloc (cell_alloc (cell_alloc (hS.cell 7 (by omega)) _) _) _) _
  have g8 : ∀ o1 o2 o3 o4, ((((w.alloc o1).alloc o2).alloc o3).alloc o4).cell? ⟨3, 0, none⟩ = some (.iface 238 (.pointer (some (A 8)))) := fun _ _ _ _ => cell_alloc (cell_alloc (cell_alloc (cell_alloc (hS.cell 8 (by omega)) _) _) _) _
  have g9 : ∀ o1 o2 o3 o4, ((((w.alloc o1).alloc o2).alloc o3).alloc o4).cell? ⟨10, 0, none⟩ = some (.iface 238 (.pointer (some (A 9)))) := fun _ _ _ _ => cell_alloc (cell_alloc (cell_alloc (cell_alloc (hS.cell 9 (by omega)) _) _) _) _
  have g10 : ∀ o1 o2 o3 o4, ((((w.alloc o1).alloc o2).alloc o3).alloc o4).cell? ⟨2, 0, none⟩ = some (.iface 238 (.pointer (some (A 10)))) := fun _ _ _ _ => cell_alloc (cell_alloc (cell_alloc (cell_alloc (hS.cell 10 (by omega)) _) _) _) _
  have g11 : ∀ o1 o2 o3 o4, ((((w.alloc o1).alloc o2).alloc o3).alloc o4).cell? ⟨11, 0, none⟩ = some (.iface 238 (.pointer (some (A 11)))) := fun _ _ _ _ => cell_alloc (cell_alloc (cell_alloc (cell_alloc (hS.cell 11 (by omega)) _) _) _) _
  have hg := hS.handle
  have hz : 12 < w.heap.size := by have := hS.gl; have := hS.size; omega
  go_enter Tryz.func43, Tryz.ntmps43
  go_wp2_with (go_at_call 74; refine (as_miss _ _ _ (cell_alloc hg _)).mono ?_; rintro e w' ⟨rfl, rfl⟩)
  go_loopw [3, 30] (fun a i wr => ∃ m : Nat, m ≤ k ∧ i = .int .i64 m ∧ a = .int .i64 (-1) ∧ (∀ j, j < 12 → wr.cell? ⟨w.heap.size + 1 + 1 + 1 + 1, j, none⟩ = some (.iface 238 (.pointer (some (A j))))) ∧ Sents A B wr ∧ Below w.heap.size w wr) (fun _ i _ => 12 - (intOf i).toNat)
  case atStart =>
    refine ⟨0, Nat.zero_le _, rfl, rfl, fun j hj => ?_, ?_, ?_⟩
    · exact twelve_cell A _ _ j (by simp) hj
    · refine hS.below ?_
      refine Below.mono ?_ hS.size
      go_grown
    · go_grown
  case round =>
    obtain ⟨m, hm, rfl, rfl, hrow, hSr, hbl⟩ := hrel
    have hc := hrow m (by omega)
    have h12 : m < 12 := by omega
    have HR : Hid (∀ j, j < 12 → wr.cell? ⟨w.heap.size + 1 + 1 + 1 + 1, j, none⟩ = some (.iface 238 (.pointer (some (A j))))) := hrow
    clear hrow g0 g1 g2 g3 g4 g5 g6 g7 g8 g9 g10 g11 hg
    by_cases e : m = k
    · subst e
      go_wp2_with (go_at_call 75; refine (is_same _ _).mono ?_; rintro e w' ⟨rfl, rfl⟩)
      go_ret2
      exact ⟨rfl, hbl⟩
    · have hne : A k ≠ A m := hSr.ne k m hk (by omega) (Ne.symm e)
      obtain ⟨ca, ta, ha⟩ := hSr.row k hk
      obtain ⟨cb, tb, hb⟩ := hSr.row m (by omega)
      go_wp2_with (go_at_call 75; refine (is_other _ _ _ _ _ _ _ hne ha hb).mono ?_; rintro e w' ⟨rfl, rfl⟩)
      go_roundw
      case rel => exact ⟨m + 1, by omega, by go_num, rfl, HR.out, hSr, hbl⟩
      case measure => simp [intOf]; omega
/-! ### coded -/
end Go.Proofs.YtefpnojanldkeaaGreatDoor
namespace Go.Proofs.YtefpnojanldkeaaGreatDoor
open Go.RowKit
set_option linter.unusedSectionVars false
variable [Inhabited ComV] [DecidableEq D3] [Inhabited D3] [Inhabited Dd] [Inhabited Dn] [Inhabited OpV]

/-! ### coded -/
theorem coded_nilS (w : World) : Calls Tryz.prog 19 #[.nilIface, .int .i64 0] w fun e w' => e = .returned (.bool true) ∧ w' = w := by
  go_enter Tryz.func19, Tryz.ntmps19
  go_wp2_with (go_at_call 43; refine (code_nil _).mono ?_; rintro e w' ⟨rfl, rfl⟩)
  go_ret
  exact ⟨rfl, rfl⟩
theorem coded_sentS (A : Nat → Addr) (B : Nat) (w : World) (k : Nat) (n : Int) (hS : Sents A B w) (hk : k < 12) (hn : n = k + 1) :
    Calls Tryz.prog 19 #[.iface 238 (.pointer (some (A k))), .int .i64 n] w fun e w' => e = .returned (.bool true) ∧ Below w.heap.size w w' := by
  subst hn
  go_enter Tryz.func19, Tryz.ntmps19
  go_wp2_with (go_at_call 43; refine (code_sent A B _ k hS hk).mono ?_; rintro e w' ⟨rfl, hb⟩)
  go_ret
  exact ⟨by simp, hb⟩
end Go.Proofs.YtefpnojanldkeaaGreatDoor
