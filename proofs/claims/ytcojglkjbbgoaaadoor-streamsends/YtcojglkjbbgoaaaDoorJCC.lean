/- Commits checked (values.CheckCommit); The reference: CommitFault. -/
import Derived.Test.YtcojglkjbbgoaaaDoorJCA
import Derived.Laws.ResultCell
namespace Go.Proofs.YtcojglkjbbgoaaaDoor.V
open Go.RowKit Go.Sort
set_option maxRecDepth 100000
set_option linter.unusedSectionVars false
variable [Inhabited D3] [Inhabited OpV]

/-- Two lists go along with one another. -/
def F2 {α β : Type} (R : α → β → Prop) : List α → List β → Prop
  | [], [] => True
  | a :: l, b :: m => R a b ∧ F2 R l m
  | _, _ => False
theorem f2_mono {α β : Type} {R S : α → β → Prop} (h : ∀ a b, R a b → S a b) : ∀ {l : List α} {m : List β}, F2 R l m → F2 S l m
  | [], [], _ => trivial
  | _ :: _, _ :: _, ⟨h1, h2⟩ => ⟨h _ _ h1, f2_mono h h2⟩
theorem f2_len {α β : Type} {R : α → β → Prop} : ∀ {l : List α} {m : List β}, F2 R l m → l.length = m.length
  | [], [], _ => rfl
  | _ :: _, _ :: _, ⟨_, h2⟩ => by simp [f2_len h2]
theorem f2_get {α β : Type} {R : α → β → Prop} : ∀ {l : List α} {m : List β}, F2 R l m → ∀ (j : Nat) (y : β), m[j]? = some y → ∃ x, l[j]? = some x ∧ R x y
  | [], [], _, _, _, h => by simp at h
  | _ :: _, _ :: _, ⟨h1, h2⟩, j, y, h => by
    cases j with
    | zero => simp at h; subst h; exact ⟨_, rfl, h1⟩
    | succ j => exact f2_get h2 j y (by simpa using h)
def opCells (o : OpV) (dv : Value) : List Value := [.int .i64 o.at_, .string o.key, .int .i64 o.kind, .string o.text, .int .i64 o.n, .bool o.rem, dv]
def OpRow (w : World) (cs : List Value) (o : OpV) : Prop := ∃ dv, cs = opCells o dv ∧ DotsAt w dv o.dots
def OpsAt (w : World) (v : Value) (os : List OpV) : Prop := ∃ rows, RowAt 7 w v rows ∧ F2 (OpRow w) rows os
def ComRow (w : World) (cs : List Value) (c : ComV) : Prop := ∃ wv ov, cs = [wv, .int .i64 c.place, ov] ∧ IntsAt w wv c.when_ ∧ OpsAt w ov c.ops
def ComsAt (w : World) (v : Value) (l : List ComV) : Prop := ∃ rows, RowAt 3 w v rows ∧ F2 (ComRow w) rows l
theorem OpRow.mono {w w' : World} {cs : List Value} {o : OpV} {B : Nat} (h : OpRow w cs o) (hb : Below B w w') (hB : w.heap.size ≤ B) : OpRow w' cs o :=
  let ⟨dv, h1, h2⟩ := h; ⟨dv, h1, h2.mono hb hB⟩
theorem OpsAt.mono {w w' : World} {v : Value} {os : List OpV} {B : Nat} (h : OpsAt w v os) (hb : Below B w w') (hB : w.heap.size ≤ B) : OpsAt w' v os :=
  let ⟨r, h1, h2⟩ := h; ⟨r, h1.mono hb hB, f2_mono (fun _ _ h => h.mono hb hB) h2⟩
theorem ComRow.mono {w w' : World} {cs : List Value} {c : ComV} {B : Nat} (h : ComRow w cs c) (hb : Below B w w') (hB : w.heap.size ≤ B) : ComRow w' cs c :=
  let ⟨a, b, h1, h2, h3⟩ := h; ⟨a, b, h1, h2.mono hb hB, h3.mono hb hB⟩
theorem ComsAt.mono {w w' : World} {v : Value} {l : List ComV} {B : Nat} (h : ComsAt w v l) (hb : Below B w w') (hB : w.heap.size ≤ B) : ComsAt w' v l :=
  let ⟨r, h1, h2⟩ := h; ⟨r, h1.mono hb hB, f2_mono (fun _ _ h => h.mono hb hB) h2⟩
/-- The shape of a slice of ops, and its op j. -/
theorem OpsAt.shape {w : World} {v : Value} {os : List OpV} (h : OpsAt w v os) : ∃ ad cap, v = .slice ad os.length cap ∧ (ad = none → cap = 0) ∧ os.length ≤ cap ∧
    (os = [] ∨ ∃ b off, ad = some ⟨b, off, none⟩ ∧ ∀ j, j < os.length → ∃ dp dc, DotsAt w (.slice dp os[j]!.dots.length dc) os[j]!.dots ∧
      w.cell? ⟨b, off + j * 7, none⟩ = some (.int .i64 os[j]!.at_) ∧ w.cell? ⟨b, off + j * 7 + 1, none⟩ = some (.string os[j]!.key) ∧ w.cell? ⟨b, off + j * 7 + 2, none⟩ = some (.int .i64 os[j]!.kind) ∧ w.cell? ⟨b, off + j * 7 + 3, none⟩ = some (.string os[j]!.text) ∧
      w.cell? ⟨b, off + j * 7 + 4, none⟩ = some (.int .i64 os[j]!.n) ∧ w.cell? ⟨b, off + j * 7 + 5, none⟩ = some (.bool os[j]!.rem) ∧ w.cell? ⟨b, off + j * 7 + 6, none⟩ = some (.slice dp os[j]!.dots.length dc)) := by
  obtain ⟨rows, ⟨ad, cap, rfl, h1, h2, h3⟩, hf⟩ := h
  have hl := f2_len hf
  refine ⟨ad, cap, by rw [hl], h1, by omega, ?_⟩
  rcases h3 with rfl | ⟨b, off, rfl, h3⟩
  · exact .inl (List.eq_nil_of_length_eq_zero hl.symm)
  · refine .inr ⟨b, off, rfl, fun j hj => ?_⟩
    obtain ⟨r, hr, dv, rfl, hd⟩ := f2_get hf j os[j]! (by rw [getElem!_pos os j hj, List.getElem?_eq_getElem hj])
    obtain ⟨dp, dc, rfl⟩ := hd.len
    have hc := (h3 j _ hr).2
    exact ⟨dp, dc, hd, hc 0 _ rfl, hc 1 _ rfl, hc 2 _ rfl, hc 3 _ rfl, hc 4 _ rfl, hc 5 _ rfl, hc 6 _ rfl⟩
/-- The number of the error of op i of a commit of n places. -/
def opBad (n : Int) (os : List OpV) (i : Nat) : Nat :=
  if opErr os[i]! n ≠ 0 then opErr os[i]! n else if 0 < i ∧ os[i]!.at_ ≤ os[i - 1]!.at_ then 3 else 0
/-- The first i below m at which f is not 0: f's number and i; else 0. -/
def scan (f : Nat → Nat) (m : Nat) : Nat × Option Nat :=
  match (List.range m).find? (fun i => decide (f i ≠ 0)) with
  | some i => (f i, some i)
  | none => (0, none)
theorem scan_none {f : Nat → Nat} {m : Nat} (h : ∀ i, i < m → f i = 0) : scan f m = (0, none) := by
  unfold scan
  rw [List.find?_eq_none.2 fun i hi => by rw [h i (List.mem_range.1 hi)]; decide]
theorem scan_some {f : Nat → Nat} {m i : Nat} (hi : i < m) (h : ∀ j, j < i → f j = 0) (hf : f i ≠ 0) : scan f m = (f i, some i) := by
  have : (List.range m).find? (fun i => decide (f i ≠ 0)) = some i := by
    rw [List.find?_range_eq_some]
    exact ⟨by simpa using hf, by simpa using hi, fun j hj => by simpa using h j hj⟩
  unfold scan
  rw [this]
/-- The error of a commit: its number, and at which op. -/
def comErr (c : ComV) : Nat × Option Nat :=
  if chk c.when_ ≠ 0 then ((chk c.when_).toNat, none)
  else if c.place < 0 ∨ (c.when_.length : Int) ≤ c.place ∨ c.when_.getD c.place.toNat 0 = 0 ∨ 12 < c.ops.length then (2, none)
  else if c.ops = [] then (3, none)
  else scan (opBad c.when_.length c.ops) c.ops.length
/-- What v tells, in the world w: the error with this number, bare or at a place. -/
def ErrAt (A : Nat → Addr) (w : World) (v : Value) (e : Nat × Option Nat) : Prop :=
  match e.2 with
  | none => v = errV A e.1
  | some i => ∃ pb, v = .iface 106 (.pointer (some ⟨pb, 0, none⟩)) ∧ w.cell? ⟨pb, 0, none⟩ = some (.int .i64 i) ∧ w.cell? ⟨pb, 1, none⟩ = some (errV A e.1)
theorem ErrAt.bare {A : Nat → Addr} {w : World} {e : Nat × Option Nat} (k : Nat) (h : e = (k, none)) : ErrAt A w (errV A k) e := by subst h; exact rfl
theorem ErrAt.at {A : Nat → Addr} {w : World} {e : Nat × Option Nat} {i k : Nat} (pb : Nat) (h : e = (k, some i)) (c0 : w.cell? ⟨pb, 0, none⟩ = some (.int .i64 i)) (c1 : w.cell? ⟨pb, 1, none⟩ = some (errV A k)) : ErrAt A w (.iface 106 (.pointer (some ⟨pb, 0, none⟩))) e := by
  subst h; exact ⟨pb, rfl, c0, c1⟩
/-- An op is not too great. -/
def Small (o : OpV) : Prop := o.text.size ≤ 1000000 ∧ o.dots.length ≤ 1000000
/-- What CheckCommit hands back. -/
def ComRet (A : Nat → Addr) (w : World) (er : Nat × Option Nat) (e : Ending) (w' : World) : Prop := ∃ v, e = .returned v ∧ ErrAt A w' v er ∧ Below w.heap.size w w'
theorem ComRet.bare {A : Nat → Addr} {w w' : World} {er : Nat × Option Nat} (k : Nat) (h : er = (k, none)) (hb : Below w.heap.size w w') : ComRet A w er (.returned (errV A k)) w' := ⟨_, rfl, ErrAt.bare k h, hb⟩
theorem checkCommit_when (A : Nat → Addr) (w : World) (hE : E4 A w) (h4 : 12 ≤ w.heap.size) (a1 : Option Addr) (c1 : Nat) (zs : List Int) (pl : Int) (a2 : Option Addr) (m c2 : Nat)
    (hw : IntsAt w (.slice a1 zs.length c1) zs) (hl : zs.length ≤ 1000000) (hc : chk zs ≠ 0) :
    Calls Tryd.prog 43 #[.agg #[.slice a1 zs.length c1, .int .i64 pl, .slice a2 m c2]] w fun e w' => e = .returned (.iface 162 (.pointer (some (A ((chk zs).toNat - 1))))) ∧ Below w.heap.size w w' := by
  have K := fun o => check_bad A (w.alloc o) (hE.below (below_alloc _ _) h4) (.slice a1 zs.length c1) zs (hw.mono (below_alloc _ _) (Nat.le_refl _)) hl hc
  obtain ⟨n, hn⟩ : ∃ n, n = zs.length := ⟨_, rfl⟩
  rw [← hn] at K ⊢
  clear hn hw hl
  go_enter Tryd.func43, Tryd.ntmps43
  go_wp2_with (go_at_call 52; refine (K _).mono ?_; rintro e w' ⟨rfl, rfl⟩)
  go_ret
  exact ⟨rfl, below_alloc _ _⟩
set_option maxHeartbeats 2000000 in
theorem checkCommit_bound (A : Nat → Addr) (w : World) (hE : E4 A w) (h4 : 12 ≤ w.heap.size) (b1 o1 : Nat) (c1 : Nat) (zs : List Int) (pl : Int) (a2 : Option Addr) (m c2 : Nat)
    (hw : ∀ t, t < zs.length → w.cell? ⟨b1, o1 + t, none⟩ = some (.int .i64 (zs.getD t 0))) (hc : chk zs = 0) (hm : m ≤ 1000000)
    (h : pl < 0 ∨ (zs.length : Int) ≤ pl ∨ zs.getD pl.toNat 0 = 0 ∨ 12 < m) :
    Calls Tryd.prog 43 #[.agg #[.slice (some ⟨b1, o1, none⟩) zs.length c1, .int .i64 pl, .slice a2 m c2]] w fun e w' => e = .returned (errV A 2) ∧ Below w.heap.size w w' := by
  have hn6 := (chk_zero.1 hc).2.1
  have K := fun o => check_ok A (w.alloc o) (hE.below (below_alloc _ _) h4) (.slice (some ⟨b1, o1, none⟩) zs.length c1) zs (IntsAt.mono ⟨_, _, rfl, (fun h => by cases h), .inr ⟨b1, o1, rfl, hw⟩⟩ (below_alloc w o) (Nat.le_refl _)) hc
  have hW := hid hw
  have g0 := fun o => cell_alloc hE.bound o
  obtain ⟨n, hn⟩ : ∃ n, n = zs.length := ⟨_, rfl⟩
  rw [← hn] at K hW h hn6 ⊢
  clear hn hw hc hE
  by_cases p0 : pl < 0
  · go_enter Tryd.func43, Tryd.ntmps43
    go_wp2_with (go_at_call 52; refine (K _).mono ?_; rintro e w' ⟨rfl, rfl⟩)
    go_ret
    exact ⟨rfl, below_alloc _ _⟩
  · obtain ⟨p, rfl⟩ : ∃ p : Nat, pl = p := ⟨pl.toNat, by omega⟩
    by_cases p1 : (n : Int) ≤ p
    · go_enter Tryd.func43, Tryd.ntmps43
      go_wp2_with (go_at_call 52; refine (K _).mono ?_; rintro e w' ⟨rfl, rfl⟩)
      go_ret
      exact ⟨rfl, below_alloc _ _⟩
    · have cz := fun o => cell_alloc (hW.out p (by omega)) o
      obtain ⟨z, hz⟩ : ∃ z, z = zs.getD p 0 := ⟨_, rfl⟩
      rw [← hz] at cz
      have HZ := hid hz
      clear hz
      have hlt : p < n := by omega
      by_cases z0 : z = 0
      · rw [z0] at cz
        clear h
        go_enter Tryd.func43, Tryd.ntmps43
        go_wp2_with (go_at_call 52; refine (K _).mono ?_; rintro e w' ⟨rfl, rfl⟩)
        go_ret
        exact ⟨rfl, below_alloc _ _⟩
      · have bz : (z == 0) = false := by simpa using z0
        have m12 : 12 < (m : Int) := by
          rcases h with h | h | h | h
          · omega
          · omega
          · rw [Int.toNat_natCast, ← HZ.out] at h; omega
          · omega
        clear h
        go_enter Tryd.func43, Tryd.ntmps43
        go_wp2_with (go_at_call 52; refine (K _).mono ?_; rintro e w' ⟨rfl, rfl⟩)
        go_ret
        exact ⟨rfl, below_alloc _ _⟩
set_option maxHeartbeats 2000000 in
theorem checkCommit_empty (A : Nat → Addr) (w : World) (hE : E4 A w) (h4 : 12 ≤ w.heap.size) (b1 o1 : Nat) (c1 : Nat) (zs : List Int) (p : Nat) (a2 : Option Addr) (c2 : Nat)
    (hw : ∀ t, t < zs.length → w.cell? ⟨b1, o1 + t, none⟩ = some (.int .i64 (zs.getD t 0))) (hc : chk zs = 0) (hp : p < zs.length) (hz : zs.getD p 0 ≠ 0) :
    Calls Tryd.prog 43 #[.agg #[.slice (some ⟨b1, o1, none⟩) zs.length c1, .int .i64 p, .slice a2 0 c2]] w fun e w' => e = .returned (errV A 3) ∧ Below w.heap.size w w' := by
  have hn6 := (chk_zero.1 hc).2.1
  have K := fun o => check_ok A (w.alloc o) (hE.below (below_alloc _ _) h4) (.slice (some ⟨b1, o1, none⟩) zs.length c1) zs (IntsAt.mono ⟨_, _, rfl, (fun h => by cases h), .inr ⟨b1, o1, rfl, hw⟩⟩ (below_alloc w o) (Nat.le_refl _)) hc
  have g0 := fun o => cell_alloc hE.shape o
  have cz := fun o => cell_alloc (hw p hp) o
  obtain ⟨z, hzz⟩ : ∃ z, z = zs.getD p 0 := ⟨_, rfl⟩
  rw [← hzz] at cz hz
  have bz : (z == 0) = false := by simpa using hz
  obtain ⟨n, hn⟩ : ∃ n, n = zs.length := ⟨_, rfl⟩
  rw [← hn] at K hp hn6 ⊢
  have p1 : ¬ (n : Int) ≤ p := by omega
  clear hn hw hc hE hzz hz
  go_enter Tryd.func43, Tryd.ntmps43
  go_wp2_with (go_at_call 52; refine (K _).mono ?_; rintro e w' ⟨rfl, rfl⟩)
  go_ret
  exact ⟨rfl, below_alloc _ _⟩
set_option maxHeartbeats 4000000 in
theorem checkCommit_ops (A : Nat → Addr) (w : World) (hE : E4 A w) (h4 : 12 ≤ w.heap.size) (b1 o1 : Nat) (c1 : Nat) (zs : List Int) (p : Nat) (b2 o2 m c2 : Nat) (os : List OpV)
    (hw : ∀ t, t < zs.length → w.cell? ⟨b1, o1 + t, none⟩ = some (.int .i64 (zs.getD t 0))) (hc : chk zs = 0) (hp : p < zs.length) (hz : zs.getD p 0 ≠ 0) (hm : os.length = m) (h0 : 0 < m) (h12 : m ≤ 12) (hsm : ∀ o ∈ os, Small o)
    (ho : ∀ j, j < m → ∃ dp dc, DotsAt w (.slice dp os[j]!.dots.length dc) os[j]!.dots ∧
      w.cell? ⟨b2, o2 + j * 7, none⟩ = some (.int .i64 os[j]!.at_) ∧ w.cell? ⟨b2, o2 + j * 7 + 1, none⟩ = some (.string os[j]!.key) ∧ w.cell? ⟨b2, o2 + j * 7 + 2, none⟩ = some (.int .i64 os[j]!.kind) ∧ w.cell? ⟨b2, o2 + j * 7 + 3, none⟩ = some (.string os[j]!.text) ∧
      w.cell? ⟨b2, o2 + j * 7 + 4, none⟩ = some (.int .i64 os[j]!.n) ∧ w.cell? ⟨b2, o2 + j * 7 + 5, none⟩ = some (.bool os[j]!.rem) ∧ w.cell? ⟨b2, o2 + j * 7 + 6, none⟩ = some (.slice dp os[j]!.dots.length dc)) :
    Calls Tryd.prog 43 #[.agg #[.slice (some ⟨b1, o1, none⟩) zs.length c1, .int .i64 p, .slice (some ⟨b2, o2, none⟩) m c2]] w fun e w' => ComRet A w (scan (opBad zs.length os) m) e w' := by
  have hn6 := (chk_zero.1 hc).2.1
  have K := fun o => check_ok A (w.alloc o) (hE.below (below_alloc _ _) h4) (.slice (some ⟨b1, o1, none⟩) zs.length c1) zs (IntsAt.mono ⟨_, _, rfl, (fun h => by cases h), .inr ⟨b1, o1, rfl, hw⟩⟩ (below_alloc w o) (Nat.le_refl _)) hc
  have cz := fun o => cell_alloc (hw p hp) o
  obtain ⟨z, hzz⟩ : ∃ z, z = zs.getD p 0 := ⟨_, rfl⟩
  rw [← hzz] at cz hz
  have bz : (z == 0) = false := by simpa using hz
  obtain ⟨n, hn⟩ : ∃ n, n = zs.length := ⟨_, rfl⟩
  rw [← hn] at K hp hn6 ⊢
  have p1 : ¬ (n : Int) ≤ p := by omega
  have m12 : ¬ 12 < (m : Int) := by omega
  have m0 : ((m : Int) == 0) = false := by rw [beq_eq_false_iff_ne]; omega
  have HO := hid ho
  have HE := hid hE
  have HM := hid hm
  have HS := hid hsm
  clear hn hw hc hE hzz hz ho hm hsm
  obtain ⟨w1, hw1⟩ : ∃ w1, w1 = w.alloc (.cells #[.slice (some ⟨b1, o1, none⟩) n c1, .int .i64 p, .slice (some ⟨b2, o2, none⟩) m c2] 35) := ⟨_, rfl⟩
  have B1 : Hid (Below w.heap.size w w1) := by rw [hw1]; exact below_alloc _ _
  have S1 : Hid (w1.heap.size = w.heap.size + 1) := hid (by rw [hw1]; simp)
  have C0 : Hid (w1.cell? ⟨w.heap.size, 0, none⟩ = some (.slice (some ⟨b1, o1, none⟩) n c1)) := hid (by rw [hw1]; simp)
  have C2 : Hid (w1.cell? ⟨w.heap.size, 2, none⟩ = some (.slice (some ⟨b2, o2, none⟩) m c2)) := hid (by rw [hw1]; simp)
  have HW1 := hid hw1
  clear hw1
  go_enter Tryd.func43, Tryd.ntmps43
  go_wp2_with (go_at_call 52; refine (K _).mono ?_; rintro e w' ⟨rfl, rfl⟩)
  go_loopw [48] (fun i wr => ∃ k : Nat, k ≤ m ∧ i = .int .i64 k ∧ Hid (Below (w.heap.size + 1) w1 wr) ∧ Hid (∀ t, t < k → opBad n os t = 0)) (fun i _ => m - (intOf i).toNat)
  case atStart => exact ⟨0, Nat.zero_le _, rfl, (by rw [HW1.out]; exact Below.refl _ _), fun t ht => absurd ht (Nat.not_lt_zero _)⟩
  case round =>
    obtain ⟨k, hk, rfl, HB, HI⟩ := hrel
    clear K cz
    have hB := HB.out
    have hs1 := S1.out
    have hsz : w.heap.size + 1 ≤ wr.heap.size := by have := hB.size; omega
    have wB : Hid (Below w.heap.size w wr) := B1.out.trans (hB.mono (by omega))
    have e0 : wr.cell? ⟨w.heap.size, 0, none⟩ = some (.slice (some ⟨b1, o1, none⟩) n c1) := by rw [hB.cell (p := ⟨w.heap.size, 0, none⟩) (by simp)]; exact C0.out
    have e2 : wr.cell? ⟨w.heap.size, 2, none⟩ = some (.slice (some ⟨b2, o2, none⟩) m c2) := by rw [hB.cell (p := ⟨w.heap.size, 2, none⟩) (by simp)]; exact C2.out
    have e0' := fun o => cell_alloc e0 o
    clear hB
    by_cases hlt : k < m
    · obtain ⟨dp, dc, hd, q0, q1, q2, q3, q4, q5, q6⟩ := HO.out k hlt
      have up : ∀ {a : Addr} {v : Value}, w.cell? a = some v → wr.cell? a = some v := fun {a v} h => by rw [wB.out.cell (lt_of_cell h)]; exact h
      have r0 := up q0
      have r1 := up q1
      have r2 := up q2
      have r3 := up q3
      have r4 := up q4
      have r5 := up q5
      have r6 := up q6
      have hSm : Small os[k]! := HS.out _ (by rw [getElem!_pos os k (by have := HM.out; omega)]; exact List.getElem_mem _)
      obtain ⟨x, hx⟩ : ∃ x, x = os[k]! := ⟨_, rfl⟩
      rw [← hx] at r0 r1 r2 r3 r4 r5 r6 hd hSm
      have HX := hid hx
      obtain ⟨er, her⟩ : ∃ er, er = opErr x n := ⟨_, rfl⟩
      have HER := hid her
      obtain ⟨x1, x2, x3, x4, x5, x6, ds⟩ := x
      have KC := fun o => check_op A (wr.alloc o) ((HE.out.below wB.out h4).below (below_alloc wr o) (by omega)) (by simp; omega) x1 x2 x3 x4 x5 x6 dp dc ds n ((hd.mono wB.out (Nat.le_refl _)).mono (below_alloc wr o) (Nat.le_refl _)) hSm.2 hSm.1
      rw [← her] at KC
      clear q0 q1 q2 q3 q4 q5 q6 hx her hd hSm
      simp only at r0 r1 r2 r3 r4 r5 r6
      cases er with
      | succ er =>
        have hbad : opBad n os k = er + 1 := by
          unfold opBad
          rw [← HX.out, ← HER.out, if_pos (by omega)]
        have hsc := hid (scan_some (f := opBad n os) hlt HI.out (by omega))
        rw [hbad] at hsc
        rw [show errV A (er + 1) = .iface 162 (.pointer (some (A er))) from rfl] at KC
        go_wp2_with (go_at_call 53; refine (KC _).mono ?_; rintro e w' ⟨rfl, hw⟩)
        go_ret
        refine ⟨_, rfl, ErrAt.at (k := er + 1) (i := k) w'.heap.size hsc.out (by simp) (by simp [errV]), ?_⟩
        exact (wB.out.trans ((below_alloc _ _).mono (by have := wB.out.size; omega))).trans ((hw.mono (by simp; have := wB.out.size; omega)).alloc (by have := hw.size; simp at this; have := wB.out.size; omega) _)
      | zero =>
        rw [show errV A 0 = .nilIface from rfl] at KC
        obtain ⟨BX, hBX⟩ : ∃ BX, BX = Obj.cells #[.int .i64 x1, .string x2, .int .i64 x3, .string x4, .int .i64 x5, .bool x6, .slice dp ds.length dc] 24 := ⟨_, rfl⟩
        go_wp2_with (go_at_call 53; refine (KC _).mono ?_; rintro e w' ⟨rfl, hw⟩)
        have hw2 : Below (w.heap.size + 1) w1 w' := (HB.out.alloc hsz _).trans (hw.mono (by simp; omega))
        have f0 : w'.cell? ⟨wr.heap.size, 0, none⟩ = some (.int .i64 x1) := by rw [hw.cell (p := ⟨wr.heap.size, 0, none⟩) (by simp)]; simp
        have f2 : w'.cell? ⟨w.heap.size, 2, none⟩ = some (.slice (some ⟨b2, o2, none⟩) m c2) := by rw [hw2.cell (p := ⟨w.heap.size, 2, none⟩) (by simp)]; exact C2.out
        have hwB : Hid (Below w.heap.size w w') := B1.out.trans (hw2.mono (by omega))
        have hw2' := hid hw2
        have hwH := hid hw
        clear hw hw2 KC
        have hsz' : w.heap.size + 1 ≤ w'.heap.size := by have := hw2'.out.size; omega
        rcases Nat.eq_zero_or_pos k with rfl | hk0
        · have hz0 : ¬ (0 : Int) < ((0 : Nat) : Int) := by omega
          go_quiet (fail)
          go_wp2
          refine ⟨⟨_, _, _, _, _, ⟨1, by omega, rfl, below_draws hw2'.out _, ?_⟩, rfl, rfl, rfl, rfl, by go_num⟩, by simp [intOf]; omega⟩
          intro t ht
          obtain rfl : t = 0 := by omega
          unfold opBad
          rw [← HX.out, ← HER.out, if_neg (by decide), if_neg (by omega)]
        · obtain ⟨j, rfl⟩ : ∃ j, k = j + 1 := ⟨k - 1, by omega⟩
          obtain ⟨_, _, _, q0, _⟩ := HO.out j (by omega)
          have g0 : w'.cell? ⟨b2, o2 + j * 7, none⟩ = some (.int .i64 os[j]!.at_) := by rw [hwB.out.cell (lt_of_cell q0)]; exact q0
          clear q0
          obtain ⟨y, hy⟩ : ∃ y, y = os[j]!.at_ := ⟨_, rfl⟩
          rw [← hy] at g0
          have HY := hid hy
          clear hy
          have hp0 : (0 : Int) < ((j + 1 : Nat) : Int) := by omega
          have hj1 : ((j + 1 : Nat) : Int) - 1 = (j : Int) := by omega
          have hjm : j < m := by omega
          by_cases hle : x1 ≤ y
          · have hbad : opBad n os (j + 1) = 3 := by
              unfold opBad
              rw [← HX.out, ← HER.out, if_neg (by decide), if_pos ⟨by omega, by rw [Nat.add_sub_cancel, ← HY.out]; exact hle⟩]
            have hsc := hid (scan_some (f := opBad n os) hlt HI.out (by omega))
            rw [hbad] at hsc
            have g3 : w'.cell? ⟨1, 0, none⟩ = some (.iface 162 (.pointer (some (A 2)))) := (HE.out.below hwB.out h4).shape
            go_quiet (fail)
            go_wp2
            go_ret
            refine ⟨_, rfl, ErrAt.at (k := 3) (i := j + 1) w'.heap.size hsc.out ((World.cell?_alloc_at _ _ _ _ rfl).trans (by simp)) ((World.cell?_alloc_at _ _ _ _ rfl).trans rfl), ?_⟩
            exact (below_draws hwB.out _).alloc (by simp; omega) _
          · go_quiet (fail)
            go_wp2
            refine ⟨⟨_, _, _, _, _, ⟨j + 1 + 1, by omega, rfl, below_draws hw2'.out _, ?_⟩, rfl, rfl, rfl, rfl, by go_num⟩, by simp [intOf]; omega⟩
            intro t ht
            rcases Nat.lt_succ_iff_lt_or_eq.1 ht with h | rfl
            · exact HI.out t h
            · unfold opBad
              rw [← HX.out, ← HER.out, if_neg (by decide), if_neg (fun h => by have h2 := h.2; rw [Nat.add_sub_cancel, ← HY.out] at h2; have h3 : x1 ≤ y := h2; omega)]
    · obtain rfl : k = m := by omega
      go_wp2
      go_ret
      exact ComRet.bare 0 (scan_none HI.out) wB.out
/-- CheckCommit, at any commit. -/
theorem checkCommit (A : Nat → Addr) (w : World) (hE : E4 A w) (h4 : 12 ≤ w.heap.size) (c : ComV) (wv ov : Value) (hw : IntsAt w wv c.when_) (ho : OpsAt w ov c.ops) (hl : c.when_.length ≤ 1000000) (hm : c.ops.length ≤ 1000000) (hsm : ∀ o ∈ c.ops, Small o) :
    Calls Tryd.prog 43 #[.agg #[wv, .int .i64 c.place, ov]] w fun e w' => ComRet A w (comErr c) e w' := by
  obtain ⟨a2, c2, rfl, hn2, hc2, ho'⟩ := ho.shape
  have hw0 := hw
  obtain ⟨a1, c1, rfl, hn1, hw⟩ := hw
  unfold comErr
  by_cases hc : chk c.when_ = 0
  · rw [if_neg (by simpa using hc)]
    rcases hw with h | ⟨b1, o1, rfl, hw⟩
    · have := (chk_zero.1 hc).1
      rw [h] at this
      simp at this
    · by_cases hb : c.place < 0 ∨ (c.when_.length : Int) ≤ c.place ∨ c.when_.getD c.place.toNat 0 = 0 ∨ 12 < c.ops.length
      · rw [if_pos hb]
        refine (checkCommit_bound A w hE h4 b1 o1 c1 c.when_ c.place a2 c.ops.length c2 hw hc hm hb).mono ?_
        rintro e w' ⟨rfl, h⟩
        exact ComRet.bare 2 rfl h
      · rw [if_neg hb]
        obtain ⟨p, hp⟩ : ∃ p : Nat, c.place = p := ⟨c.place.toNat, by omega⟩
        rw [hp] at hb ⊢
        rw [Int.toNat_natCast] at hb
        by_cases h0 : c.ops = []
        · rw [if_pos h0, h0]
          refine (checkCommit_empty A w hE h4 b1 o1 c1 c.when_ p a2 c2 hw hc (by omega) (by omega)).mono ?_
          rintro e w' ⟨rfl, h⟩
          exact ComRet.bare 3 rfl h
        · rw [if_neg h0]
          rcases ho' with h | ⟨b2, o2, rfl, ho'⟩
          · exact absurd h h0
          · exact checkCommit_ops A w hE h4 b1 o1 c1 c.when_ p b2 o2 c.ops.length c2 c.ops hw hc (by omega) (by omega) rfl (List.length_pos_iff.2 h0) (by omega) hsm ho'
  · rw [if_pos hc]
    refine (checkCommit_when A w hE h4 a1 c1 c.when_ c.place a2 c.ops.length c2 hw0 hl hc).mono ?_
    rintro e w' ⟨rfl, h⟩
    have hk : ∃ k, (chk c.when_).toNat = k + 1 := by
      rcases chk_cases c.when_ with h | h | h
      · exact absurd h hc
      · exact ⟨1, by rw [h]; rfl⟩
      · exact ⟨2, by rw [h]; rfl⟩
    obtain ⟨k, hk⟩ := hk
    rw [hk]
    exact ComRet.bare (k + 1) rfl h
theorem opErr_le (o : OpV) (n : Int) : opErr o n ≤ 12 := by
  unfold opErr
  repeat' split
  all_goals omega
theorem opBad_le (n : Int) (os : List OpV) (i : Nat) : opBad n os i ≤ 12 := by
  unfold opBad
  have := opErr_le os[i]! n
  repeat' split
  all_goals omega
theorem scan_le {f : Nat → Nat} {m : Nat} (h : ∀ i, f i ≤ 12) : (scan f m).1 ≤ 12 := by
  unfold scan
  split
  · exact h _
  · simp
theorem comErr_le (c : ComV) : (comErr c).1 ≤ 12 := by
  unfold comErr
  split
  · rcases chk_cases c.when_ with h | h | h <;> rw [h] <;> decide
  · split
    · decide
    · split
      · decide
      · exact scan_le (opBad_le _ _)
end Go.Proofs.YtcojglkjbbgoaaaDoor.V
namespace Go.Proofs.YtcojglkjbbgoaaaDoor.V
open Go.RowKit Go.Sort
set_option maxRecDepth 100000
set_option linter.unusedSectionVars false
variable [Inhabited D3] [Inhabited OpV]

theorem vectorError_shape (w : World) (ad : Option Addr) (n c : Nat) (h : n < 1 ∨ 6 < n) (hn : n ≤ 1000000) :
    Calls Tryd.prog 54 #[.slice ad n c] w fun e w' => e = .returned (.int .i64 3) ∧ w' = w := by
  rcases h with h | h
  · obtain rfl : n = 0 := by omega
    go_enter Tryd.func54, Tryd.ntmps54
    go_wp2
    go_ret
    exact ⟨rfl, rfl⟩
  · have h1 : ¬ n < 1 := by omega
    go_enter Tryd.func54, Tryd.ntmps54
    go_wp2
    go_ret
    exact ⟨rfl, rfl⟩
set_option maxHeartbeats 1000000 in
theorem vectorError_n (w : World) (b o n c : Nat) (zs : List Int) (hz : zs.length = n) (h1 : 1 ≤ n) (h6 : n ≤ 6)
    (hc : ∀ t, t < n → w.cell? ⟨b, o + t, none⟩ = some (.int .i64 (zs.getD t 0))) :
    Calls Tryd.prog 54 #[.slice (some ⟨b, o, none⟩) n c] w fun e w' => e = .returned (.int .i64 (chk zs)) ∧ w' = w := by
  have HZ : Hid (zs.length = n) := hz
  have HC : Hid (∀ t, t < n → w.cell? ⟨b, o + t, none⟩ = some (.int .i64 (zs.getD t 0))) := hc
  clear hz hc
  go_enter Tryd.func54, Tryd.ntmps54
  go_wp2
  go_loop [3] (fun i => ∃ k : Nat, k ≤ n ∧ i = .int .i64 k ∧ ∀ t, t < k → 0 ≤ zs.getD t 0 ∧ zs.getD t 0 ≤ 1099511627776) (fun i => n - (intOf i).toNat)
  case atStart => exact ⟨0, Nat.zero_le _, rfl, fun t ht => absurd ht (Nat.not_lt_zero _)⟩
  case round =>
    obtain ⟨k, hk, rfl, hin⟩ := hrel
    have HI : Hid (∀ t, t < k → 0 ≤ zs.getD t 0 ∧ zs.getD t 0 ≤ 1099511627776) := hin
    clear hin
    by_cases hlt : k < n
    · have e1 := HC.out k hlt
      obtain ⟨z, hzz⟩ : ∃ z, z = zs.getD k 0 := ⟨_, rfl⟩
      rw [← hzz] at e1
      have HZZ : Hid (z = zs.getD k 0) := hzz
      clear hzz
      by_cases ha : z < 0
      · go_wp2
        go_ret
        exact ⟨ret_int (chk_bad (t := k) (by have := HZ.out; omega) (by have := HZ.out; omega) (by have := HZ.out; omega) (by rw [← HZZ.out]; omega)).symm, rfl⟩
      · by_cases hb : 1099511627776 < z
        · go_wp2
          go_ret
          exact ⟨ret_int (chk_bad (t := k) (by have := HZ.out; omega) (by have := HZ.out; omega) (by have := HZ.out; omega) (by rw [← HZZ.out]; omega)).symm, rfl⟩
        · go_wp2
          go_round
          case rel =>
            refine ⟨k + 1, by omega, by go_num, fun t ht => ?_⟩
            rcases Nat.lt_succ_iff_lt_or_eq.1 ht with h | rfl
            · exact HI.out t h
            · rw [← HZZ.out]; omega
          case measure => simp [intOf]; omega
    · obtain rfl : k = n := by omega
      go_wp2
      go_ret
      exact ⟨ret_int (chk_zero.2 ⟨by have := HZ.out; omega, by have := HZ.out; omega, fun t ht => HI.out t (by have := HZ.out; omega)⟩).symm, rfl⟩
theorem vectorError (w : World) (v : Value) (zs : List Int) (h : IntsAt w v zs) (hl : zs.length ≤ 1000000) :
    Calls Tryd.prog 54 #[v] w fun e w' => e = .returned (.int .i64 (chk zs)) ∧ w' = w := by
  obtain ⟨ad, c, rfl, _, h⟩ := h
  by_cases hs : zs.length < 1 ∨ 6 < zs.length
  · rw [chk_shape hs]
    exact vectorError_shape w ad _ c hs hl
  · rcases h with rfl | ⟨b, o, rfl, h⟩
    · exact absurd (.inl (by decide)) hs
    · exact vectorError_n w b o zs.length c zs rfl (by omega) (by omega) h
set_option maxHeartbeats 1000000 in
theorem rIsName (w : World) (s : ByteArray) : Calls Tryd.prog 75 #[.string s] w fun e w' => e = .returned (.bool (nameB s)) ∧ w' = w := by
  by_cases h1 : s.size < 1
  · have e1 : (s.size : Int) < 1 := by omega
    go_enter Tryd.func75, Tryd.ntmps75
    go_wp2
    go_ret
    exact ⟨ret_bool (nameB_false (.inl h1)).symm, rfl⟩
  · have e1 : ¬ (s.size : Int) < 1 := by omega
    by_cases h2 : 16 < s.size
    · have e2 : 16 < (s.size : Int) := by omega
      go_enter Tryd.func75, Tryd.ntmps75
      go_wp2
      go_ret
      exact ⟨ret_bool (nameB_false (.inr h2)).symm, rfl⟩
    · have e2 : ¬ 16 < (s.size : Int) := by omega
      go_enter Tryd.func75, Tryd.ntmps75
      go_wp2
      go_loop [3] (fun i => ∃ k : Nat, k ≤ s.size ∧ i = .int .i64 k ∧ ∀ t (ht : t < s.size), t < k → letterB s[t] = true) (fun i => s.size - (intOf i).toNat)
      case atStart => exact ⟨0, Nat.zero_le _, rfl, fun t _ ht => absurd ht (Nat.not_lt_zero _)⟩
      case round =>
        obtain ⟨k, hk, rfl, hin⟩ := hrel
        have HI := hid hin
        clear hin
        by_cases hlt : k < s.size
        · by_cases hb : letterB s[k] = true
          · have hb' := hb
            simp only [letterB, decide_eq_true_eq] at hb'
            have HB := hid hb
            clear hb
            by_cases a1 : 97 ≤ (s[k].toNat : Int)
            · have a2 : (s[k].toNat : Int) ≤ 122 := by omega
              clear hb'
              go_wp2
              go_round
              case rel => exact ⟨k + 1, by omega, by go_num, fun t ht h => by rcases Nat.lt_succ_iff_lt_or_eq.1 h with h | rfl; exact HI.out t ht h; exact HB.out⟩
              case measure => simp [intOf]; omega
            · by_cases a3 : 48 ≤ (s[k].toNat : Int)
              · have a4 : (s[k].toNat : Int) ≤ 57 := by omega
                clear hb'
                go_wp2
                go_round
                case rel => exact ⟨k + 1, by omega, by go_num, fun t ht h => by rcases Nat.lt_succ_iff_lt_or_eq.1 h with h | rfl; exact HI.out t ht h; exact HB.out⟩
                case measure => simp [intOf]; omega
              · have a5 : (s[k].toNat : Int) = 45 := by omega
                have a6 : ((s[k].toNat : Int) == 45) = true := by rw [a5]; rfl
                clear hb' a5
                go_wp2
                go_round
                case rel => exact ⟨k + 1, by omega, by go_num, fun t ht h => by rcases Nat.lt_succ_iff_lt_or_eq.1 h with h | rfl; exact HI.out t ht h; exact HB.out⟩
                case measure => simp [intOf]; omega
          · have hf : letterB s[k] = false := by simpa using hb
            have hb' := hf
            simp only [letterB, decide_eq_false_iff_not] at hb'
            have a6 : ((s[k].toNat : Int) == 45) = false := by simp; omega
            have HF := hid (letters_bad hlt hf)
            have HN := hid hb'
            clear hf hb hb'
            by_cases a1 : 97 ≤ (s[k].toNat : Int)
            · have a2 : ¬ (s[k].toNat : Int) ≤ 122 := by have := HN.out; omega
              have a3 : 48 ≤ (s[k].toNat : Int) := by omega
              have a4 : ¬ (s[k].toNat : Int) ≤ 57 := by omega
              go_wp2
              go_ret
              exact ⟨ret_bool HF.out.symm, rfl⟩
            · by_cases a3 : 48 ≤ (s[k].toNat : Int)
              · have a4 : ¬ (s[k].toNat : Int) ≤ 57 := by have := HN.out; omega
                go_wp2
                go_ret
                exact ⟨ret_bool HF.out.symm, rfl⟩
              · go_wp2
                go_ret
                exact ⟨ret_bool HF.out.symm, rfl⟩
        · obtain rfl : k = s.size := by omega
          go_wp2
          go_ret
          exact ⟨ret_bool (letters_ok (by omega) (by omega) fun t ht => HI.out t ht ht).symm, rfl⟩
theorem dots_cells {w : World} {p : Option Addr} {c : Nat} {ds : List D3} (h : DotsAt w (.slice p ds.length c) ds) {k : Nat} (hk : k < ds.length) : ∃ b off, p = some ⟨b, off, none⟩ ∧ w.cell? ⟨b, off + k * 3, none⟩ = some (.int .i64 ds[k]!.p) ∧ w.cell? ⟨b, off + k * 3 + 1, none⟩ = some (.int .i64 ds[k]!.t) ∧ w.cell? ⟨b, off + k * 3 + 2, none⟩ = some (.int .i64 ds[k]!.a) := by
  obtain ⟨ad, cap, he, _, _, h⟩ := h
  injection he with e1 _ _
  subst e1
  rcases h with h | ⟨b, off, rfl, h⟩
  · have : ds = [] := by simpa using h
    rw [this] at hk
    simp at hk
  · have hr := h k ds[k]!.cells (by rw [List.getElem?_map, List.getElem?_eq_getElem hk, getElem!_pos ds k hk]; rfl)
    exact ⟨b, off, rfl, hr.2 0 _ rfl, hr.2 1 _ rfl, hr.2 2 _ rfl⟩
theorem dot_true {n : Int} {d : D3} (h : dotB n d = true) : 0 ≤ d.p ∧ d.p < n ∧ 1 ≤ d.t ∧ d.t ≤ 1099511627776 ∧ 0 ≤ d.a ∧ d.a < 12 := by
  simp only [dotB, Bool.and_eq_true, decide_eq_true_eq] at h
  omega
theorem dot_false {n : Int} {d : D3} (h : dotB n d = false) : ¬ (0 ≤ d.p ∧ d.p < n ∧ 1 ≤ d.t ∧ d.t ≤ 1099511627776 ∧ 0 ≤ d.a ∧ d.a < 12) := fun e => by
  have : dotB n d = true := by simp only [dotB, Bool.and_eq_true, decide_eq_true_eq]; omega
  rw [this] at h
  cases h
set_option maxHeartbeats 4000000 in
theorem rOpError (w : World) (x1 : Int) (x2 : ByteArray) (x3 : Int) (x4 : ByteArray) (x5 : Int) (x6 : Bool) (xp : Option Addr) (xc : Nat) (ds : List D3) (n : Int)
    (hd : DotsAt w (.slice xp ds.length xc) ds) (hl : ds.length ≤ 1000000) (ht : x4.size ≤ 1000000) :
    Calls Tryd.prog 55 #[.agg #[.int .i64 x1, .string x2, .int .i64 x3, .string x4, .int .i64 x5, .bool x6, .slice xp ds.length xc], .int .i64 n] w
    fun e w' => e = .returned (.int .i64 ((opErr ⟨x1, x2, x3, x4, x5, x6, ds⟩ n : Nat) : Int)) ∧ Below w.heap.size w w' := by
  have K22 := fun W => rIsName W x2
  obtain ⟨er, her⟩ : ∃ er, er = opErr ⟨x1, x2, x3, x4, x5, x6, ds⟩ n := ⟨_, rfl⟩
  have her' := her
  unfold opErr at her'
  simp only at her'
  rw [← her]
  have hall : Hid ((∀ t, t < ds.length → dotB n ds[t]! = true) → ds.all (dotB n) = true) := fun h => List.all_eq_true.2 fun d hd => by
    obtain ⟨i, hi, rfl⟩ := List.getElem_of_mem hd
    have := h i hi
    rwa [getElem!_pos ds i hi] at this
  have hone : Hid (∀ t, t < ds.length → dotB n ds[t]! = false → ds.all (dotB n) = false) := fun t ht hf => List.all_eq_false.2 ⟨ds[t], List.getElem_mem ht, by rw [getElem!_pos ds t ht] at hf; rw [hf]; decide⟩
  obtain ⟨m, hm⟩ : ∃ m, m = ds.length := ⟨_, rfl⟩
  have HD := hid hd
  rw [← hm] at her' hl HD hall hone ⊢
  obtain ⟨fb, hfb⟩ : ∃ fb, fb = foreignB ⟨x1, x2, x3, x4, x5, x6, ds⟩ := ⟨_, rfl⟩
  rw [← hfb] at her'
  unfold foreignB at hfb
  simp only at hfb
  rw [← hm] at hfb
  obtain ⟨nb, hnb⟩ : ∃ nb, nb = nameB x2 := ⟨_, rfl⟩
  rw [← hnb] at K22 her'
  have HER := hid her'
  have HFB := hid hfb
  have HM := hid hm
  clear her' her hm hfb hnb hd
  by_cases n1 : n < 1
  · have hr : er = 2 := by rw [HER.out, if_pos (.inl n1)]
    subst hr
    go_enter Tryd.func55, Tryd.ntmps55
    go_wp2
    go_ret
    exact ⟨rfl, below_alloc _ _⟩
  by_cases n6 : 6 < n
  · have hr : er = 2 := by rw [HER.out, if_pos (.inr (.inl n6))]
    subst hr
    go_enter Tryd.func55, Tryd.ntmps55
    go_wp2
    go_ret
    exact ⟨rfl, below_alloc _ _⟩
  by_cases a1 : x1 < 0
  · have hr : er = 2 := by rw [HER.out, if_pos (.inr (.inr (.inl a1)))]
    subst hr
    go_enter Tryd.func55, Tryd.ntmps55
    go_wp2
    go_ret
    exact ⟨rfl, below_alloc _ _⟩
  by_cases a2 : 12 ≤ x1
  · have hr : er = 2 := by rw [HER.out, if_pos (.inr (.inr (.inr a2)))]
    subst hr
    go_enter Tryd.func55, Tryd.ntmps55
    go_wp2
    go_ret
    exact ⟨rfl, below_alloc _ _⟩
  have H1 := HER.out
  rw [if_neg (by omega)] at H1
  cases nb with
  | false =>
    have hr : er = 4 := by rw [H1, if_pos rfl]
    clear H1
    subst hr
    go_enter Tryd.func55, Tryd.ntmps55
    go_wp2_with (go_at_call 75; refine (K22 _).mono ?_; rintro e w' ⟨rfl, rfl⟩)
    go_ret
    exact ⟨rfl, below_alloc _ _⟩
  | true =>
    rw [if_neg (by decide)] at H1
    by_cases hk : kindB x3 = false
    · have hr : er = 12 := by rw [H1, if_pos hk]
      clear H1
      subst hr
      have k1 : (x3 == 1) = false := by rw [beq_eq_false_iff_ne]; rintro rfl; exact absurd hk (by decide)
      have k2 : (x3 == 2) = false := by rw [beq_eq_false_iff_ne]; rintro rfl; exact absurd hk (by decide)
      have k3 : (x3 == 3) = false := by rw [beq_eq_false_iff_ne]; rintro rfl; exact absurd hk (by decide)
      clear hk
      go_enter Tryd.func55, Tryd.ntmps55
      go_wp2_with (go_at_call 75; refine (K22 _).mono ?_; rintro e w' ⟨rfl, rfl⟩)
      go_ret
      exact ⟨rfl, below_alloc _ _⟩
    rw [if_neg hk] at H1
    have hk' : x3 = 1 ∨ x3 = 2 ∨ x3 = 3 := by
      have : kindB x3 = true := by simpa using hk
      simpa [kindB] using this
    have HX := hid H1
    clear H1 hk
    cases fb with
    | true =>
      have hr : er = 3 := by rw [HX.out, if_pos rfl]
      subst hr
      rcases hk' with rfl | rfl | rfl
      · have hq := HFB.out
        rw [if_pos rfl] at hq
        by_cases z5 : x5 = 0
        · subst z5
          cases x6 with
          | true =>
            clear hq
            go_enter Tryd.func55, Tryd.ntmps55
            go_wp2_with (go_at_call 75; refine (K22 _).mono ?_; rintro e w' ⟨rfl, rfl⟩)
            go_ret
            exact ⟨rfl, below_alloc _ _⟩
          | false =>
            have hm0 : 0 < m := by simpa using hq.symm
            have hm0' : (0 : Int) < (m : Int) := by omega
            clear hq
            go_enter Tryd.func55, Tryd.ntmps55
            go_wp2_with (go_at_call 75; refine (K22 _).mono ?_; rintro e w' ⟨rfl, rfl⟩)
            go_ret
            exact ⟨rfl, below_alloc _ _⟩
        · have z5' : (x5 != 0) = true := by simpa using z5
          clear hq
          go_enter Tryd.func55, Tryd.ntmps55
          go_wp2_with (go_at_call 75; refine (K22 _).mono ?_; rintro e w' ⟨rfl, rfl⟩)
          go_ret
          exact ⟨rfl, below_alloc _ _⟩
      · have hq := HFB.out
        rw [if_neg (by decide), if_pos rfl] at hq
        by_cases z4 : x4 = ByteArray.empty
        · subst z4
          cases x6 with
          | true =>
            clear hq
            go_enter Tryd.func55, Tryd.ntmps55
            go_wp2_with (go_at_call 75; refine (K22 _).mono ?_; rintro e w' ⟨rfl, rfl⟩)
            go_ret
            exact ⟨rfl, below_alloc _ _⟩
          | false =>
            have hm0 : 0 < m := by simpa using hq.symm
            have hm0' : (0 : Int) < (m : Int) := by omega
            clear hq
            go_enter Tryd.func55, Tryd.ntmps55
            go_wp2_with (go_at_call 75; refine (K22 _).mono ?_; rintro e w' ⟨rfl, rfl⟩)
            go_ret
            exact ⟨rfl, below_alloc _ _⟩
        · have z4' : (x4.toList == []) = false := by
            rw [beq_eq_false_iff_ne]
            intro h
            have h2 : x4.data.toList = [] := by rw [← Lib.toList_data]; exact h
            exact z4 (WideShapes.bytes_inj (by rw [h2]; rfl))
          clear hq
          go_enter Tryd.func55, Tryd.ntmps55
          go_wp2_with (go_at_call 75; refine (K22 _).mono ?_; rintro e w' ⟨rfl, rfl⟩)
          go_ret
          exact ⟨rfl, below_alloc _ _⟩
      · have hq := HFB.out
        rw [if_neg (by decide), if_neg (by decide)] at hq
        by_cases z5 : x5 = 0
        · subst z5
          cases x6 with
          | true => exact absurd hq (by simp)
          | false =>
            have hm0 : 0 < m := by simpa using hq.symm
            have hm0' : (0 : Int) < (m : Int) := by omega
            clear hq
            go_enter Tryd.func55, Tryd.ntmps55
            go_wp2_with (go_at_call 75; refine (K22 _).mono ?_; rintro e w' ⟨rfl, rfl⟩)
            go_ret
            exact ⟨rfl, below_alloc _ _⟩
        · have z5' : (x5 != 0) = true := by simpa using z5
          clear hq
          go_enter Tryd.func55, Tryd.ntmps55
          go_wp2_with (go_at_call 75; refine (K22 _).mono ?_; rintro e w' ⟨rfl, rfl⟩)
          go_ret
          exact ⟨rfl, below_alloc _ _⟩
    | false =>
      have H2 := HX.out
      rw [if_neg (by decide)] at H2
      have HY := hid H2
      clear H2
      have E : x3 = 1 ∧ x5 = 0 ∧ x6 = false ∧ m = 0 ∨ x3 = 2 ∧ x4 = ByteArray.empty ∧ x6 = false ∧ m = 0 ∨ x3 = 3 ∧ x5 = 0 ∧ x6 = false ∧ m = 0 ∨ x3 = 3 ∧ x5 = 0 ∧ x6 = true := by
        have hq := HFB.out
        rcases hk' with rfl | rfl | rfl
        · rw [if_pos rfl] at hq
          have h2 := hq.symm
          simp only [Bool.or_eq_false_iff, Bool.not_eq_false', decide_eq_true_eq, decide_eq_false_iff_not] at h2
          exact .inl ⟨rfl, h2.1, h2.2.1, by omega⟩
        · rw [if_neg (by decide), if_pos rfl] at hq
          have h2 := hq.symm
          simp only [Bool.or_eq_false_iff, Bool.not_eq_false', decide_eq_true_eq, decide_eq_false_iff_not] at h2
          exact .inr (.inl ⟨rfl, h2.1, h2.2.1, by omega⟩)
        · rw [if_neg (by decide), if_neg (by decide)] at hq
          have h2 := hq.symm
          simp only [Bool.or_eq_false_iff, Bool.not_eq_false', decide_eq_true_eq] at h2
          cases x6 with
          | false => exact .inr (.inr (.inl ⟨rfl, h2.1, rfl, by simpa using h2.2⟩))
          | true => exact .inr (.inr (.inr ⟨rfl, h2.1, rfl⟩))
      clear hk'
      rcases E with ⟨rfl, rfl, rfl, rfl⟩ | ⟨rfl, rfl, rfl, rfl⟩ | ⟨rfl, rfl, rfl, rfl⟩ | ⟨rfl, rfl, rfl⟩
      · by_cases t1 : 60 < x4.size
        · have hr : er = 2 := by rw [HY.out, if_pos (.inl t1)]
          have t1' : 60 < (x4.size : Int) := by omega
          subst hr
          go_enter Tryd.func55, Tryd.ntmps55
          go_wp2_with (go_at_call 75; refine (K22 _).mono ?_; rintro e w' ⟨rfl, rfl⟩)
          go_ret
          exact ⟨rfl, below_alloc _ _⟩
        · have hr : er = 0 := by rw [HY.out, if_neg (by omega), if_neg (by rw [hall.out (fun t ht => absurd ht (Nat.not_lt_zero _))]; decide)]
          have t1' : ¬ 60 < (x4.size : Int) := by omega
          subst hr
          go_enter Tryd.func55, Tryd.ntmps55
          go_wp2_with (go_at_call 75; refine (K22 _).mono ?_; rintro e w' ⟨rfl, rfl⟩)
          refine wp_loop_rounds 1 ?_
          rw [rounds_succ]
          go_wp2
          go_ret
          exact ⟨rfl, below_alloc _ _⟩
      · by_cases t2 : x5 < -1099511627776
        · have hr : er = 2 := by rw [HY.out, if_pos (.inr (.inl t2))]
          subst hr
          go_enter Tryd.func55, Tryd.ntmps55
          go_wp2_with (go_at_call 75; refine (K22 _).mono ?_; rintro e w' ⟨rfl, rfl⟩)
          go_ret
          exact ⟨rfl, below_alloc _ _⟩
        by_cases t3 : 1099511627776 < x5
        · have hr : er = 2 := by rw [HY.out, if_pos (.inr (.inr (.inl t3)))]
          subst hr
          go_enter Tryd.func55, Tryd.ntmps55
          go_wp2_with (go_at_call 75; refine (K22 _).mono ?_; rintro e w' ⟨rfl, rfl⟩)
          go_ret
          exact ⟨rfl, below_alloc _ _⟩
        · have hr : er = 0 := by rw [HY.out, if_neg (by have : ByteArray.empty.size = 0 := rfl; omega), if_neg (by rw [hall.out (fun t ht => absurd ht (Nat.not_lt_zero _))]; decide)]
          subst hr
          go_enter Tryd.func55, Tryd.ntmps55
          go_wp2_with (go_at_call 75; refine (K22 _).mono ?_; rintro e w' ⟨rfl, rfl⟩)
          refine wp_loop_rounds 1 ?_
          rw [rounds_succ]
          go_wp2
          go_ret
          exact ⟨rfl, below_alloc _ _⟩
      · by_cases t1 : 60 < x4.size
        · have hr : er = 2 := by rw [HY.out, if_pos (.inl t1)]
          have t1' : 60 < (x4.size : Int) := by omega
          subst hr
          go_enter Tryd.func55, Tryd.ntmps55
          go_wp2_with (go_at_call 75; refine (K22 _).mono ?_; rintro e w' ⟨rfl, rfl⟩)
          go_ret
          exact ⟨rfl, below_alloc _ _⟩
        · have hr : er = 0 := by rw [HY.out, if_neg (by omega), if_neg (by rw [hall.out (fun t ht => absurd ht (Nat.not_lt_zero _))]; decide)]
          have t1' : ¬ 60 < (x4.size : Int) := by omega
          subst hr
          go_enter Tryd.func55, Tryd.ntmps55
          go_wp2_with (go_at_call 75; refine (K22 _).mono ?_; rintro e w' ⟨rfl, rfl⟩)
          refine wp_loop_rounds 1 ?_
          rw [rounds_succ]
          go_wp2
          go_ret
          exact ⟨rfl, below_alloc _ _⟩
      · by_cases t1 : 60 < x4.size
        · have hr : er = 2 := by rw [HY.out, if_pos (.inl t1)]
          have t1' : 60 < (x4.size : Int) := by omega
          subst hr
          go_enter Tryd.func55, Tryd.ntmps55
          go_wp2_with (go_at_call 75; refine (K22 _).mono ?_; rintro e w' ⟨rfl, rfl⟩)
          go_ret
          exact ⟨rfl, below_alloc _ _⟩
        have t1' : ¬ 60 < (x4.size : Int) := by omega
        by_cases t4 : 60 < m
        · have hr : er = 2 := by rw [HY.out, if_pos (.inr (.inr (.inr t4)))]
          have t4' : 60 < (m : Int) := by omega
          subst hr
          go_enter Tryd.func55, Tryd.ntmps55
          go_wp2_with (go_at_call 75; refine (K22 _).mono ?_; rintro e w' ⟨rfl, rfl⟩)
          go_ret
          exact ⟨rfl, below_alloc _ _⟩
        have t4' : ¬ 60 < (m : Int) := by omega
        have H3 := HY.out
        rw [if_neg (by omega)] at H3
        have HZ := hid H3
        clear H3
        obtain ⟨w1, hw1⟩ : ∃ w1, w1 = w.alloc (.cells #[.int .i64 x1, .string x2, .int .i64 3, .string x4, .int .i64 0, .bool true, .slice xp m xc] 99) := ⟨_, rfl⟩
        have B1 : Hid (Below w.heap.size w w1) := by rw [hw1]; exact below_alloc _ _
        have S1 : Hid (w1.heap.size = w.heap.size + 1) := hid (by rw [hw1]; simp)
        have C6 : Hid (w1.cell? ⟨w.heap.size, 6, none⟩ = some (.slice xp m xc)) := hid (by rw [hw1]; simp)
        have HW1 := hid hw1
        clear hw1
        go_enter Tryd.func55, Tryd.ntmps55
        go_wp2_with (go_at_call 75; refine (K22 _).mono ?_; rintro e w' ⟨rfl, rfl⟩)
        go_loopw [6] (fun i wr => ∃ k : Nat, k ≤ m ∧ i = .int .i64 k ∧ Hid (Below (w.heap.size + 1) w1 wr) ∧ Hid (∀ t, t < k → dotB n ds[t]! = true)) (fun i _ => m - (intOf i).toNat)
        case atStart => exact ⟨0, Nat.zero_le _, rfl, (by rw [HW1.out]; exact Below.refl _ _), fun t ht => absurd ht (Nat.not_lt_zero _)⟩
        case round =>
          obtain ⟨k, hk, rfl, HB, HI⟩ := hrel
          have hB := HB.out
          have hs1 := S1.out
          have hsz : w.heap.size + 1 ≤ wr.heap.size := by have := hB.size; omega
          have wB : Hid (Below w.heap.size w wr) := B1.out.trans (hB.mono (by omega))
          have e6 : wr.cell? ⟨w.heap.size, 6, none⟩ = some (.slice xp m xc) := by rw [hB.cell (p := ⟨w.heap.size, 6, none⟩) (by simp)]; exact C6.out
          clear hB hs1
          by_cases hlt : k < m
          · have hmm := HM.out
            have hdd := HD.out
            rw [hmm] at hdd
            obtain ⟨b, off, rfl, q0, q1, q2⟩ := dots_cells hdd (k := k) (by omega)
            have up : ∀ {a : Addr} {v : Value}, w.cell? a = some v → wr.cell? a = some v := fun {a v} h => by rw [wB.out.cell (lt_of_cell h)]; exact h
            have r0 := up q0
            have r1 := up q1
            have r2 := up q2
            obtain ⟨d, hde⟩ : ∃ d, d = ds[k]! := ⟨_, rfl⟩
            rw [← hde] at r0 r1 r2
            have HDE := hid hde
            clear q0 q1 q2 up hde hmm hdd
            obtain ⟨p, t, a⟩ := d
            simp only at r0 r1 r2
            cases hb : dotB n ⟨p, t, a⟩ with
            | true =>
              have hh := dot_true hb
              simp only at hh
              obtain ⟨g1, g2, g3, g4, g5, g6⟩ := hh
              have HBD := hid hb
              clear hb
              go_wp2
              go_roundw
              case rel => exact ⟨k + 1, by omega, by go_num, HB.out.alloc hsz _, fun t ht => by rcases Nat.lt_succ_iff_lt_or_eq.1 ht with h | rfl; exact HI.out t h; rw [← HDE.out]; exact HBD.out⟩
              case measure => simp [intOf]; omega
            | false =>
              have HN := hid (dot_false hb)
              have hr : er = 2 := by rw [HZ.out, if_pos (hone.out k hlt (by rw [← HDE.out]; exact hb))]
              clear hb
              subst hr
              go_wp2
              all_goals first
                | (exfalso; have := HN.out; simp only at this; omega)
                | (go_ret; exact ⟨rfl, wB.out.alloc (by have := wB.out.size; omega) _⟩)
          · obtain rfl : k = m := by omega
            have hr : er = 0 := by rw [HZ.out, if_neg (by rw [hall.out HI.out]; decide)]
            subst hr
            go_wp2
            go_ret
            exact ⟨rfl, wB.out⟩
end Go.Proofs.YtcojglkjbbgoaaaDoor.V
