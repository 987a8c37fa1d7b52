/- Commits in memory; what is asked of a commit; CheckCommit by its contract; CheckCommit over its ops; checkList, where nothing is wrong. -/
import Derived.Test.YtdnebclemngdcaaGreatDoorJVCheck
import Derived.Test.YtdnebclemngdcaaGreatDoorJWVec
namespace Go.Proofs.YtdnebclemngdcaaGreatDoor
open Go.RowKit
set_option linter.unusedSectionVars false
variable [Inhabited ComV] [DecidableEq D3] [Inhabited D3] [Inhabited Dd] [Inhabited OpV]

def F2 {α β : Type} (R : α → β → Prop) : List α → List β → Prop
  | [], [] => True
  | a :: l, b :: m => R a b ∧ F2 R l m
  | _, _ => False
theorem f2_mono {α β : Type} {R S : α → β → Prop} (h : ∀ a b, R a b → S a b) : ∀ {l : List α} {m : List β}, F2 R l m → F2 S l m
  | [], [], _ => trivial
  | _ :: _, _ :: _, ⟨h1, h2⟩ => ⟨h _ _ h1, f2_mono h h2⟩
theorem f2_len {α β : Type} {R : α → β → Prop} : ∀ {l : List α} {m : List β}, F2 R l m → l.length = m.length
  | [], [], _ => rfl
  | _ :: _, _ :: _, ⟨_, h2⟩ => by simp [f2_len h2]
theorem f2_get {α β : Type} {R : α → β → Prop} : ∀ {l : List α} {m : List β}, F2 R l m → ∀ (j : Nat) (y : β), m[j]? = some y → ∃ x, l[j]? = some x ∧ R x y
  | [], [], _, _, _, h => by simp at h
  | _ :: _, _ :: _, ⟨h1, h2⟩, j, y, h => by
    cases j with
    | zero => simp at h; subst h; exact ⟨_, rfl, h1⟩
    | succ j => exact f2_get h2 j y (by simpa using h)

def opCells (o : OpV) (dv : Value) : List Value := [.int .i64 o.at_, .string o.key, .int .i64 o.kind, .string o.text, .int .i64 o.n, .bool o.rem, dv]
def OpRow (w : World) (cs : List Value) (o : OpV) : Prop := ∃ dv, cs = opCells o dv ∧ DotsAt w dv o.dots
def OpsAt (w : World) (v : Value) (os : List OpV) : Prop := ∃ rows, RowAt 7 w v rows ∧ F2 (OpRow w) rows os
def ComRow (w : World) (cs : List Value) (c : ComV) : Prop := ∃ wv ov, cs = [wv, .int .i64 c.place, ov] ∧ IntsAt w wv c.when_ ∧ OpsAt w ov c.ops
def ComsAt (w : World) (v : Value) (l : List ComV) : Prop := ∃ rows, RowAt 3 w v rows ∧ F2 (ComRow w) rows l

theorem OpRow.mono {w w' : World} {cs : List Value} {o : OpV} {B : Nat} (h : OpRow w cs o) (hb : Below B w w') (hB : w.heap.size ≤ B) : OpRow w' cs o :=
  let ⟨dv, h1, h2⟩ := h; ⟨dv, h1, h2.mono hb hB⟩
theorem OpsAt.mono {w w' : World} {v : Value} {os : List OpV} {B : Nat} (h : OpsAt w v os) (hb : Below B w w') (hB : w.heap.size ≤ B) : OpsAt w' v os :=
  let ⟨r, h1, h2⟩ := h; ⟨r, h1.mono hb hB, f2_mono (fun _ _ h => h.mono hb hB) h2⟩
theorem ComRow.mono {w w' : World} {cs : List Value} {c : ComV} {B : Nat} (h : ComRow w cs c) (hb : Below B w w') (hB : w.heap.size ≤ B) : ComRow w' cs c :=
  let ⟨a, b, h1, h2, h3⟩ := h; ⟨a, b, h1, h2.mono hb hB, h3.mono hb hB⟩
theorem ComsAt.mono {w w' : World} {v : Value} {l : List ComV} {B : Nat} (h : ComsAt w v l) (hb : Below B w w') (hB : w.heap.size ≤ B) : ComsAt w' v l :=
  let ⟨r, h1, h2⟩ := h; ⟨r, h1.mono hb hB, f2_mono (fun _ _ h => h.mono hb hB) h2⟩

theorem OpsAt.shape {w : World} {v : Value} {os : List OpV} (h : OpsAt w v os) : ∃ ad cap, v = .slice ad os.length cap ∧ (ad = none → cap = 0) ∧ os.length ≤ cap ∧
    (os = [] ∨ ∃ b off, ad = some ⟨b, off, none⟩ ∧ ∀ j, j < os.length → ∃ dp dc, DotsAt w (.slice dp os[j]!.dots.length dc) os[j]!.dots ∧
      w.cell? ⟨b, off + j * 7, none⟩ = some (.int .i64 os[j]!.at_) ∧ w.cell? ⟨b, off + j * 7 + 1, none⟩ = some (.string os[j]!.key) ∧ w.cell? ⟨b, off + j * 7 + 2, none⟩ = some (.int .i64 os[j]!.kind) ∧ w.cell? ⟨b, off + j * 7 + 3, none⟩ = some (.string os[j]!.text) ∧
      w.cell? ⟨b, off + j * 7 + 4, none⟩ = some (.int .i64 os[j]!.n) ∧ w.cell? ⟨b, off + j * 7 + 5, none⟩ = some (.bool os[j]!.rem) ∧ w.cell? ⟨b, off + j * 7 + 6, none⟩ = some (.slice dp os[j]!.dots.length dc)) := by
  obtain ⟨rows, ⟨ad, cap, rfl, h1, h2, h3⟩, hf⟩ := h; have hl := f2_len hf; refine ⟨ad, cap, by rw [hl], h1, by omega, ?_⟩; rcases h3 with rfl | ⟨b, off, rfl, h3⟩
  · exact .inl (List.eq_nil_of_length_eq_zero hl.symm)
  · refine .inr ⟨b, off, rfl, fun j hj => ?_⟩; obtain ⟨r, hr, dv, rfl, hd⟩ := f2_get hf j os[j]! (by rw [getElem!_pos os j hj, List.getElem?_eq_getElem hj]); obtain ⟨dp, dc, rfl⟩ := hd.len; have hc := (h3 j _ hr).2; exact ⟨dp, dc, hd, hc 0 _ rfl, hc 1 _ rfl, hc 2 _ rfl, hc 3 _ rfl, hc 4 _ rfl, hc 5 _ rfl, hc 6 _ rfl⟩
theorem ComsAt.shape {w : World} {v : Value} {l : List ComV} (h : ComsAt w v l) : ∃ ad cap, v = .slice ad l.length cap ∧ (ad = none → cap = 0) ∧ l.length ≤ cap ∧
    (l = [] ∨ ∃ b off, ad = some ⟨b, off, none⟩ ∧ ∀ j, j < l.length → ∃ wv ov, IntsAt w wv l[j]!.when_ ∧ OpsAt w ov l[j]!.ops ∧
      w.cell? ⟨b, off + j * 3, none⟩ = some wv ∧ w.cell? ⟨b, off + j * 3 + 1, none⟩ = some (.int .i64 l[j]!.place) ∧ w.cell? ⟨b, off + j * 3 + 2, none⟩ = some ov) := by
  obtain ⟨rows, ⟨ad, cap, rfl, h1, h2, h3⟩, hf⟩ := h; have hl := f2_len hf; refine ⟨ad, cap, by rw [hl], h1, by omega, ?_⟩; rcases h3 with rfl | ⟨b, off, rfl, h3⟩
  · exact .inl (List.eq_nil_of_length_eq_zero hl.symm)
  · refine .inr ⟨b, off, rfl, fun j hj => ?_⟩; obtain ⟨r, hr, wv, ov, rfl, hw, ho⟩ := f2_get hf j l[j]! (by rw [getElem!_pos l j hj, List.getElem?_eq_getElem hj]); have hc := (h3 j _ hr).2; exact ⟨wv, ov, hw, ho, hc 0 _ rfl, hc 1 _ rfl, hc 2 _ rfl⟩

def opBad (n : Int) (os : List OpV) (i : Nat) : Nat :=
  if opErr os[i]! n ≠ 0 then opErr os[i]! n else if 0 < i ∧ os[i]!.at_ ≤ os[i - 1]!.at_ then 3 else 0
def scan (f : Nat → Nat) (m : Nat) : Nat × Option Nat :=
  match (List.range m).find? (fun i => decide (f i ≠ 0)) with
  | some i => (f i, some i)
  | none => (0, none)
theorem scan_none {f : Nat → Nat} {m : Nat} (h : ∀ i, i < m → f i = 0) : scan f m = (0, none) := by
  unfold scan; rw [List.find?_eq_none.2 fun i hi => by rw [h i (List.mem_range.1 hi)]; decide]
theorem scan_some {f : Nat → Nat} {m i : Nat} (hi : i < m) (h : ∀ j, j < i → f j = 0) (hf : f i ≠ 0) : scan f m = (f i, some i) := by
  have : (List.range m).find? (fun i => decide (f i ≠ 0)) = some i := by
    rw [List.find?_range_eq_some]; exact ⟨by simpa using hf, by simpa using hi, fun j hj => by simpa using h j hj⟩
  unfold scan; rw [this]
theorem scan_zero {f : Nat → Nat} {m : Nat} (h : (scan f m).1 = 0) : ∀ i, i < m → f i = 0 := by
  intro i hi; unfold scan at h
  cases hq : (List.range m).find? (fun i => decide (f i ≠ 0)) with
  | none =>
    have := List.find?_eq_none.1 hq i (List.mem_range.2 hi)
    simpa using this
  | some k =>
    rw [hq] at h; have := List.find?_some hq; simp at this; exact absurd h this
def comErr (c : ComV) : Nat × Option Nat :=
  if chk c.when_ ≠ 0 then ((chk c.when_).toNat, none)
  else if c.place < 0 ∨ (c.when_.length : Int) ≤ c.place ∨ c.when_.getD c.place.toNat 0 = 0 ∨ 12 < c.ops.length then (2, none)
  else if c.ops = [] then (3, none)
  else scan (opBad c.when_.length c.ops) c.ops.length

def ErrAt (A : Nat → Addr) (w : World) (v : Value) (e : Nat × Option Nat) : Prop :=
  match e.2 with
  | none => v = errV A e.1
  | some i => ∃ pb, v = .iface 89 (.pointer (some ⟨pb, 0, none⟩)) ∧ w.cell? ⟨pb, 0, none⟩ = some (.int .i64 i) ∧ w.cell? ⟨pb, 1, none⟩ = some (errV A e.1)
theorem ErrAt.bare {A : Nat → Addr} {w : World} {e : Nat × Option Nat} (k : Nat) (h : e = (k, none)) : ErrAt A w (errV A k) e := by subst h; exact rfl
theorem ErrAt.at {A : Nat → Addr} {w : World} {e : Nat × Option Nat} {i k : Nat} (pb : Nat) (h : e = (k, some i)) (c0 : w.cell? ⟨pb, 0, none⟩ = some (.int .i64 i)) (c1 : w.cell? ⟨pb, 1, none⟩ = some (errV A k)) : ErrAt A w (.iface 89 (.pointer (some ⟨pb, 0, none⟩))) e := by
  subst h; exact ⟨pb, rfl, c0, c1⟩
end Go.Proofs.YtdnebclemngdcaaGreatDoor
namespace Go.Proofs.YtdnebclemngdcaaGreatDoor
open Go.RowKit
set_option maxRecDepth 100000
set_option linter.unusedSectionVars false
variable [Inhabited ComV] [DecidableEq D3] [Inhabited D3] [Inhabited Dd] [Inhabited OpV]

def Small (o : OpV) : Prop := o.text.size ≤ 1000000 ∧ o.dots.length ≤ 1000000

def ComRet (A : Nat → Addr) (w : World) (er : Nat × Option Nat) (e : Ending) (w' : World) : Prop := ∃ v, e = .returned v ∧ ErrAt A w' v er ∧ Below w.heap.size w w'
theorem ComRet.bare {A : Nat → Addr} {w w' : World} {er : Nat × Option Nat} (k : Nat) (h : er = (k, none)) (hb : Below w.heap.size w w') : ComRet A w er (.returned (errV A k)) w' := ⟨_, rfl, ErrAt.bare k h, hb⟩

theorem checkCommit_when (A : Nat → Addr) (w : World) (hE : E4 A w) (h4 : 12 ≤ w.heap.size) (a1 : Option Addr) (c1 : Nat) (zs : List Int) (pl : Int) (a2 : Option Addr) (m c2 : Nat)
    (hw : IntsAt w (.slice a1 zs.length c1) zs) (hl : zs.length ≤ 1000000) (hc : chk zs ≠ 0) :
    Calls Tryz.prog 36 #[.agg #[.slice a1 zs.length c1, .int .i64 pl, .slice a2 m c2]] w fun e w' => e = .returned (.iface 255 (.pointer (some (A ((chk zs).toNat - 1))))) ∧ Below w.heap.size w w' := by
  have K := fun o => check_bad A (w.alloc o) (hE.below (below_alloc _ _) h4) (.slice a1 zs.length c1) zs (hw.mono (below_alloc _ _) (Nat.le_refl _)) hl hc
  obtain ⟨n, hn⟩ : ∃ n, n = zs.length := ⟨_, rfl⟩; rw [← hn] at K ⊢; clear hn hw hl; go_enter Tryz.func36, Tryz.ntmps36
  go_wp2_with (go_at_call 63; refine (K _).mono ?_; rintro e w' ⟨rfl, rfl⟩)
  go_ret; exact ⟨rfl, below_alloc _ _⟩

set_option maxHeartbeats 2000000 in
theorem checkCommit_bound (A : Nat → Addr) (w : World) (hE : E4 A w) (h4 : 12 ≤ w.heap.size) (b1 o1 : Nat) (c1 : Nat) (zs : List Int) (pl : Int) (a2 : Option Addr) (m c2 : Nat)
    (hw : ∀ t, t < zs.length → w.cell? ⟨b1, o1 + t, none⟩ = some (.int .i64 (zs.getD t 0))) (hc : chk zs = 0) (hm : m ≤ 1000000)
    (h : pl < 0 ∨ (zs.length : Int) ≤ pl ∨ zs.getD pl.toNat 0 = 0 ∨ 12 < m) :
    Calls Tryz.prog 36 #[.agg #[.slice (some ⟨b1, o1, none⟩) zs.length c1, .int .i64 pl, .slice a2 m c2]] w fun e w' => e = .returned (errV A 2) ∧ Below w.heap.size w w' := by
  have hn6 := (chk_zero.1 hc).2.1; have K := fun o => check_ok A (w.alloc o) (hE.below (below_alloc _ _) h4) (.slice (some ⟨b1, o1, none⟩) zs.length c1) zs (IntsAt.mono ⟨_, _, rfl, (fun h => by cases h), .inr ⟨b1, o1, rfl, hw⟩⟩ (below_alloc w o) (Nat.le_refl _)) hc
  have hW := hid hw; have g0 := fun o => cell_alloc hE.bound o
  obtain ⟨n, hn⟩ : ∃ n, n = zs.length := ⟨_, rfl⟩; rw [← hn] at K hW h hn6 ⊢; clear hn hw hc hE
  by_cases p0 : pl < 0
  · go_enter Tryz.func36, Tryz.ntmps36
    go_wp2_with (go_at_call 63; refine (K _).mono ?_; rintro e w' ⟨rfl, rfl⟩)
    go_ret; exact ⟨rfl, below_alloc _ _⟩
  · obtain ⟨p, rfl⟩ : ∃ p : Nat, pl = p := ⟨pl.toNat, by omega⟩
    by_cases p1 : (n : Int) ≤ p
    · go_enter Tryz.func36, Tryz.ntmps36
      go_wp2_with (go_at_call 63; refine (K _).mono ?_; rintro e w' ⟨rfl, rfl⟩)
      go_ret; exact ⟨rfl, below_alloc _ _⟩
    · have cz := fun o => cell_alloc (hW.out p (by omega)) o
      obtain ⟨z, hz⟩ : ∃ z, z = zs.getD p 0 := ⟨_, rfl⟩; rw [← hz] at cz; have HZ := hid hz; clear hz; have hlt : p < n := by omega
      by_cases z0 : z = 0
      · rw [z0] at cz; clear h; go_enter Tryz.func36, Tryz.ntmps36
        go_wp2_with (go_at_call 63; refine (K _).mono ?_; rintro e w' ⟨rfl, rfl⟩)
        go_ret; exact ⟨rfl, below_alloc _ _⟩
      · have bz : (z == 0) = false := by simpa using z0
        have m12 : 12 < (m : Int) := by
          rcases h with h | h | h | h
          · omega
          · omega
          · rw [Int.toNat_natCast, ← HZ.out] at h; omega
          · omega
        clear h; go_enter Tryz.func36, Tryz.ntmps36
        go_wp2_with (go_at_call 63; refine (K _).mono ?_; rintro e w' ⟨rfl, rfl⟩)
        go_ret; exact ⟨rfl, below_alloc _ _⟩

set_option maxHeartbeats 2000000 in
theorem checkCommit_empty (A : Nat → Addr) (w : World) (hE : E4 A w) (h4 : 12 ≤ w.heap.size) (b1 o1 : Nat) (c1 : Nat) (zs : List Int) (p : Nat) (a2 : Option Addr) (c2 : Nat)
    (hw : ∀ t, t < zs.length → w.cell? ⟨b1, o1 + t, none⟩ = some (.int .i64 (zs.getD t 0))) (hc : chk zs = 0) (hp : p < zs.length) (hz : zs.getD p 0 ≠ 0) :
    Calls Tryz.prog 36 #[.agg #[.slice (some ⟨b1, o1, none⟩) zs.length c1, .int .i64 p, .slice a2 0 c2]] w fun e w' => e = .returned (errV A 3) ∧ Below w.heap.size w w' := by
  have hn6 := (chk_zero.1 hc).2.1; have K := fun o => check_ok A (w.alloc o) (hE.below (below_alloc _ _) h4) (.slice (some ⟨b1, o1, none⟩) zs.length c1) zs (IntsAt.mono ⟨_, _, rfl, (fun h => by cases h), .inr ⟨b1, o1, rfl, hw⟩⟩ (below_alloc w o) (Nat.le_refl _)) hc
  have g0 := fun o => cell_alloc hE.shape o
  have cz := fun o => cell_alloc (hw p hp) o
  obtain ⟨z, hzz⟩ : ∃ z, z = zs.getD p 0 := ⟨_, rfl⟩; rw [← hzz] at cz hz; have bz : (z == 0) = false := by simpa using hz
  obtain ⟨n, hn⟩ : ∃ n, n = zs.length := ⟨_, rfl⟩; rw [← hn] at K hp hn6 ⊢; have p1 : ¬ (n : Int) ≤ p := by omega
  clear hn hw hc hE hzz hz; go_enter Tryz.func36, Tryz.ntmps36
  go_wp2_with (go_at_call 63; refine (K _).mono ?_; rintro e w' ⟨rfl, rfl⟩)
  go_ret; exact ⟨rfl, below_alloc _ _⟩

end Go.Proofs.YtdnebclemngdcaaGreatDoor
namespace Go.Proofs.YtdnebclemngdcaaGreatDoor
open Go.RowKit
set_option maxRecDepth 100000
set_option linter.unusedSectionVars false
variable [Inhabited ComV] [DecidableEq D3] [Inhabited D3] [Inhabited Dd] [Inhabited OpV]

set_option maxHeartbeats 4000000 in
theorem checkCommit_ops (A : Nat → Addr) (w : World) (hE : E4 A w) (h4 : 12 ≤ w.heap.size) (b1 o1 : Nat) (c1 : Nat) (zs : List Int) (p : Nat) (b2 o2 m c2 : Nat) (os : List OpV)
    (hw : ∀ t, t < zs.length → w.cell? ⟨b1, o1 + t, none⟩ = some (.int .i64 (zs.getD t 0))) (hc : chk zs = 0) (hp : p < zs.length) (hz : zs.getD p 0 ≠ 0) (hm : os.length = m) (h0 : 0 < m) (h12 : m ≤ 12) (hsm : ∀ o ∈ os, Small o)
    (ho : ∀ j, j < m → ∃ dp dc, DotsAt w (.slice dp os[j]!.dots.length dc) os[j]!.dots ∧
      w.cell? ⟨b2, o2 + j * 7, none⟩ = some (.int .i64 os[j]!.at_) ∧ w.cell? ⟨b2, o2 + j * 7 + 1, none⟩ = some (.string os[j]!.key) ∧ w.cell? ⟨b2, o2 + j * 7 + 2, none⟩ = some (.int .i64 os[j]!.kind) ∧ w.cell? ⟨b2, o2 + j * 7 + 3, none⟩ = some (.string os[j]!.text) ∧
      w.cell? ⟨b2, o2 + j * 7 + 4, none⟩ = some (.int .i64 os[j]!.n) ∧ w.cell? ⟨b2, o2 + j * 7 + 5, none⟩ = some (.bool os[j]!.rem) ∧ w.cell? ⟨b2, o2 + j * 7 + 6, none⟩ = some (.slice dp os[j]!.dots.length dc)) :
    Calls Tryz.prog 36 #[.agg #[.slice (some ⟨b1, o1, none⟩) zs.length c1, .int .i64 p, .slice (some ⟨b2, o2, none⟩) m c2]] w fun e w' => ComRet A w (scan (opBad zs.length os) m) e w' := by
  have hn6 := (chk_zero.1 hc).2.1; have K := fun o => check_ok A (w.alloc o) (hE.below (below_alloc _ _) h4) (.slice (some ⟨b1, o1, none⟩) zs.length c1) zs (IntsAt.mono ⟨_, _, rfl, (fun h => by cases h), .inr ⟨b1, o1, rfl, hw⟩⟩ (below_alloc w o) (Nat.le_refl _)) hc
  have cz := fun o => cell_alloc (hw p hp) o
  obtain ⟨z, hzz⟩ : ∃ z, z = zs.getD p 0 := ⟨_, rfl⟩; rw [← hzz] at cz hz; have bz : (z == 0) = false := by simpa using hz
  obtain ⟨n, hn⟩ : ∃ n, n = zs.length := ⟨_, rfl⟩; rw [← hn] at K hp hn6 ⊢; have p1 : ¬ (n : Int) ≤ p := by omega
  have m12 : ¬ 12 < (m : Int) := by omega
  have m0 : ((m : Int) == 0) = false := by rw [beq_eq_false_iff_ne]; omega
  have HO := hid ho; have HE := hid hE; have HM := hid hm; have HS := hid hsm; clear hn hw hc hE hzz hz ho hm hsm; obtain ⟨w1, hw1⟩ : ∃ w1, w1 = w.alloc (.cells #[.slice (some ⟨b1, o1, none⟩) n c1, .int .i64 p, .slice (some ⟨b2, o2, none⟩) m c2] 34) := ⟨_, rfl⟩; have B1 : Hid (Below w.heap.size w w1) := by rw [hw1]; exact below_alloc _ _
  have S1 : Hid (w1.heap.size = w.heap.size + 1) := hid (by rw [hw1]; simp); have C0 : Hid (w1.cell? ⟨w.heap.size, 0, none⟩ = some (.slice (some ⟨b1, o1, none⟩) n c1)) := hid (by rw [hw1]; simp); have C2 : Hid (w1.cell? ⟨w.heap.size, 2, none⟩ = some (.slice (some ⟨b2, o2, none⟩) m c2)) := hid (by rw [hw1]; simp); have HW1 := hid hw1; clear hw1; go_enter Tryz.func36, Tryz.ntmps36
  go_wp2_with (go_at_call 63; refine (K _).mono ?_; rintro e w' ⟨rfl, rfl⟩)
  go_loopw [48] (fun i wr => ∃ k : Nat, k ≤ m ∧ i = .int .i64 k ∧ Hid (Below (w.heap.size + 1) w1 wr) ∧ Hid (∀ t, t < k → opBad n os t = 0)) (fun i _ => m - (intOf i).toNat)
  case atStart => exact ⟨0, Nat.zero_le _, rfl, (by rw [HW1.out]; exact Below.refl _ _), fun t ht => absurd ht (Nat.not_lt_zero _)⟩
  case round =>
    obtain ⟨k, hk, rfl, HB, HI⟩ := hrel; clear K cz; have hB := HB.out; have hs1 := S1.out; have hsz : w.heap.size + 1 ≤ wr.heap.size := by have := hB.size; omega
    have wB : Hid (Below w.heap.size w wr) := B1.out.trans (hB.mono (by omega)); have e0 : wr.cell? ⟨w.heap.size, 0, none⟩ = some (.slice (some ⟨b1, o1, none⟩) n c1) := by rw [hB.cell (p := ⟨w.heap.size, 0, none⟩) (by simp)]; exact C0.out
    have e2 : wr.cell? ⟨w.heap.size, 2, none⟩ = some (.slice (some ⟨b2, o2, none⟩) m c2) := by rw [hB.cell (p := ⟨w.heap.size, 2, none⟩) (by simp)]; exact C2.out
    have e0' := fun o => cell_alloc e0 o
    clear hB
    by_cases hlt : k < m
    · obtain ⟨dp, dc, hd, q0, q1, q2, q3, q4, q5, q6⟩ := HO.out k hlt; have up : ∀ {a : Addr} {v : Value}, w.cell? a = some v → wr.cell? a = some v := fun {a v} h => by rw [wB.out.cell (lt_of_cell h)]; exact h
      have r0 := up q0; have r1 := up q1; have r2 := up q2; have r3 := up q3; have r4 := up q4; have r5 := up q5; have r6 := up q6; have hSm : Small os[k]! := HS.out _ (by rw [getElem!_pos os k (by have := HM.out; omega)]; exact List.getElem_mem _); obtain ⟨x, hx⟩ : ∃ x, x = os[k]! := ⟨_, rfl⟩; rw [← hx] at r0 r1 r2 r3 r4 r5 r6 hd hSm; have HX := hid hx; obtain ⟨er, her⟩ : ∃ er, er = opErr x n := ⟨_, rfl⟩; have HER := hid her; obtain ⟨x1, x2, x3, x4, x5, x6, ds⟩ := x; have KC := fun o => check_op A (wr.alloc o) ((HE.out.below wB.out h4).below (below_alloc wr o) (by omega)) (by simp; omega) x1 x2 x3 x4 x5 x6 dp dc ds n ((hd.mono wB.out (Nat.le_refl _)).mono (below_alloc wr o) (Nat.le_refl _)) hSm.2 hSm.1
      rw [← her] at KC; clear q0 q1 q2 q3 q4 q5 q6 hx her hd hSm; simp only at r0 r1 r2 r3 r4 r5 r6
      cases er with
      | succ er =>
        have hbad : opBad n os k = er + 1 := by
          unfold opBad; rw [← HX.out, ← HER.out, if_pos (by omega)]
        have hsc := hid (scan_some (f := opBad n os) hlt HI.out (by omega)); rw [hbad] at hsc; rw [show errV A (er + 1) = .iface 255 (.pointer (some (A er))) from rfl] at KC
        go_wp2_with (go_at_call 64; refine (KC _).mono ?_; rintro e w' ⟨rfl, hw⟩)
        go_ret; refine ⟨_, rfl, ErrAt.at (k := er + 1) (i := k) w'.heap.size hsc.out (by simp) (by simp [errV]), ?_⟩
        exact (wB.out.trans ((below_alloc _ _).mono (by have := wB.out.size; omega))).trans ((hw.mono (by simp; have := wB.out.size; omega)).alloc (by have := hw.size; simp at this; have := wB.out.size; omega) _)
      | zero =>
        rw [show errV A 0 = .nilIface from rfl] at KC; obtain ⟨BX, hBX⟩ : ∃ BX, BX = Obj.cells #[.int .i64 x1, .string x2, .int .i64 x3, .string x4, .int .i64 x5, .bool x6, .slice dp ds.length dc] 76 := ⟨_, rfl⟩
        go_wp2_with (go_at_call 64; refine (KC _).mono ?_; rintro e w' ⟨rfl, hw⟩)
        have hw2 : Below (w.heap.size + 1) w1 w' := (HB.out.alloc hsz _).trans (hw.mono (by simp; omega)); have f0 : w'.cell? ⟨wr.heap.size, 0, none⟩ = some (.int .i64 x1) := by rw [hw.cell (p := ⟨wr.heap.size, 0, none⟩) (by simp)]; simp
        have f2 : w'.cell? ⟨w.heap.size, 2, none⟩ = some (.slice (some ⟨b2, o2, none⟩) m c2) := by rw [hw2.cell (p := ⟨w.heap.size, 2, none⟩) (by simp)]; exact C2.out
        have hwB : Hid (Below w.heap.size w w') := B1.out.trans (hw2.mono (by omega)); have hw2' := hid hw2; have hwH := hid hw; clear hw hw2 KC; have hsz' : w.heap.size + 1 ≤ w'.heap.size := by have := hw2'.out.size; omega
        rcases Nat.eq_zero_or_pos k with rfl | hk0
        · have hz0 : ¬ (0 : Int) < ((0 : Nat) : Int) := by omega
          go_quiet (fail)
          go_wp2; refine ⟨⟨_, _, _, _, _, ⟨1, by omega, rfl, below_draws hw2'.out _, ?_⟩, rfl, rfl, rfl, rfl, by go_num⟩, by simp [intOf]; omega⟩
          intro t ht; obtain rfl : t = 0 := by omega
          unfold opBad; rw [← HX.out, ← HER.out, if_neg (by decide), if_neg (by omega)]
        · obtain ⟨j, rfl⟩ : ∃ j, k = j + 1 := ⟨k - 1, by omega⟩; obtain ⟨_, _, _, q0, _⟩ := HO.out j (by omega); have g0 : w'.cell? ⟨b2, o2 + j * 7, none⟩ = some (.int .i64 os[j]!.at_) := by rw [hwB.out.cell (lt_of_cell q0)]; exact q0
          clear q0; obtain ⟨y, hy⟩ : ∃ y, y = os[j]!.at_ := ⟨_, rfl⟩; rw [← hy] at g0; have HY := hid hy; clear hy; have hp0 : (0 : Int) < ((j + 1 : Nat) : Int) := by omega
          have hj1 : ((j + 1 : Nat) : Int) - 1 = (j : Int) := by omega
          have hjm : j < m := by omega
          by_cases hle : x1 ≤ y
          · have hbad : opBad n os (j + 1) = 3 := by
              unfold opBad; rw [← HX.out, ← HER.out, if_neg (by decide), if_pos ⟨by omega, by rw [Nat.add_sub_cancel, ← HY.out]; exact hle⟩]
            have hsc := hid (scan_some (f := opBad n os) hlt HI.out (by omega)); rw [hbad] at hsc; have g3 : w'.cell? ⟨3, 0, none⟩ = some (.iface 255 (.pointer (some (A 2)))) := (HE.out.below hwB.out h4).shape
            go_quiet (fail)
            go_wp2; go_ret
            refine ⟨_, rfl, ErrAt.at (k := 3) (i := j + 1) w'.heap.size hsc.out ((World.cell?_alloc_at _ _ _ _ rfl).trans (by simp)) ((World.cell?_alloc_at _ _ _ _ rfl).trans rfl), ?_⟩; exact (below_draws hwB.out _).alloc (by simp; omega) _
          · go_quiet (fail)
            go_wp2; refine ⟨⟨_, _, _, _, _, ⟨j + 1 + 1, by omega, rfl, below_draws hw2'.out _, ?_⟩, rfl, rfl, rfl, rfl, by go_num⟩, by simp [intOf]; omega⟩
            intro t ht; rcases Nat.lt_succ_iff_lt_or_eq.1 ht with h | rfl
            · exact HI.out t h
            · unfold opBad; rw [← HX.out, ← HER.out, if_neg (by decide), if_neg (fun h => by have h2 := h.2; rw [Nat.add_sub_cancel, ← HY.out] at h2; have h3 : x1 ≤ y := h2; omega)]
    · obtain rfl : k = m := by omega
      go_wp2; go_ret
      exact ComRet.bare 0 (scan_none HI.out) wB.out

theorem checkCommit (A : Nat → Addr) (w : World) (hE : E4 A w) (h4 : 12 ≤ w.heap.size) (c : ComV) (wv ov : Value) (hw : IntsAt w wv c.when_) (ho : OpsAt w ov c.ops) (hl : c.when_.length ≤ 1000000) (hm : c.ops.length ≤ 1000000) (hsm : ∀ o ∈ c.ops, Small o) :
    Calls Tryz.prog 36 #[.agg #[wv, .int .i64 c.place, ov]] w fun e w' => ComRet A w (comErr c) e w' := by
  obtain ⟨a2, c2, rfl, hn2, hc2, ho'⟩ := ho.shape; have hw0 := hw; obtain ⟨a1, c1, rfl, hn1, hw⟩ := hw; unfold comErr
  by_cases hc : chk c.when_ = 0
  · rw [if_neg (by simpa using hc)]; rcases hw with h | ⟨b1, o1, rfl, hw⟩
    · have := (chk_zero.1 hc).1; rw [h] at this; simp at this
    · by_cases hb : c.place < 0 ∨ (c.when_.length : Int) ≤ c.place ∨ c.when_.getD c.place.toNat 0 = 0 ∨ 12 < c.ops.length
      · rw [if_pos hb]; refine (checkCommit_bound A w hE h4 b1 o1 c1 c.when_ c.place a2 c.ops.length c2 hw hc hm hb).mono ?_; rintro e w' ⟨rfl, h⟩; exact ComRet.bare 2 rfl h
      · rw [if_neg hb]; obtain ⟨p, hp⟩ : ∃ p : Nat, c.place = p := ⟨c.place.toNat, by omega⟩; rw [hp] at hb ⊢; rw [Int.toNat_natCast] at hb
        by_cases h0 : c.ops = []
        · rw [if_pos h0, h0]; refine (checkCommit_empty A w hE h4 b1 o1 c1 c.when_ p a2 c2 hw hc (by omega) (by omega)).mono ?_; rintro e w' ⟨rfl, h⟩; exact ComRet.bare 3 rfl h
        · rw [if_neg h0]; rcases ho' with h | ⟨b2, o2, rfl, ho'⟩
          · exact absurd h h0
          · exact checkCommit_ops A w hE h4 b1 o1 c1 c.when_ p b2 o2 c.ops.length c2 c.ops hw hc (by omega) (by omega) rfl (List.length_pos_iff.2 h0) (by omega) hsm ho'
  · rw [if_pos hc]; refine (checkCommit_when A w hE h4 a1 c1 c.when_ c.place a2 c.ops.length c2 hw0 hl hc).mono ?_; rintro e w' ⟨rfl, h⟩
    have hk : ∃ k, (chk c.when_).toNat = k + 1 := by
      rcases chk_cases c.when_ with h | h | h
      · exact absurd h hc
      · exact ⟨1, by rw [h]; rfl⟩
      · exact ⟨2, by rw [h]; rfl⟩
    obtain ⟨k, hk⟩ := hk; rw [hk]; exact ComRet.bare (k + 1) rfl h
end Go.Proofs.YtdnebclemngdcaaGreatDoor
namespace Go.Proofs.YtdnebclemngdcaaGreatDoor
open Go.RowKit
set_option maxRecDepth 100000
set_option linter.unusedSectionVars false
variable [Inhabited ComV] [DecidableEq D3] [Inhabited D3] [Inhabited Dd] [Inhabited OpV]

def listBad (l : List ComV) (i : Nat) : Nat :=
  if (comErr l[i]!).1 ≠ 0 then (comErr l[i]!).1 else if l[i]!.when_.length ≠ l[0]!.when_.length then 3 else 0
def SmallC (c : ComV) : Prop := c.when_.length ≤ 1000000 ∧ c.ops.length ≤ 1000000 ∧ ∀ o ∈ c.ops, Small o
theorem scan_fst_zero {f : Nat → Nat} {m : Nat} (h : (scan f m).1 = 0) : scan f m = (0, none) := scan_none (scan_zero h)
theorem comErr_zero {c : ComV} (h : (comErr c).1 = 0) : comErr c = (0, none) := by
  unfold comErr at h ⊢
  split at h
  · rename_i hc
    rcases chk_cases c.when_ with e | e | e
    · exact absurd e hc
    · rw [e] at h; exact absurd h (by decide)
    · rw [e] at h; exact absurd h (by decide)
  · split at h
    · exact absurd h (by decide)
    · split at h
      · exact absurd h (by decide)
      · rename_i h1 h2 h3
        rw [if_neg h1, if_neg h2, if_neg h3]; exact scan_fst_zero h

theorem checkList_nil (w : World) (a : Option Addr) (c : Nat) : Calls Tryz.prog 108 #[.slice a 0 c] w fun e w' => e = .returned .nilIface ∧ w' = w := by
  go_enter Tryz.func108, Tryz.ntmps108; go_wp2; refine wp_loop_rounds 1 ?_; rw [rounds_succ]; go_wp2; go_ret; exact ⟨rfl, rfl⟩

set_option maxHeartbeats 4000000 in
theorem checkList_ok_n (A : Nat → Addr) (w : World) (hE : E4 A w) (h4 : 12 ≤ w.heap.size) (b off m c : Nat) (l : List ComV) (hm : l.length = m) (h0 : 0 < m) (hl : m ≤ 1000000) (hsm : ∀ c ∈ l, SmallC c) (hok : ∀ i, i < m → listBad l i = 0)
    (ho : ∀ j, j < m → ∃ wv ov, IntsAt w wv l[j]!.when_ ∧ OpsAt w ov l[j]!.ops ∧ w.cell? ⟨b, off + j * 3, none⟩ = some wv ∧ w.cell? ⟨b, off + j * 3 + 1, none⟩ = some (.int .i64 l[j]!.place) ∧ w.cell? ⟨b, off + j * 3 + 2, none⟩ = some ov) :
    Calls Tryz.prog 108 #[.slice (some ⟨b, off, none⟩) m c] w fun e w' => e = .returned .nilIface ∧ Below w.heap.size w w' := by
  obtain ⟨wv0, _, hi0, _, z0, _, _⟩ := ho 0 h0; rw [Nat.zero_mul, Nat.add_zero] at z0; obtain ⟨a0, k0, rfl, _, _⟩ := hi0; obtain ⟨n0, hn0⟩ : ∃ n0, n0 = l[0]!.when_.length := ⟨_, rfl⟩; rw [← hn0] at z0; have HN0 := hid hn0; have HO := hid ho; have HE := hid hE; have HM := hid hm; have HS := hid hsm; have HK := hid hok; clear ho hE hm hsm hok hn0; go_enter Tryz.func108, Tryz.ntmps108; go_wp2
  go_loopw [8] (fun i wr => ∃ k : Nat, k ≤ m ∧ i = .int .i64 k ∧ Hid (Below w.heap.size w wr)) (fun i _ => m - (intOf i).toNat)
  case atStart => exact ⟨0, Nat.zero_le _, rfl, Below.refl _ _⟩
  case round =>
    obtain ⟨k, hk, rfl, HB⟩ := hrel; have hsz := HB.out.size
    by_cases hlt : k < m
    · obtain ⟨wv, ov, hi, hop, q0, q1, q2⟩ := HO.out k hlt; have up : ∀ {a : Addr} {v : Value}, w.cell? a = some v → wr.cell? a = some v := fun {a v} h => by rw [HB.out.cell (lt_of_cell h)]; exact h
      have r0 := up q0; have r1 := up q1; have r2 := up q2; have y0 := up z0; have hSm : SmallC l[k]! := HS.out _ (by rw [getElem!_pos l k (by have := HM.out; omega)]; exact List.getElem_mem _); have hbad := HK.out k hlt
      have hce : comErr l[k]! = (0, none) := comErr_zero (by
        unfold listBad at hbad
        split at hbad
        · rename_i h; exact absurd hbad h
        · rename_i h; simpa using h)
      have hlen : l[k]!.when_.length = n0 := by
        have := HN0.out; unfold listBad at hbad; rw [if_neg (by rw [hce]; decide)] at hbad
        split at hbad
        · exact absurd hbad (by decide)
        · rename_i h; rw [this]; simpa using h
      have hi' := hi.mono HB.out (Nat.le_refl _); have ho' := hop.mono HB.out (Nat.le_refl _); obtain ⟨x, hx⟩ : ∃ x, x = l[k]! := ⟨_, rfl⟩; rw [← hx] at r1 hSm hce hlen hi' ho'; have KC := fun o => checkCommit A (wr.alloc o) ((HE.out.below HB.out h4).below (below_alloc wr o) (by omega)) (by simp; omega) x wv ov (hi'.mono (below_alloc wr o) (Nat.le_refl _)) (ho'.mono (below_alloc wr o) (Nat.le_refl _)) hSm.1 hSm.2.1 hSm.2.2
      rw [hce] at KC; obtain ⟨a1, c1, rfl, _, _⟩ := hi'; obtain ⟨a2, c2, rfl, _, _, _⟩ := ho'.shape; rw [hlen] at KC r0; obtain ⟨m2, hm2⟩ : ∃ m2, m2 = x.ops.length := ⟨_, rfl⟩; rw [← hm2] at KC r2; obtain ⟨pl, hpl⟩ : ∃ pl, pl = x.place := ⟨_, rfl⟩; rw [← hpl] at KC r1; clear q0 q1 q2 hi hop hx hSm hce hlen hbad hm2 hpl up
      go_wp2_with (go_at_call 36; refine (KC _).mono ?_; rintro e w' ⟨v, rfl, hv, hw⟩; obtain rfl : v = .nilIface := hv)
      have hwB : Hid (Below w.heap.size w w') := (HB.out.alloc hsz _).trans (hw.mono (by simp; omega)); have f0 : w'.cell? ⟨wr.heap.size, 0, none⟩ = some (.slice a1 n0 c1) := by rw [hw.cell (p := ⟨wr.heap.size, 0, none⟩) (by simp)]; simp
      have g0 : w'.cell? ⟨b, off, none⟩ = some (.slice a0 n0 k0) := by rw [hwB.out.cell (lt_of_cell z0)]; exact z0
      have bne : ((n0 : Int) != (n0 : Int)) = false := by simp
      clear hw KC y0 r0 r1 r2
      go_quiet (fail)
      go_wp2; exact ⟨⟨k + 1, by omega, by go_num, below_draws hwB.out _⟩, by simp [intOf]; omega⟩
    · obtain rfl : k = m := by omega
      go_wp2; go_ret
      exact ⟨rfl, HB.out⟩

theorem checkList_ok (A : Nat → Addr) (w : World) (hE : E4 A w) (h4 : 12 ≤ w.heap.size) (v : Value) (l : List ComV) (hv : ComsAt w v l) (hl : l.length ≤ 1000000) (hsm : ∀ c ∈ l, SmallC c) (hok : ∀ i, i < l.length → listBad l i = 0) :
    Calls Tryz.prog 108 #[v] w fun e w' => e = .returned .nilIface ∧ Below w.heap.size w w' := by
  obtain ⟨ad, cap, rfl, _, _, h⟩ := hv.shape
  by_cases h0 : l = []
  · subst h0; refine (checkList_nil w ad cap).mono ?_; rintro e w' ⟨rfl, rfl⟩; exact ⟨rfl, Below.refl _ _⟩
  · rcases h with h | ⟨b, off, rfl, h⟩
    · exact absurd h h0
    · exact checkList_ok_n A w hE h4 b off l.length cap l rfl (List.length_pos_iff.2 h0) hl hsm hok h
end Go.Proofs.YtdnebclemngdcaaGreatDoor
