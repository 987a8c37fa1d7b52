/- vector.Check by its contracts; Commits in memory; what is asked of a commit; slices.DeleteFunc over ops with their dots; CheckCommit by its contract. -/
import Derived.Test.YtepnghacjggkkaaGreatDoorJVOpM
import Derived.Test.YtepnghacjggkkaaGreatDoorJVMath
import Derived.Shelf.SlicesE.DeleteFunc
namespace Go.Proofs.YtepnghacjggkkaaGreatDoor
open Go.RowKit

def chkV (A : Nat → Addr) (zs : List Int) : Value := if chk zs = 0 then .nilIface else .iface 276 (.pointer (some (A 1)))
theorem chkV_ok {A : Nat → Addr} {zs : List Int} (h : chk zs = 0) : chkV A zs = .nilIface := if_pos h
theorem chkV_bad {A : Nat → Addr} {zs : List Int} (h : chk zs ≠ 0) : chkV A zs = .iface 276 (.pointer (some (A 1))) := if_neg h
theorem check_shape (A : Nat → Addr) (w : World) (hE : E4 A w) (ad : Option Addr) (n c : Nat) (h : n < 1 ∨ 6 < n) (hn : n ≤ 1000000) :
    Calls Tryz.prog 69 #[.slice ad n c] w fun e w' => e = .returned (.iface 276 (.pointer (some (A 2)))) ∧ w' = w := by
  have g2 := hE.shape
  rcases h with h | h
  · obtain rfl : n = 0 := by omega
    go_enter Tryz.func69, Tryz.ntmps69
    go_wp2
    go_ret
    exact ⟨rfl, rfl⟩
  · have h1 : ¬ n < 1 := by omega
    go_enter Tryz.func69, Tryz.ntmps69
    go_wp2
    go_ret
    exact ⟨rfl, rfl⟩
set_option maxHeartbeats 1000000 in
theorem check_n (A : Nat → Addr) (w : World) (hE : E4 A w) (b o n c : Nat) (zs : List Int) (hz : zs.length = n) (h1 : 1 ≤ n) (h6 : n ≤ 6)
    (hc : ∀ t, t < n → w.cell? ⟨b, o + t, none⟩ = some (.int .i64 (zs.getD t 0))) :
    Calls Tryz.prog 69 #[.slice (some ⟨b, o, none⟩) n c] w fun e w' => e = .returned (chkV A zs) ∧ w' = w := by
  have g1 := hE.bound
  have HZ : Hid (zs.length = n) := hz
  have HC : Hid (∀ t, t < n → w.cell? ⟨b, o + t, none⟩ = some (.int .i64 (zs.getD t 0))) := hc
  clear hz hc
  go_enter Tryz.func69, Tryz.ntmps69
  go_wp2
  go_loop [16] (fun i => ∃ k : Nat, k ≤ n ∧ i = .int .i64 k ∧ ∀ t, t < k → 0 ≤ zs.getD t 0 ∧ zs.getD t 0 ≤ 1099511627776) (fun i => n - (intOf i).toNat)
  case atStart => exact ⟨0, Nat.zero_le _, rfl, fun t ht => absurd ht (Nat.not_lt_zero _)⟩
  case round =>
    obtain ⟨k, hk, rfl, hin⟩ := hrel
    have HI : Hid (∀ t, t < k → 0 ≤ zs.getD t 0 ∧ zs.getD t 0 ≤ 1099511627776) := hin
    clear hin
    by_cases hlt : k < n
    · have e1 := HC.out k hlt
      obtain ⟨z, hzz⟩ : ∃ z, z = zs.getD k 0 := ⟨_, rfl⟩
      rw [← hzz] at e1
      have HZZ : Hid (z = zs.getD k 0) := hzz
      clear hzz
      by_cases ha : z < 0
      · go_wp2
        go_ret
        exact ⟨congrArg Ending.returned (chkV_bad (by rw [chk_bad (t := k) (by have := HZ.out; omega) (by have := HZ.out; omega) (by have := HZ.out; omega) (by rw [← HZZ.out]; omega)]; decide)).symm, rfl⟩
      · by_cases hb : 1099511627776 < z
        · go_wp2
          go_ret
          exact ⟨congrArg Ending.returned (chkV_bad (by rw [chk_bad (t := k) (by have := HZ.out; omega) (by have := HZ.out; omega) (by have := HZ.out; omega) (by rw [← HZZ.out]; omega)]; decide)).symm, rfl⟩
        · go_wp2
          go_round
          case rel =>
            refine ⟨k + 1, by omega, by go_num, fun t ht => ?_⟩
            rcases Nat.lt_succ_iff_lt_or_eq.1 ht with h | rfl
            · exact HI.out t h
            · rw [← HZZ.out]; omega
          case measure => simp [intOf]; omega
    · obtain rfl : k = n := by omega
      go_wp2
      go_ret
      exact ⟨congrArg Ending.returned (chkV_ok (chk_zero.2 ⟨by have := HZ.out; omega, by have := HZ.out; omega, fun t ht => HI.out t (by have := HZ.out; omega)⟩)).symm, rfl⟩
theorem check_ok (A : Nat → Addr) (w : World) (hE : E4 A w) (v : Value) (zs : List Int) (h : IntsAt w v zs) (h0 : chk zs = 0) :
    Calls Tryz.prog 69 #[v] w fun e w' => e = .returned .nilIface ∧ w' = w := by
  obtain ⟨ad, c, rfl, _, h⟩ := h
  have hz := chk_zero.1 h0
  rcases h with rfl | ⟨b, o, rfl, h⟩
  · simp at hz
  · have := check_n A w hE b o zs.length c zs rfl hz.1 hz.2.1 h
    rw [chkV_ok h0] at this
    exact this
theorem check_bad (A : Nat → Addr) (w : World) (hE : E4 A w) (v : Value) (zs : List Int) (h : IntsAt w v zs) (hl : zs.length ≤ 1000000) (h0 : chk zs ≠ 0) :
    Calls Tryz.prog 69 #[v] w fun e w' => e = .returned (.iface 276 (.pointer (some (A ((chk zs).toNat - 1))))) ∧ w' = w := by
  obtain ⟨ad, c, rfl, _, h⟩ := h
  by_cases hs : zs.length < 1 ∨ 6 < zs.length
  · rw [chk_shape hs]
    exact check_shape A w hE ad _ c hs hl
  · rcases h with rfl | ⟨b, o, rfl, h⟩
    · exact absurd (.inl (by decide)) hs
    · have h2 : chk zs = 2 := by
        rcases chk_cases zs with e | e | e
        · exact absurd e h0
        · exact e
        · unfold chk at e; rw [if_neg hs] at e; split at e <;> omega
      have := check_n A w hE b o zs.length c zs rfl (by omega) (by omega) h
      rw [chkV_bad h0] at this
      rw [h2]
      exact this
end Go.Proofs.YtepnghacjggkkaaGreatDoor
namespace Go.Proofs.YtepnghacjggkkaaGreatDoor
open Go.RowKit
set_option linter.unusedSectionVars false
variable [Inhabited ComV] [DecidableEq D3] [Inhabited D3] [Inhabited Dd] [Inhabited OpV]

def F2 {α β : Type} (R : α → β → Prop) : List α → List β → Prop
  | [], [] => True
  | a :: l, b :: m => R a b ∧ F2 R l m
  | _, _ => False
theorem f2_mono {α β : Type} {R S : α → β → Prop} (h : ∀ a b, R a b → S a b) : ∀ {l : List α} {m : List β}, F2 R l m → F2 S l m
  | [], [], _ => trivial
  | _ :: _, _ :: _, ⟨h1, h2⟩ => ⟨h _ _ h1, f2_mono h h2⟩
theorem f2_len {α β : Type} {R : α → β → Prop} : ∀ {l : List α} {m : List β}, F2 R l m → l.length = m.length
  | [], [], _ => rfl
  | _ :: _, _ :: _, ⟨_, h2⟩ => by simp [f2_len h2]
theorem f2_get {α β : Type} {R : α → β → Prop} : ∀ {l : List α} {m : List β}, F2 R l m → ∀ (j : Nat) (y : β), m[j]? = some y → ∃ x, l[j]? = some x ∧ R x y
  | [], [], _, _, _, h => by simp at h
  | _ :: _, _ :: _, ⟨h1, h2⟩, j, y, h => by
    cases j with
    | zero => simp at h; subst h; exact ⟨_, rfl, h1⟩
    | succ j => exact f2_get h2 j y (by simpa using h)
def opCells (o : OpV) (dv : Value) : List Value := [.int .i64 o.at_, .string o.key, .int .i64 o.kind, .string o.text, .int .i64 o.n, .bool o.rem, dv]
def OpRow (w : World) (cs : List Value) (o : OpV) : Prop := ∃ dv, cs = opCells o dv ∧ DotsAt w dv o.dots
def OpsAt (w : World) (v : Value) (os : List OpV) : Prop := ∃ rows, RowAt 7 w v rows ∧ F2 (OpRow w) rows os
def ComRow (w : World) (cs : List Value) (c : ComV) : Prop := ∃ wv ov, cs = [wv, .int .i64 c.place, ov] ∧ IntsAt w wv c.when_ ∧ OpsAt w ov c.ops
def ComsAt (w : World) (v : Value) (l : List ComV) : Prop := ∃ rows, RowAt 3 w v rows ∧ F2 (ComRow w) rows l
theorem OpRow.mono {w w' : World} {cs : List Value} {o : OpV} {B : Nat} (h : OpRow w cs o) (hb : Below B w w') (hB : w.heap.size ≤ B) : OpRow w' cs o :=
  let ⟨dv, h1, h2⟩ := h; ⟨dv, h1, h2.mono hb hB⟩
theorem OpsAt.mono {w w' : World} {v : Value} {os : List OpV} {B : Nat} (h : OpsAt w v os) (hb : Below B w w') (hB : w.heap.size ≤ B) : OpsAt w' v os :=
  let ⟨r, h1, h2⟩ := h; ⟨r, h1.mono hb hB, f2_mono (fun _ _ h => h.mono hb hB) h2⟩
theorem ComRow.mono {w w' : World} {cs : List Value} {c : ComV} {B : Nat} (h : ComRow w cs c) (hb : Below B w w') (hB : w.heap.size ≤ B) : ComRow w' cs c :=
  let ⟨a, b, h1, h2, h3⟩ := h; ⟨a, b, h1, h2.mono hb hB, h3.mono hb hB⟩
theorem ComsAt.mono {w w' : World} {v : Value} {l : List ComV} {B : Nat} (h : ComsAt w v l) (hb : Below B w w') (hB : w.heap.size ≤ B) : ComsAt w' v l :=
  let ⟨r, h1, h2⟩ := h; ⟨r, h1.mono hb hB, f2_mono (fun _ _ h => h.mono hb hB) h2⟩
theorem OpsAt.shape {w : World} {v : Value} {os : List OpV} (h : OpsAt w v os) : ∃ ad cap, v = .slice ad os.length cap ∧ (ad = none → cap = 0) ∧ os.length ≤ cap ∧
    (os = [] ∨ ∃ b off, ad = some ⟨b, off, none⟩ ∧ ∀ j, j < os.length → ∃ dp dc, DotsAt w (.slice dp os[j]!.dots.length dc) os[j]!.dots ∧
      w.cell? ⟨b, off + j * 7, none⟩ = some (.int .i64 os[j]!.at_) ∧ w.cell? ⟨b, off + j * 7 + 1, none⟩ = some (.string os[j]!.key) ∧ w.cell? ⟨b, off + j * 7 + 2, none⟩ = some (.int .i64 os[j]!.kind) ∧ w.cell? ⟨b, off + j * 7 + 3, none⟩ = some (.string os[j]!.text) ∧
      w.cell? ⟨b, off + j * 7 + 4, none⟩ = some (.int .i64 os[j]!.n) ∧ w.cell? ⟨b, off + j * 7 + 5, none⟩ = some (.bool os[j]!.rem) ∧ w.cell? ⟨b, off + j * 7 + 6, none⟩ = some (.slice dp os[j]!.dots.length dc)) := by
  obtain ⟨rows, ⟨ad, cap, rfl, h1, h2, h3⟩, hf⟩ := h
  have hl := f2_len hf
  refine ⟨ad, cap, by rw [hl], h1, by omega, ?_⟩
  rcases h3 with rfl | ⟨b, off, rfl, h3⟩
  · exact .inl (List.eq_nil_of_length_eq_zero hl.symm)
  · refine .inr ⟨b, off, rfl, fun j hj => ?_⟩
    obtain ⟨r, hr, dv, rfl, hd⟩ := f2_get hf j os[j]! (by rw [getElem!_pos os j hj, List.getElem?_eq_getElem hj])
    obtain ⟨dp, dc, rfl⟩ := hd.len
    have hc := (h3 j _ hr).2
    exact ⟨dp, dc, hd, hc 0 _ rfl, hc 1 _ rfl, hc 2 _ rfl, hc 3 _ rfl, hc 4 _ rfl, hc 5 _ rfl, hc 6 _ rfl⟩
theorem ComsAt.shape {w : World} {v : Value} {l : List ComV} (h : ComsAt w v l) : ∃ ad cap, v = .slice ad l.length cap ∧ (ad = none → cap = 0) ∧ l.length ≤ cap ∧
    (l = [] ∨ ∃ b off, ad = some ⟨b, off, none⟩ ∧ ∀ j, j < l.length → ∃ wv ov, IntsAt w wv l[j]!.when_ ∧ OpsAt w ov l[j]!.ops ∧
      w.cell? ⟨b, off + j * 3, none⟩ = some wv ∧ w.cell? ⟨b, off + j * 3 + 1, none⟩ = some (.int .i64 l[j]!.place) ∧ w.cell? ⟨b, off + j * 3 + 2, none⟩ = some ov) := by
  obtain ⟨rows, ⟨ad, cap, rfl, h1, h2, h3⟩, hf⟩ := h
  have hl := f2_len hf
  refine ⟨ad, cap, by rw [hl], h1, by omega, ?_⟩
  rcases h3 with rfl | ⟨b, off, rfl, h3⟩
  · exact .inl (List.eq_nil_of_length_eq_zero hl.symm)
  · refine .inr ⟨b, off, rfl, fun j hj => ?_⟩
    obtain ⟨r, hr, wv, ov, rfl, hw, ho⟩ := f2_get hf j l[j]! (by rw [getElem!_pos l j hj, List.getElem?_eq_getElem hj])
    have hc := (h3 j _ hr).2
    exact ⟨wv, ov, hw, ho, hc 0 _ rfl, hc 1 _ rfl, hc 2 _ rfl⟩
def opBad (n : Int) (os : List OpV) (i : Nat) : Nat :=
  if opErr os[i]! n ≠ 0 then opErr os[i]! n else if 0 < i ∧ os[i]!.at_ ≤ os[i - 1]!.at_ then 3 else 0
def scan (f : Nat → Nat) (m : Nat) : Nat × Option Nat :=
  match (List.range m).find? (fun i => decide (f i ≠ 0)) with
  | some i => (f i, some i)
  | none => (0, none)
theorem scan_none {f : Nat → Nat} {m : Nat} (h : ∀ i, i < m → f i = 0) : scan f m = (0, none) := by
  unfold scan
  rw [List.find?_eq_none.2 fun i hi => by rw [h i (List.mem_range.1 hi)]; decide]
theorem scan_some {f : Nat → Nat} {m i : Nat} (hi : i < m) (h : ∀ j, j < i → f j = 0) (hf : f i ≠ 0) : scan f m = (f i, some i) := by
  have : (List.range m).find? (fun i => decide (f i ≠ 0)) = some i := by
    rw [List.find?_range_eq_some]
    exact ⟨by simpa using hf, by simpa using hi, fun j hj => by simpa using h j hj⟩
  unfold scan
  rw [this]
theorem scan_zero {f : Nat → Nat} {m : Nat} (h : (scan f m).1 = 0) : ∀ i, i < m → f i = 0 := by
  intro i hi
  unfold scan at h
  cases hq : (List.range m).find? (fun i => decide (f i ≠ 0)) with
  | none =>
    have := List.find?_eq_none.1 hq i (List.mem_range.2 hi)
    simpa using this
  | some k =>
    rw [hq] at h
    have := List.find?_some hq
    simp at this
    exact absurd h this
def comErr (c : ComV) : Nat × Option Nat :=
  if chk c.when_ ≠ 0 then ((chk c.when_).toNat, none)
  else if c.place < 0 ∨ (c.when_.length : Int) ≤ c.place ∨ c.when_.getD c.place.toNat 0 = 0 ∨ 12 < c.ops.length then (2, none)
  else if c.ops = [] then (3, none)
  else scan (opBad c.when_.length c.ops) c.ops.length
def ErrAt (A : Nat → Addr) (w : World) (v : Value) (e : Nat × Option Nat) : Prop :=
  match e.2 with
  | none => v = errV A e.1
  | some i => ∃ pb, v = .iface 116 (.pointer (some ⟨pb, 0, none⟩)) ∧ w.cell? ⟨pb, 0, none⟩ = some (.int .i64 i) ∧ w.cell? ⟨pb, 1, none⟩ = some (errV A e.1)
theorem ErrAt.bare {A : Nat → Addr} {w : World} {e : Nat × Option Nat} (k : Nat) (h : e = (k, none)) : ErrAt A w (errV A k) e := by subst h; exact rfl
theorem ErrAt.at {A : Nat → Addr} {w : World} {e : Nat × Option Nat} {i k : Nat} (pb : Nat) (h : e = (k, some i)) (c0 : w.cell? ⟨pb, 0, none⟩ = some (.int .i64 i)) (c1 : w.cell? ⟨pb, 1, none⟩ = some (errV A k)) : ErrAt A w (.iface 116 (.pointer (some ⟨pb, 0, none⟩))) e := by
  subst h; exact ⟨pb, rfl, c0, c1⟩
end Go.Proofs.YtepnghacjggkkaaGreatDoor
namespace Go.Proofs.YtepnghacjggkkaaGreatDoor
open Go.RowKit Go.Sort Go.Lib
set_option linter.unusedSectionVars false
variable [Inhabited ComV] [DecidableEq D3] [Inhabited D3] [Inhabited Dd] [Inhabited OpV]

theorem zero85 (w : World) : (zeroValue 214).run Tryz.prog w = .ok (.agg #[.int .i64 0, .string ByteArray.empty, .int .i64 0, .string ByteArray.empty, .int .i64 0, .bool false, .slice none 0 0, .int .i64 0, .int .i64 0, .int .i64 0, .int .i64 0]) w := by kernel_rfl
theorem zeros_one (n : Nat) : ∀ v ∈ (Builtin.zeroCells (Value.cells (.agg #[.int .i64 0, .string ByteArray.empty, .int .i64 0, .string ByteArray.empty, .int .i64 0, .bool false, .slice none 0 0, .int .i64 0, .int .i64 0, .int .i64 0, .int .i64 0])) n).toList, v.oneCell' = true := by
  intro v hv
  simp only [Builtin.zeroCells, Value.cells] at hv
  rw [Array.mem_toList_iff, Array.mem_map] at hv
  obtain ⟨i, _, rfl⟩ := hv
  obtain ⟨j, hj⟩ : ∃ j, j = i % 11 := ⟨_, rfl⟩
  have hl : j < 11 := by omega
  show (#[Value.int .i64 0, .string ByteArray.empty, .int .i64 0, .string ByteArray.empty, .int .i64 0, .bool false, .slice none 0 0, .int .i64 0, .int .i64 0, .int .i64 0, .int .i64 0][i % 11]!).oneCell' = true
  rw [← hj]
  rcases (by omega : j = 0 ∨ j = 1 ∨ j = 2 ∨ j = 3 ∨ j = 4 ∨ j = 5 ∨ j = 6 ∨ j = 7 ∨ j = 8 ∨ j = 9 ∨ j = 10) with h | h | h | h | h | h | h | h | h | h | h <;> rw [h] <;> rfl
set_option maxHeartbeats 1000000 in
set_option maxRecDepth 100000 in
theorem deleteFunc_some (w : World) (B g cap gf : Nat) (lb : Array Value) (p : Dd → Bool) (d : Array Dd) (eg : ∀ args w, (callFunc gf args).run Tryz.prog w = .ok (.enter gf args) w) (S : World → Prop)
    (hSd : ∀ W, Below w.heap.size w W → S W) (hSa : ∀ W o, S W → S (W.alloc o)) (hSs : ∀ W o vs, S W → S (W.setCells g o vs))
    (hp : ∀ (W : World) (x : Dd), S W → Calls Tryz.prog gf (#[.agg x.enc.toArray] ++ lb) W fun e w' => e = .returned (.bool (p x)) ∧ w' = W.alloc (.cells x.enc.toArray 214))
    (hB : B ≤ g) (hg : g < w.heap.size) (hH : HoldsK Dd.enc 11 w g 0 d) (hcap : d.size ≤ cap) (hsz : d.size ≤ 1000000) :
    Calls Tryz.prog 139 #[.slice (some ⟨g, 0, none⟩) d.size cap, .func (.func gf) #[] lb] w fun e w' => e = .returned (.slice (some ⟨g, 0, none⟩) (d.toList.filter fun x => !p x).length cap) ∧ HoldsK Dd.enc 11 w' g 0 (d.toList.filter fun x => !p x).toArray ∧ Below B w w' ∧ g < w'.heap.size := by
  have tl : ∀ j, j < d.size → d.toList[j]! = d[j]! := fun j hj => by rw [getElem!_pos d j hj, getElem!_pos d.toList j (by simpa using hj)]; simp
  have hIF := AnyQ.slices_IndexFunc Tryz.idxDd 11 Tryz.isAgg214 Tryz.sizeOf214 Dd.enc Dd.enc_length p gf lb eg g 0 d.size cap d.toList w
    (fun W x hb => (hp W x (hSd W hb)).mono fun _ _ ⟨he, hw⟩ => ⟨he, by rw [hw]; exact hb.alloc hb.size _⟩) (by simp) (by omega) hg (fun j hj i v hi => by
      have hj' : j < d.size := by simpa using hj
      have hi' : i < 11 := by have := (List.getElem?_eq_some_iff.1 hi).1; rw [Dd.enc_length] at this; exact this
      rw [Nat.zero_add, (holdsK_iff.1 hH j hj' i hi').1, ← tl j hj', List.getElem!_eq_getElem?_getD (l := (d.toList[j]!).enc), hi]
      rfl)
  change Calls Tryz.prog 157 _ _ _ at hIF
  rw [show d.toList.take d.size = d.toList from List.take_of_length_le (by simp)] at hIF
  obtain ⟨kp, HK⟩ : ∃ kp : Nat → Bool, Hid (kp = fun j => !p d[j]!) := ⟨_, rfl⟩
  have hfil : (d.toList.filter fun x => !p x) = keptUpTo kp d d.size := by rw [HK.out]; exact (keptUpTo_filter (fun x => !p x) d).symm
  rw [hfil]
  rcases idxByFrom_spec (fun _ y => p y) default d.toList 0 with ⟨e1, hall⟩ | ⟨k0, hk0, e1, ht, hall⟩
  · have e2 : Lib.idxBy (fun _ y => p y) d.toList default = -1 := e1
    rw [e2] at hIF
    have hkeep : ∀ j, j < d.size → kp j = true := fun j hj => by rw [HK.out]; show (!p d[j]!) = true; rw [← tl j hj, hall j (by simpa using hj)]; rfl
    have e3 : keptUpTo kp d d.size = d.toList := by rw [keptUpTo_all kp d _ hkeep, range_map_get]
    have HH := hid hH
    clear hH hp hSd hSa hSs
    go_enter Tryz.func139, Tryz.ntmps139
    go_wp2_with (go_at_call 157; refine hIF.mono ?_; rintro e w' ⟨rfl, hb'⟩)
    go_ret
    rw [e3]
    exact ⟨by simp, by simpa using holdsK_below HH.out hb' hg, hb'.mono (by omega), Nat.lt_of_lt_of_le hg hb'.size⟩
  · have hk0' : k0 < d.size := by simpa using hk0
    have e2 : Lib.idxBy (fun _ y => p y) d.toList default = (k0 : Int) := by unfold Lib.idxBy; rw [e1]; simp
    rw [e2] at hIF
    have hkeep : ∀ j, j < k0 → kp j = true := fun j hj => by rw [HK.out]; show (!p d[j]!) = true; rw [← tl j (by omega), hall j hj]; rfl
    have hdrop : kp k0 = false := by rw [HK.out]; show (!p d[k0]!) = false; rw [← tl k0 hk0']; rw [show p d.toList[k0]! = true from ht]; rfl
    have hne1 : ((k0 : Int) == -1) = false := beq_eq_false_iff_ne.2 (by omega)
    have HC := hid hp
    have HH := hid hH
    have HSd := hid hSd
    have HSa := hid hSa
    have HSs := hid hSs
    clear hp hH hall ht e1 e2 tl hSd hSa hSs
    go_enter Tryz.func139, Tryz.ntmps139
    go_wp2_with (go_at_call 157; refine hIF.mono ?_; rintro e w' ⟨rfl, hb'⟩)
    have HB := hid hb'
    clear hb' hIF hfil
    go_loopg [5, 6, 7] d.size (fun gg s5 s6 _ wr => ∃ (i j : Nat) (dk : Array Dd), s5 = .int .i64 i ∧ s6 = .int .i64 j ∧ j ≤ d.size ∧ d.size - j ≤ gg ∧ Hid (HoldsK Dd.enc 11 wr g 0 dk) ∧ Hid (Below B w wr) ∧ g < wr.heap.size ∧ Hid (KeptInv kp d j i dk) ∧ Hid (S wr))
    case atStart => exact ⟨k0, k0 + 1, d, rfl, by go_num, by omega, by omega, holdsK_below HH.out HB.out hg, HB.out.mono (by omega), Nat.lt_of_lt_of_le hg HB.out.size, KeptInv.start hkeep hdrop, HSd.out _ HB.out⟩
    case round =>
      obtain ⟨i, j, dk, rfl, rfl, hjd, hgg, HD, BW, hgw, I2, JS⟩ := hrel
      have hij := I2.out.lt
      have hds := I2.out.size
      by_cases hlt : j < d.size
      · have hltz : (j : Int) < (d.size : Int) := by omega
        obtain ⟨u, hu⟩ : ∃ u, u = d[j]! := ⟨_, rfl⟩
        obtain ⟨c0, c1, c2, c3, c4, c5, c6, c7, c8, c9, c10⟩ := holdsK_cells HD.out (j := j) (u := u) (by omega) (by rw [I2.out.high j (by omega)]; exact hu.symm)
        have HU := hid hu
        clear hu
        have hX : HoldsK Dd.enc 11 ((wr.alloc (.cells u.enc.toArray 214)).alloc (.cells u.enc.toArray 214)) g 0 dk := holdsK_below HD.out ((below_alloc _ _).trans ((below_alloc _ _).mono (by simp))) hgw
        have hcall := HC.out (wr.alloc (.cells u.enc.toArray 214)) u (HSa.out _ _ JS.out)
        cases hq : p u with
        | false =>
          rw [hq] at hcall
          have HQ := hid hq
          clear hq
          obtain ⟨u1, u2, u3, u4, u5, u6, up, ul, uc, ⟨u8, u9, u10⟩, u11, u12⟩ := u
          have hc := hid (holdsK_some hX (j := i) (by omega))
          have hf := hid (holdsK_frz hX (j := i) (by omega))
          have HHc : Hid (∀ q, q < 11 → (((wr.alloc (.cells #[.int .i64 u1, .string u2, .int .i64 u3, .string u4, .int .i64 u5, .bool u6, .slice up ul uc, .int .i64 u8, .int .i64 u9, .int .i64 u10, .int .i64 u11] 214)).alloc (.cells #[.int .i64 u1, .string u2, .int .i64 u3, .string u4, .int .i64 u5, .bool u6, .slice up ul uc, .int .i64 u8, .int .i64 u9, .int .i64 u10, .int .i64 u11] 214)).cell? ⟨g, i * 11 + q, none⟩).isSome = true) := hc
          have HHf : Hid (∀ q, q < 11 → ((wr.alloc (.cells #[.int .i64 u1, .string u2, .int .i64 u3, .string u4, .int .i64 u5, .bool u6, .slice up ul uc, .int .i64 u8, .int .i64 u9, .int .i64 u10, .int .i64 u11] 214)).alloc (.cells #[.int .i64 u1, .string u2, .int .i64 u3, .string u4, .int .i64 u5, .bool u6, .slice up ul uc, .int .i64 u8, .int .i64 u9, .int .i64 u10, .int .i64 u11] 214)).frozen? ⟨g, i * 11 + q, none⟩ = false) := hf
          simp only [Dd.enc] at hcall
          have hS := holdsK_set hX (i := i) (by omega) ⟨u1, u2, u3, u4, u5, u6, up, ul, uc, ⟨u8, u9, u10⟩, u11, u12⟩
          simp only [Dd.enc] at hS
          have HS := hid hS
          clear hX hc hf hS
          go_wp2_with (first
            | (go_at_fn gf; refine hcall.mono ?_; rintro e w' ⟨rfl, rfl⟩)
            | (refine wpList_store_k _ rfl (.tmp 33) (.tmp 32) 214 rfl g (i * 11) [.int .i64 u1, .string u2, .int .i64 u3, .string u4, .int .i64 u5, .bool u6, .slice up ul uc, .int .i64 u8, .int .i64 u9, .int .i64 u10, .int .i64 u11] rfl rfl 11 rfl Tryz.sizeOf214 rfl _ ?hW HHc.out HHf.out ?_; case hW => rfl))
          go_roundg (d.size - (j + 1))
          case measure => omega
          case rel =>
            refine ⟨i + 1, j + 1, dk.setIfInBounds i ⟨u1, u2, u3, u4, u5, u6, up, ul, uc, ⟨u8, u9, u10⟩, u11, u12⟩, by go_num, by go_num, by omega, Nat.le_refl _, ?_, ?_, ?_, ?_, HSs.out _ _ _ (HSa.out _ _ (HSa.out _ _ JS.out))⟩
            · exact HS.out
            · exact below_setCells hB _ _ ((BW.out.alloc (by omega) _).alloc (by simp; omega) _)
            · rw [setCells_size]; simp; omega
            · have := I2.out.keep hlt (by rw [HK.out]; show (!p d[j]!) = true; rw [← HU.out, HQ.out]; rfl)
              rw [← HU.out] at this
              exact this
        | true =>
          rw [hq] at hcall
          have HQ := hid hq
          clear hq hX
          obtain ⟨u1, u2, u3, u4, u5, u6, up, ul, uc, ⟨u8, u9, u10⟩, u11, u12⟩ := u
          simp only [Dd.enc] at hcall
          go_wp2_with (go_at_fn gf; refine hcall.mono ?_; rintro e w' ⟨rfl, rfl⟩)
          go_roundg (d.size - (j + 1))
          case measure => omega
          case rel =>
            refine ⟨i, j + 1, dk, rfl, by go_num, by omega, Nat.le_refl _, ?_, ?_, ?_, ?_, HSa.out _ _ (HSa.out _ _ JS.out)⟩
            · exact holdsK_below HD.out ((below_alloc _ _).trans ((below_alloc _ _).mono (by simp))) hgw
            · exact (BW.out.alloc (by omega) _).alloc (by simp; omega) _
            · simp; omega
            · exact I2.out.skip (by rw [HK.out]; show (!p d[j]!) = false; rw [← HU.out, HQ.out]; rfl)
      · obtain rfl : j = d.size := by omega
        have hltz : ¬ (d.size : Int) < (d.size : Int) := by omega
        obtain ⟨vs, hvs⟩ : ∃ vs, vs = (Builtin.zeroCells (Value.cells (.agg #[.int .i64 0, .string ByteArray.empty, .int .i64 0, .string ByteArray.empty, .int .i64 0, .bool false, .slice none 0 0, .int .i64 0, .int .i64 0, .int .i64 0, .int .i64 0])) (d.size - i)).toList := ⟨_, rfl⟩
        have hvl : vs.length = (d.size - i) * 11 := by rw [hvs]; simp [Builtin.zeroCells, Value.cells]; try omega
        have hcl : ∀ ty, (Builtin.clear_ #[210] ty #[.slice (some ⟨g, i * 11, none⟩) (d.size - i) (cap - i)]).run Tryz.prog wr = .ok (.tuple #[]) (wr.setCells g (i * 11) vs) := fun ty =>
          run_clear_k wr 210 214 ty _ Tryz.underlying210 zero85 g (i * 11) (d.size - i) (cap - i) (by omega) vs hvs.symm (by rw [hvs]; exact zeros_one _) (fun q hq => by
            rw [hvl] at hq
            have := holdsK_some HD.out (j := i + q / 11) (by omega) (q % 11) (by omega)
            rwa [show (i + q / 11) * 11 + q % 11 = i * 11 + q by omega] at this) (fun q hq => by
            rw [hvl] at hq
            have := holdsK_frz HD.out (j := i + q / 11) (by omega) (q % 11) (by omega)
            rwa [show (i + q / 11) * 11 + q % 11 = i * 11 + q by omega] at this)
        have HV := hid hvs
        have HL := hid hvl
        clear hvs hvl
        go_wp2
        go_ret
        have hI := I2.out
        rw [hI.len]
        refine ⟨rfl, ?_, below_setCells hB _ _ BW.out, by rw [setCells_size]; exact hgw⟩
        refine holdsK_tail (holdsK_cut HD.out (by simp [hI.len]; omega) (fun q hq => ?_)) _ _ (by simp [hI.len])
        have hq' : q < i := by simpa [hI.len] using hq
        have := hI.low q hq'
        obtain ⟨h1, h2⟩ := List.getElem?_eq_some_iff.1 this
        rw [← h2]
        simp [h1]
theorem deleteFunc_none (w : World) (p : Option Addr) (fv : Value) : Calls Tryz.prog 139 #[.slice p 0 0, fv] w fun e w' => e = .returned (.slice p 0 0) ∧ w' = w := by
  go_enter Tryz.func139, Tryz.ntmps139
  go_wp2_with (go_at_call 157; refine (indexFunc_none _ _ _ _).mono ?_; rintro e w' ⟨rfl, rfl⟩)
  go_ret
  exact ⟨rfl, rfl⟩
theorem deleteFunc_row (w : World) (B gf kb : Nat) (val : Value) (p : Dd → Bool) (v : Value) (xs : List Dd) (eg : ∀ args w, (callFunc gf args).run Tryz.prog w = .ok (.enter gf args) w)
    (hp : ∀ (W : World) (x : Dd), W.cell? ⟨kb, 0, none⟩ = some val → Calls Tryz.prog gf #[.agg x.enc.toArray, .pointer (some ⟨kb, 0, none⟩)] W fun e w' => e = .returned (.bool (p x)) ∧ w' = W.alloc (.cells x.enc.toArray 214))
    (hc : w.cell? ⟨kb, 0, none⟩ = some val) (hr : RowD w B v xs) (hkb : ∀ g n c, v = .slice (some ⟨g, 0, none⟩) n c → g ≠ kb) (hsz : xs.length ≤ 1000000) :
    Calls Tryz.prog 139 #[v, .func (.func gf) #[] #[.pointer (some ⟨kb, 0, none⟩)]] w fun e w' => ∃ v', e = .returned v' ∧ RowD w' B v' (xs.filter fun x => !p x) ∧ Below B w w' ∧ v'.ownBlock = v.ownBlock := by
  rcases hr with ⟨rfl, rfl⟩ | ⟨g, cap, rfl, hB, hg, hcap, hH⟩
  · refine (deleteFunc_none w none _).mono ?_
    rintro e w' ⟨rfl, rfl⟩
    exact ⟨_, rfl, .inl ⟨rfl, rfl⟩, Below.refl _ _, rfl⟩
  · have hne : g ≠ kb := hkb g _ _ rfl
    have := deleteFunc_some w B g cap gf #[.pointer (some ⟨kb, 0, none⟩)] p xs.toArray eg (fun W => W.cell? ⟨kb, 0, none⟩ = some val) (fun W hb => by rw [hb.cell (p := ⟨kb, 0, none⟩) (lt_of_cell hc)]; exact hc) (fun W o h => cell_alloc h o)
      (fun W o vs h => by rw [World.cell?_setCells_out g vs o W ⟨kb, 0, none⟩ (fun e => absurd e.symm hne)]; exact h) hp hB hg hH (by simpa using hcap) (by simpa using hsz)
    simp only [List.size_toArray] at this
    refine this.mono ?_
    rintro e w' ⟨rfl, h1, h2, h3⟩
    exact ⟨_, rfl, .inr ⟨g, cap, rfl, hB, h3, Nat.le_trans (List.length_filter_le _ _) hcap, h1⟩, h2, rfl⟩
end Go.Proofs.YtepnghacjggkkaaGreatDoor
namespace Go.Proofs.YtepnghacjggkkaaGreatDoor
open Go.RowKit
set_option maxRecDepth 100000
set_option linter.unusedSectionVars false
variable [Inhabited ComV] [DecidableEq D3] [Inhabited D3] [Inhabited Dd] [Inhabited OpV]

def Small (o : OpV) : Prop := o.text.size ≤ 1000000 ∧ o.dots.length ≤ 1000000
def ComRet (A : Nat → Addr) (w : World) (er : Nat × Option Nat) (e : Ending) (w' : World) : Prop := ∃ v, e = .returned v ∧ ErrAt A w' v er ∧ Below w.heap.size w w'
theorem ComRet.bare {A : Nat → Addr} {w w' : World} {er : Nat × Option Nat} (k : Nat) (h : er = (k, none)) (hb : Below w.heap.size w w') : ComRet A w er (.returned (errV A k)) w' := ⟨_, rfl, ErrAt.bare k h, hb⟩
theorem checkCommit_when (A : Nat → Addr) (w : World) (hE : E4 A w) (h4 : 12 ≤ w.heap.size) (a1 : Option Addr) (c1 : Nat) (zs : List Int) (pl : Int) (a2 : Option Addr) (m c2 : Nat)
    (hw : IntsAt w (.slice a1 zs.length c1) zs) (hl : zs.length ≤ 1000000) (hc : chk zs ≠ 0) :
    Calls Tryz.prog 92 #[.agg #[.slice a1 zs.length c1, .int .i64 pl, .slice a2 m c2]] w fun e w' => e = .returned (.iface 276 (.pointer (some (A ((chk zs).toNat - 1))))) ∧ Below w.heap.size w w' := by
  have K := fun o => check_bad A (w.alloc o) (hE.below (below_alloc _ _) h4) (.slice a1 zs.length c1) zs (hw.mono (below_alloc _ _) (Nat.le_refl _)) hl hc
  obtain ⟨n, hn⟩ : ∃ n, n = zs.length := ⟨_, rfl⟩
  rw [← hn] at K ⊢
  clear hn hw hl
  go_enter Tryz.func92, Tryz.ntmps92
  go_wp2_with (go_at_call 69; refine (K _).mono ?_; rintro e w' ⟨rfl, rfl⟩)
  go_ret
  exact ⟨rfl, below_alloc _ _⟩
set_option maxHeartbeats 2000000 in
theorem checkCommit_bound (A : Nat → Addr) (w : World) (hE : E4 A w) (h4 : 12 ≤ w.heap.size) (b1 o1 : Nat) (c1 : Nat) (zs : List Int) (pl : Int) (a2 : Option Addr) (m c2 : Nat)
    (hw : ∀ t, t < zs.length → w.cell? ⟨b1, o1 + t, none⟩ = some (.int .i64 (zs.getD t 0))) (hc : chk zs = 0) (hm : m ≤ 1000000)
    (h : pl < 0 ∨ (zs.length : Int) ≤ pl ∨ zs.getD pl.toNat 0 = 0 ∨ 12 < m) :
    Calls Tryz.prog 92 #[.agg #[.slice (some ⟨b1, o1, none⟩) zs.length c1, .int .i64 pl, .slice a2 m c2]] w fun e w' => e = .returned (errV A 2) ∧ Below w.heap.size w w' := by
  have hn6 := (chk_zero.1 hc).2.1
  have K := fun o => check_ok A (w.alloc o) (hE.below (below_alloc _ _) h4) (.slice (some ⟨b1, o1, none⟩) zs.length c1) zs (IntsAt.mono ⟨_, _, rfl, (fun h => by cases h), .inr ⟨b1, o1, rfl, hw⟩⟩ (below_alloc w o) (Nat.le_refl _)) hc
  have hW := hid hw
  have g0 := fun o => cell_alloc hE.bound o
  obtain ⟨n, hn⟩ : ∃ n, n = zs.length := ⟨_, rfl⟩
  rw [← hn] at K hW h hn6 ⊢
  clear hn hw hc hE
  by_cases p0 : pl < 0
  · go_enter Tryz.func92, Tryz.ntmps92
    go_wp2_with (go_at_call 69; refine (K _).mono ?_; rintro e w' ⟨rfl, rfl⟩)
    go_ret
    exact ⟨rfl, below_alloc _ _⟩
  · obtain ⟨p, rfl⟩ : ∃ p : Nat, pl = p := ⟨pl.toNat, by omega⟩
    by_cases p1 : (n : Int) ≤ p
    · go_enter Tryz.func92, Tryz.ntmps92
      go_wp2_with (go_at_call 69; refine (K _).mono ?_; rintro e w' ⟨rfl, rfl⟩)
      go_ret
      exact ⟨rfl, below_alloc _ _⟩
    · have cz := fun o => cell_alloc (hW.out p (by omega)) o
      obtain ⟨z, hz⟩ : ∃ z, z = zs.getD p 0 := ⟨_, rfl⟩
      rw [← hz] at cz
      have HZ := hid hz
      clear hz
      have hlt : p < n := by omega
      by_cases z0 : z = 0
      · rw [z0] at cz
        clear h
        go_enter Tryz.func92, Tryz.ntmps92
        go_wp2_with (go_at_call 69; refine (K _).mono ?_; rintro e w' ⟨rfl, rfl⟩)
        go_ret
        exact ⟨rfl, below_alloc _ _⟩
      · have bz : (z == 0) = false := by simpa using z0
        have m12 : 12 < (m : Int) := by
          rcases h with h | h | h | h
          · omega
          · omega
          · rw [Int.toNat_natCast, ← HZ.out] at h; omega
          · omega
        clear h
        go_enter Tryz.func92, Tryz.ntmps92
        go_wp2_with (go_at_call 69; refine (K _).mono ?_; rintro e w' ⟨rfl, rfl⟩)
        go_ret
        exact ⟨rfl, below_alloc _ _⟩
set_option maxHeartbeats 2000000 in
theorem checkCommit_empty (A : Nat → Addr) (w : World) (hE : E4 A w) (h4 : 12 ≤ w.heap.size) (b1 o1 : Nat) (c1 : Nat) (zs : List Int) (p : Nat) (a2 : Option Addr) (c2 : Nat)
    (hw : ∀ t, t < zs.length → w.cell? ⟨b1, o1 + t, none⟩ = some (.int .i64 (zs.getD t 0))) (hc : chk zs = 0) (hp : p < zs.length) (hz : zs.getD p 0 ≠ 0) :
    Calls Tryz.prog 92 #[.agg #[.slice (some ⟨b1, o1, none⟩) zs.length c1, .int .i64 p, .slice a2 0 c2]] w fun e w' => e = .returned (errV A 3) ∧ Below w.heap.size w w' := by
  have hn6 := (chk_zero.1 hc).2.1
  have K := fun o => check_ok A (w.alloc o) (hE.below (below_alloc _ _) h4) (.slice (some ⟨b1, o1, none⟩) zs.length c1) zs (IntsAt.mono ⟨_, _, rfl, (fun h => by cases h), .inr ⟨b1, o1, rfl, hw⟩⟩ (below_alloc w o) (Nat.le_refl _)) hc
  have g0 := fun o => cell_alloc hE.shape o
  have cz := fun o => cell_alloc (hw p hp) o
  obtain ⟨z, hzz⟩ : ∃ z, z = zs.getD p 0 := ⟨_, rfl⟩
  rw [← hzz] at cz hz
  have bz : (z == 0) = false := by simpa using hz
  obtain ⟨n, hn⟩ : ∃ n, n = zs.length := ⟨_, rfl⟩
  rw [← hn] at K hp hn6 ⊢
  have p1 : ¬ (n : Int) ≤ p := by omega
  clear hn hw hc hE hzz hz
  go_enter Tryz.func92, Tryz.ntmps92
  go_wp2_with (go_at_call 69; refine (K _).mono ?_; rintro e w' ⟨rfl, rfl⟩)
  go_ret
  exact ⟨rfl, below_alloc _ _⟩
end Go.Proofs.YtepnghacjggkkaaGreatDoor
