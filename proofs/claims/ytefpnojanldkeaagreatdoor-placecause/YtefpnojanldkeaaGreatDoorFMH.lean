/- PlaceWhole: what is read of each key; The closed fact placed, out of New and Commit; The closed fact placed; Read, at a place, where nothing is wrong; PlaceWhole: two places side by side; what the law goes on; PlaceWhole: place 0 commits, and beats. -/
import Derived.Test.YtefpnojanldkeaaGreatDoorFME
import Derived.Test.YtefpnojanldkeaaGreatDoorJLP
import Derived.Test.YtefpnojanldkeaaGreatDoorJLB
import Derived.Test.YtefpnojanldkeaaGreatDoorJLM
import Derived.Test.YtefpnojanldkeaaGreatDoorJWMath
namespace Go.Proofs.YtefpnojanldkeaaGreatDoor
open Go.RowKit Go.Maps
set_option maxRecDepth 10000
set_option linter.unusedSectionVars false
variable [Inhabited ComV] [DecidableEq D3] [Inhabited D3] [Inhabited Dd] [Inhabited Dn] [Inhabited OpV]

theorem snapJ0 (id n k : Nat) (k1 : 1 ≤ k) (j : Nat) : snapJ (pv0 id n k) j = 0 := by
  unfold snapJ
  split
  · rfl
  · exact least_none (rt := fun _ => (0 : Int)) (k := k) (s := 0) (fun s _ => .inl rfl) (by omega) rfl
theorem snapV0 (id n k : Nat) (k1 : 1 ≤ k) : snapV (pv0 id n k) = List.replicate n 0 := by
  unfold snapV
  show (List.range n).map (snapJ (pv0 id n k)) = _
  rw [show snapJ (pv0 id n k) = fun _ => 0 from funext fun j => snapJ0 id n k k1 j, List.map_const', List.length_range]
/-- The one commit. -/
def cW (ks : List ByteArray) : ComV := comN [0, 0] 0 1 (cOps ks)
theorem cW_when (ks : List ByteArray) : (cW ks).when_ = [1, 0] := rfl
theorem cW_src {ks : List ByteArray} (hks : ks ≠ []) (h12 : ks.length ≤ 12) (hn : ∀ key ∈ ks, nameB key = true) : ∀ j, j = 0 → SrcOk 2 (fun _ => cW ks) j := by
  rintro j rfl
  exact cCom_ok rfl (by decide) (by decide) (fun j hj => by
    rcases (by omega : j = 0 ∨ j = 1) with rfl | rfl <;> exact .inl rfl) hks h12 hn
theorem snap_pair {k i : Nat} {C : Nat → ComV} {h : PlH} {v : PlV} (hI : RcI 2 1 k C (· = 0) i h v) : snapV v = [snapJ v 0, 0] := by
  unfold snapV
  rw [hI.vn]
  have : snapJ v 1 = 0 := by
    unfold snapJ
    rw [if_pos hI.vid.symm, hI.ck]
  show [snapJ v 0, snapJ v 1] = _
  rw [this]
/-- A key of the commit reads as a counter, or as nothing: by the snapshot alone. -/
theorem whole_kind {k i : Nat} {ks : List ByteArray} {h : PlH} {v : PlV} (k1 : 1 ≤ k) (hI : RcI 2 1 k (fun _ => cW ks) (· = 0) i h v) (hks : ks ≠ []) (h12 : ks.length ≤ 12) (hn : ∀ key ∈ ks, nameB key = true) {key : ByteArray} (hkey : key ∈ ks) {ds : List Dn} (hd : IsOps key (seenL v.st key (snapV v)) ds) : (valA ds).kind = if snapJ v 0 = 1 then 2 else 0 := by
  obtain ⟨D, hK, hlen, hSt, hst, hD, hmem⟩ := hI.kept (cW_src hks h12 hn) (by decide) (by decide)
  rw [snap_pair hI, hst] at hd
  rcases hI.snap k1 0 (by decide) (by decide) with e | ⟨e, _, hall⟩
  · rw [e] at hd
    rw [if_neg (by omega)]
    have : seenL (stOf 2 (D.map (partP (fun _ => cW ks) k))) key [0, 0] = [] := by
      rw [List.eq_nil_iff_forall_not_mem]
      intro x hx
      obtain ⟨p, _, o, _, _, _, _, hle⟩ := seen_mem hx
      exact absurd hle (by rw [cW_when]; decide)
    rw [this] at hd
    rw [isOps_nil hd]
    rfl
  · rw [e] at hd
    rw [if_pos e]
    obtain ⟨o, ho, rfl⟩ := cOps_has hkey
    have hq : qS (cW ks) k (shardN o.key k) = 1 := qS_one fun e0 => by
      have : o ∈ partOps (cW ks).ops k (shardN o.key k) := List.mem_filter.2 ⟨ho, by simp⟩
      rw [e0] at this
      simp at this
    have hsk : shardN o.key k < k := Nat.mod_lt _ (by omega)
    have hin : (0, shardN o.key k) ∈ D := (hmem _).2 ⟨⟨by rw [hI.vn]; exact (by decide : 0 < 2), by rw [hI.vid]; exact (by decide : 0 ≠ 1), by rw [hI.vk]; exact hsk⟩, rfl, hq, hall _ hsk⟩
    have hs := seen_some (C := fun _ => cW ks) (n := 2) (k := k) (j := 0) (D := D) (at_ := [1, 0]) (by rw [cW_when]; decide) ho hin
    have hone : OneDot (seenL (stOf 2 (D.map (partP (fun _ => cW ks) k))) o.key [1, 0]) := fun a ha b hb e => by
      have hsub : ∀ c ∈ seenL (stOf 2 (D.map (partP (fun _ => cW ks) k))) o.key [1, 0], c ∈ (D.map (partP (fun _ => cW ks) k)).flatMap partsC := fun c hc => seenL_mem hc
      exact oneDot_parts hK a (flat_sub hsub ha) b (flat_sub hsub hb) e
    have h2 := isOps_two hd hone (fun e0 => by
      have : dnOf (partC (cW ks) o) o ∈ flatA (seenL (stOf 2 (D.map (partP (fun _ => cW ks) k))) o.key [1, 0]) := flat_mem.2 ⟨_, hs, by simp [partC]⟩
      rw [e0] at this
      simp at this) fun d hd' => by
      obtain ⟨x, hx, hdx⟩ := flat_mem.1 hd'
      obtain ⟨p, _, o', ho', rfl, hk', _, _⟩ := seen_mem hx
      have hd0 : d = dnOf (partC (cW ks) o') o' := by simpa [partC] using hdx
      subst hd0
      exact ⟨hk', (cOps_mem ho').2.1⟩
    exact (valA_two h2.1 h2.2.1).1
end Go.Proofs.YtefpnojanldkeaaGreatDoor
namespace Go.Proofs.YtefpnojanldkeaaGreatDoor
open Go.RowKit Go.Maps
set_option maxRecDepth 100000
set_option linter.unusedSectionVars false
variable [Inhabited ComV] [DecidableEq D3] [Inhabited D3] [Inhabited Dd] [Inhabited Dn] [Inhabited OpV]

def opKV : OpV := ⟨0, ⟨#[107]⟩, 2, ⟨#[]⟩, 5, false, []⟩
theorem snap_two : snapV (pv0 0 2 1) = [0, 0] := by decide
theorem shardN_one (key : ByteArray) : shardN key 1 = 0 := Nat.mod_one _
theorem parts_one (c : ComV) : partV c 1 0 = c := by
  obtain ⟨w, p, os⟩ := c
  simp [partV, partOps, shardN_one]
theorem tx_two (w : World) (h : PlH) (hnn : h.nn ≤ 1000000) : TxOk w h (pv0 0 2 1) [0, 0] [opKV] where
  two := by rw [snap_two]; decide
  le := by rw [snap_two]; decide
  light := ⟨by decide, by decide, fun o ho => by simp at ho; rw [ho]; decide⟩
  put := ⟨(by first | decide | kernel_rfl), (by first | decide | kernel_rfl), (by first | decide | kernel_rfl), fun o _ => by simp [pv0]⟩
  base := by decide
  few := fun k => by simp [pv0, rowOf]
  nn := hnn
  ck := by decide
  parts := fun s hs _ => by
    obtain rfl : s = 0 := by have : s < 1 := hs; omega
    show (comE (partV _ 1 0)).1 = 0
    rw [parts_one]
    decide
theorem pvOk0 (id n k : Nat) : PvOk (pv0 id n k) :=
  ⟨(by decide : (0 : Int) ≤ 0), (by decide : (0 : Int) ≤ 1000), fun _ _ _ => (by decide : (0 : Int) ≤ 0), fun _ _ _ => (by decide : (0 : Int) ≤ 900), fun _ _ _ => (by decide : 0 ≤ 900), fun _ _ _ => (by decide : (0 : Int) ≤ 0), fun _ _ _ => (by decide : (0 : Int) ≤ 0), fun _ _ _ => (by decide : (0 : Int) ≤ 0), fun _ _ _ => (by decide : (0 : Int) ≤ 1000)⟩
theorem clock_any (w : World) (h : PlH) (v : PlV) (a : PlAt w h v) : Calls Tryz.prog 21 #[.pointer (some ⟨h.pb, 0, none⟩)] w fun e w' => e = .returned (.int .i64 v.ck) ∧ w' = w := by
  have q : w.cell? ⟨h.pb, 2, none⟩ = some (.int .i64 v.ck) := (cell_of a.box).trans rfl
  clear a
  go_enter Tryz.func21, Tryz.ntmps21
  go_wp2
  go_ret
  exact ⟨rfl, rfl⟩
theorem ms_two (c : ComV) (h : c.ops ≠ []) : allMs (sendT (comV1 (pv0 0 2 1) c) c) 0 1 2 = [sendM (comV1 (pv0 0 2 1) c) c 1 0] := by
  have e : partOps c.ops (comV1 (pv0 0 2 1) c).k 0 ≠ [] := by
    show partOps c.ops 1 0 ≠ []
    rw [show partOps c.ops 1 0 = c.ops by simp [partOps, shardN_one]]
    exact h
  simp [allMs, rowMs, sendT, e]
theorem ints_two {W : World} {b c : Nat} {x y : Int} (h : W.heap[b]? = some (.cells #[.int .i64 x, .int .i64 y] 3 (0, 0))) : IntsAt W (.slice (some ⟨b, 0, none⟩) 2 c) [x, y] := ints_heap (zs := [x, y]) h
theorem ops_lit {W : World} {b : Nat} {o : OpV} (h : W.heap[b]? = some (.cells (opCells o (.slice none 0 0)).toArray 34 (0, 0))) (hd : o.dots = []) : OpsAt W (.slice (some ⟨b, 0, none⟩) 1 1) [o] := by
  refine ⟨[opCells o (.slice none 0 0)], ⟨_, _, rfl, by simp, by simp, .inr ⟨b, 0, rfl, fun j r hj => ?_⟩⟩, ⟨.slice none 0 0, rfl, ?_⟩, trivial⟩
  · obtain ⟨rfl, rfl⟩ : j = 0 ∧ r = opCells o (.slice none 0 0) := by
      cases j with
      | zero => exact ⟨rfl, by simpa using hj.symm⟩
      | succ j => simp at hj
    refine ⟨rfl, fun i u hu => ?_⟩
    rw [Nat.zero_mul, Nat.zero_add, cell_of h]
    simpa using hu
  · rw [hd]
    exact ⟨none, 0, rfl, fun _ => rfl, Nat.le_refl _, .inl rfl⟩
theorem Sen.whole {A : Nat → Addr} {B : Nat} {w : World} (h : Sen A B w) : Sen A w.heap.size w :=
  ⟨Nat.le_trans h.gl h.size, Nat.le_refl _, h.e4⟩
def comK : ComV := comN [0, 0] 0 1 [opKV]
set_option maxHeartbeats 4000000 in
theorem commit_placed (A : Nat → Addr) (B : Nat) (w : World) (hS : Sen A B w) (h : PlH) (hP : PlAt w h (pv0 0 2 1)) (hf : ∀ b, h.foot (pv0 0 2 1) b → B ≤ b) (hnn : h.nn = 0) (b1 b2 : Nat) (g1 : w.heap[b1]? = some (.cells #[.int .i64 0, .int .i64 0] 3 (0, 0))) (g2 : w.heap[b2]? = some (.cells (opCells opKV (.slice none 0 0)).toArray 34 (0, 0))) :
    Calls Tryz.prog 9 #[.pointer (some ⟨h.pb, 0, none⟩), .slice (some ⟨b1, 0, none⟩) 2 2, .slice (some ⟨b2, 0, none⟩) 1 1] w fun e w' => ∃ (a3 a4 : Option Addr) (c3 c4 b5 c5 : Nat), e = .returned (.tuple #[.agg #[.slice a3 2 c3, .int .i64 0, .slice a4 1 c4], .slice (some ⟨b5, 0, none⟩) 1 c5, .nilIface]) ∧ w'.cell? ⟨b5, 1, none⟩ = some (.int .i64 1) ∧ IntsAt w' (.slice a3 2 c3) [1, 0] ∧ (∃ cs, w'.heap[h.pb]? = some (.cells cs 68 (0, 0)) ∧ cs[2]? = some (.int .i64 1)) ∧ Below B w w' := by
  refine (commit_any A B w hS hS.e4 h (pv0 0 2 1) hP hf (pvOk0 0 2 1) (some ⟨b1, 0, none⟩) (some ⟨b2, 0, none⟩) 2 2 1 1 [0, 0] [opKV] (ints_two g1) (ops_lit g2 rfl) (tx_two w h (by omega))).mono ?_
  rintro e w3 ⟨⟨h', a3, a4, c3, c4, rv, rs, rfl, hP3, hM3, hpb, hnn3, hfr, hrow, hF, hco, _⟩⟩
  have hF' : F2 (RawOwn 0 w3) rs [sendM (comV1 (pv0 0 2 1) comK) comK 1 0] := by
    have hc : comN [0, 0] (pv0 0 2 1).id ((pv0 0 2 1).ck + 1) [opKV] = comK := rfl
    rw [hc] at hF
    have e1 : (pv0 0 2 1).id = 0 := rfl
    have e2 : (pv0 0 2 1).k = 1 := rfl
    have e3 : (pv0 0 2 1).n = 2 := rfl
    rw [e1, e2, e3, ms_two comK (by decide)] at hF
    exact hF
  match rs, hF', hrow with
  | [r], hF', hrow =>
    have hx3 : r.x2 = 1 := hF'.1.nums.x2
    have hrow' : w3.ownsRow w.heap.size 44 9 rv 1 r.cells := by
      have e : raws [r] = r.cells := by simp [raws]
      rw [e] at hrow
      exact hrow
    obtain ⟨a5, c5, hv5⟩ := row_shape hrow'
    subst hv5
    obtain ⟨b5, cs5, rfl, _, h5, ht5, hz5⟩ := owns_cells hrow' (by decide)
    have x1 : cs5[1]? = some (.int .i64 1) := by
      have e : (cs5.toList.take (1 * 9))[1]? = some (.int .i64 1) := by rw [ht5]; simp [Raw.cells, hx3]
      rw [List.getElem?_take, if_pos (by omega), Array.getElem?_toList] at e
      exact e
    exact ⟨a3, a4, c3, c4, b5, c5, rfl, (cell_of h5).trans x1, hco.ints, ⟨_, hpb ▸ hP3.box, rfl⟩, ⟨hM3.os, hM3.tape, hM3.output, hM3.size, fun k hk => hM3.block k (Nat.lt_of_lt_of_le hk hS.size) fun e => by have := hf k e; omega⟩⟩
end Go.Proofs.YtefpnojanldkeaaGreatDoor
namespace Go.Proofs.YtefpnojanldkeaaGreatDoor
open Go.RowKit Go.Maps
set_option maxRecDepth 100000
set_option linter.unusedSectionVars false
variable [Inhabited ComV] [DecidableEq D3] [Inhabited D3] [Inhabited Dd] [Inhabited Dn] [Inhabited OpV]

theorem clock_cell (w : World) {pb : Nat} {cs : Array Value} {ck : Int} (h : w.heap[pb]? = some (.cells cs 68 (0, 0))) (hc : cs[2]? = some (.int .i64 ck)) : Calls Tryz.prog 21 #[.pointer (some ⟨pb, 0, none⟩)] w fun e w' => e = .returned (.int .i64 ck) ∧ w' = w := by
  have q : w.cell? ⟨pb, 2, none⟩ = some (.int .i64 ck) := (cell_of h).trans hc
  clear h hc
  go_enter Tryz.func21, Tryz.ntmps21
  go_wp2
  go_ret
  exact ⟨rfl, rfl⟩
theorem new_placed (w : World) : Calls Tryz.prog 7 #[.int .i64 0, .int .i64 2, .int .i64 1] w fun e w' => ∃ h : PlH, e = .returned (.tuple #[.pointer (some ⟨h.pb, 0, none⟩), .nilIface]) ∧ PlAt w' h (pv0 0 2 1) ∧ (∀ b, h.foot (pv0 0 2 1) b → w.heap.size ≤ b) ∧ Below w.heap.size w w' ∧ h.nn = 0 :=
  (new_any w 0 2 1 (by decide) (by decide) (by decide) (by decide)).mono fun _ _ ⟨h, e, h1, h2, h3, h4, _⟩ => ⟨h, e, h1, h2, h3, h4⟩
set_option maxHeartbeats 8000000 in
theorem placed_any (A : Nat → Addr) (B : Nat) (w : World) (hS : Sen A B w) :
    Calls Tryz.prog 6 #[] w fun e w' => e = .returned (.bool true) ∧ Below w.heap.size w w' := by
  have K7 := hid (fun W => new_placed W)
  have K9 := hid (fun W (hW : Sen A w.heap.size W) => commit_placed A w.heap.size W hW)
  have HS := hid hS.whole
  clear hS
  go_enter Tryz.func6, Tryz.ntmps6
  go_wp2_with fail
  refine (K7.out w).mono ?_
  rintro e w1 ⟨h, rfl, hP, hf, hb1, hnn⟩
  obtain ⟨w2, hw2⟩ : ∃ w2, w2 = (w1.alloc (.cells #[.int .i64 0, .int .i64 0] 3)).alloc (.cells #[.int .i64 0, .string ⟨#[107]⟩, .int .i64 2, .string ⟨#[]⟩, .int .i64 5, .bool false, .slice none 0 0] 34) := ⟨_, rfl⟩
  have hb2 : Below w1.heap.size w1 w2 := by rw [hw2]; exact below2 _ _ _
  have g1 : w2.heap[w1.heap.size]? = some (.cells #[.int .i64 0, .int .i64 0] 3 (0, 0)) := by rw [hw2]; exact heap_old (heap_new _ _) _
  have g2 : w2.heap[w1.heap.size + 1]? = some (.cells (opCells opKV (.slice none 0 0)).toArray 34 (0, 0)) := by rw [hw2]; exact heap_new2 _ _ _
  have B2 : Hid (Below w.heap.size w w2) := (show Below _ _ _ from hb1.trans (hb2.mono hb1.size))
  have K9' := hid (K9.out w2 (HS.out.below B2.out) h (hP.below hb2) hf hnn w1.heap.size (w1.heap.size + 1) g1 g2)
  clear g1 g2 hb2 hf hP hb1 hnn K7 K9
  go_wp2_with fail
  rw [← hw2]
  clear hw2
  refine K9'.out.mono ?_
  rintro e w3 ⟨a3, a4, c3, c4, b5, c5, rfl, m1, hi3, ⟨cs, hc3, hk3⟩, hb3⟩
  have K21 := hid (fun W (hW : W.heap[h.pb]? = some (.cells cs 68 (0, 0))) => clock_cell W hW hk3)
  have K18 := hid (fun W (v' : Value) (h1 : IntsAt W (.slice a3 2 c3) [1, 0]) (h2 : IntsAt W v' [1, 0]) => sameInts_same W _ _ [1, 0] h1 h2 (by decide))
  have B3 : Hid (Below w.heap.size w w3) := (show Below _ _ _ from B2.out.trans hb3)
  obtain ⟨w4, hw4⟩ : ∃ w4, w4 = w3.alloc (.cells #[.slice a3 2 c3, .int .i64 0, .slice a4 1 c4] 36) := ⟨_, rfl⟩
  have hb4 : Below w3.heap.size w3 w4 := by rw [hw4]; exact below_alloc _ _
  have n1 : w4.cell? ⟨b5, 1, none⟩ = some (.int .i64 1) := (hb4.cell (p := ⟨b5, 1, none⟩) (lt_of_cell m1)).trans m1
  have n2 : w4.cell? ⟨w3.heap.size, 0, none⟩ = some (.slice a3 2 c3) := by rw [hw4]; exact (cell_of (heap_new _ _)).trans rfl
  have B4 : Hid (Below w.heap.size w w4) := (show Below _ _ _ from B3.out.trans (hb4.mono B3.out.size))
  have HI4 := hid (hi3.mono hb4 (Nat.le_refl _))
  have HC4 := hid ((hb4.block _ (lt_of_heap hc3)).trans hc3)
  clear hb4 m1 hi3 hc3 hk3 hb3
  go_upto_region 5 with (fail)
  rw [← hw4]
  clear hw4
  go_wp2_with (first | (go_at_call 18; refine (K18.out _ _ ?h1 ?h2).mono ?_; (case h1 => first | exact HI4.out.mono (below_alloc w4 _).drew (Nat.le_refl _) | exact HI4.out.mono (below_alloc w4 _) (Nat.le_refl _)); (case h2 => exact ints_two (heap_new _ _)); rintro e w5 ⟨rfl, hb5⟩; have hb5' : Below w4.heap.size w4 w5 := (by first | exact (below_draws (below_alloc w4 _) 1).trans (hb5.mono (by show w4.heap.size ≤ (w4.alloc _).heap.size; simp)) | exact (below_alloc w4 _).trans (hb5.mono (by show w4.heap.size ≤ (w4.alloc _).heap.size; simp))); have HB5 := hid hb5'; clear hb5 hb5') | (go_at_call 21; refine (K21.out _ ((HB5.out.block _ (lt_of_heap HC4.out)).trans HC4.out)).mono ?_; rintro e w6 ⟨rfl, hw6⟩; rw [hw6]; clear hw6))
  have B5 : Hid (Below w.heap.size w w5) := (show Below _ _ _ from B4.out.trans (HB5.out.mono B4.out.size))
  go_ret
  exact ⟨rfl, B5.out⟩
end Go.Proofs.YtefpnojanldkeaaGreatDoor
namespace Go.Proofs.YtefpnojanldkeaaGreatDoor
open Go.RowKit Go.Maps
set_option maxRecDepth 100000
set_option linter.unusedSectionVars false
variable [Inhabited ComV] [DecidableEq D3] [Inhabited D3] [Inhabited Dd] [Inhabited Dn] [Inhabited OpV]

theorem checkAsked_any (A : Nat → Addr) (w : World) (hE : E4 A w) (h12 : 12 ≤ w.heap.size) (h : PlH) (v : PlV) (a : PlAt w h v) (key : ByteArray) (hk : nameB key = true) (va : Option Addr) (vn vc : Nat) (at_ : List Int) (hv : IntsAt w (.slice va vn vc) at_) (h2 : two at_ (snapV v) = 0) (hle : leB at_ (snapV v) = true) : Calls Tryz.prog 39 #[.pointer (some ⟨h.pb, 0, none⟩), .string key, .slice va vn vc] w fun e w' => e = .returned .nilIface ∧ Below w.heap.size w w' := by
  have K69 := hid (checkName_ok w key hk)
  have K25 := hid (checkAt_any A w hE h12 h v a va vn vc at_ hv h2 hle)
  clear hE a hv h2 hle
  go_enter Tryz.func39, Tryz.ntmps39
  go_wp2_with (first | (go_at_call 69; refine K69.out.mono ?_; rintro e w' ⟨rfl, hw'⟩; rw [hw']; clear hw') | (go_at_call 25; refine K25.out.mono ?_; rintro e w2 ⟨rfl, hb2⟩; have B2 := hid hb2; clear hb2))
  go_ret
  exact ⟨rfl, B2.out⟩
set_option maxHeartbeats 2000000 in
theorem read_any (A : Nat → Addr) (w : World) (hE : E4 A w) (h12 : 12 ≤ w.heap.size) (h : PlH) (v : PlV) (a : PlAt w h v) (key : ByteArray) (hk : nameB key = true) (va : Option Addr) (vn vc : Nat) (at_ : List Int) (hv : IntsAt w (.slice va vn vc) at_) (h2 : two at_ (snapV v) = 0) (hle : leB at_ (snapV v) = true) (hS : StOk v.st v.n) (hbs : leB v.st.base at_ = true) (hfew : (rowOf v.st key).length ≤ 1000) :
    Calls Tryz.prog 13 #[.pointer (some ⟨h.pb, 0, none⟩), .string key, .slice va vn vc] w (OfRet key (seenL v.st key at_) w) := by
  obtain ⟨w1, hw1⟩ : ∃ w1, w1 = w.alloc (.cells #[.int .i64 0, .string ⟨#[]⟩, .int .i64 0, .slice none 0 0] 47) := ⟨_, rfl⟩
  have b1 : Below w.heap.size w w1 := by rw [hw1]; exact below_alloc _ _
  have g1 : w1.heap[w.heap.size]? = some (.cells #[.int .i64 0, .string ⟨#[]⟩, .int .i64 0, .slice none 0 0] 47 (0, 0)) := by rw [hw1]; exact heap_new _ _
  have hlen : at_.length = v.n := by have := (two_zero.1 h2).2.2; rw [snapV_len] at this; exact this
  have hc := (two_zero.1 h2).1
  have hk6 : key.size ≤ 1000000 := by
    unfold nameB at hk
    simp only [Bool.and_eq_true, decide_eq_true_eq] at hk
    omega
  have K39 := hid (checkAsked_any A w1 (hE.below b1 h12) (Nat.le_trans h12 b1.size) h v (a.below b1) key hk va vn vc at_ (hv.mono b1 (Nat.le_refl _)) h2 hle)
  have K40 := hid (fun W (hW : Below w.heap.size w W) => read_ok A W (hE.below hW h12) (Nat.le_trans h12 hW.size) h.p h.mb h.db h.nn v.n h.f v.st (a.below hW).store hS key hk hk6 (.slice va vn vc) at_ (hv.mono hW (Nat.le_refl _)) hc hlen hbs hfew)
  have PX := hid (fun W (hW : Below w.heap.size w W) => (show W.cell? ⟨h.pb, 3, none⟩ = some (.pointer (some ⟨h.p, 0, none⟩)) from (cell_of (a.below hW).box).trans rfl))
  have B1 := hid b1
  have G1 := hid g1
  clear hE a hv h2 hle hS hbs hfew b1 g1 hlen hc hk hk6
  go_enter Tryz.func13, Tryz.ntmps13
  go_wp2_with fail
  rw [← hw1]
  clear hw1
  refine K39.out.mono ?_
  rintro e w2 ⟨rfl, hb2⟩
  have bw2 : Below w.heap.size w w2 := B1.out.trans (hb2.mono B1.out.size)
  have G2 := hid ((hb2.block _ (lt_of_heap G1.out)).trans G1.out)
  have p3 := PX.out w2 bw2
  have K40' := hid (K40.out w2 bw2)
  have BW2 := hid bw2
  clear hb2 bw2 K40 PX K39
  go_wp2_with fail
  refine K40'.out.mono ?_
  rintro e w3 ⟨v2, ds, rfl, hi2, hva, hb3⟩
  obtain ⟨sv, hve, hst⟩ := hva
  subst hve
  have HST := hid hst
  obtain ⟨sa, sc, hsv⟩ : ∃ sa sc, sv = .slice sa (valA ds).set.length sc := by obtain ⟨sa, sc, hsv, _⟩ := hst; exact ⟨sa, sc, hsv⟩
  subst hsv
  have x2 : w3.heap[w.heap.size]? = some (.cells #[.int .i64 0, .string ⟨#[]⟩, .int .i64 0, .slice none 0 0] 47 (0, 0)) := (hb3.block _ (lt_of_heap G2.out)).trans G2.out
  have X2 := hid x2
  have R4 := hid (row4 x2)
  have B3 := hid (BW2.out.trans (hb3.mono BW2.out.size))
  have I2 := hid hi2
  obtain ⟨x, hx⟩ : ∃ x, x = valA ds := ⟨_, rfl⟩
  rw [← hx] at HST ⊢
  have HX := hid hx
  obtain ⟨xk, xt, xn, xs⟩ := x
  obtain ⟨m, hm⟩ : ∃ m, m = xs.length := ⟨_, rfl⟩
  simp only at HST ⊢
  rw [← hm] at HST ⊢
  have S4 := hid (set4 x2 [.int .i64 xk, .string xt, .int .i64 xn, .slice sa m sc] rfl)
  clear hst hb3 x2 hi2 hx hm K40' p3
  go_wp2_with (refine wpList_store_k _ rfl (.tmp 6) (.tmp 25) 47 rfl w.heap.size 0 [.int .i64 xk, .string xt, .int .i64 xn, .slice sa m sc] rfl rfl 4 rfl Tryz.sizeOf47 rfl _ ?hW R4.out.1 R4.out.2 ?_; case hW => rfl)
  refine bodyPost_ret (ret_cell_tmp (k := 4) Tryz.results13 Tryz.isAgg47 Tryz.sizeOf47 _ _ w.heap.size [.int .i64 xk, .string xt, .int .i64 xn, .slice sa m sc] _ rfl rfl rfl S4.out) rfl ⟨_, ds, rfl, I2.out, ?_, below_setCells (Nat.le_refl _) _ _ B3.out⟩
  rw [← HX.out]
  refine ⟨_, rfl, strs_keep HST.out fun b hb t => ?_⟩
  have hne : b ≠ w.heap.size := fun e => by
    obtain ⟨y, hy⟩ := hb
    rw [e] at hy
    simp only [World.cell?, X2.out] at hy
    cases hy
  exact World.cell?_setCells_out _ _ _ _ _ (fun e _ => absurd e hne)
end Go.Proofs.YtefpnojanldkeaaGreatDoor
namespace Go.Proofs.YtefpnojanldkeaaGreatDoor
open Go.RowKit Go.Maps
set_option maxRecDepth 10000
set_option linter.unusedSectionVars false
variable [Inhabited ComV] [DecidableEq D3] [Inhabited D3] [Inhabited Dd] [Inhabited Dn] [Inhabited OpV]

theorem PlAt.other {W W' : World} {ha ha' hb : PlH} {va va' vb : PlV} (b : PlAt W hb vb) (m : PlMoves W W' ha va ha' va') (dis : ∀ q, ha.foot va q → ¬ hb.foot vb q) : PlAt W' hb vb ∧ ∀ q, ha'.foot va' q → ¬ hb.foot vb q :=
  ⟨b.keep (fun q hq => m.block q (b.lt hq) fun e => dis q e hq) m.keeps, fun q hq e => by
    rcases m.foot q hq with h | h
    · exact dis q h e
    · have := b.lt e; omega⟩
theorem low_moves {W W' : World} {h h' : PlH} {v v' : PlV} {B : Nat} (l : ∀ q, h.foot v q → B ≤ q) (m : PlMoves W W' h v h' v') (hB : B ≤ W.heap.size) : ∀ q, h'.foot v' q → B ≤ q := fun q hq => by
  rcases m.foot q hq with e | e
  · exact l q e
  · omega
theorem below_moves {w W W' : World} {h h' : PlH} {v v' : PlV} (b : Below w.heap.size w W) (l : ∀ q, h.foot v q → w.heap.size ≤ q) (m : PlMoves W W' h v h' v') : Below w.heap.size w W' :=
  ⟨m.os.trans b.os, m.tape.trans b.tape, m.output.trans b.output, Nat.le_trans b.size m.size, fun q hq => (m.block q (Nat.lt_of_lt_of_le hq b.size) fun e => by have := l q e; omega).trans (b.block q hq)⟩
theorem off_moves {W W' : World} {h h' : PlH} {v v' : PlV} {B e z n : Nat} {lv : Value} {xs : List Value} (row : W.ownsRow B e z lv n xs) (off : ∀ q, lv.ownBlock = some q → ¬ h.foot v q) (m : PlMoves W W' h v h' v') : W'.ownsRow B e z lv n xs ∧ ∀ q, lv.ownBlock = some q → ¬ h'.foot v' q :=
  ⟨own_keep row fun q hq => m.block q (row.lt q hq).2 (off q hq), fun q hq e => by
    rcases m.foot q e with h | h
    · exact off q hq h
    · have := (row.lt q hq).2; omega⟩
/-- A message of place 0's commit or beat to place 1. -/
def WMsg (k : Nat) (ks : List ByteArray) (W : World) (r : Raw) : Prop := ∃ s, s < k ∧ ∃ m, RawOwn 0 W r m ∧ ((qS (cW ks) k s = 1 ∧ m = cmM 0 1 (cW ks) k s) ∨ m = bmM 0 1 (cW ks) k s)
theorem WMsg.kept {k : Nat} {ks : List ByteArray} {W W' : World} {r : Raw} (h : WMsg k ks W r) (hk : Keeps W W') : WMsg k ks W' r := by
  obtain ⟨s, hs, m, hm, h⟩ := h
  exact ⟨s, hs, m, hm.kept hk, h⟩
theorem f2_left {α β : Type} {R : α → β → Prop} : ∀ {l : List α} {m : List β}, F2 R l m → ∀ x ∈ l, ∃ y ∈ m, R x y
  | [], [], _, x, hx => by simp at hx
  | a :: l, b :: m, ⟨h1, h2⟩, x, hx => by
    rcases List.mem_cons.1 hx with rfl | hx
    · exact ⟨b, by simp, h1⟩
    · obtain ⟨y, hy, hr⟩ := f2_left h2 x hx
      exact ⟨y, by simp [hy], hr⟩
/-- Behind the commit: both places, and the row of what is to be sent. -/
structure WcI (w0 : World) (k : Nat) (ks : List ByteArray) (ha : PlH) (va : PlV) (hb : PlH) (lv : Value) (rs : List Raw) (W : World) : Prop where
  bel : Below w0.heap.size w0 W
  a : PlAt W ha va
  b : PlAt W hb (pv0 1 2 k)
  la : ∀ q, ha.foot va q → w0.heap.size ≤ q
  lb : ∀ q, hb.foot (pv0 1 2 k) q → w0.heap.size ≤ q
  dis : ∀ q, ha.foot va q → ¬ hb.foot (pv0 1 2 k) q
  row : W.ownsRow w0.heap.size 44 9 lv rs.length (raws rs)
  offa : ∀ q, lv.ownBlock = some q → ¬ ha.foot va q
  offb : ∀ q, lv.ownBlock = some q → ¬ hb.foot (pv0 1 2 k) q
  own : ∀ r ∈ rs, WMsg k ks W r
theorem WcI.below {w0 : World} {k : Nat} {ks : List ByteArray} {ha : PlH} {va : PlV} {hb : PlH} {lv : Value} {rs : List Raw} {W W' : World} (h : WcI w0 k ks ha va hb lv rs W) (hbl : Below W.heap.size W W') : WcI w0 k ks ha va hb lv rs W' :=
  ⟨h.bel.trans (hbl.mono h.bel.size), h.a.below hbl, h.b.below hbl, h.la, h.lb, h.dis, own_keep h.row fun q hq => hbl.block q (h.row.lt q hq).2, h.offa, h.offb, fun r hr => (h.own r hr).kept (Keeps.bel hbl)⟩
/-- While place 1 hears. -/
structure WhI (w0 : World) (k : Nat) (ks : List ByteArray) (i : Nat) (h : PlH) (v : PlV) (lv : Value) (rs : List Raw) (W : World) : Prop where
  bel : Below w0.heap.size w0 W
  at_ : PlAt W h v
  low : ∀ q, h.foot v q → w0.heap.size ≤ q
  rc : RcI 2 1 k (fun _ => cW ks) (· = 0) i h v
  row : W.ownsRow w0.heap.size 44 9 lv rs.length (raws rs)
  off : ∀ q, lv.ownBlock = some q → ¬ h.foot v q
  own : ∀ r ∈ rs, WMsg k ks W r
theorem WhI.below {w0 : World} {k : Nat} {ks : List ByteArray} {i : Nat} {h : PlH} {v : PlV} {lv : Value} {rs : List Raw} {W W' : World} (I : WhI w0 k ks i h v lv rs W) (hbl : Below W.heap.size W W') : WhI w0 k ks i h v lv rs W' :=
  ⟨I.bel.trans (hbl.mono I.bel.size), I.at_.below hbl, I.low, I.rc, own_keep I.row fun q hq => hbl.block q (I.row.lt q hq).2, I.off, fun r hr => (I.own r hr).kept (Keeps.bel hbl)⟩
theorem WhI.moves {w0 : World} {k : Nat} {ks : List ByteArray} {i : Nat} {h h' : PlH} {v v' : PlV} {lv : Value} {rs : List Raw} {W W' : World} (I : WhI w0 k ks i h v lv rs W) (hP : PlAt W' h' v') (hM : PlMoves W W' h v h' v') (hR : RcI 2 1 k (fun _ => cW ks) (· = 0) (i + 1) h' v') : WhI w0 k ks (i + 1) h' v' lv rs W' :=
  ⟨below_moves I.bel I.low hM, hP, low_moves I.low hM I.bel.size, hR, (off_moves I.row I.off hM).1, (off_moves I.row I.off hM).2, fun r hr => (I.own r hr).kept hM.keeps⟩
theorem WhI.step {w0 : World} {k : Nat} {ks : List ByteArray} {i : Nat} {h : PlH} {v : PlV} {lv : Value} {rs : List Raw} {W : World} (I : WhI w0 k ks i h v lv rs W) : WhI w0 k ks (i + 1) h v lv rs W :=
  ⟨I.bel, I.at_, I.low, I.rc.step (Nat.le_refl _) fun _ _ => Nat.le_succ _, I.row, I.off, I.own⟩
theorem WcI.start {w0 : World} {k : Nat} {ks : List ByteArray} {ha : PlH} {va : PlV} {hb : PlH} {lv : Value} {rs : List Raw} {W : World} (h : WcI w0 k ks ha va hb lv rs W) (hnn : hb.nn = 0) (hx : ∀ j s, (pv0 1 2 k).line j s → (hb.X j s).n = 0) : WhI w0 k ks 0 hb (pv0 1 2 k) lv rs W :=
  ⟨h.bel, h.b, h.lb, rcI0 _ _ hb hnn hx, h.row, h.offb, h.own⟩
/-- A message is heard. -/
theorem WhI.hear (A : Nat → Addr) {w0 W : World} {k : Nat} {ks : List ByteArray} {i : Nat} {h : PlH} {v : PlV} {lv : Value} {rs : List Raw} (I : WhI w0 k ks i h v lv rs W) (hE : E4 A W) (h12 : 12 ≤ w0.heap.size) (hi : i < 70) (hks : ks ≠ []) (hk12 : ks.length ≤ 12) (hn : ∀ key ∈ ks, nameB key = true) {r : Raw} (hr : r ∈ rs) :
    Calls Tryz.prog 11 #[.pointer (some ⟨h.pb, 0, none⟩), .agg r.cells.toArray] W fun e W' => ∃ (h' : PlH) (v' : PlV) (a6 : Option Addr) (c6 : Nat), e = .returned (.tuple #[.slice a6 1 c6, .nilIface]) ∧ h'.pb = h.pb ∧ WhI w0 k ks (i + 1) h' v' lv rs W' := by
  obtain ⟨s, hs, m, hm, hc⟩ := I.own r hr
  have hsz := I.bel.size
  refine (hear_step A W hE (by omega) h v I.at_ (fun b hb => by have := I.low b hb; omega) I.rc hi (cW_src hks hk12 hn) 0 s ⟨by rw [I.rc.vn]; decide, by rw [I.rc.vid]; decide, by rw [I.rc.vk]; exact hs⟩ rfl r m hm hc).mono ?_
  rintro e W' ⟨h', v', a6, c6, he, hP, hM, hpb, hR, _, _⟩
  exact ⟨h', v', a6, c6, he, hpb, I.moves hP hM hR⟩
/-- What is read of a key. -/
theorem WhI.read (A : Nat → Addr) {w0 W : World} {k : Nat} {ks : List ByteArray} {i : Nat} {h : PlH} {v : PlV} {lv : Value} {rs : List Raw} (I : WhI w0 k ks i h v lv rs W) (hE : E4 A W) (h12 : 12 ≤ w0.heap.size) (hi : i ≤ 70) (hks : ks ≠ []) (hk12 : ks.length ≤ 12) (hn : ∀ key ∈ ks, nameB key = true) {key : ByteArray} (hkey : key ∈ ks) (va : Option Addr) (vn vc : Nat) (hv : IntsAt W (.slice va vn vc) (snapV v)) :
    Calls Tryz.prog 13 #[.pointer (some ⟨h.pb, 0, none⟩), .string key, .slice va vn vc] W fun e W' => ∃ (t : ByteArray) (x : Int) (sa : Option Addr) (sn sc : Nat), e = .returned (.tuple #[.agg #[.int .i64 (if snapJ v 0 = 1 then 2 else 0), .string t, .int .i64 x, .slice sa sn sc], .nilIface]) ∧ Below W.heap.size W W' := by
  have k1 : 1 ≤ k := by have := I.at_.k1; have := I.rc.vk; omega
  have hsz := I.bel.size
  obtain ⟨D, hK, hlen, hSt, hst, hD, hmem⟩ := I.rc.kept (cW_src hks hk12 hn) (by decide) (by decide)
  have h01 : snapJ v 0 = 0 ∨ snapJ v 0 = 1 := (I.rc.snap k1 0 (by decide) (by decide)).imp id (·.1)
  have hp := snap_pair I.rc
  have h2 : two (snapV v) (snapV v) = 0 := by rw [hp]; rcases h01 with e | e <;> rw [e] <;> decide
  have hle : leB (snapV v) (snapV v) = true := by rw [hp]; rcases h01 with e | e <;> rw [e] <;> decide
  have hb : leB v.st.base (snapV v) = true := by rw [hst, hp]; rcases h01 with e | e <;> rw [e] <;> rfl
  refine (read_any A W hE (by omega) h v I.at_ key (hn key hkey) va vn vc (snapV v) hv h2 hle (by rw [I.rc.vn]; exact hSt) hb (by rw [hst]; exact rowOf_few hK (by rw [List.length_map]; omega) key)).mono ?_
  rintro e W' ⟨vv, ds, he, hd, ⟨sv, hvv, sa, sc, hsv, _⟩, hbl⟩
  have hkd := whole_kind k1 I.rc hks hk12 hn hkey hd
  rw [hkd, hsv] at hvv
  exact ⟨_, _, sa, _, sc, by rw [he, hvv], hbl⟩
end Go.Proofs.YtefpnojanldkeaaGreatDoor
namespace Go.Proofs.YtefpnojanldkeaaGreatDoor
open Go.RowKit Go.Maps
set_option maxRecDepth 10000
set_option linter.unusedSectionVars false
variable [Inhabited ComV] [DecidableEq D3] [Inhabited D3] [Inhabited Dd] [Inhabited Dn] [Inhabited OpV]

theorem whole_commit (A : Nat → Addr) {w0 W : World} {k : Nat} {ks : List ByteArray} {ha hb : PlH} (hS : Sen A w0.heap.size W) (bel : Below w0.heap.size w0 W) (a : PlAt W ha (pv0 0 2 k)) (b : PlAt W hb (pv0 1 2 k)) (la : ∀ q, ha.foot (pv0 0 2 k) q → w0.heap.size ≤ q) (lb : ∀ q, hb.foot (pv0 1 2 k) q → w0.heap.size ≤ q) (dis : ∀ q, ha.foot (pv0 0 2 k) q → ¬ hb.foot (pv0 1 2 k) q) (hnn : ha.nn = 0) (hx : ∀ j s, (pv0 0 2 k).line j s → (ha.X j s).n = 0) (hks : ks ≠ []) (h12 : ks.length ≤ 12) (hn : ∀ key ∈ ks, nameB key = true) (a1 a2 : Option Addr) (n1 c1 n2 c2 : Nat) (hI : IntsAt W (.slice a1 n1 c1) [0, 0]) (hO : OpsAt W (.slice a2 n2 c2) (cOps ks)) :
    Calls Tryz.prog 9 #[.pointer (some ⟨ha.pb, 0, none⟩), .slice a1 n1 c1, .slice a2 n2 c2] W fun e W' => ∃ (ha' : PlH) (a3 a4 : Option Addr) (c3 c4 : Nat) (rv : Value) (rs : List Raw), e = .returned (.tuple #[.agg #[.slice a3 n1 c3, .int .i64 0, .slice a4 n2 c4], rv, .nilIface]) ∧ ha'.pb = ha.pb ∧ rs.length ≤ 1000 ∧ WcI w0 k ks ha' (pv2 (pv0 0 2 k) (cW ks)) hb rv rs W' := by
  have k1 : 1 ≤ k := a.k1
  have k6 : k ≤ 6 := a.k6
  have hR := rcI0 (fun _ => cW ks) (fun _ => False) ha hnn hx
  obtain ⟨hT, _, hok, _⟩ := hR.tx a (by decide) (fun _ h => h.elim) hks h12 hn
  rw [snapV0 0 2 k k1] at hT
  refine (commit_any A w0.heap.size W hS hS.e4 ha (pv0 0 2 k) a la hok a1 a2 n1 c1 n2 c2 [0, 0] (cOps ks) hI hO hT).mono ?_
  rintro e W' ⟨⟨h', a3, a4, c3, c4, rv, rs, he, hP, hM, hpb, _, hfr, hrow, hF, _⟩⟩
  have hM' : PlMoves W W' ha (pv0 0 2 k) h' (pv2 (pv0 0 2 k) (cW ks)) := hM
  obtain ⟨b', dis'⟩ := b.other hM' dis
  have hsz : w0.heap.size ≤ W.heap.size := bel.size
  have hF' : F2 (RawOwn 0 W') rs (allMs (sendT (comV1 (pv0 0 2 k) (cW ks)) (cW ks)) (pv0 0 2 k).id (pv0 0 2 k).k (pv0 0 2 k).n) := hF
  have hlen : rs.length ≤ 1000 := by
    rw [f2_len hF']
    have := allMs_len (tell := sendT (comV1 (pv0 0 2 k) (cW ks)) (cW ks)) (L := 1) (id := (pv0 0 2 k).id) (k := (pv0 0 2 k).k) (fun j s => by unfold sendT; split <;> simp) (pv0 0 2 k).n
    have e2 : (pv0 0 2 k).n = 2 := rfl
    have ek : (pv0 0 2 k).k = k := rfl
    rw [e2, ek] at this
    rw [e2, ek]
    omega
  refine ⟨h', a3, a4, c3, c4, rv, rs, he, hpb, hlen, below_moves bel la hM', hP, b', low_moves la hM' hsz, lb, dis', owns_base hrow hsz, hfr, fun q hq e => ?_, fun r hr => ?_⟩
  · have h1 := (hrow.lt q hq).1
    have h2 := b.lt e
    omega
  · obtain ⟨m, hm, hown⟩ := f2_left hF' r hr
    obtain ⟨j, s, q, hqs, rfl⟩ := (sent_mem (fun _ _ _ => rfl) (timeC_c (by decide))).1 hm
    have hj : j = 1 := by have h1 : j < 2 := q.1; have h2 : j ≠ 0 := q.2.1; omega
    subst hj
    exact ⟨s, q.2.2, _, hown, .inl ⟨hqs, rfl⟩⟩
theorem whole_beat {w0 W : World} {k : Nat} {ks : List ByteArray} {ha hb : PlH} {lv : Value} {rs : List Raw} (I : WcI w0 k ks ha (pv2 (pv0 0 2 k) (cW ks)) hb lv rs W) :
    Calls Tryz.prog 10 #[.pointer (some ⟨ha.pb, 0, none⟩)] W fun e W' => ∃ (ha' : PlH) (va' : PlV) (rv : Value) (r2 : List Raw), e = .returned rv ∧ WcI w0 k ks ha' va' hb lv rs W' ∧ W'.ownsRow W.heap.size 44 9 rv r2.length (raws r2) ∧ r2.length ≤ 1000 ∧ ∀ r ∈ r2, WMsg k ks W' r := by
  have k6 : k ≤ 6 := I.b.k6
  have hok := pvOk2 (c := cW ks) (pvOk0 0 2 k) (fun _ _ _ => ⟨rfl, rfl, rfl⟩) rfl (timeC_c (by decide))
  refine (beat_any W ha _ I.a hok).mono ?_
  rintro e W' ⟨h', rv, r2, he, hG, hrow, hF⟩
  obtain ⟨b', dis'⟩ := I.b.other hG.mov I.dis
  have hlen : r2.length ≤ 1000 := by
    rw [f2_len hF]
    have := allMs_len (tell := beatT (pv2 (pv0 0 2 k) (cW ks))) (L := 1) (id := (pv2 (pv0 0 2 k) (cW ks)).id) (k := (pv2 (pv0 0 2 k) (cW ks)).k) (fun j s => by simp [beatT]) (pv2 (pv0 0 2 k) (cW ks)).n
    have e2 : (pv2 (pv0 0 2 k) (cW ks)).n = 2 := rfl
    have ek : (pv2 (pv0 0 2 k) (cW ks)).k = k := rfl
    rw [e2, ek] at this
    rw [e2, ek]
    omega
  have hr := off_moves I.row I.offa hG.mov
  refine ⟨h', _, rv, r2, he, ⟨below_moves I.bel I.la hG.mov, hG.here, b', low_moves I.la hG.mov I.bel.size, I.lb, dis', hr.1, hr.2, I.offb, fun r hr => (I.own r hr).kept hG.mov.keeps⟩, hrow, hlen, fun r hr => ?_⟩
  obtain ⟨m, hm, hown⟩ := f2_left hF r hr
  obtain ⟨j, s, q, rfl⟩ := (beat_mem (fun _ _ _ => rfl) rfl).1 hm
  have hj : j = 1 := by have h1 : j < 2 := q.1; have h2 : j ≠ 0 := q.2.1; omega
  subst hj
  exact ⟨s, q.2.2, _, hown, .inr rfl⟩
/-- The beats are set behind the parts. -/
theorem WcI.app {w0 W W' : World} {k : Nat} {ks : List ByteArray} {ha hb : PlH} {va : PlV} {lv v3 : Value} {rs r2 : List Raw} (I : WcI w0 k ks ha va hb lv rs W) (h2 : ∀ r ∈ r2, WMsg k ks W r) (hg : W.grownBy W' lv.ownBlock) (hown : W'.ownsRow w0.heap.size 44 9 v3 (rs ++ r2).length (raws (rs ++ r2))) (hv : v3.ownBlock = lv.ownBlock ∨ v3.ownBlock = some W.heap.size) : WcI w0 k ks ha va hb v3 (rs ++ r2) W' := by
  have hk := keeps_grown hg fun q hq => own_type I.row hq
  have hsz := I.bel.size
  refine ⟨⟨hg.os.trans I.bel.os, hg.tape.trans I.bel.tape, hg.output.trans I.bel.output, Nat.le_trans I.bel.size hg.size, fun q hq => (hg.block q (by omega) fun e => by have := (I.row.lt q e.symm).1; omega).trans (I.bel.block q hq)⟩, I.a.keep (fun q hq => hg.block q (I.a.lt hq) fun e => I.offa q e.symm hq) hk, I.b.keep (fun q hq => hg.block q (I.b.lt hq) fun e => I.offb q e.symm hq) hk, I.la, I.lb, I.dis, hown, fun q hq e => ?_, fun q hq e => ?_, fun r hr => ?_⟩
  · rcases hv with h | h
    · exact I.offa q (h ▸ hq) e
    · have := I.a.lt e
      rw [h] at hq
      have := Option.some.inj hq
      omega
  · rcases hv with h | h
    · exact I.offb q (h ▸ hq) e
    · have := I.b.lt e
      rw [h] at hq
      have := Option.some.inj hq
      omega
  · rcases List.mem_append.1 hr with hr | hr
    · exact (I.own r hr).kept hk
    · exact (h2 r hr).kept hk
end Go.Proofs.YtefpnojanldkeaaGreatDoor
