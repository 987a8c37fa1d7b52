/- From a row that the call owns to a row that is sorted and cut; the order of ops; opsOn by its contract, where nothing is wrong; What standing makes of ops: plain mathematics, and the walk's relation; Contracts of Go's library at this program's numbers, by the kit's own layings. -/
import Derived.Test.YtepnghacjggkkaaGreatDoorJVOnce
import Derived.Shelf.SlicesE.DeleteFunc
import Derived.Test.YtepnghacjggkkaaGreatDoorJVCom
import Derived.Test.YtepnghacjggkkaaGreatDoorJVSortN
import Derived.Test.YtepnghacjggkkaaGreatDoorJVOpM
import Derived.Test.YtepnghacjggkkaaGreatDoorJVMath
import Derived.Test.YtepnghacjggkkaaGreatDoorProg
import Derived.Shelf.Sort.Plain
import Derived.Shelf.Slices.CompactS
import Derived.Shelf.Slices.In.SortNone
namespace Go.Proofs.YtepnghacjggkkaaGreatDoor
open Go.RowKit Go.Sort Go.Maps
set_option linter.unusedSectionVars false
variable [Inhabited ComV] [DecidableEq D3] [Inhabited D3] [Inhabited Dd] [Inhabited Dn] [Inhabited OpV]

set_option maxRecDepth 100000 in
theorem once_none (w : World) (a : Option Addr) (c : Nat) : Calls Tryz.prog 138 #[.slice a 0 c] w fun e w' => ∃ v, e = .returned (.tuple #[v, .nilIface]) ∧ OnceInv w w' v [] 0 := by
  have hmm : ∀ W, (Instr.makeMap 131 (some (.int .i64 0))).run Tryz.prog W = .ok (.map (some W.heap.size)) (W.alloc (.map #[] 0)) := run_makeMap_room Tryz.underlying131 0
  obtain ⟨i0, hi, hz0, hz1, hz2⟩ := info_parts Tryz.info214
  obtain ⟨wm, hms, hmr, hmg⟩ := run_make_own (P := Tryz.prog) (w.alloc (.map #[] 0)) (w.heap.size + 1) 210 214 i0 _ 11 Tryz.underlying210 hi hz0 hz1 .i64 .i64 0 (by omega) (by unfold maxLen; omega) (by simp)
  have hsm : Hid (OnceInv w wm _ [] 0) := OnceInv.start w wm _ hmr hmg
  clear hmr hmg
  simp only [World.size_alloc, Int.cast_ofNat_Int] at hms hsm
  go_enter Tryz.func138, Tryz.ntmps138
  go_wp2
  refine wp_loop_rounds 1 ?_
  rw [rounds_succ]
  go_wp2
  go_ret2
  exact ⟨_, rfl, hsm.out⟩
theorem once_any (A : Nat → Addr) (w : World) (hE : E4 A w) (h4 : 12 ≤ w.heap.size) (v : Value) (l : List ComV) (hv : ComsAt w v l) (hl : l.length ≤ 1000) (hok : ∀ i, i < l.length → ComOk l[i]!) :
    Calls Tryz.prog 138 #[v] w fun e w' => ∃ v n, e = .returned (.tuple #[v, .nilIface]) ∧ OnceInv w w' v (onceA l) n := by
  obtain ⟨ad, cap, rfl, _, _, h⟩ := hv.shape
  by_cases h0 : l = []
  · subst h0
    refine (once_none w ad cap).mono ?_
    rintro e w' ⟨v, rfl, h⟩
    exact ⟨_, _, rfl, h⟩
  · obtain ⟨b, off, rfl, h2⟩ := h.resolve_left h0
    exact once_n A w hE h4 b off l.length cap l rfl hl hok h2
theorem flat_get (xs : List Dd) : ∀ (j i : Nat), j < xs.length → i < 11 → (xs.flatMap Dd.enc)[j * 11 + i]? = some (xs[j]!.enc[i]!) := by
  induction xs with
  | nil => intro j i hj; simp at hj
  | cons x r ih =>
    intro j i hj hi
    rw [List.flatMap_cons]
    cases j with
    | zero =>
      rw [List.getElem?_append_left (by rw [Dd.enc_length]; omega), Nat.zero_mul, Nat.zero_add, List.getElem?_eq_getElem (by rw [Dd.enc_length]; exact hi)]
      show some _ = some (x.enc[i]!)
      rw [getElem!_pos x.enc i (by rw [Dd.enc_length]; exact hi)]
    | succ j =>
      rw [List.getElem?_append_right (by rw [Dd.enc_length]; omega), Dd.enc_length, show (j + 1) * 11 + i - 11 = j * 11 + i by omega, ih j i (by simpa using hj) hi]
      simp
theorem rowD_of_owns {w : World} {base : Nat} {v : Value} {xs : List Dd} (h : w.ownsRow base 214 11 v xs.length (xs.flatMap Dd.enc)) : RowD w base v xs := by
  obtain ⟨_, h2⟩ := h
  rcases h2 with ⟨rfl, h0⟩ | ⟨g, cap, cur, rfl, hb, hh, hn, hm, hs, ht⟩
  · exact .inl ⟨rfl, List.eq_nil_of_length_eq_zero h0⟩
  · refine .inr ⟨g, cap, rfl, hb, (Array.getElem?_eq_some_iff.1 hh).1, hn, ?_⟩
    rw [holdsK_iff]
    intro j hj i hi
    have hj' : j < xs.length := by simpa using hj
    have e := flat_get xs j i hj' hi
    rw [← ht, List.getElem?_take, if_pos (by omega), Array.getElem?_toList] at e
    refine ⟨?_, ?_⟩
    · simp only [World.cell?, hh]
      rw [e]
      simp
    · simp only [World.frozen?, hh]
      simp
theorem RowD.mono {w : World} {B B' : Nat} {v : Value} {xs : List Dd} (h : RowD w B v xs) (hB : B' ≤ B) : RowD w B' v xs := by
  rcases h with h | ⟨g, cap, h1, h2, h3⟩
  · exact .inl h
  · exact .inr ⟨g, cap, h1, Nat.le_trans hB h2, h3⟩
def ltN (x y : Dn) : Bool := decide (x.wt < y.wt ∨ x.wt = y.wt ∧ ltD x.dot y.dot = true)
def InOrder (key : ByteArray) (l : List ComV) (ys : List Dn) : Prop := ys.Perm ((onceA l).filter fun x => decide (x.o.key = key)) ∧ ys.Pairwise (fun a b => ltN b a = false)
def ofKind (ys : List Dn) : List Dn := ys.filter fun x => decide (x.o.kind = ys[0]!.o.kind)
def IsOps (key : ByteArray) (l : List ComV) (ds : List Dn) : Prop := ∃ ys, InOrder key l ys ∧ ds = ofKind ys
theorem addDn_nodup {acc : List Dn} (h : (acc.map (·.dot)).Nodup) (d : Dn) : ((addDn acc d).map (·.dot)).Nodup := by
  unfold addDn
  split
  · exact h
  · rename_i hn
    rw [List.map_append, List.nodup_append]
    refine ⟨h, by simp, fun a ha b hb e => hn ?_⟩
    simp only [List.map_cons, List.map_nil, List.mem_singleton] at hb
    subst hb
    subst e
    obtain ⟨x, hx, hxe⟩ := List.mem_map.1 ha
    exact List.any_eq_true.2 ⟨x, hx, decide_eq_true hxe⟩
theorem foldl_addDn_nodup (ds : List Dn) : ∀ {acc : List Dn}, (acc.map (·.dot)).Nodup → ((ds.foldl addDn acc).map (·.dot)).Nodup := by
  induction ds with
  | nil => intro acc h; exact h
  | cons d r ih => intro acc h; exact ih (addDn_nodup h d)
theorem onceA_nodup (l : List ComV) : ((onceA l).map (·.dot)).Nodup := by
  unfold onceA
  suffices h : ∀ (l : List ComV) (acc : List Dn), (acc.map (·.dot)).Nodup → ((l.foldl addCom acc).map (·.dot)).Nodup from h l [] (by simp)
  intro l
  induction l with
  | nil => intro acc h; exact h
  | cons c r ih => intro acc h; exact ih _ (foldl_addDn_nodup _ h)
end Go.Proofs.YtepnghacjggkkaaGreatDoor
namespace Go.Proofs.YtepnghacjggkkaaGreatDoor
open Go.RowKit Go.Sort Go.Maps
set_option maxRecDepth 100000
set_option linter.unusedSectionVars false
variable [Inhabited ComV] [DecidableEq D3] [Inhabited D3] [Inhabited Dd] [Inhabited Dn] [Inhabited OpV]

def OpsRet (key : ByteArray) (l : List ComV) (w : World) (e : Ending) (w' : World) : Prop :=
  ∃ v xs, e = .returned (.tuple #[v, .nilIface]) ∧ RowD w' (w.heap.size + 1) v xs ∧ IsOps key l (xs.map Dd.abs) ∧ (∀ x ∈ xs, GoodD w' x) ∧ xs.length ≤ 1000000 ∧ Below w.heap.size w w'
theorem GoodD.mono {w w' : World} {x : Dd} {B : Nat} (h : GoodD w x) (hb : Below B w w') (hB : w.heap.size ≤ B) : GoodD w' x := DotsAt.mono h hb hB
theorem kind_cell {w : World} {g : Nat} {xs : List Dd} (h : HoldsK Dd.enc 11 w g 0 xs.toArray) (h0 : 0 < xs.length) : w.cell? ⟨g, 2, none⟩ = some (.int .i64 xs[0]!.kind) := by
  have := (holdsK_iff.1 h 0 (by simpa using h0) 2 (by omega)).1
  simpa [Dd.enc, h0] using this
theorem map_filter_abs (xs : List Dd) (p : Dn → Bool) : (xs.filter fun x => p x.abs).map Dd.abs = (xs.map Dd.abs).filter p := by
  rw [List.filter_map]
  rfl
theorem addDn_len (acc : List Dn) (d : Dn) : (addDn acc d).length ≤ acc.length + 1 := by unfold addDn; split <;> simp
theorem foldl_addDn_len (ds : List Dn) : ∀ (acc : List Dn), (ds.foldl addDn acc).length ≤ acc.length + ds.length := by
  induction ds with
  | nil => intro acc; simp
  | cons d r ih => intro acc; have h1 := ih (addDn acc d); have h2 := addDn_len acc d; simp only [List.foldl_cons, List.length_cons]; omega
theorem onceA_len (l : List ComV) (h : ∀ c ∈ l, c.ops.length ≤ 12) : (onceA l).length ≤ 12 * l.length := by
  unfold onceA
  suffices hh : ∀ (l : List ComV) (acc : List Dn), (∀ c ∈ l, c.ops.length ≤ 12) → (l.foldl addCom acc).length ≤ acc.length + 12 * l.length by simpa using hh l [] h
  intro l
  induction l with
  | nil => intro acc _; simp
  | cons c r ih =>
    intro acc h
    have h1 := ih (addCom acc c) (fun c hc => h c (List.mem_cons_of_mem _ hc))
    have h2 := foldl_addDn_len (c.ops.map (dnOf c)) acc
    have h3 := h c (List.mem_cons_self ..)
    simp only [List.length_map] at h2
    simp only [List.foldl_cons, List.length_cons]
    unfold addCom at h1 ⊢
    omega
theorem RowD.shape {w : World} {B : Nat} {v : Value} {xs : List Dd} (h : RowD w B v xs) : ∃ a c, v = .slice a xs.length c := by
  rcases h with ⟨rfl, rfl⟩ | ⟨g, cap, rfl, _⟩
  · exact ⟨_, _, rfl⟩
  · exact ⟨_, _, rfl⟩
theorem RowD.block {w : World} {B : Nat} {v : Value} {xs : List Dd} (h : RowD w B v xs) {g n c : Nat} (e : v = .slice (some ⟨g, 0, none⟩) n c) : B ≤ g ∧ g < w.heap.size := by
  rcases h with ⟨rfl, _⟩ | ⟨g', cap, rfl, h1, h2, _⟩
  · cases e
  · cases e; exact ⟨h1, h2⟩
theorem checkName_ok (w : World) (key : ByteArray) (hk : nameB key = true) : Calls Tryz.prog 99 #[.string key] w fun e w' => e = .returned .nilIface ∧ w' = w := by
  have K32 := fun W => isName_any W key
  rw [hk] at K32
  go_enter Tryz.func99, Tryz.ntmps99
  go_wp2_with (go_at_call 109; refine (K32 _).mono ?_; rintro e w' ⟨rfl, rfl⟩)
  go_ret
  exact ⟨rfl, rfl⟩
set_option maxHeartbeats 4000000 in
theorem opsOn_ok (A : Nat → Addr) (w : World) (hE : E4 A w) (h4 : 12 ≤ w.heap.size) (key : ByteArray) (hk : nameB key = true) (v : Value) (l : List ComV) (hv : ComsAt w v l) (hl : l.length ≤ 1000) (hsm : ∀ c ∈ l, SmallC c) (hok : ∀ i, i < l.length → listBad l i = 0) :
    Calls Tryz.prog 120 #[.string key, v] w fun e w' => OpsRet key l w e w' := by
  have hco : ∀ i, i < l.length → ComOk l[i]! := fun i hi => comOk_of (by
    have := hok i hi
    unfold listBad at this
    split at this
    · rename_i h; exact absurd this h
    · rename_i h; simpa using h)
  have K32 := fun W => checkName_ok W key hk
  obtain ⟨w1, hw1⟩ : ∃ w1, w1 = w.alloc (.cells #[.string key] 9) := ⟨_, rfl⟩
  have b1 : Below w.heap.size w w1 := by rw [hw1]; exact below_alloc _ _
  have s1 : w1.heap.size = w.heap.size + 1 := by rw [hw1]; simp
  have c1 : w1.cell? ⟨w.heap.size, 0, none⟩ = some (.string key) := by rw [hw1]; simp
  have K53 := hid (checkList_ok A w1 (hE.below b1 h4) (by omega) v l (hv.mono b1 (Nat.le_refl _)) (by omega) hsm hok)
  have hE1 := hid (hE.below b1 h4)
  have hV1 := hid (hv.mono b1 (Nat.le_refl _))
  have HO := hid hco
  have HW1 := hid hw1
  have B1 := hid b1
  have S1 := hid s1
  have C1 := hid c1
  obtain ⟨a, n, cp, rfl⟩ : ∃ a n cp, v = .slice a n cp := by obtain ⟨a, cp, rfl, _⟩ := hv.shape; exact ⟨_, _, _, rfl⟩
  clear hco hk b1 s1 c1 hE hv hsm hok
  go_enter Tryz.func120, Tryz.ntmps120
  go_wp2_with (go_at_call 99; refine (K32 _).mono ?_; rintro e w' ⟨rfl, rfl⟩)
  rw [← hw1]
  clear hw1
  refine K53.out.mono ?_
  rintro e w2 ⟨rfl, h2⟩
  have K54 := once_any A w2 (hE1.out.below h2 (by have := S1.out; omega)) (by have := h2.size; have := S1.out; omega) (.slice a n cp) l (hV1.out.mono h2 (Nat.le_refl _)) hl HO.out
  have H2 := hid h2
  clear h2
  go_wp2_with fail
  refine K54.mono ?_
  rintro e w3 ⟨v, nn, rfl, hI⟩
  obtain ⟨xs, hrow, habs, hgood⟩ := hI.row
  have h2 := H2.out
  have s1 := S1.out
  have hs2 : w.heap.size + 1 ≤ w2.heap.size := by have := h2.size; omega
  have hR3 : RowD w3 (w2.heap.size + 1) v xs := rowD_of_owns hrow
  have hxl : xs.length ≤ 1000000 := by
    have h1 := onceA_len l (fun c hc => by obtain ⟨i, hi, rfl⟩ := List.getElem_of_mem hc; have := (HO.out i hi).few; rwa [getElem!_pos l i hi] at this)
    have h2 : xs.length = (onceA l).length := by rw [← habs]; simp
    omega
  have c3 : w3.cell? ⟨w.heap.size, 0, none⟩ = some (.string key) := by
    rw [hI.below.cell (p := ⟨w.heap.size, 0, none⟩) (by show w.heap.size < w2.heap.size; omega), h2.cell (p := ⟨w.heap.size, 0, none⟩) (by show w.heap.size < w1.heap.size; omega)]
    exact C1.out
  have K55 := deleteFunc_row w3 (w2.heap.size + 1) 140 w.heap.size (.string key) (fun x => !decide (x.key = key)) v xs (enters_of Tryz.func140 (by kernel_rfl) rfl) (fun W x h => keyNe W x w.heap.size key h) c3 hR3 (fun g n c e => by have := (hR3.block e).1; omega) hxl
  obtain ⟨av, cv, rfl⟩ := hR3.shape
  have b3 := hid hI.below
  have s3 := hid hI.size
  have HG := hid hgood
  have HAB := hid habs
  have HXL := hid hxl
  clear hI hrow habs hgood h2 s1 c3 hR3 hxl
  go_wp2_with fail
  refine K55.mono ?_
  rintro e w4 ⟨v4, rfl, hR4, hb4, _⟩
  simp only [Bool.not_not] at hR4
  have hx4 : (xs.filter fun x => decide (x.key = key)).length ≤ 1000000 := Nat.le_trans (List.length_filter_le _ _) HXL.out
  have K57 := sortFunc_row w4 (w2.heap.size + 1) v4 _ hR4 hx4
  obtain ⟨a4, c4, rfl⟩ := hR4.shape
  obtain ⟨n4, hn4⟩ : ∃ n4, n4 = (xs.filter fun x => decide (x.key = key)).length := ⟨_, rfl⟩
  rw [← hn4] at K57 ⊢
  have HN4 := hid hn4
  have hb4' := hid hb4
  clear K55 hR4 hb4 hn4 hx4
  go_wp2_with fail
  refine K57.mono ?_
  rintro e w5 ⟨rfl, ys, hperm, hpw, hR5, hb5⟩
  have hys : ys.length = n4 := by rw [HN4.out]; exact hperm.length_eq
  have B5 : Hid (Below w2.heap.size w2 w5) := (b3.out.trans (hb4'.out.mono (by omega))).trans (hb5.mono (by omega))
  have hord : InOrder key l (ys.map Dd.abs) := by
    refine ⟨?_, ?_⟩
    · rw [← HAB.out]
      exact (hperm.map Dd.abs).trans (List.Perm.of_eq (map_filter_abs xs (fun x => decide (x.o.key = key))))
    · rw [List.pairwise_map]
      exact hpw
  have HORD := hid hord
  have BW : Hid (Below w.heap.size w w2) := B1.out.trans (H2.out.mono (by have := S1.out; omega))
  have HPM := hid hperm
  have hyl : ys.length ≤ 1000000 := by rw [hperm.length_eq]; exact Nat.le_trans (List.length_filter_le _ _) HXL.out
  clear K57 K54 hpw hord hperm
  by_cases h0 : ys = []
  · subst h0
    have hn0 : n4 = 0 := by rw [← hys]; rfl
    subst hn0
    clear hys
    go_wp2
    go_ret2
    exact ⟨_, [], rfl, .inl ⟨rfl, rfl⟩, ⟨[], HORD.out, rfl⟩, fun x hx => by simp at hx, by simp, BW.out.trans (B5.out.mono (by omega))⟩
  · have hy0 : 0 < ys.length := List.length_pos_iff.2 h0
    rcases hR5 with ⟨_, h⟩ | ⟨g, cap, hve, hBg, hg5, hcap, hH⟩
    · exact absurd h h0
    · have hk := kind_cell hH hy0
      have hR5 : RowD w5 (w2.heap.size + 1) (.slice (some ⟨g, 0, none⟩) ys.length cap) ys := .inr ⟨g, cap, rfl, hBg, hg5, hcap, hH⟩
      obtain ⟨kd, hkd⟩ : ∃ kd, kd = ys[0]!.kind := ⟨_, rfl⟩
      rw [← hkd] at hk
      have hRk : RowD (w5.alloc (.cells #[.int .i64 kd] 3)) (w2.heap.size + 1) (.slice (some ⟨g, 0, none⟩) ys.length cap) ys := .inr ⟨g, cap, rfl, hBg, by simp; omega, hcap, holdsK_below hH (below_alloc _ _) hg5⟩
      have K55 := deleteFunc_row (w5.alloc (.cells #[.int .i64 kd] 3)) (w2.heap.size + 1) 146 w5.heap.size (.int .i64 kd) (fun x => !decide (x.kind = kd)) _ ys (enters_of Tryz.func146 (by kernel_rfl) rfl) (fun W x h => kindNe W x w5.heap.size kd h) (by simp) hRk (fun g' n' c' e => by cases e; omega) hyl
      rw [hys] at hve K55
      cases hve
      have hn0 : ((n4 : Int) == 0) = false := by rw [beq_eq_false_iff_ne]; omega
      have hp4 : 0 < n4 := by omega
      have HKD := hid hkd
      have HYS := hid hys
      clear hR5 hRk hH hkd hys
      go_wp2_with fail
      refine K55.mono ?_
      rintro e w6 ⟨v6, rfl, hR6, hb6, _⟩
      simp only [Bool.not_not] at hR6
      have HR6 := hid hR6
      have HB6 := hid hb6
      clear K55 hR6 hb6
      go_wp2
      go_ret2
      have B6 : Below w2.heap.size w2 w6 := (B5.out.alloc (by omega) _).trans (HB6.out.mono (by omega))
      refine ⟨_, _, rfl, HR6.out.mono (by omega), ⟨_, HORD.out, ?_⟩, fun x hx => ?_, Nat.le_trans (List.length_filter_le _ _) hyl, BW.out.trans (B6.mono (by omega))⟩
      · unfold ofKind
        have e0 : (ys.map Dd.abs)[0]!.o.kind = kd := by
          rw [HKD.out, getElem!_pos (ys.map Dd.abs) 0 (by simpa using hy0), getElem!_pos ys 0 hy0, List.getElem_map]
          rfl
        rw [e0]
        exact map_filter_abs ys (fun x => decide (x.o.kind = kd))
      · have h1 := (List.mem_filter.1 hx).1
        have h2 := (List.mem_filter.1 (HPM.out.mem_iff.1 h1)).1
        exact (HG.out x h2).mono B6 (Nat.le_refl _)
end Go.Proofs.YtepnghacjggkkaaGreatDoor
namespace Go.Proofs.YtepnghacjggkkaaGreatDoor
open Go.RowKit Go.Maps
set_option linter.unusedSectionVars false
variable [Inhabited ComV] [DecidableEq D3] [Inhabited D3] [Inhabited Dd] [Inhabited Dn] [Inhabited OpV]

theorem Tryz.underlying3 : Tryz.prog.underlying 3 = some (.int .i64) := by kernel_rfl
theorem Tryz.zero3 (w : World) : (zeroValue 3).run Tryz.prog w = .ok (.int .i64 0) w := by kernel_rfl
theorem idxE_mk (k : Nat) (h : k ≤ 100000) : plainElem (H := Unit) Tryz.prog 3 (.int .i64 k) = some (.lit (.int .i64 k), []) := plainElem_int Tryz.underlying3 (WalkArith.wf_i64 (by omega))
def upd (M : D3 → Option ByteArray) (d : D3) (t : Option ByteArray) : D3 → Option ByteArray := fun e => if e = d then t else M e
def updI (I : D3 → Option Nat) (d : D3) (t : Option Nat) : D3 → Option Nat := fun e => if e = d then t else I e
def IdxIs (D : DataW Unit) (I : D3 → Option Nat) : Prop := ∀ d, wf3 d → Maps.has D (klD d) = (I d).isSome ∧ D.atKey (klD d) (.lit (.int .i64 0)) = .lit (.int .i64 ((I d).getD 0 : Nat))
theorem IdxIs.start : IdxIs (.map []) (fun _ => none) := fun _ _ => ⟨rfl, rfl⟩
theorem IdxIs.put {D : DataW Unit} {I : D3 → Option Nat} (h : IdxIs D I) (hD : IsMap D) {d : D3} (hd : wf3 d) (t : Nat) : IdxIs (D.put (klD d) (.lit (.int .i64 t))) (updI I d (some t)) := fun e he => by
  unfold updI
  by_cases q : e = d
  · subst q
    rw [if_pos rfl, has_put_same hD (klD_key _), atKey_put_same hD (klD_key _)]
    exact ⟨rfl, rfl⟩
  · rw [if_neg q, has_put_other (fun x => q (klD_inj he hd x)), atKey_put_other (fun x => q (klD_inj he hd x))]
    exact h e he
theorem IdxIs.del {D : DataW Unit} {I : D3 → Option Nat} (h : IdxIs D I) {d : D3} (hd : wf3 d) : IdxIs (D.del (klD d)) (updI I d none) := fun e he => by
  unfold updI
  by_cases q : e = d
  · subst q
    rw [if_pos rfl, has_del_same, atKey_del_same]
    exact ⟨rfl, rfl⟩
  · rw [if_neg q, has_del_other (fun x => q (klD_inj he hd x)), atKey_del_other (fun x => q (klD_inj he hd x))]
    exact h e he
def TextsBy (xs : List Dd) (I : D3 → Option Nat) (M : D3 → Option ByteArray) : Prop := ∀ d, M d = (I d).map (fun i => xs[i]!.text) ∧ ∀ i, I d = some i → i < xs.length
theorem TextsBy.put {xs : List Dd} {I : D3 → Option Nat} {M : D3 → Option ByteArray} (h : TextsBy xs I M) (d : D3) {k : Nat} (hk : k < xs.length) {t : ByteArray} (ht : xs[k]!.text = t) : TextsBy xs (updI I d (some k)) (upd M d (some t)) := fun e => by
  unfold updI upd
  by_cases q : e = d
  · rw [if_pos q, if_pos q]
    exact ⟨by rw [← ht]; rfl, fun i hi => by cases hi; exact hk⟩
  · rw [if_neg q, if_neg q]
    exact h e
theorem TextsBy.del {xs : List Dd} {I : D3 → Option Nat} {M : D3 → Option ByteArray} (h : TextsBy xs I M) (d : D3) : TextsBy xs (updI I d none) (upd M d none) := fun e => by
  unfold updI upd
  by_cases q : e = d
  · rw [if_pos q, if_pos q]
    exact ⟨rfl, fun i hi => by cases hi⟩
  · rw [if_neg q, if_neg q]
    exact h e
def addStep (M : D3 → Option ByteArray) (x : Dn) : D3 → Option ByteArray := if x.o.rem = true then M else upd M x.dot (some x.o.text)
def delStep (t : ByteArray) (M : D3 → Option ByteArray) (d : D3) : D3 → Option ByteArray := if (M d).getD ByteArray.empty = t then upd M d none else M
theorem delStep_none {t : ByteArray} {M : D3 → Option ByteArray} {d : D3} (h : M d = none) : delStep t M d = M := by
  unfold delStep
  split
  · funext e
    unfold upd
    split
    · rename_i q; rw [q, h]
    · rfl
  · rfl
def remStep (M : D3 → Option ByteArray) (y : Dn) : D3 → Option ByteArray := y.o.dots.foldl (delStep y.o.text) M
def finalMap (ds : List Dn) : D3 → Option ByteArray := ds.foldl remStep (ds.foldl addStep fun _ => none)
def standA (ds : List Dn) : List Dn := ds.filter fun x => (finalMap ds x.dot).isSome
theorem foldl_take_succ {α β : Type} [Inhabited α] (f : β → α → β) (b : β) (l : List α) {k : Nat} (h : k < l.length) : (l.take (k + 1)).foldl f b = f ((l.take k).foldl f b) l[k]! := by
  rw [List.take_succ_eq_append_getElem h, List.foldl_append, getElem!_pos l k h]
  rfl
theorem map_get_abs (xs : List Dd) {k : Nat} (h : k < xs.length) : (xs.map Dd.abs)[k]! = xs[k]!.abs := by
  rw [getElem!_pos _ k (by simpa using h), getElem!_pos xs k h, List.getElem_map]
structure StInv (xs : List Dd) (w wr : World) (M : D3 → Option ByteArray) (n : Nat) : Prop where
  map : ∃ (D : DataW Unit) (I : D3 → Option Nat), wr.ownsMap Tryz.prog 175 (plainElem Tryz.prog 3) w.heap.size n D ∧ IdxIs D I ∧ TextsBy xs I M
  below : Below w.heap.size w wr
  size : w.heap.size + 1 ≤ wr.heap.size
section
variable {xs : List Dd}
theorem StInv.start (w : World) : StInv xs w (w.alloc (.map #[] 0)) (fun _ => none) 0 where
  map := ⟨.map [], fun _ => none, World.ownsMap_made _ _ _ _, IdxIs.start, fun _ => ⟨rfl, fun i hi => by cases hi⟩⟩
  below := below_alloc _ _
  size := by simp
theorem StInv.alloc {w wr : World} {M : D3 → Option ByteArray} {n : Nat} (h : StInv xs w wr M n) (o : Obj) : StInv xs w (wr.alloc o) M n where
  map := let ⟨D, I, h1, h2⟩ := h.map; ⟨D, I, h1.alloc o, h2⟩
  below := h.below.alloc (by have := h.size; omega) o
  size := by have := h.size; simp; omega
theorem StInv.draw {w wr : World} {M : D3 → Option ByteArray} {n : Nat} (h : StInv xs w wr M n) (q : Nat) : StInv xs w (wr.drewN q) M n where
  map := h.map
  below := below_draws h.below q
  size := h.size
theorem StInv.mono {w wr : World} {M : D3 → Option ByteArray} {n n' : Nat} (h : StInv xs w wr M n) (hn : n ≤ n') : StInv xs w wr M n' where
  map := let ⟨D, I, h1, h2⟩ := h.map; ⟨D, I, h1.mono hn, h2⟩
  below := h.below
  size := h.size
theorem StInv.turned {w wr w1 : World} {M M' : D3 → Option ByteArray} {n n' : Nat} {D : DataW Unit} {I : D3 → Option Nat} (h : StInv xs w wr M n) (hg : wr.grownBy w1 (some w.heap.size)) (hm : w1.ownsMap Tryz.prog 175 (plainElem Tryz.prog 3) w.heap.size n' D) (hI : IdxIs D I) (hM : TextsBy xs I M') : StInv xs w w1 M' n' where
  map := ⟨D, I, hm, hI, hM⟩
  below := h.below.grown hg (by have := h.size; omega) (fun j hj => by cases hj; exact Nat.le_refl _)
  size := Nat.le_trans h.size hg.size
theorem StInv.beside {w wr w1 : World} {M : D3 → Option ByteArray} {n : Nat} {r : Option Nat} (h : StInv xs w wr M n) (hg : wr.grownBy w1 r) (hr : ∀ j, r = some j → w.heap.size + 1 ≤ j) : StInv xs w w1 M n where
  map := let ⟨D, I, h1, h2⟩ := h.map; ⟨D, I, h1.kept hg (fun e => by have := hr _ e.symm; omega), h2⟩
  below := h.below.grown hg (by have := h.size; omega) (fun j hj => by have := hr _ hj; omega)
  size := Nat.le_trans h.size hg.size
end
end Go.Proofs.YtepnghacjggkkaaGreatDoor
namespace Go.Proofs
open Go.Shelf
def Tryz.lays190_ren : Go.Shelf.Ren := ⟨fun | 190 => 83 | 125 => 107 | 258 => 106 | 128 => 133 | 129 => 134 | 302 => 124 | 303 => 125 | 304 => 126 | 305 => 127 | 306 => 128 | 307 => 129 | 308 => 130 | 309 => 131 | 310 => 132 | 333 => 147 | 329 => 148 | 330 => 149 | 334 => 150 | 335 => 151 | 336 => 152 | 344 => 160 | n => n, fun | 31 => 39 | 9 => 9 | 3 => 3 | 46 => 202 | 0 => 0 | 51 => 228 | 53 => 230 | 4 => 4 | 183 => 220 | 182 => 219 | 131 => 225 | 5 => 5 | 218 => 243 | 222 => 247 | 228 => 256 | 229 => 92 | n => n, fun | n => n⟩
theorem Tryz.lays190 : Go.Proofs.Lays.n190 Tryz.prog Tryz.lays190_ren := {
  mixed := by kernel_rfl
  f125 := Tryz.func107.trans (congrArg some (by kernel_rfl))
  f128 := Tryz.func133.trans (congrArg some (by kernel_rfl))
  f129 := Tryz.func134.trans (congrArg some (by kernel_rfl))
  f190 := Tryz.func83.trans (congrArg some (by kernel_rfl))
  f258 := Tryz.func106.trans (congrArg some (by kernel_rfl))
  f302 := Tryz.func124.trans (congrArg some (by kernel_rfl))
  f303 := Tryz.func125.trans (congrArg some (by kernel_rfl))
  f304 := Tryz.func126.trans (congrArg some (by kernel_rfl))
  f305 := Tryz.func127.trans (congrArg some (by kernel_rfl))
  f306 := Tryz.func128.trans (congrArg some (by kernel_rfl))
  f307 := Tryz.func129.trans (congrArg some (by kernel_rfl))
  f308 := Tryz.func130.trans (congrArg some (by kernel_rfl))
  f309 := Tryz.func131.trans (congrArg some (by kernel_rfl))
  f310 := Tryz.func132.trans (congrArg some (by kernel_rfl))
  f329 := Tryz.func148.trans (congrArg some (by kernel_rfl))
  f330 := Tryz.func149.trans (congrArg some (by kernel_rfl))
  f333 := Tryz.func147.trans (congrArg some (by kernel_rfl))
  f334 := Tryz.func150.trans (congrArg some (by kernel_rfl))
  f335 := Tryz.func151.trans (congrArg some (by kernel_rfl))
  f336 := Tryz.func152.trans (congrArg some (by kernel_rfl))
  f344 := Tryz.func160.trans (congrArg some (by kernel_rfl))
  t0 := Tryz.underlying0
  a0 := Tryz.isAgg0
  z0 := Tryz.sizeOf0
  v0 := Tryz.zeroValue0
  t3 := Tryz.underlying3
  a3 := Tryz.isAgg3
  z3 := Tryz.sizeOf3
  v3 := Tryz.zeroValue3
  t4 := Tryz.underlying4
  a4 := Tryz.isAgg4
  z4 := Tryz.sizeOf4
  v4 := Tryz.zeroValue4
  t5 := Tryz.underlying5
  a5 := Tryz.isAgg5
  z5 := Tryz.sizeOf5
  v5 := Tryz.zeroValue5
  t9 := Tryz.underlying9
  a9 := Tryz.isAgg9
  z9 := Tryz.sizeOf9
  v9 := Tryz.zeroValue9
  t31 := Tryz.underlying39
  a31 := Tryz.isAgg39
  z31 := Tryz.sizeOf39
  v31 := Tryz.zeroValue39
  t46 := Tryz.underlying202
  a46 := Tryz.isAgg202
  z46 := Tryz.sizeOf202
  v46 := Tryz.zeroValue202
  t51 := Tryz.underlying228
  a51 := Tryz.isAgg228
  z51 := Tryz.sizeOf228
  v51 := Tryz.zeroValue228
  t53 := Tryz.underlying230
  a53 := Tryz.isAgg230
  z53 := Tryz.sizeOf230
  v53 := Tryz.zeroValue230
  t131 := Tryz.underlying225
  a131 := Tryz.isAgg225
  z131 := Tryz.sizeOf225
  v131 := Tryz.zeroValue225
  t182 := Tryz.underlying219
  a182 := Tryz.isAgg219
  z182 := Tryz.sizeOf219
  v182 := Tryz.zeroValue219
  t183 := Tryz.underlying220
  a183 := Tryz.isAgg220
  z183 := Tryz.sizeOf220
  v183 := Tryz.zeroValue220
  t218 := Tryz.underlying243
  a218 := Tryz.isAgg243
  z218 := Tryz.sizeOf243
  v218 := Tryz.zeroValue243
  t222 := Tryz.underlying247
  a222 := Tryz.isAgg247
  z222 := Tryz.sizeOf247
  v222 := Tryz.zeroValue247
  t228 := Tryz.underlying256
  a228 := Tryz.isAgg256
  z228 := Tryz.sizeOf256
  v228 := Tryz.zeroValue256
  t229 := Tryz.underlying92
  a229 := Tryz.isAgg92
  z229 := Tryz.sizeOf92
  v229 := Tryz.zeroValue92 }
open Go.Sort Go.RowKit in
theorem Tryz.slices_Sort_string (blk off cap : Nat) (ss : List (List UInt8)) (w : World) (hH : Holds encStr w blk off ss.toArray) (hblk : blk < w.heap.size) (hsz : ss.length < 4611686018427387904) :
    Calls Tryz.prog 83 #[.slice (some ⟨blk, off, none⟩) ss.length cap] w fun e w' =>
      e = .returned (.tuple #[]) ∧ ∃ n os, w' = grow (putRow encStr (Sort.ahead w n) blk off (ss.mergeSort fun x y => decide (x ≤ y)).toArray) os := Any.slices_Sort_string Tryz.lays190 blk off cap ss w hH hblk hsz
def Tryz.lays194_ren : Go.Shelf.Ren := ⟨fun | 194 => 84 | n => n, fun | 31 => 39 | 9 => 9 | 3 => 3 | 4 => 4 | 0 => 0 | n => n, fun | n => n⟩
theorem Tryz.lays194 : Go.Proofs.Lays.n194 Tryz.prog Tryz.lays194_ren := {
  mixed := by kernel_rfl
  f194 := Tryz.func84.trans (congrArg some (by kernel_rfl))
  t0 := Tryz.underlying0
  a0 := Tryz.isAgg0
  z0 := Tryz.sizeOf0
  v0 := Tryz.zeroValue0
  t3 := Tryz.underlying3
  a3 := Tryz.isAgg3
  z3 := Tryz.sizeOf3
  v3 := Tryz.zeroValue3
  t4 := Tryz.underlying4
  a4 := Tryz.isAgg4
  z4 := Tryz.sizeOf4
  v4 := Tryz.zeroValue4
  t9 := Tryz.underlying9
  a9 := Tryz.isAgg9
  z9 := Tryz.sizeOf9
  v9 := Tryz.zeroValue9
  t31 := Tryz.underlying39
  a31 := Tryz.isAgg39
  z31 := Tryz.sizeOf39
  v31 := Tryz.zeroValue39 }
open Go.RowKit Go.Lib Go.Sort in
theorem Tryz.slices_Compact_string (blk off cap : Nat) (zs : List (List UInt8)) (w : World) (hH : Holds encStr w blk off zs.toArray) (hsz : zs.length ≤ 9223372036854775807) (hcap : zs.length ≤ cap) :
    Calls Tryz.prog 84 #[.slice (some ⟨blk, off, none⟩) zs.length cap] w fun e w' => e = .returned (.slice (some ⟨blk, off, none⟩) (Lib.compact zs).length cap) ∧ ∃ q, w' = putRow encStr (Sort.ahead w q) blk off (Lib.compact zs ++ List.replicate (zs.length - (Lib.compact zs).length) []).toArray := Any.slices_Compact_string Tryz.lays194 blk off cap zs w hH hsz hcap
open Go.RowKit Go.Lib Go.Sort in
theorem Tryz.slices_Compact_string_empty (a : Option Addr) (cap : Nat) (w : World) :
    Calls Tryz.prog 84 #[.slice a 0 cap] w fun e w' => e = .returned (.slice a 0 cap) ∧ w' = w := Any.slices_Compact_string_empty Tryz.lays194 a cap w
open Go.RowKit Go.Sort in
theorem Tryz.slices_Sort_string_none (p : Option Addr) (cap : Nat) (w : World) :
    Calls Tryz.prog 83 #[.slice p 0 cap] w fun e w' => e = .returned (.tuple #[]) ∧ w' = w := Any.slices_Sort_string_none Tryz.lays190 p cap w
end Go.Proofs
