/- opsOn, Of and Dots by their contracts, where something is wrong; SameTexts, SameValue of the same; Index; SameValue of the same; Index; what stands where nothing, or something, is wrong; For the reference's enter: appending to a row of one's own; where a text's place is; For package versions: slices.Clone, within, checkVector, dotOf, partOf by their contracts; For package versions: New, dotOf, partOf by their contracts. -/
import Derived.Test.YtefpnojanldkeaaGreatDoorJVErr2
import Derived.Test.YtefpnojanldkeaaGreatDoorJVOp
import Derived.Test.YtefpnojanldkeaaGreatDoorJVMap
import Derived.Test.YtefpnojanldkeaaGreatDoorJVRefN
import Derived.Test.YtefpnojanldkeaaGreatDoorJVVec
import Derived.Test.YtefpnojanldkeaaGreatDoorJVOnceM
import Derived.Test.YtefpnojanldkeaaGreatDoorJVRow
import Derived.Test.YtefpnojanldkeaaGreatDoorJVStandM
import Derived.Test.YtefpnojanldkeaaGreatDoorJVOwnM
import Derived.Lib.SliceRun
import Derived.Deep.RegionHeld
namespace Go.Proofs.YtefpnojanldkeaaGreatDoor
open Go.RowKit Go.Sort Go.Maps
set_option maxRecDepth 100000
set_option linter.unusedSectionVars false
variable [Inhabited ComV] [DecidableEq D3] [Inhabited D3] [Inhabited Dd] [Inhabited Dn] [Inhabited OpV]

/-- The error of a key and a list of commits. -/
def errOf (key : ByteArray) (l : List ComV) : Nat × Option Nat := if nameB key = false then (4, none) else listErr l
/-- An error: a pointer to one. -/
theorem errAt_ptr {A : Nat → Addr} {w : World} {v : Value} {k : Nat} {o : Option Nat} (h : ErrAt A w v (k + 1, o)) : ∃ t a, v = .iface t (.pointer (some a)) := by
  rcases errAt_some h with rfl | ⟨pb, rfl, _⟩
  · exact ⟨_, _, rfl⟩
  · exact ⟨_, _, rfl⟩
def OpsErr (A : Nat → Addr) (er : Nat × Option Nat) (w : World) (e : Ending) (w' : World) : Prop := ∃ t a, e = .returned (.tuple #[.slice none 0 0, .iface t (.pointer (some a))]) ∧ ErrAt A w' (.iface t (.pointer (some a))) er ∧ Below w.heap.size w w'
/-- CheckName of a key that is none. -/
theorem checkName_bad (A : Nat → Addr) (w : World) (hE : E5 A w) (key : ByteArray) (hk : nameB key = false) : Calls Tryz.prog 69 #[.string key] w fun e w' => e = .returned (.iface 238 (.pointer (some (A 3)))) ∧ w' = w := by
  have K32 := fun W => isName_any W key
  rw [hk] at K32
  have g1 := hE.e4.name
  go_enter Tryz.func69, Tryz.ntmps69
  go_wp2_with (go_at_call 83; refine (K32 _).mono ?_; rintro e w' ⟨rfl, rfl⟩)
  go_ret
  exact ⟨rfl, rfl⟩
set_option maxHeartbeats 2000000 in
theorem opsOn_err (A : Nat → Addr) (w : World) (hE : E5 A w) (key : ByteArray) (v : Value) (l : List ComV) (hv : ComsAt w v l) (hl : l.length ≤ 1000) (hsm : ∀ c ∈ l, SmallC c) (k : Nat) (hk : (errOf key l).1 = k + 1) :
    Calls Tryz.prog 84 #[.string key, v] w fun e w' => OpsErr A (errOf key l) w e w' := by
  have h13 := hE.size
  obtain ⟨a, n, cp, rfl⟩ : ∃ a n cp, v = .slice a n cp := by obtain ⟨a, cp, rfl, _⟩ := hv.shape; exact ⟨_, _, _, rfl⟩
  have b1 := below_alloc w (.cells #[.string key] 9)
  cases hn : nameB key with
  | false =>
    have he : errOf key l = (4, none) := if_pos hn
    rw [he]
    have K32 := checkName_bad A (w.alloc (.cells #[.string key] 9)) (hE.below b1 h13) key hn
    clear hk he hn hv hsm
    go_enter Tryz.func84, Tryz.ntmps84
    go_wp2_with (go_at_call 69; refine K32.mono ?_; rintro e w' ⟨rfl, rfl⟩)
    go_ret2
    exact ⟨_, _, rfl, rfl, b1⟩
  | true =>
    have he : errOf key l = listErr l := if_neg (by rw [hn]; decide)
    rw [he] at hk ⊢
    have K32 := fun W => checkName_ok W key hn
    have K53 := checkList_bad A (w.alloc (.cells #[.string key] 9)) (hE.below b1 h13) (.slice a n cp) l (hv.mono b1 (Nat.le_refl _)) (by omega) hsm hk
    have HL : Hid (∃ o, listErr l = (k + 1, o)) := ⟨(listErr l).2, by rw [← hk]⟩
    clear hk he hn hv hsm
    go_enter Tryz.func84, Tryz.ntmps84
    go_wp2_with (go_at_call 69; refine (K32 _).mono ?_; rintro e w' ⟨rfl, rfl⟩)
    refine K53.mono ?_
    rintro e w2 ⟨v2, rfl, h2, hb⟩
    obtain ⟨o, ho⟩ := HL.out
    have h2' := h2
    rw [ho] at h2'
    obtain ⟨t, ad, rfl⟩ := errAt_ptr h2'
    have H2 := hid h2
    have HB := hid (b1.trans (hb.mono (by simp)))
    clear h2 h2' hb K53 ho HL
    go_wp2
    go_ret2
    exact ⟨_, _, rfl, H2.out, HB.out⟩
def zeroV : Value := .agg #[.int .i64 0, .string ByteArray.empty, .int .i64 0, .slice none 0 0]
def OfErr (A : Nat → Addr) (er : Nat × Option Nat) (w : World) (e : Ending) (w' : World) : Prop := ∃ t a, e = .returned (.tuple #[zeroV, .iface t (.pointer (some a))]) ∧ ErrAt A w' (.iface t (.pointer (some a))) er ∧ Below w.heap.size w w'
theorem errAt_setCells {A : Nat → Addr} {w : World} {v : Value} {er : Nat × Option Nat} {g : Nat} {b c d : Value} {st : ByteArray} {t : TypeId} (h : ErrAt A w v er) (hg : w.heap[g]? = some (.cells #[b, .string st, c, d] t (0, 0))) (vs : List Value) : ErrAt A (w.setCells g 0 vs) v er := by
  obtain ⟨k, o⟩ := er
  cases o with
  | none => exact h
  | some i =>
    obtain ⟨pb, h1, h2, h3⟩ := h
    have hne : pb ≠ g := fun e => by
      rw [e] at h3
      simp only [World.cell?, hg] at h3
      cases k with
      | zero => simp [errV] at h3
      | succ k => simp [errV] at h3
    exact ⟨pb, h1, by rw [World.cell?_setCells_out _ _ _ _ _ (fun e => absurd e hne)]; exact h2, by rw [World.cell?_setCells_out _ _ _ _ _ (fun e => absurd e hne)]; exact h3⟩
set_option maxHeartbeats 2000000 in
theorem of_err (A : Nat → Addr) (w : World) (hE : E5 A w) (key : ByteArray) (v : Value) (l : List ComV) (hv : ComsAt w v l) (hl : l.length ≤ 1000) (hsm : ∀ c ∈ l, SmallC c) (k : Nat) (hk : (errOf key l).1 = k + 1) :
    Calls Tryz.prog 71 #[.string key, v] w fun e w' => OfErr A (errOf key l) w e w' := by
  have h13 := hE.size
  obtain ⟨a, n, cp, rfl⟩ : ∃ a n cp, v = .slice a n cp := by obtain ⟨a, cp, rfl, _⟩ := hv.shape; exact ⟨_, _, _, rfl⟩
  have K41 := fun o => opsOn_err A (w.alloc o) (hE.below (below_alloc w o) h13) key (.slice a n cp) l (hv.mono (below_alloc w o) (Nat.le_refl _)) hl hsm k hk
  clear hk hv hsm
  go_enter Tryz.func71, Tryz.ntmps71
  go_wp2_with fail
  refine (K41 _).mono ?_
  rintro e w2 ⟨t, ad, rfl, h2, hb⟩
  have hrow0 : w2.heap[w.heap.size]? = some (.cells #[.int .i64 0, .string ByteArray.empty, .int .i64 0, .slice none 0 0] 47 (0, 0)) := by
    rw [hb.block _ (by simp)]
    exact (MapKept.heap_alloc w _).1
  have B2 : Hid (Below w.heap.size w w2) := (below_alloc _ _).trans (hb.mono (by simp))
  have HR4 := hid (row4 hrow0)
  have HS4 := hid (set4 hrow0 [.int .i64 0, .string ByteArray.empty, .int .i64 0, .slice none 0 0] rfl)
  have HE2 := hid (errAt_setCells h2 hrow0 [.int .i64 0, .string ByteArray.empty, .int .i64 0, .slice none 0 0])
  clear hrow0 hb h2 K41
  go_wp2_with (refine wpList_store_k _ rfl (.tmp 4) (.tmp 24) 47 rfl w.heap.size 0 [.int .i64 0, .string ByteArray.empty, .int .i64 0, .slice none 0 0] rfl rfl 4 rfl Tryz.sizeOf47 rfl _ ?hW HR4.out.1 HR4.out.2 ?_; case hW => rfl)
  exact bodyPost_ret (ret_of _ _ w.heap.size _ _ _ _ _ rfl rfl HS4.out) rfl ⟨_, _, rfl, HE2.out, below_setCells (Nat.le_refl _) _ _ B2.out⟩
end Go.Proofs.YtefpnojanldkeaaGreatDoor
namespace Go.Proofs.YtefpnojanldkeaaGreatDoor
open Go.RowKit Go.Sort Go.Maps
set_option maxRecDepth 100000
set_option linter.unusedSectionVars false
variable [Inhabited ComV] [DecidableEq D3] [Inhabited D3] [Inhabited Dd] [Inhabited Dn] [Inhabited OpV]

/-- A row out of a literal. -/
theorem rowT_lit {w : World} {b cap k : Nat} {t : TypeId} {rows : List (List Value)} {cs : Array Value} (h : w.heap[b]? = some (.cells cs t (0, 0))) (hf : cs.toList = rows.flatten) (hk : ∀ r ∈ rows, r.length = k) (hc : rows.length ≤ cap) : RowT t k w (.slice (some ⟨b, 0, none⟩) rows.length cap) rows := by
  refine ⟨_, cap, rfl, (fun h => by cases h), hc, .inr ⟨b, 0, cs, rfl, h, fun j r hr => ?_⟩⟩
  have hrm : r ∈ rows := List.mem_of_getElem? hr
  refine ⟨hk r hrm, fun i u hu => ?_⟩
  have hi : i < k := by have := (List.getElem?_eq_some_iff.1 hu).1; rw [hk r hrm] at this; exact this
  have hfl : ∀ (rows : List (List Value)) (j : Nat) (r : List Value), (∀ r ∈ rows, r.length = k) → rows[j]? = some r → ∀ i u, i < k → r[i]? = some u → rows.flatten[j * k + i]? = some u := by
    intro rows
    induction rows with
    | nil => intro j r _ h; simp at h
    | cons x rest ih =>
      intro j r hk h i u hi hu
      have hx := hk x (List.mem_cons_self ..)
      rw [List.flatten_cons]
      cases j with
      | zero =>
        simp at h
        subst h
        rw [List.getElem?_append_left (by omega), Nat.zero_mul, Nat.zero_add]
        exact hu
      | succ j =>
        rw [List.getElem?_append_right (by rw [hx, Nat.add_mul]; omega), hx, show (j + 1) * k + i - k = j * k + i by rw [Nat.add_mul]; omega]
        exact ih j r (fun r hr => hk r (List.mem_cons_of_mem _ hr)) (by simpa using h) i u hi hu
  have e := hfl rows j r hk hr i u hi hu
  rw [← hf, Array.getElem?_toList] at e
  rw [Nat.zero_add]
  exact e
end Go.Proofs.YtefpnojanldkeaaGreatDoor
namespace Go.Proofs.YtefpnojanldkeaaGreatDoor
open Go.RowKit Go.Sort Go.Maps
set_option maxRecDepth 100000
set_option linter.unusedSectionVars false
variable [Inhabited ComV] [DecidableEq D3] [Inhabited D3] [Inhabited Dd] [Inhabited Dn] [Inhabited OpV]

/-- append(own row, x...): whatever x reads as. -/
theorem wpList_append_own_src {w : World} {ops : Array Oper} {rest : List Oper} {o : Oper} {a : Act} {Q : Exit → Act → World → Prop} (hgd : o.guard = none) (s x : Operand) (t : TypeId)
    (ho : o.op = .call { callee := .builtin .append, args := #[s, x], argTypes := #[t, t] })
    (base : Nat) (e : TypeId) (i : TypeInfo) (z : Value) (size bytes : Nat) (ht : Tryz.prog.underlying t = some (.slice e)) (hi : Tryz.prog.info? e = some i) (hz : i.zero = some z)
    (hsize : i.size = size) (hby : i.bytes = bytes) (hzs : z.cells.size = size) (hsz : 0 < size)
    (v0 : Value) (n : Nat) (xs : List Value) (hs : a.eval s = v0) (hown : w.ownsRow base e size v0 n xs) (v : Value) (m : Nat) (news : List Value) (hx : a.eval x = v) (hv : SrcAt w v m size news) (h1 : ∀ u ∈ news, u.oneCell' = true)
    (h63 : n + m ≤ maxLen) (hbytes : (n + m) * bytes ≤ 140737488355328) (hbase : base ≤ w.heap.size)
    (h : ∀ v' w', w'.ownsRow base e size v' (n + m) (xs ++ news) → w.grownBy w' v0.ownBlock → wpList Tryz.prog ops Q rest (a.put o.dst v') w') : wpList Tryz.prog ops Q (o :: rest) a w := by
  rcases hv with ⟨rfl, rfl, rfl⟩ | ⟨ad, c, rfl, hl, hn⟩
  · exact wpList_append_own_none hgd s x t ho base e i size ht hi v0 n xs hs hown hx (h _ _ (by simpa using hown) ⟨rfl, rfl, rfl, Nat.le_refl _, fun _ _ _ => rfl⟩)
  · exact wpList_append_own w hgd s x t ho base e i z size bytes ht hi hz hsize hby hzs hsz v0 n xs hs hown ad m c news hx hl hn h1 h63 hbytes hbase fun v' w' h2 h3 _ => h v' w' h2 h3
end Go.Proofs.YtefpnojanldkeaaGreatDoor
namespace Go.Proofs.YtefpnojanldkeaaGreatDoor
open Go.RowKit Go.Sort Go.Maps
set_option maxRecDepth 100000
set_option linter.unusedSectionVars false
variable [Inhabited ComV] [DecidableEq D3] [Inhabited D3] [Inhabited Dd] [Inhabited Dn] [Inhabited OpV]

set_option maxHeartbeats 2000000 in
theorem clone_ints (w : World) (v : Value) (zs : List Int) (h : IntsAt w v zs) (hl : zs.length ≤ 1000000) :
    Calls Tryz.prog 49 #[v] w fun e w' => ∃ a c, e = .returned (.slice a zs.length c) ∧ IntsT w' (.slice a zs.length c) zs ∧ Below w.heap.size w w' := by
  have q22 : ∀ (w : World) (a : Option Addr) (n c n' c' : Nat), (binOp .eql 23 (.slice a n c) (.slice none n' c')).run Tryz.prog w = .ok (.bool a.isNone) w := fun w a n c n' c' => Lib.run_eql_slice_nil w _ _ a n c n' c' Tryz.underlying23
  obtain ⟨i0, hi, hz0, hz1, hz2⟩ := info_parts Tryz.info3o
  have hsrc := src_ints h
  obtain ⟨ad, c, rfl, h0, hh⟩ := h
  obtain ⟨n, hn⟩ : ∃ n, n = zs.length := ⟨_, rfl⟩
  rw [← hn] at hsrc hl ⊢
  have HN := hid hn
  have HS := hid hsrc
  have HH := hid hh
  clear hn hsrc hh
  cases ad with
  | none =>
    obtain rfl := h0 rfl
    have hz : zs = [] := by
      rcases HH.out with h | ⟨b, o, he, _⟩
      · exact h
      · cases he
    subst hz
    obtain rfl : n = 0 := HN.out
    go_enter Tryz.func49, Tryz.ntmps49
    go_wp2
    go_ret
    exact ⟨none, 0, rfl, ⟨none, 0, rfl, fun _ => rfl, Nat.le_refl _, .inl rfl⟩, Below.refl _ _⟩
  | some ad =>
    go_enter Tryz.func49, Tryz.ntmps49
    go_wp2_with (at_builtin; refine wpList_append_own_src rfl _ _ 23 rfl w.heap.size 3 i0 _ 1 8 Tryz.underlying23 hi hz0 hz1 hz2 rfl (by decide) _ _ _ rfl (World.ownsRow_made w #[] 0 (Nat.le_refl _) (Nat.zero_le _) rfl) _ n (zs.map (Value.int .i64)) rfl ?hs1 (ints_one _) ?hm2 ?hm3 ?hm4 ?_; (case hs1 => exact HS.out.moved (fun a u h => cell_alloc h _)); (case hm2 => unfold maxLen; omega); (case hm3 => omega); (case hm4 => simp); intro v3 w3 hown3 hgrow3)
    rw [Nat.zero_add, List.nil_append] at hown3
    obtain ⟨a3, c3, rfl⟩ := row_shape hown3
    have HT : Hid (IntsT w3 (.slice a3 n c3) zs) := by
      have h := hown3
      rw [HN.out] at h ⊢
      exact intsT_of_owns h
    have HB : Hid (Below w.heap.size w w3) := ((Below.refl _ w).alloc (Nat.le_refl _) _).grown hgrow3 (by simp) (fun k hk => ((World.ownsRow_made (e := 3) (size := 1) (base := w.heap.size) w #[] 0 (Nat.le_refl _) (Nat.zero_le _) rfl).lt k hk).1)
    clear hown3 hgrow3
    go_wp2
    go_ret
    exact ⟨a3, c3, rfl, HT.out, HB.out⟩
set_option maxHeartbeats 2000000 in
theorem clone_dots (w : World) (v : Value) (ds : List D3) (h : DotsAt w v ds) (hl : ds.length ≤ 1000000) :
    Calls Tryz.prog 51 #[v] w fun e w' => ∃ a c, e = .returned (.slice a ds.length c) ∧ RowT 90 3 w' (.slice a ds.length c) (ds.map D3.cells) ∧ Below w.heap.size w w' := by
  have q22 : ∀ (w : World) (a : Option Addr) (n c n' c' : Nat), (binOp .eql 32 (.slice a n c) (.slice none n' c')).run Tryz.prog w = .ok (.bool a.isNone) w := fun w a n c n' c' => Lib.run_eql_slice_nil w _ _ a n c n' c' Tryz.underlying32
  obtain ⟨i0, hi, hz0, hz1, hz2⟩ := info_parts Tryz.info90
  have hsrc := src_dots h
  obtain ⟨ad, c, hv, h0, _, hh⟩ := h
  rw [List.length_map] at hv
  subst hv
  obtain ⟨n, hn⟩ : ∃ n, n = ds.length := ⟨_, rfl⟩
  rw [← hn] at hsrc hl ⊢
  have HN := hid hn
  have HS := hid hsrc
  have HH := hid hh
  clear hn hsrc hh
  cases ad with
  | none =>
    obtain rfl := h0 rfl
    have hz : ds = [] := by
      rcases HH.out with h | ⟨b, o, he, _⟩
      · simpa using h
      · cases he
    subst hz
    obtain rfl : n = 0 := HN.out
    go_enter Tryz.func51, Tryz.ntmps51
    go_wp2
    go_ret
    exact ⟨none, 0, rfl, ⟨none, 0, rfl, fun _ => rfl, Nat.le_refl _, .inl rfl⟩, Below.refl _ _⟩
  | some ad =>
    go_enter Tryz.func51, Tryz.ntmps51
    go_wp2_with (at_builtin; refine wpList_append_own_src rfl _ _ 32 rfl w.heap.size 90 i0 _ 3 24 Tryz.underlying32 hi hz0 hz1 hz2 rfl (by decide) _ _ _ rfl (World.ownsRow_made w #[] 0 (Nat.le_refl _) (Nat.zero_le _) rfl) _ n (ds.flatMap D3.cells) rfl ?hs1 (dots_one _) ?hm2 ?hm3 ?hm4 ?_; (case hs1 => exact HS.out.moved (fun a u h => cell_alloc h _)); (case hm2 => unfold maxLen; omega); (case hm3 => omega); (case hm4 => simp); intro v3 w3 hown3 hgrow3)
    rw [Nat.zero_add, List.nil_append] at hown3
    obtain ⟨a3, c3, rfl⟩ := row_shape hown3
    have HT : Hid (RowT 90 3 w3 (.slice a3 n c3) (ds.map D3.cells)) := by
      have h := hown3
      rw [HN.out] at h ⊢
      exact dotsT_of_owns h
    have HB : Hid (Below w.heap.size w w3) := ((Below.refl _ w).alloc (Nat.le_refl _) _).grown hgrow3 (by simp) (fun k hk => ((World.ownsRow_made (e := 90) (size := 3) (base := w.heap.size) w #[] 0 (Nat.le_refl _) (Nat.zero_le _) rfl).lt k hk).1)
    clear hown3 hgrow3
    go_wp2
    go_ret
    exact ⟨a3, c3, rfl, HT.out, HB.out⟩
theorem within_ok (A : Nat → Addr) (w : World) (hE : E4 A w) (v u : Value) (zs ys : List Int) (h1 : IntsAt w v zs) (h2 : IntsAt w u ys) (h0 : two zs ys = 0) :
    Calls Tryz.prog 54 #[v, u] w fun e w' => e = .returned (.bool (leB zs ys)) ∧ ∃ q, w' = w.drewN q := by
  have K := Within_ok A w hE v u zs ys h1 h2 h0
  obtain ⟨a1, c1, rfl⟩ := h1.slice
  obtain ⟨a2, c2, rfl⟩ := h2.slice
  obtain ⟨r, hr⟩ : ∃ r, r = leB zs ys := ⟨_, rfl⟩
  rw [← hr] at K ⊢
  clear hr
  go_enter Tryz.func54, Tryz.ntmps54
  go_wp2_with fail
  refine K.mono ?_
  rintro e w' ⟨rfl, q, rfl⟩
  go_wp2
  go_ret
  exact ⟨rfl, q, rfl⟩
/-- A vector is one, and has as many places. -/
theorem checkVector_ok (A : Nat → Addr) (w : World) (hE : E4 A w) (p : Nat) (bv : Value) (base : List Int) (m1 m2 : Value) (hp : w.heap[p]? = some (.cells #[bv, m1, m2] 109 (0, 0))) (hb : IntsAt w bv base) (v : Value) (zs : List Int) (h : IntsAt w v zs) (h0 : chk zs = 0) (hn : zs.length = base.length) :
    Calls Tryz.prog 53 #[.pointer (some ⟨p, 0, none⟩), v] w fun e w' => e = .returned .nilIface ∧ w' = w := by
  have K := check_ok A w hE v zs h h0
  obtain ⟨a1, c1, rfl⟩ := h.slice
  obtain ⟨a2, c2, rfl⟩ := hb.slice
  have c0 : w.cell? ⟨p, 0, none⟩ = some (.slice a2 base.length c2) := by simp only [World.cell?, hp]; rfl
  have hne : ((zs.length : Int) != (base.length : Int)) = false := by rw [bne_eq_false_iff_eq]; omega
  clear hn h h0 hb hp
  go_enter Tryz.func53, Tryz.ntmps53
  go_wp2_with fail
  refine K.mono ?_
  rintro e w' ⟨rfl, rfl⟩
  go_wp2
  go_ret
  exact ⟨rfl, rfl⟩
theorem checkVector_bad (A : Nat → Addr) (w : World) (hE : E4 A w) (p : Nat) (bv : Value) (base : List Int) (m1 m2 : Value) (hp : w.heap[p]? = some (.cells #[bv, m1, m2] 109 (0, 0))) (hb : IntsAt w bv base) (v : Value) (zs : List Int) (h : IntsAt w v zs) (hl : zs.length ≤ 1000000) (h0 : ¬(chk zs = 0 ∧ zs.length = base.length)) :
    Calls Tryz.prog 53 #[.pointer (some ⟨p, 0, none⟩), v] w fun e w' => (∃ k, e = .returned (.iface 238 (.pointer (some (A k))))) ∧ w' = w := by
  by_cases hz : chk zs = 0
  · have K := check_ok A w hE v zs h hz
    have hne : ((zs.length : Int) != (base.length : Int)) = true := by rw [bne_iff_ne]; intro e; exact h0 ⟨hz, by omega⟩
    obtain ⟨a1, c1, rfl⟩ := h.slice
    obtain ⟨a2, c2, rfl⟩ := hb.slice
    have c0 : w.cell? ⟨p, 0, none⟩ = some (.slice a2 base.length c2) := by simp only [World.cell?, hp]; rfl
    have g3 := hE.shape
    clear h hz hb hp h0
    go_enter Tryz.func53, Tryz.ntmps53
    go_wp2_with fail
    refine K.mono ?_
    rintro e w' ⟨rfl, rfl⟩
    go_wp2
    go_ret
    exact ⟨⟨2, rfl⟩, rfl⟩
  · have K := check_bad A w hE v zs h hl hz
    obtain ⟨a1, c1, rfl⟩ := h.slice
    obtain ⟨kk, hkk⟩ : ∃ kk, kk = (chk zs).toNat - 1 := ⟨_, rfl⟩
    rw [← hkk] at K
    clear h hz hb hp h0 hkk
    go_enter Tryz.func53, Tryz.ntmps53
    go_wp2_with fail
    refine K.mono ?_
    rintro e w' ⟨rfl, rfl⟩
    go_wp2
    go_ret
    exact ⟨⟨kk, rfl⟩, rfl⟩
end Go.Proofs.YtefpnojanldkeaaGreatDoor
namespace Go.Proofs.YtefpnojanldkeaaGreatDoor
open Go.RowKit Go.Sort Go.Maps
set_option maxRecDepth 100000
set_option linter.unusedSectionVars false
variable [Inhabited ComV] [DecidableEq D3] [Inhabited D3] [Inhabited Dd] [Inhabited Dn] [Inhabited OpV]

theorem ret_cell {f : Func} {s t k : Nat} (hf : f.results = #[ResultVar.cell s t]) (hag : ∀ w, (isAgg t).run Tryz.prog w = .ok true w) (hsz : ∀ w, (sizeOf t).run Tryz.prog w = .ok k w) (w : World) (tmps : Array Value) (g : Nat) (vs : List Value) (hk : vs.length = k) (h4 : tmps[s]?.getD undef = .pointer (some ⟨g, 0, none⟩)) (hc : ∀ j (hj : j < vs.length), w.cell? ⟨g, j, none⟩ = some vs[j]) :
    (results f tmps).run Tryz.prog w = .ok (.agg vs.toArray) w := by
  have hl := run_loadCellsFrom_list Tryz.prog w ⟨g, 0, none⟩ vs k hk (fun j v hj => by
    obtain ⟨h1, h2⟩ := List.getElem?_eq_some_iff.1 hj
    rw [Addr.add_lit, Nat.zero_add, hc j h1, h2])
  simp [results, hf, h4, asAddr, loadVar, loadCells, hag, hsz, hl, Result.andThen]
set_option maxHeartbeats 2000000 in
theorem dotOf_any (w : World) (b1 o1 n c1 p : Nat) (T : Int) (ov : Option Addr) (ol oc : Nat) (x1 : Int) (x2 : ByteArray) (x3 : Int) (x4 : ByteArray) (x5 : Int) (x6 : Bool) (dp : Option Addr) (dl dc : Nat) (hp : p < n) (ct : w.cell? ⟨b1, o1 + p, none⟩ = some (.int .i64 T)) :
    Calls Tryz.prog 55 #[.agg #[.slice (some ⟨b1, o1, none⟩) n c1, .int .i64 p, .slice ov ol oc], .agg #[.int .i64 x1, .string x2, .int .i64 x3, .string x4, .int .i64 x5, .bool x6, .slice dp dl dc]] w fun e w' => e = .returned (.agg #[.int .i64 p, .int .i64 T, .int .i64 x1]) ∧ Below w.heap.size w w' := by
  obtain ⟨w1, hw1⟩ : ∃ w1, w1 = (w.alloc (.cells #[.slice (some ⟨b1, o1, none⟩) n c1, .int .i64 p, .slice ov ol oc] 36)).alloc (.cells #[.int .i64 x1, .string x2, .int .i64 x3, .string x4, .int .i64 x5, .bool x6, .slice dp dl dc] 34) := ⟨_, rfl⟩
  have hs1 : w1.heap.size = w.heap.size + 1 + 1 := by rw [hw1]; simp
  have d0 : w1.cell? ⟨w.heap.size, 0, none⟩ = some (.slice (some ⟨b1, o1, none⟩) n c1) := by rw [hw1]; exact cell_alloc ((World.cell?_alloc_at _ _ _ _ rfl).trans rfl) _
  have d1 : w1.cell? ⟨w.heap.size, 1, none⟩ = some (.int .i64 p) := by rw [hw1]; exact cell_alloc ((World.cell?_alloc_at _ _ _ _ rfl).trans rfl) _
  have e0 : w1.cell? ⟨w.heap.size + 1, 0, none⟩ = some (.int .i64 x1) := by rw [hw1]; exact (World.cell?_alloc_at _ _ _ _ (by simp)).trans rfl
  have t0 : w1.cell? ⟨b1, o1 + p, none⟩ = some (.int .i64 T) := by rw [hw1]; exact cell_alloc (cell_alloc ct _) _
  have B1 : Hid (Below w.heap.size w w1) := by rw [hw1]; exact below2 w _ _
  obtain ⟨w2, hw2⟩ : ∃ w2, w2 = w1.alloc (.cells #[.int .i64 0, .int .i64 0, .int .i64 0] 90) := ⟨_, rfl⟩
  have f0 : w2.cell? ⟨w.heap.size, 0, none⟩ = some (.slice (some ⟨b1, o1, none⟩) n c1) := by rw [hw2]; exact cell_alloc d0 _
  have f1 : w2.cell? ⟨w.heap.size, 1, none⟩ = some (.int .i64 p) := by rw [hw2]; exact cell_alloc d1 _
  have f2 : w2.cell? ⟨w.heap.size + 1, 0, none⟩ = some (.int .i64 x1) := by rw [hw2]; exact cell_alloc e0 _
  have f3 : w2.cell? ⟨b1, o1 + p, none⟩ = some (.int .i64 T) := by rw [hw2]; exact cell_alloc t0 _
  have hbx : w2.heap[w.heap.size + 1 + 1]? = some (.cells #[.int .i64 0, .int .i64 0, .int .i64 0] 90 (0, 0)) := by rw [hw2, ← hs1]; exact (MapKept.heap_alloc _ _).1
  have B2 : Hid (Below w.heap.size w w2) := by rw [hw2]; exact B1.out.alloc B1.out.size _
  go_enter Tryz.func55, Tryz.ntmps55
  go_upto_region 1 with (fail)
  rw [← hw1, ← hw2]
  have g0 : w2.cell? ⟨w.heap.size + 1 + 1, 0, none⟩ = some (.int .i64 0) := by simp only [World.cell?, hbx]; rfl
  have g1 : w2.cell? ⟨w.heap.size + 1 + 1, 1, none⟩ = some (.int .i64 0) := by simp only [World.cell?, hbx]; rfl
  have g2 : w2.cell? ⟨w.heap.size + 1 + 1, 2, none⟩ = some (.int .i64 0) := by simp only [World.cell?, hbx]; rfl
  have r0 : w2.frozen? ⟨w.heap.size + 1 + 1, 0, none⟩ = false := by simp only [World.frozen?, hbx]; simp
  have r1 : w2.frozen? ⟨w.heap.size + 1 + 1, 1, none⟩ = false := by simp only [World.frozen?, hbx]; simp
  have r2 : w2.frozen? ⟨w.heap.size + 1 + 1, 2, none⟩ = false := by simp only [World.frozen?, hbx]; simp
  have hlt := lt_of_cell ct
  have HBX := hid hbx
  clear hw1 hw2 d0 d1 e0 t0 hbx ct hs1
  obtain ⟨g, hg⟩ : ∃ g, g = w.heap.size + 1 + 1 := ⟨_, rfl⟩
  obtain ⟨k, hk⟩ : ∃ k, k = w.heap.size + 1 := ⟨_, rfl⟩
  have n1 : g ≠ w.heap.size := by omega
  have n2 : g ≠ k := by omega
  have n3 : g ≠ b1 := by have : b1 < w.heap.size := hlt; omega
  have hge : w.heap.size ≤ g := by omega
  rw [← hg] at g0 g1 g2 r0 r1 r2 HBX ⊢
  rw [← hk] at f2 ⊢
  clear hg hk hlt
  go_region_held (fun w' => w'.cell? ⟨w.heap.size, 0, none⟩ = some (.slice (some ⟨b1, o1, none⟩) n c1) ∧ w'.cell? ⟨w.heap.size, 1, none⟩ = some (.int .i64 p) ∧ w'.cell? ⟨k, 0, none⟩ = some (.int .i64 x1) ∧ w'.cell? ⟨b1, o1 + p, none⟩ = some (.int .i64 T)) (go_keep) (fail)
  obtain ⟨w3, hw3⟩ : ∃ w3, w3 = (((w2.setCell ⟨g, 0, none⟩ (.int .i64 p)).setCell ⟨g, 1, none⟩ (.int .i64 T)).setCell ⟨g, 2, none⟩ (.int .i64 x1)).drew := ⟨_, rfl⟩
  have hb3 : w3.heap[g]? = some (.cells #[.int .i64 p, .int .i64 T, .int .i64 x1] 90 (0, 0)) := by
    rw [hw3]
    show (((w2.setCell ⟨g, 0, none⟩ (.int .i64 p)).setCell ⟨g, 1, none⟩ (.int .i64 T)).setCell ⟨g, 2, none⟩ (.int .i64 x1)).heap[g]? = _
    rw [heap_set (heap_set (heap_set HBX.out _) _) _]
    rfl
  have B3 : Below w.heap.size w w3 := by
    rw [hw3]
    exact below_draws (((B2.out.setCell hge _).setCell hge _).setCell hge _) 1
  rw [← hw3]
  clear hw3
  go_wp2
  refine bodyPost_ret (ret_cell (k := 3) Tryz.results55 Tryz.isAgg90 Tryz.sizeOf90 _ _ g [.int .i64 p, .int .i64 T, .int .i64 x1] rfl rfl (fun j hj => ?_)) rfl ⟨rfl, B3⟩
  rcases (by simp at hj; omega : j = 0 ∨ j = 1 ∨ j = 2) with rfl | rfl | rfl <;> (simp only [World.cell?, hb3]; rfl)
end Go.Proofs.YtefpnojanldkeaaGreatDoor
