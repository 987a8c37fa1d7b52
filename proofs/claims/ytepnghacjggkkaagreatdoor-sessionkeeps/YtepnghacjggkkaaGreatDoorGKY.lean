/- SameTexts, SameValue: of the same; From what the rows list to what the walks ask: the sentinels that package values hands out; the start that the witness takes; Slices of strings and of ints as they come in; Slices of steps as they come in. -/
import Derived.Test.YtepnghacjggkkaaGreatDoorGKM
import Derived.Test.YtepnghacjggkkaaGreatDoorGWPart
import Derived.Test.YtepnghacjggkkaaGreatDoorGSBase
import Derived.Test.YtepnghacjggkkaaGreatDoorGVMath
import Derived.Deep.QuietTactic
import Derived.BigQuiet
import Derived.Deep.Draws
import Derived.Deep.RegionHeld
import Derived.DeepKeys5
import Derived.Ground.SlsfProg
import Derived.Handy
import Derived.LaidEql
import Derived.LaidHandle
import Derived.LaidLaws
import Derived.LaidSub
import Derived.Laws.AppendOwnNone
import Derived.Laws.MakeOwn
import Derived.Laws.ResultCell
import Derived.Lib.SlKept
import Derived.Lib.SliceRun
import Derived.Maps.AppendAt
import Derived.Maps.OwnSet
import Derived.OpenShut
import Derived.ProofKit
import Derived.RowKitTokens
import Derived.Shelf.GgSortFunc.RowK
import Derived.Shelf.SlGeneric
import Derived.Shelf.Slices.CompactS
import Derived.Shelf.Slices.In.SortNone
import Derived.Shelf.SlicesE.DeleteFunc
import Derived.Shelf.SlicesQ.IndexFunc
import Derived.Shelf.Sort.Plain
import Derived.Sort.Grow
import Derived.StillTailTactics
import Derived.Stop.Asserts
import Derived.Test.YtepnghacjggkkaaGreatDoorChecked
import Derived.Test.YtepnghacjggkkaaGreatDoorProg
import Derived.Test.YtepnghacjggkkaaGreatDoorRows
import Derived.WalkKit
import Derived.Test.YtepnghacjggkkaaGreatDoorGVLayT
import Derived.Deep.Cut
import Derived.Deep.Fields
import Derived.Deep.RegionHeldLaw
import Derived.Deep.RegionLaw
import Derived.Deep.Slices
import Derived.Deep.Strs
import Derived.LaidMore
import Derived.Laws.IdiomCopy
import Derived.Laws.OwnMore
import Derived.Shelf.SlIter.Nil
import Derived.Shelf.SlicesQ.Load
import Derived.Sort.KeysCollected
import Derived.WalkLawsBesides
import Derived.WalkSpells
import Derived.Test.YtepnghacjggkkaaGreatDoorGVCom
namespace Go.Proofs.YtepnghacjggkkaaGreatDoor
open Go.RowKit
set_option maxRecDepth 100000
set_option linter.unusedSectionVars false
variable [Inhabited ComV] [DecidableEq D3] [Inhabited D3] [Inhabited Dd] [Inhabited Dn] [Inhabited OpV]

theorem encStr_shape (l : List UInt8) : ∃ s : ByteArray, encStr l = .string s := ⟨_, rfl⟩
theorem StrsAt.mono {w w' : World} {v : Value} {ss : List (List UInt8)} {B : Nat} (h : StrsAt w v ss) (hb : Below B w w') (hB : w.heap.size ≤ B) : StrsAt w' v ss := by
  obtain ⟨ad, cap, rfl, h⟩ := h
  refine ⟨ad, cap, rfl, ?_⟩
  rcases h with h | ⟨b, rfl, h⟩
  · exact .inl h
  · exact .inr ⟨b, rfl, fun t ht => by rw [hb.cell (Nat.lt_of_lt_of_le (lt_of_cell (h t ht)) hB)]; exact h t ht⟩
theorem StrsAt.len {w : World} {v : Value} {ss : List (List UInt8)} (h : StrsAt w v ss) : ∃ ad cap, v = .slice ad ss.length cap := by
  obtain ⟨ad, cap, rfl, _⟩ := h
  exact ⟨_, _, rfl⟩
set_option maxHeartbeats 1000000 in
theorem sameTexts_same (w : World) (v v' : Value) (ss : List (List UInt8)) (h : StrsAt w v ss) (h' : StrsAt w v' ss) (hl : ss.length ≤ 1000000) :
    Calls Tryz.prog 36 #[v, v'] w fun e w' => e = .returned (.bool true) ∧ ∃ q, w' = w.drewN q := by
  obtain ⟨a1, c1, rfl, h⟩ := h
  obtain ⟨a2, c2, rfl, h'⟩ := h'
  obtain ⟨n, hn⟩ : ∃ n, n = ss.length := ⟨_, rfl⟩
  rw [← hn] at hl ⊢
  have HN := hid hn
  have H1 := hid h
  have H2 := hid h'
  have bn : ((n : Int) != (n : Int)) = false := by simp
  clear hn h h'
  go_enter Tryz.func36, Tryz.ntmps36
  go_wp2
  go_loopw [5] (fun i wr => ∃ k : Nat, k ≤ n ∧ i = .int .i64 k ∧ Hid (∃ q, wr = w.drewN q)) (fun i _ => n - (intOf i).toNat)
  case atStart => exact ⟨0, Nat.zero_le _, rfl, 0, rfl⟩
  case round =>
    obtain ⟨k, hk, rfl, HQ⟩ := hrel
    by_cases hlt : k < n
    · obtain ⟨b1, rfl, g1⟩ := H1.out.resolve_left (fun h => by have := HN.out; rw [h] at this; simp at this; omega)
      obtain ⟨b2, rfl, g2⟩ := H2.out.resolve_left (fun h => by have := HN.out; rw [h] at this; simp at this; omega)
      have e1 : wr.cell? ⟨b1, k, none⟩ = some (encStr ss[k]!) := by obtain ⟨q, hq⟩ := HQ.out; rw [hq]; exact g1 k (by have := HN.out; omega)
      have e2 : wr.cell? ⟨b2, k, none⟩ = some (encStr ss[k]!) := by obtain ⟨q, hq⟩ := HQ.out; rw [hq]; exact g2 k (by have := HN.out; omega)
      obtain ⟨s, hs⟩ := encStr_shape ss[k]!
      rw [hs] at e1 e2
      clear hs g1 g2
      go_upto_region 6 with (fail)
      go_quiet (fail)
      go_wp2
      go_roundw
      case rel => exact ⟨k + 1, by omega, by go_num, by obtain ⟨q, hq⟩ := HQ.out; exact ⟨_, by rw [hq]; exact World.drewN_drewN _ _ _⟩⟩
      case measure => simp [intOf]; omega
    · obtain rfl : k = n := by omega
      go_wp2
      go_ret
      exact ⟨rfl, HQ.out⟩
set_option maxHeartbeats 1000000 in
theorem sameValue_same (w : World) (k : Int) (t : ByteArray) (n : Int) (v v' : Value) (ss : List (List UInt8)) (h : StrsAt w v ss) (h' : StrsAt w v' ss) (hl : ss.length ≤ 1000000) :
    Calls Tryz.prog 19 #[.agg #[.int .i64 k, .string t, .int .i64 n, v], .agg #[.int .i64 k, .string t, .int .i64 n, v']] w fun e w' => e = .returned (.bool true) ∧ Below w.heap.size w w' := by
  have hb := below2 w (.cells #[.int .i64 k, .string t, .int .i64 n, v] 41) (.cells #[.int .i64 k, .string t, .int .i64 n, v'] 41)
  have K29 := sameTexts_same _ v v' ss (h.mono hb (Nat.le_refl _)) (h'.mono hb (Nat.le_refl _)) hl
  obtain ⟨a1, c1, rfl⟩ := h.len
  obtain ⟨a2, c2, rfl⟩ := h'.len
  obtain ⟨m, hm⟩ : ∃ m, m = ss.length := ⟨_, rfl⟩
  rw [← hm] at K29 hb ⊢
  have HB := hid hb
  clear h h' hm hb
  go_enter Tryz.func19, Tryz.ntmps19
  go_wp2_with fail
  refine K29.mono ?_
  rintro e w2 ⟨rfl, q, rfl⟩
  clear K29
  go_wp2
  go_ret
  exact ⟨rfl, below_draws HB.out q⟩
end Go.Proofs.YtepnghacjggkkaaGreatDoor
namespace Go.Proofs.YtepnghacjggkkaaGreatDoor
open Go.RowKit Go.ChangeShapes Go.WideShapes Go.ChangeAt
set_option maxRecDepth 100000

def sent {H : Type} (t : List UInt8) : DataW H := .iface "*errors.errorString" (.ptr (.agg [.lit (.string t)]))
def listed (l : List (String × List UInt8)) : List (String × DataW Unit) := l.map fun x => (x.1, sent x.2)
section
variable {P : Program} {W : World} {ti tp te ts : TypeId} {ms : Array (String × TypeId)} {f : Field}

theorem laidVars_sents (hi : P.underlying ti = some (.interface ms)) (hrow : ∀ u, P.typeName? 3 u = some "*errors.errorString" → u = tp)
    (hp : P.underlying tp = some (.pointer te)) (he : P.underlying te = some (.struct #[f])) (hft : f.type = ts) (hfo : f.offset = 0) (hs : P.underlying ts = some .string) (hc : P.cellsOf te = 1) (hcs : P.cellsOf ts = 1) :
    ∀ (l : List (String × List UInt8)) (ps : List MemPlace),
    DataW.LaidVars P W (listed l) ps →
    (∀ x ∈ l, ∃ g, P.globalNamed x.1 = some g ∧ (P.globals[g]?).map (·.type) = some ti) →
    (∀ b off, MemPlace.cell b off ∈ ps → (∃ c t, W.heap[b]? = some (.cells c t (0, 0))) ∧ ∀ u v, W.cell? ⟨b, off, none⟩ = some (.iface u v) → Value.okWide P W .any 0 u v) →
    ∃ ad : List Addr, ad.length = l.length ∧ (∀ (k : Nat) (x : String × List UInt8) (a : Addr), l[k]? = some x → ad[k]? = some a → W.var? P x.1 = some #[.iface tp (.pointer (some a))]) ∧
      (ad.map fun a => MemPlace.cell a.block a.off).Sublist ps ∧ ∀ a ∈ ad, ∃ v, W.cell? a = some v := by
  intro l
  induction l with
  | nil => exact fun ps _ _ _ => ⟨[], rfl, fun k x a h => by simp at h, List.nil_sublist _, fun a h => by cases h⟩
  | cons x l ih =>
    intro ps h hg hrows
    obtain ⟨g, t, cs, fuel, p, q, h1, h2, h3, h4, h5, rfl⟩ := h
    obtain ⟨g', h1', h2'⟩ := hg x (List.mem_cons_self ..)
    obtain rfl := Option.some.inj (h1.symm.trans h1')
    obtain rfl := Option.some.inj (h2.symm.trans h2')
    obtain ⟨lc⟩ := cs
    have ok0 : ∀ u v, lc = [.iface u v] → Value.okWide P W .any 0 u v := fun u v e => by
      subst e
      exact (hrows g 0 (by simp [MemPlace.row])).2 u v (by simpa using World.var?_cell h1 h3 0)
    obtain ⟨a, s, rfl, hc0, hs0, hz0, rfl⟩ := errorString_of_trod hi hrow hp he hft hfo hs hc hcs h4 ok0
    obtain ⟨ad, e1, e2, e3, e4⟩ := ih q h5 (fun y hy => hg y (List.mem_cons_of_mem _ hy)) (fun b off hm => hrows b off (List.mem_append_right _ hm))
    refine ⟨a :: ad, by simp [e1], ?_, ?_, ?_⟩
    · intro k y b hy hb
      cases k with
      | zero =>
        simp only [List.getElem?_cons_zero, Option.some.injEq] at hy hb
        subst hy hb
        exact h3
      | succ k =>
        simp only [List.getElem?_cons_succ] at hy hb
        exact e2 k y b hy hb
    · simp only [List.map_cons]
      have : MemPlace.row a 1 = [MemPlace.cell a.block a.off] := by simp [MemPlace.row]
      rw [this, List.append_assoc]
      refine List.Sublist.trans ?_ (List.sublist_append_right _ _)
      exact List.Sublist.cons_cons _ e3
    · intro b hb
      rcases List.mem_cons.1 hb with rfl | hb
      · exact ⟨_, hc0⟩
      · exact e4 b hb
theorem laidMet_sents (hi : P.underlying ti = some (.interface ms)) (hrow : ∀ u, P.typeName? 3 u = some "*errors.errorString" → u = tp)
    (hp : P.underlying tp = some (.pointer te)) (he : P.underlying te = some (.struct #[f])) (hft : f.type = ts) (hfo : f.offset = 0) (hs : P.underlying ts = some .string) (hc : P.cellsOf te = 1) (hcs : P.cellsOf ts = 1)
    (l : List (String × List UInt8)) (h : laidMet P (listed l) W) (hg : ∀ x ∈ l, ∃ g, P.globalNamed x.1 = some g ∧ (P.globals[g]?).map (·.type) = some ti) :
    ∃ A : Nat → Addr, (∀ k x, l[k]? = some x → W.var? P x.1 = some #[.iface tp (.pointer (some (A k)))]) ∧ (∀ k, k < l.length → ∃ c t, W.heap[(A k).block]? = some (.cells c t (0, 0))) ∧
      (∀ k, k < l.length → ∃ v, W.cell? (A k) = some v) ∧ ∀ i j, i < l.length → j < l.length → i ≠ j → A i ≠ A j := by
  obtain ⟨ps, hv, hnd, hrows⟩ := h
  obtain ⟨ad, e1, e2, e3, e4⟩ := laidVars_sents hi hrow hp he hft hfo hs hc hcs l ps hv hg hrows
  have hget : ∀ k, k < l.length → ad[k]? = some (ad.getD k ⟨0, 0, none⟩) := fun k hk => by
    rw [List.getD_eq_getElem?_getD, List.getElem?_eq_getElem (by omega)]; rfl
  have hmem : ∀ k, k < l.length → ad.getD k ⟨0, 0, none⟩ ∈ ad := fun k hk => List.mem_of_getElem? (hget k hk)
  refine ⟨fun k => ad.getD k ⟨0, 0, none⟩, ?_, ?_, ?_, ?_⟩
  · intro k x hx
    have hk : k < l.length := (List.getElem?_eq_some_iff.1 hx).1
    exact e2 k x _ hx (hget k hk)
  · intro k hk
    exact (hrows _ _ (e3.subset (List.mem_map.2 ⟨_, hmem k hk, rfl⟩))).1
  · intro k hk
    exact e4 _ (hmem k hk)
  · intro i j hik hjk hne he
    have hnd' : (ad.map fun a => MemPlace.cell a.block a.off).Nodup := hnd.sublist e3
    have hi' : i < (ad.map fun a => MemPlace.cell a.block a.off).length := by simp; omega
    have hj' : j < (ad.map fun a => MemPlace.cell a.block a.off).length := by simp; omega
    have he' : ad.getD i ⟨0, 0, none⟩ = ad.getD j ⟨0, 0, none⟩ := he
    rw [List.getD_eq_getElem?_getD, List.getD_eq_getElem?_getD, List.getElem?_eq_getElem (by omega), List.getElem?_eq_getElem (by omega)] at he'
    simp only [Option.getD_some] at he'
    rcases Nat.lt_or_gt_of_ne hne with h | h
    · exact List.pairwise_iff_getElem.1 hnd' i j hi' hj' h (by rw [List.getElem_map, List.getElem_map, he'])
    · exact List.pairwise_iff_getElem.1 hnd' j i hj' hi' h (by rw [List.getElem_map, List.getElem_map, he'])
end

theorem Tryz.row276 : ∀ u, Tryz.prog.typeName? 3 u = some "*errors.errorString" → u = 276 := typeName_ptr_named (nm := "errors.errorString") (by kernel_rfl) (by kernel_rfl) (by decide)
theorem Tryz.cells296 : Tryz.prog.cellsOf 296 = 1 := by kernel_rfl
theorem Tryz.cells9 : Tryz.prog.cellsOf 9 = 1 := by kernel_rfl
end Go.Proofs.YtepnghacjggkkaaGreatDoor
namespace Go.Proofs.YtepnghacjggkkaaGreatDoor
open Go.ChangeShapes Go.WideShapes Go.ChangeAt Go.RowKit
set_option maxRecDepth 100000
set_option linter.unusedSectionVars false
variable [Inhabited ComV] [DecidableEq D3] [Inhabited D3] [Inhabited Dd] [Inhabited Dn] [Inhabited OpV]

theorem Tryz.laidOutP : laidOutB Tryz.prog = true := by kernel_rfl
theorem Tryz.cellsP3 : Tryz.prog.cellsOf 3 = 1 := by kernel_rfl
theorem Tryz.readP23 : Tryz.prog.readableRec 22 = true := by kernel_rfl
theorem Tryz.ltP23 : 22 < Tryz.prog.types.size := of_decide_eq_true (by kernel_rfl)
theorem ints_view {H : Type} {enc : TypeId × Value → H} {W : World} {base : Nat} {v : Value} {d : DataW H} {p : List MemPlace} (hv : Value.okWide Tryz.prog W .any base 22 v) (h : DataW.Trod enc Tryz.prog W 0 (fun _ => true) true 22 v d p) :
    ∃ zs, IntsAt W v zs := by
  obtain ⟨a0, len, cap, rfl⟩ := okWide_slice Tryz.underlying22 hv
  obtain ⟨fuel, hf⟩ := h
  rcases open_ints Tryz.underlying22 Tryz.underlying3 Tryz.cellsP3 hf with ⟨hcs, hx⟩ | ⟨a, len', cap', zs, hcs, _, hl, hm, hz, hx, hcell, hwz⟩
  · simp [Value.cells] at hcs
    obtain ⟨rfl, rfl, rfl⟩ := hcs
    exact ⟨[], none, 0, rfl, (fun _ => rfl), .inl rfl⟩
  · simp [Value.cells] at hcs
    obtain ⟨rfl, rfl, rfl⟩ := hcs
    simp only [if_true] at hz
    have hlen : (zs.take len).length = len := by rw [List.length_take]; omega
    refine ⟨zs.take len, some a, cap, by rw [hlen], (fun h => by cases h), ?_⟩
    by_cases h0 : len = 0
    · subst h0; exact .inl rfl
    · obtain ⟨b, off, rfl, hc⟩ := ints_at hcell (by omega)
      refine .inr ⟨b, off, rfl, fun t ht => ?_⟩
      rw [hlen] at ht
      rw [hc t (by omega)]
      simp [List.getD_eq_getElem?_getD, ht]
theorem ints_stay {H : Type} {enc : TypeId × Value → H} {W W' : World} {v : Value} {d : DataW H} {p : List MemPlace} (h : DataW.Trod enc Tryz.prog W 0 (fun _ => true) true 22 v d p) (hb : Below W.heap.size W W') (hlt : ∀ x ∈ p, x.block < W.heap.size) :
    DataW.Trod enc Tryz.prog W' 0 (fun b => decide (b < W.heap.size)) true 22 v d p :=
  Below.trod Tryz.laidOutP Tryz.readP23 Tryz.ltP23 h hb hlt
end Go.Proofs.YtepnghacjggkkaaGreatDoor
namespace Go.Proofs.YtepnghacjggkkaaGreatDoor
open Go.ChangeShapes Go.WideShapes Go.ChangeAt Go.RowKit Go.Deep
set_option maxRecDepth 100000
set_option linter.unusedSectionVars false
variable [Inhabited ComV] [DecidableEq D3] [Inhabited D3] [Inhabited Dd] [Inhabited Dn] [Inhabited OpV]

section
variable {H : Type} {enc : TypeId × Value → H} {W : World}
theorem rows_view {t e k fuel : Nat} {v : Value} {x : DataW H × List MemPlace} (ht : Tryz.prog.underlying t = some (.slice e)) (hk : Tryz.prog.cellsOf e = k) (hk0 : 0 < k) (h : DataW.trod enc Tryz.prog W 0 (fun _ => true) true fuel t [v] = some x) :
    ∃ rows n, RowAt k W v rows ∧ rows.length ≤ 9223372036854775807 ∧ ∀ r ∈ rows, r.length = k ∧ ∃ y, DataW.trod enc Tryz.prog W 0 (fun _ => true) true n e r = some y := by
  rcases open_slice ht h with ⟨hv, _⟩ | ⟨a, len, cap, m, n, D, Pl, hv, _, hl, hm, hmm, _, hx⟩
  · simp only [List.cons.injEq, and_true] at hv
    subst hv
    exact ⟨[], 0, ⟨none, 0, rfl, fun _ => rfl, Nat.le_refl _, .inl rfl⟩, Nat.zero_le _, fun r hr => by simp at hr⟩
  · simp only [List.cons.injEq, and_true] at hv
    subst hv
    simp only [if_true] at hmm
    subst hmm
    rw [hk] at hx
    obtain ⟨R, hR⟩ := choose_lt (α := List Value) (p := fun i r => W.cells? 0 (a.add (i * k)) k = some r ∧ DataW.trod enc Tryz.prog W 0 (fun _ => true) true n e r = some (D i, Pl i)) hx
    have hrow : ∀ i, i < m → (R i).length = k := fun i hi => (World.cells?_some (hR i hi).1).2.1
    refine ⟨(List.range len).map R, n, ⟨some a, m, by simp, (fun h => by cases h), by simpa using hl, ?_⟩, by rw [List.length_map, List.length_range]; exact Nat.le_trans hl hm, fun r hr => ?_⟩
    · by_cases h0 : len = 0
      · subst h0; exact .inl rfl
      · have h00 := (hR 0 (by omega)).1
        obtain ⟨_, hlen, hcell⟩ := World.cells?_some h00
        obtain ⟨b, o, spot⟩ := a
        have hc0 := hcell 0 hk0
        rw [Nat.zero_mul, List.getElem?_eq_getElem (by omega)] at hc0
        have hspot : spot = none := by simpa [Addr.add] using World.cell?_spot hc0
        subst hspot
        refine .inr ⟨b, o, rfl, fun j r hr => ?_⟩
        have hj : j < len := by have := (List.getElem?_eq_some_iff.1 hr).1; simpa using this
        rw [List.getElem?_map, List.getElem?_range hj] at hr
        obtain rfl := Option.some.inj hr
        refine ⟨hrow j (by omega), fun i u hu => ?_⟩
        obtain ⟨_, hlen, hcell⟩ := World.cells?_some (hR j (by omega)).1
        have hi : i < k := by have := (List.getElem?_eq_some_iff.1 hu).1; omega
        have := hcell i hi
        rw [add_add, Addr.add_lit, hu] at this
        rw [← this]
        congr 2
        omega
    · obtain ⟨i, hi, rfl⟩ := List.mem_map.1 hr
      have hi' := List.mem_range.1 hi
      exact ⟨hrow i (by omega), _, (hR i (by omega)).2⟩
theorem f2_choose {α β : Type} {R : α → β → Prop} : ∀ {l : List α}, (∀ a ∈ l, ∃ b, R a b) → ∃ m, F2 R l m
  | [], _ => ⟨[], trivial⟩
  | a :: l, h => by
    obtain ⟨b, hb⟩ := h a (List.mem_cons_self ..)
    obtain ⟨m, hm⟩ := f2_choose (fun a ha => h a (List.mem_cons_of_mem _ ha))
    exact ⟨b :: m, hb, hm⟩
theorem field1 {t n : Nat} {fs : Array Field} {r : List Value} {x : DataW H × List MemPlace} (ht : Tryz.prog.underlying t = some (.struct fs)) (hone : oneCellFields Tryz.prog fs = true) (hl : r.length = fs.size) (h : DataW.trod enc Tryz.prog W 0 (fun _ => true) true n t r = some x) :
    ∃ n', ∀ (i : Nat) (f : Field), fs[i]? = some f → ∃ y, DataW.trod enc Tryz.prog W 0 (fun _ => true) true n' f.type [r.getD i undef] = some y := by
  obtain ⟨xs, n', _, _, _, hxl, hf⟩ := DataW.trod_struct ht h
  refine ⟨n', fun i f hi => ?_⟩
  have hlt : i < fs.size := (Array.getElem?_eq_some_iff.1 hi).1
  obtain ⟨ho, hc1⟩ := hone_of hone i f hi
  have g := hf i f hi
  rw [ho, hc1, take1_drop r i undef (by omega), List.getElem?_eq_getElem (by omega)] at g
  exact ⟨_, g⟩
theorem int_cell {n : Nat} {v : Value} {y : DataW H × List MemPlace} (h : DataW.trod enc Tryz.prog W 0 (fun _ => true) true n 3 [v] = some y) : ∃ z, v = .int .i64 z ∧ (Lit.int .i64 z).wf = true := by
  obtain ⟨z, hz, _, hw⟩ := DataW.trod_int Tryz.underlying3 h
  exact ⟨z, by simpa using hz, hw⟩
theorem str_cell {n : Nat} {v : Value} {y : DataW H × List MemPlace} (h : DataW.trod enc Tryz.prog W 0 (fun _ => true) true n 9 [v] = some y) : ∃ s, v = .string s ∧ s.size ≤ 9223372036854775807 := by
  obtain ⟨z, hz, _, hm⟩ := DataW.trod_string Tryz.underlying9 h
  exact ⟨z, by simpa using hz, hm⟩
structure StepV where
  kind : ByteArray
  key : ByteArray
  text : ByteArray
  p : Int
  n : Int
theorem step_cells {n : Nat} {r : List Value} {y : DataW H × List MemPlace} (hl : r.length = 5) (h : DataW.trod enc Tryz.prog W 0 (fun _ => true) true n 53 r = some y) : ∃ x : StepV, r = [.string x.kind, .string x.key, .string x.text, .int .i64 x.p, .int .i64 x.n] := by
  obtain ⟨xs, n', _, _, _, hxl, hg⟩ := DataW.trod_struct Tryz.underlying53 h
  match r, hl with
  | [a, b, c, d, e], _ =>
    have g0 : DataW.trod enc Tryz.prog W 0 (fun _ => true) true n' 9 (([a, b, c, d, e].drop 0).take (Tryz.prog.cellsOf 9)) = _ := hg 0 _ rfl
    have g1 : DataW.trod enc Tryz.prog W 0 (fun _ => true) true n' 9 (([a, b, c, d, e].drop 1).take (Tryz.prog.cellsOf 9)) = _ := hg 1 _ rfl
    have g2 : DataW.trod enc Tryz.prog W 0 (fun _ => true) true n' 9 (([a, b, c, d, e].drop 2).take (Tryz.prog.cellsOf 9)) = _ := hg 2 _ rfl
    have g3 : DataW.trod enc Tryz.prog W 0 (fun _ => true) true n' 3 (([a, b, c, d, e].drop 3).take (Tryz.prog.cellsOf 3)) = _ := hg 3 _ rfl
    have g4 : DataW.trod enc Tryz.prog W 0 (fun _ => true) true n' 3 (([a, b, c, d, e].drop 4).take (Tryz.prog.cellsOf 3)) = _ := hg 4 _ rfl
    have k3 : Tryz.prog.cellsOf 3 = 1 := by kernel_rfl
    have k9 : Tryz.prog.cellsOf 9 = 1 := by kernel_rfl
    have hx5 : xs.length = 5 := hxl
    rw [k9, List.getElem?_eq_getElem (by omega)] at g0 g1 g2
    rw [k3, List.getElem?_eq_getElem (by omega)] at g3 g4
    obtain ⟨z0, e0, _⟩ := str_cell (v := a) g0
    obtain ⟨z1, e1, _⟩ := str_cell (v := b) g1
    obtain ⟨z2, e2, _⟩ := str_cell (v := c) g2
    obtain ⟨z3, e3, _⟩ := int_cell (v := d) g3
    obtain ⟨z4, e4, _⟩ := int_cell (v := e) g4
    subst e0 e1 e2 e3 e4
    exact ⟨⟨z0, z1, z2, z3, z4⟩, rfl⟩
def StepsAt (w : World) (v : Value) (xs : List StepV) : Prop := ∃ (a : Option Addr) (c : Nat), v = .slice a xs.length c ∧ (xs = [] ∨ ∃ b o, a = some ⟨b, o, none⟩ ∧ ∀ (i : Nat) (x : StepV), xs[i]? = some x → ∀ (j : Nat) (u : Value), [Value.string x.kind, .string x.key, .string x.text, .int .i64 x.p, .int .i64 x.n][j]? = some u → w.cell? ⟨b, o + i * 5 + j, none⟩ = some u)
theorem steps_view {v : Value} {d : DataW H} {p : List MemPlace} {base : Nat} (hv : Value.okWide Tryz.prog W .any base 51 v) (h : DataW.Trod enc Tryz.prog W 0 (fun _ => true) true 51 v d p) : ∃ xs, StepsAt W v xs := by
  obtain ⟨a0, len, cap, rfl⟩ := okWide_slice Tryz.underlying51 hv
  obtain ⟨fuel, hf⟩ := h
  have hf' : DataW.trod enc Tryz.prog W 0 (fun _ => true) true fuel 51 [.slice a0 len cap] = some (d, p) := by simpa [Value.cells] using hf
  obtain ⟨rows, n', ⟨ad, cap', hv', hn, hc, hq⟩, _, hr⟩ := rows_view Tryz.underlying51 (k := 5) (by kernel_rfl) (by decide) hf'
  obtain ⟨qs, hf0⟩ := f2_choose (R := fun (r : List Value) (x : StepV) => r = [.string x.kind, .string x.key, .string x.text, .int .i64 x.p, .int .i64 x.n]) (l := rows) (fun r hrm => by
    obtain ⟨hl, y, hy⟩ := hr r hrm
    exact step_cells hl hy)
  have hlen := f2_len hf0
  refine ⟨qs, ad, cap', by rw [hv', hlen], ?_⟩
  rcases hq with hq | ⟨b, o, rfl, hq⟩
  · exact .inl (List.eq_nil_of_length_eq_zero (by rw [← hlen, hq]; rfl))
  · refine .inr ⟨b, o, rfl, fun i x hx j u hu => ?_⟩
    obtain ⟨r, hr, e⟩ := f2_get hf0 i x hx
    rw [e] at hr
    exact (hq i _ hr).2 j u hu
end
theorem Tryz.read51 : Tryz.prog.readableRec 51 = true := by kernel_rfl
theorem Tryz.lt51 : 51 < Tryz.prog.types.size := of_decide_eq_true (by kernel_rfl)
theorem steps_stay {H : Type} {enc : TypeId × Value → H} {W W' : World} {v : Value} {d : DataW H} {p : List MemPlace} (h : DataW.Trod enc Tryz.prog W 0 (fun _ => true) true 51 v d p) (hb : Below W.heap.size W W') (hlt : ∀ x ∈ p, x.block < W.heap.size) :
    DataW.Trod enc Tryz.prog W' 0 (fun b => decide (b < W.heap.size)) true 51 v d p := Below.trod Tryz.laidOutP Tryz.read51 Tryz.lt51 h hb hlt
end Go.Proofs.YtepnghacjggkkaaGreatDoor
