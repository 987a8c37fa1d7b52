/- New: an empty store; A store stands while a block of another kind turns; newKnown; gather: what each line tells, by place, then by shard; What is put whole, or in parts, turned around: plain mathematics; SameValue of the same; Index; what stands where nothing, or something, is wrong. -/
import Derived.Test.YtepnghacjggkkaaGreatDoorJWState
import Derived.Deep.RegionHeld
import Derived.Ground.SlsfProg
import Derived.LaidEql
import Derived.Laws.AppendOwnNone
import Derived.Laws.MakeOwn
import Derived.Laws.ResultCell
import Derived.Lib.SlKept
import Derived.Lib.SliceRun
import Derived.Maps.AppendAt
import Derived.Maps.OwnSet
import Derived.RowKitTokens
import Derived.Shelf.GgSortFunc.RowK
import Derived.Shelf.SlGeneric
import Derived.Shelf.Slices.CompactS
import Derived.Shelf.Slices.In.SortNone
import Derived.Shelf.SlicesE.DeleteFunc
import Derived.Shelf.SlicesQ.IndexFunc
import Derived.Shelf.Sort.Plain
import Derived.Stop.Asserts
import Derived.Test.YtepnghacjggkkaaGreatDoorProg
import Derived.WalkKit
import Derived.Test.YtepnghacjggkkaaGreatDoorJSBase
import Derived.Test.YtepnghacjggkkaaGreatDoorJSNext
import Derived.BigQuiet
import Derived.Deep.Cut
import Derived.Deep.Draws
import Derived.Deep.Fields
import Derived.Deep.QuietTactic
import Derived.Deep.RegionLaw
import Derived.Deep.Slices
import Derived.Handy
import Derived.LaidHandle
import Derived.LaidLaws
import Derived.LaidSub
import Derived.Laws.IdiomCopy
import Derived.Laws.OwnMore
import Derived.OpenShut
import Derived.ProofKit
import Derived.Shelf.SlIter.Nil
import Derived.Sort.Grow
import Derived.Sort.KeysCollected
import Derived.StillTailTactics
import Derived.Test.YtepnghacjggkkaaGreatDoorRows
import Derived.Test.YtepnghacjggkkaaGreatDoorJHE
import Derived.Deep.CutBlock
import Derived.Deep.DeepCutAuto
import Derived.Deep.RegionHeldLaw
import Derived.Deep.RegionWith
import Derived.Laws.IdiomStrings
import Derived.Maps.RangeWalk
import Derived.WalkLawsBesides
import Derived.WalkSpells
import Derived.Test.YtepnghacjggkkaaGreatDoorJWSmall
import Derived.DeepKeys5
import Derived.Test.YtepnghacjggkkaaGreatDoorChecked
namespace Go.Proofs.YtepnghacjggkkaaGreatDoor
open Go.RowKit Go.Sort Go.Maps
set_option maxRecDepth 100000
set_option linter.unusedSectionVars false
variable [Inhabited ComV] [DecidableEq D3] [Inhabited D3] [Inhabited Dd] [Inhabited Dn] [Inhabited OpV]

theorem Tryz.info3n : (Tryz.prog.info? 3).map (fun i => (i.zero, i.size, i.bytes)) = some (some (.int .i64 0), 1, 8) := by kernel_rfl
theorem ver_new {w w1 : World} {n : Nat} (ho : w1.ownsRow w.heap.size 3 1 (.slice (some ⟨w.heap.size, 0, none⟩) n n) n (madeCells #[Value.int .i64 0] n).toList) :
    VerAt (((w1.alloc (.map #[] 0)).alloc (.map #[] 0)).alloc (.cells #[.slice (some ⟨w.heap.size, 0, none⟩) n n, .map (some w1.heap.size), .map (some (w1.heap.size + 1))] 133)) (w1.heap.size + 1 + 1) w1.heap.size (w1.heap.size + 1) (fun _ => .slice none 0 0) ⟨List.replicate n 0, [], []⟩ 0 := by
  refine ⟨⟨.slice (some ⟨w.heap.size, 0, none⟩) n n, ?_, ?_⟩, ⟨.map [], ?_, fun d _ => rfl⟩, ⟨.map [], ?_, fun k => ⟨rfl, rfl⟩⟩, fun k => ⟨[], World.ownsRow_nil _ _ _ _, trivial⟩, fun k k' _ b hb => (by cases hb), by omega⟩
  · have := (MapKept.heap_alloc ((w1.alloc (.map #[] 0)).alloc (.map #[] 0)) (.cells #[.slice (some ⟨w.heap.size, 0, none⟩) n n, .map (some w1.heap.size), .map (some (w1.heap.size + 1))] 133)).1
    rwa [World.size_alloc, World.size_alloc] at this
  · have h3 := ((ho.alloc (.map #[] 0)).alloc (.map #[] 0)).alloc (.cells #[.slice (some ⟨w.heap.size, 0, none⟩) n n, .map (some w1.heap.size), .map (some (w1.heap.size + 1))] 133)
    rw [toList_madeCells_one] at h3
    unfold IntsT
    refine rowT_of_owns (base := w.heap.size) (n := n) ?_ (by simp) (fun r hr => by obtain ⟨_, _, rfl⟩ := List.mem_map.1 hr; rfl)
    have e : ((List.replicate n (0 : Int)).map fun z => [Value.int .i64 z]).flatten = List.replicate n (Value.int .i64 0) := by
      rw [List.map_replicate]
      exact List.flatten_replicate_singleton
    rw [e]
    exact h3
  · have := ((World.ownsMap_made (w1.alloc (.map #[] 0)) Tryz.prog 175 (unitElem (H := Unit))).alloc (.cells #[.slice (some ⟨w.heap.size, 0, none⟩) n n, .map (some w1.heap.size), .map (some (w1.heap.size + 1))] 133))
    rwa [World.size_alloc] at this
  · exact ((World.ownsMap_made w1 Tryz.prog 9 sliceElem).alloc _).alloc _
set_option maxHeartbeats 1000000 in
theorem new_ok (w : World) (n : Nat) (h1 : 1 ≤ n) (h6 : n ≤ 6) : Calls Tryz.prog 37 #[.int .i64 n] w fun e w' => ∃ p mb db, e = .returned (.tuple #[.pointer (some ⟨p, 0, none⟩), .nilIface]) ∧ w.heap.size ≤ p ∧ w.heap.size ≤ mb ∧ w.heap.size ≤ db ∧ VerAt w' p mb db (fun _ => .slice none 0 0) ⟨List.replicate n 0, [], []⟩ 0 ∧ Below w.heap.size w w' := by
  obtain ⟨i0, hi, hz0, hz1, hz2⟩ := info_parts Tryz.info3n
  have hn1 : ¬ (n : Int) < 1 := by omega
  have hn6 : ¬ 6 < (n : Int) := by omega
  have hmm := @run_makeMap Tryz.prog
  go_enter Tryz.func37, Tryz.ntmps37
  go_wp2_with (refine wpList_make_full _ rfl _ _ 22 rfl w.heap.size 3 i0 (.int .i64 0) 1 Tryz.underlying22 hi hz0 hz1 .i64 .i64 _ _ n rfl rfl rfl rfl ?b2 ?b3 ?b4 ?_)
  case b2 => omega
  case b3 => unfold maxLen; omega
  intro w1 hown hgrow
  have HO := hid hown
  have HG := hid hgrow
  clear hown hgrow
  go_wp2
  go_ret2
  have hs := HG.out.size
  have hb : Below w.heap.size w w1 := ⟨HG.out.os, HG.out.tape, HG.out.output, HG.out.size, fun i hi => HG.out.block i hi (by simp)⟩
  exact ⟨w1.heap.size + 1 + 1, w1.heap.size, w1.heap.size + 1, rfl, by omega, by omega, by omega, ver_new HO.out, ((hb.alloc hb.size _).alloc (by simp; omega) _).alloc (by simp; omega) _⟩
end Go.Proofs.YtepnghacjggkkaaGreatDoor
namespace Go.Proofs.YtepnghacjggkkaaGreatDoor
open Go.RowKit Go.Maps
set_option maxRecDepth 100000
set_option linter.unusedSectionVars false
variable [Inhabited ComV] [DecidableEq D3] [Inhabited D3] [Inhabited Dd] [Inhabited Dn] [Inhabited OpV]

theorem own_keep {w w' : World} {base e size n : Nat} {v : Value} {xs : List Value} (h : w.ownsRow base e size v n xs) (hk : ∀ b, v.ownBlock = some b → w'.heap[b]? = w.heap[b]?) : w'.ownsRow base e size v n xs := by
  obtain ⟨h1, h2⟩ := h
  refine ⟨h1, ?_⟩
  rcases h2 with h2 | ⟨b, cap, cur, hv, hg, hh, r⟩
  · exact .inl h2
  · exact .inr ⟨b, cap, cur, hv, hg, by rw [hk b (by rw [hv]; rfl)]; exact hh, r⟩
theorem VerAt.off {w w' : World} {p mb db n : Nat} {f : ByteArray → Value} {s : St} (h : VerAt w p mb db f s n) {g : Nat} {cs : Array Value} {T : TypeId} (hg : w.heap[g]? = some (.cells cs T (0, 0))) (h1 : T ≠ 133) (h2 : T ≠ 47) (h3 : T ≠ 3) (h4 : T ≠ 97) (h5 : T ≠ 175) (ho : ∀ q, q ≠ g → w'.heap[q]? = w.heap[q]?) : VerAt w' p mb db f s n := by
  have hne : ∀ (b : Nat) (ds : Array Value) (t : TypeId), t ≠ T → w.heap[b]? = some (.cells ds t (0, 0)) → w'.heap[b]? = w.heap[b]? := fun b ds t ht hb => ho b fun e => by
    rw [e, hg] at hb
    injection hb with hb
    injection hb with _ hb
    exact ht hb.symm
  have hk : Keep3 w w' := ⟨fun b ds hb => hne b ds _ (Ne.symm h3) hb, fun b ds hb => hne b ds _ (Ne.symm h4) hb, fun b ds hb => hne b ds _ (Ne.symm h5) hb⟩
  have keepm : ∀ {kt b nn R} {D : DataW Unit}, w.ownsMap Tryz.prog kt R b nn D → w'.ownsMap Tryz.prog kt R b nn D := fun {kt b nn R D} hD => by
    obtain ⟨es, clock, hb, F, hs, hD⟩ := hD
    exact ⟨es, clock, (ho b fun e => by rw [e, hg] at hb; cases hb).trans hb, F, hs, hD⟩
  refine ⟨?_, ?_, ?_, fun k => ?_, h.apart, h.ne⟩
  · obtain ⟨bv, q1, q2⟩ := h.box
    exact ⟨bv, (hne _ _ _ (Ne.symm h1) q1).trans q1, intsT_keep q2 hk⟩
  · obtain ⟨D, q1, q2⟩ := h.dots
    exact ⟨D, keepm q1, q2⟩
  · obtain ⟨D, q1, q2⟩ := h.map
    exact ⟨D, keepm q1, q2⟩
  · obtain ⟨rs, q1, q2⟩ := h.rows k
    refine ⟨rs, own_keep q1 fun b hb => ?_, f2_keep q2 hk⟩
    obtain ⟨ds, hcs⟩ := own_type q1 hb
    exact hne b ds _ (Ne.symm h2) hcs
set_option maxHeartbeats 1000000 in
theorem known_ok (w : World) (n : Nat) (h1 : 1 ≤ n) (h6 : n ≤ 6) : Calls Tryz.prog 22 #[.int .i64 n] w fun e w' => ∃ p mb db, e = .returned (.tuple #[.agg #[.pointer (some ⟨p, 0, none⟩)], .nilIface]) ∧ w.heap.size ≤ p ∧ w.heap.size ≤ mb ∧ w.heap.size ≤ db ∧ VerAt w' p mb db (fun _ => .slice none 0 0) ⟨List.replicate n 0, [], []⟩ 0 ∧ Below w.heap.size w w' := by
  obtain ⟨w1, hw1⟩ : ∃ w1, w1 = w.alloc (.cells #[.pointer none] 64) := ⟨_, rfl⟩
  have G1 : w1.heap[w.heap.size]? = some (.cells #[.pointer none] 64 (0, 0)) := by rw [hw1]; exact heap_new _ _
  have s1 : w1.heap.size = w.heap.size + 1 := by rw [hw1]; simp
  have b1 : Below w.heap.size w w1 := by rw [hw1]; exact below_alloc _ _
  have HG1 := hid G1
  have S1 := hid s1
  have B1 := hid b1
  clear G1 s1 b1
  go_enter Tryz.func22, Tryz.ntmps22
  go_wp2_with fail
  rw [← hw1]
  clear hw1
  refine (new_ok w1 n h1 h6).mono ?_
  rintro e w2 ⟨p, mb, db, rfl, hp, hm, hd, hV, hb2⟩
  have G2 : w2.heap[w.heap.size]? = _ := (hb2.block _ (by have := S1.out; omega)).trans HG1.out
  have q0 : w2.cell? ⟨w.heap.size, 0, none⟩ = some (.pointer none) := (cell_of G2).trans rfl
  have z0 : w2.frozen? ⟨w.heap.size, 0, none⟩ = false := free_of G2
  obtain ⟨w3, hw3⟩ : ∃ w3, w3 = w2.setCell ⟨w.heap.size, 0, none⟩ (.pointer (some ⟨p, 0, none⟩)) := ⟨_, rfl⟩
  have G3 : Hid (w3.heap[w.heap.size]? = some (.cells #[.pointer (some ⟨p, 0, none⟩)] 64 (0, 0))) := (show _ = _ from by rw [hw3]; exact (heap_set G2 _).trans rfl)
  have V3 : Hid (VerAt w3 p mb db (fun _ => .slice none 0 0) ⟨List.replicate n 0, [], []⟩ 0) := (show VerAt _ _ _ _ _ _ _ from hV.off G2 (by decide) (by decide) (by decide) (by decide) (by decide) fun q hq => by rw [hw3]; exact Below.heap_setCell _ _ _ _ hq)
  have B3 : Hid (Below w.heap.size w w3) := (show Below _ _ _ from by rw [hw3]; exact (B1.out.trans (hb2.mono (by have := S1.out; omega))).setCell (Nat.le_refl _) _)
  have HP : Hid (w.heap.size ≤ p ∧ w.heap.size ≤ mb ∧ w.heap.size ≤ db) := (show _ ∧ _ from by have := S1.out; omega)
  clear G2 hV hb2 hp hm hd
  go_wp2_with fail
  rw [← hw3]
  clear hw3
  refine bodyPost_ret (ret_cell_tmp (k := 1) Tryz.results22 Tryz.isAgg64 Tryz.sizeOf64 _ _ w.heap.size [.pointer (some ⟨p, 0, none⟩)] .nilIface rfl rfl rfl (cells_heap (t := 64) _ G3.out)) rfl ⟨p, mb, db, rfl, HP.out.1, HP.out.2.1, HP.out.2.2, V3.out, B3.out⟩
end Go.Proofs.YtepnghacjggkkaaGreatDoor
namespace Go.Proofs.YtepnghacjggkkaaGreatDoor
open Go.RowKit Go.Maps
set_option maxRecDepth 100000
set_option linter.unusedSectionVars false
variable [Inhabited ComV] [DecidableEq D3] [Inhabited D3] [Inhabited Dd] [Inhabited Dn] [Inhabited OpV]

structure GaOk (n k id lb : Nat) (b : Nat → Nat) (g gr : Nat → Nat → Nat) (base : Nat) (I : Nat → Nat → List Raw → Option Nat → World → Prop) : Prop where
  n6 : n ≤ 6
  k6 : k ≤ 6
  size : ∀ {j s rs o W}, I j s rs o W → base ≤ W.heap.size
  len : ∀ {j s rs o W}, I j s rs o W → rs.length ≤ 100000
  lines : ∀ {j s rs o W}, I j s rs o W → ∀ j', j' < n → W.cell? ⟨lb, j', none⟩ = some (if j' = id then .slice none 0 0 else .slice (some ⟨b j', 0, none⟩) k k)
  line : ∀ {j s rs o W}, I j s rs o W → ∀ j' s', j' < n → j' ≠ id → s' < k → W.cell? ⟨b j', s' * 2, none⟩ = some (.pointer (some ⟨g j' s', 0, none⟩)) ∧ W.cell? ⟨b j', s' * 2 + 1, none⟩ = some (.pointer (some ⟨gr j' s', 0, none⟩))
  below : ∀ {j s rs o W W'}, I j s rs o W → Below W.heap.size W W' → I j s rs o W'
  grown : ∀ {j s rs o o' W W'}, I j s rs o W → W.grownBy W' o → (∀ q, o = some q → ∃ cs, W.heap[q]? = some (.cells cs 74 (0, 0))) → (o' = o ∨ ∃ q, o' = some q ∧ W.heap.size ≤ q) → (∀ q, o' = some q → q < W'.heap.size) → I j s rs o' W'
  row : ∀ {j rs o W}, j < n → I j (if j = id then 0 else k) rs o W → I (j + 1) 0 rs o W
def GaCall (n k id : Nat) (g gr : Nat → Nat → Nat) (I : Nat → Nat → List Raw → Option Nat → World → Prop) (F : Nat) (cap : Value) : Prop :=
  ∀ j s rs o W, j < n → j ≠ id → s < k → I j s rs o W → Calls Tryz.prog F #[.int .i64 (s : Nat), .agg #[.pointer (some ⟨g j s, 0, none⟩), .pointer (some ⟨gr j s, 0, none⟩)], cap] W (fun e W' => ∃ (a : Option Addr) (c : Nat) (rs' : List Raw), e = .returned (.slice a rs'.length c) ∧ SrcAt W' (.slice a rs'.length c) rs'.length 9 (raws rs') ∧ I j (s + 1) (rs ++ rs') o W' ∧ (∀ q, o = some q → W'.heap[q]? = W.heap[q]?) ∧ W.heap.size ≤ W'.heap.size)
def GaRet (n base : Nat) (I : Nat → Nat → List Raw → Option Nat → World → Prop) (e : Ending) (W' : World) : Prop := ∃ (v : Value) (rs : List Raw), e = .returned v ∧ I n 0 rs v.ownBlock W' ∧ W'.ownsRow base 74 9 v rs.length (raws rs)
theorem oneRs : ∀ l : List Raw, ∀ u ∈ raws l, u.oneCell' = true := fun l u hu => by
  obtain ⟨r, _, h2⟩ := List.mem_flatMap.1 hu
  exact oneR r u h2
theorem raws_app (l m : List Raw) : raws (l ++ m) = raws l ++ raws m := by simp [raws]
set_option maxHeartbeats 4000000 in
theorem gather_30 (w : World) (n k id pb lb : Nat) (b : Nat → Nat) (g gr : Nat → Nat → Nat) (I : Nat → Nat → List Raw → Option Nat → World → Prop) (cap : Value) (hG : GaOk n k id lb b g gr w.heap.size I) (hF : GaCall n k id g gr I 26 cap) (hpb : w.cell? ⟨pb, 4, none⟩ = some (.slice (some ⟨lb, 0, none⟩) n n)) (h0 : I 0 0 [] none w) :
    Calls Tryz.prog 25 #[.pointer (some ⟨pb, 0, none⟩), .func (.func 26) #[] #[cap]] w (GaRet n w.heap.size I) := by
  obtain ⟨i44, hi, hz0, hz1, hz2⟩ := info_parts Tryz.info74
  have HG := hid hG
  have HF := hid hF
  have H0 := hid h0
  have n6 := hG.n6
  have k6 := hG.k6
  clear hG hF h0
  go_enter Tryz.func25, Tryz.ntmps25
  go_wp2
  clear hpb
  go_loopw [5, 15] (fun x i wr => ∃ (m : Nat) (xv : Value) (rs : List Raw), m ≤ n ∧ i = .int .i64 m ∧ x = xv ∧ Hid (wr.ownsRow w.heap.size 74 9 xv rs.length (raws rs)) ∧ Hid (I m 0 rs xv.ownBlock wr)) (fun _ i _ => n - (intOf i).toNat)
  case atStart => exact ⟨0, _, [], Nat.zero_le _, rfl, rfl, World.ownsRow_nil _ _ _ _, H0⟩
  case round =>
    obtain ⟨m, xv, rs, hm, rfl, hxx, HX, HI⟩ := hrel
    obtain rfl := hxx.symm
    by_cases hlt : m < n
    · have hi1 : (m : Int) < (n : Int) := by omega
      have ql := HG.out.lines HI.out m hlt
      by_cases hne : m = id
      · rw [if_pos hne] at ql
        have J : Hid (I (m + 1) 0 rs xv.ownBlock wr) := (show I _ _ _ _ _ from HG.out.row hlt (by rw [if_pos hne]; exact HI.out))
        clear hne
        go_wp2
        refine wp_loop_rounds 1 ?_
        rw [rounds_succ]
        go_wp2
        exact ⟨⟨m + 1, xv, rs, by omega, by go_num, rfl, HX, J⟩, by simp [intOf]; omega⟩
      · rw [if_neg hne] at ql
        go_wp2
        obtain ⟨wq, hwq⟩ : ∃ wq, wq = wr := ⟨_, rfl⟩
        subst hwq
        clear ql
        go_loopw [5, 21] (fun x i wr => ∃ (s : Nat) (xv : Value) (rs : List Raw), s ≤ k ∧ i = .int .i64 s ∧ x = xv ∧ Hid (wr.ownsRow w.heap.size 74 9 xv rs.length (raws rs)) ∧ Hid (I m s rs xv.ownBlock wr)) (fun _ i _ => k - (intOf i).toNat)
        case atStart => exact ⟨0, _, rs, Nat.zero_le _, rfl, rfl, HX, HI⟩
        case round =>
          clear HX HI
          obtain ⟨s, xv', rs', hs, rfl, hxx, HX, HI⟩ := hrel
          obtain rfl := hxx.symm
          by_cases hls : s < k
          · have hi2 : (s : Int) < (k : Int) := by omega
            obtain ⟨q0, q1⟩ := HG.out.line HI.out m s hlt hne hls
            have K := hid (fun o => HF.out m s rs' xv'.ownBlock (wr.alloc o) hlt hne hls (HG.out.below HI.out (below_alloc _ o)))
            obtain ⟨ob, hob⟩ : ∃ ob, ob = xv'.ownBlock := ⟨_, rfl⟩
            rw [← hob] at K
            obtain ⟨xa, xc, hxv⟩ := row_shape HX.out
            subst hxv
            have HOB := hid hob
            have LEN := hid (fun W x => HG.out.len (j := m) (s := s + 1) (rs := rs' ++ x) (o := ob) (W := W))
            have SIZE := hid (HG.out.size HI.out)
            clear hob
            go_wp2_with fail
            refine (K.out _).mono ?_
            rintro e w2 ⟨a, c, r2, rfl, hsrc, hI2, ho2, hs2⟩
            have hlen := LEN.out _ _ hI2
            rw [List.length_append] at hlen
            have X2 : Hid (w2.ownsRow w.heap.size 74 9 (.slice xa rs'.length xc) rs'.length (raws rs')) := (show World.ownsRow _ _ _ _ _ _ _ from own_keep HX.out fun q hq => by
              rw [← HOB.out] at hq
              rw [ho2 q hq]
              exact Below.heap_alloc _ _ _ ((HX.out.lt q (by rw [← HOB.out]; exact hq)).2))
            have SRC := hid hsrc
            have I2 := hid hI2
            have SZ2 : Hid (w.heap.size ≤ w2.heap.size) := (show _ ≤ _ from Nat.le_trans SIZE.out (Nat.le_trans (by show wr.heap.size ≤ (wr.alloc _).heap.size; simp) hs2))
            clear hsrc hI2 ho2 hs2 q0 q1
            go_wp2_with (at_builtin; refine wpList_append_own_srcS rfl _ _ 34 rfl w.heap.size 74 i44 _ 9 104 Tryz.underlying34 hi hz0 hz1 hz2 rfl (by decide) _ _ _ rfl X2.out _ r2.length (raws r2) rfl SRC.out (oneRs r2) ?hm2 ?hm3 SZ2.out ?_; (case hm2 => unfold maxLen; omega); (case hm3 => omega); intro v3 w3 hown3 hgr3 hv3; have I3 : Hid (I m (s + 1) (rs' ++ r2) v3.ownBlock w3) := (show I _ _ _ _ _ from HG.out.grown I2.out (by rw [HOB.out]; exact hgr3) (fun q hq => own_type X2.out (by rw [← HOB.out]; exact hq)) (by rw [HOB.out]; rcases hv3 with h | h; exact .inl h; exact .inr ⟨_, h, Nat.le_refl _⟩) (fun q hq => (hown3.lt q hq).2)); have X3 := hid hown3; clear hown3 hgr3 hv3)
            refine ⟨⟨s + 1, v3, rs' ++ r2, by omega, by go_num, rfl, ?_, I3⟩, by simp [intOf]; omega⟩
            show World.ownsRow _ _ _ _ _ _ _
            rw [raws_app, List.length_append]
            exact X3.out
          · obtain rfl : s = k := by omega
            have J : Hid (I (m + 1) 0 rs' xv'.ownBlock wr) := (show I _ _ _ _ _ from HG.out.row hlt (by rw [if_neg hne]; exact HI.out))
            go_wp2
            exact ⟨⟨m + 1, xv', rs', by omega, by go_num, rfl, HX, J⟩, by simp [intOf]; omega⟩
    · obtain rfl : m = n := by omega
      go_wp2
      go_ret
      exact ⟨xv, rs, rfl, HI.out, HX.out⟩
set_option maxHeartbeats 4000000 in
theorem gather_58 (w : World) (n k id pb lb : Nat) (b : Nat → Nat) (g gr : Nat → Nat → Nat) (I : Nat → Nat → List Raw → Option Nat → World → Prop) (cap : Value) (hG : GaOk n k id lb b g gr w.heap.size I) (hF : GaCall n k id g gr I 118 cap) (hpb : w.cell? ⟨pb, 4, none⟩ = some (.slice (some ⟨lb, 0, none⟩) n n)) (h0 : I 0 0 [] none w) :
    Calls Tryz.prog 25 #[.pointer (some ⟨pb, 0, none⟩), .func (.func 118) #[] #[cap]] w (GaRet n w.heap.size I) := by
  obtain ⟨i44, hi, hz0, hz1, hz2⟩ := info_parts Tryz.info74
  have HG := hid hG
  have HF := hid hF
  have H0 := hid h0
  have n6 := hG.n6
  have k6 := hG.k6
  clear hG hF h0
  go_enter Tryz.func25, Tryz.ntmps25
  go_wp2
  clear hpb
  go_loopw [5, 15] (fun x i wr => ∃ (m : Nat) (xv : Value) (rs : List Raw), m ≤ n ∧ i = .int .i64 m ∧ x = xv ∧ Hid (wr.ownsRow w.heap.size 74 9 xv rs.length (raws rs)) ∧ Hid (I m 0 rs xv.ownBlock wr)) (fun _ i _ => n - (intOf i).toNat)
  case atStart => exact ⟨0, _, [], Nat.zero_le _, rfl, rfl, World.ownsRow_nil _ _ _ _, H0⟩
  case round =>
    obtain ⟨m, xv, rs, hm, rfl, hxx, HX, HI⟩ := hrel
    obtain rfl := hxx.symm
    by_cases hlt : m < n
    · have hi1 : (m : Int) < (n : Int) := by omega
      have ql := HG.out.lines HI.out m hlt
      by_cases hne : m = id
      · rw [if_pos hne] at ql
        have J : Hid (I (m + 1) 0 rs xv.ownBlock wr) := (show I _ _ _ _ _ from HG.out.row hlt (by rw [if_pos hne]; exact HI.out))
        clear hne
        go_wp2
        refine wp_loop_rounds 1 ?_
        rw [rounds_succ]
        go_wp2
        exact ⟨⟨m + 1, xv, rs, by omega, by go_num, rfl, HX, J⟩, by simp [intOf]; omega⟩
      · rw [if_neg hne] at ql
        go_wp2
        obtain ⟨wq, hwq⟩ : ∃ wq, wq = wr := ⟨_, rfl⟩
        subst hwq
        clear ql
        go_loopw [5, 21] (fun x i wr => ∃ (s : Nat) (xv : Value) (rs : List Raw), s ≤ k ∧ i = .int .i64 s ∧ x = xv ∧ Hid (wr.ownsRow w.heap.size 74 9 xv rs.length (raws rs)) ∧ Hid (I m s rs xv.ownBlock wr)) (fun _ i _ => k - (intOf i).toNat)
        case atStart => exact ⟨0, _, rs, Nat.zero_le _, rfl, rfl, HX, HI⟩
        case round =>
          clear HX HI
          obtain ⟨s, xv', rs', hs, rfl, hxx, HX, HI⟩ := hrel
          obtain rfl := hxx.symm
          by_cases hls : s < k
          · have hi2 : (s : Int) < (k : Int) := by omega
            obtain ⟨q0, q1⟩ := HG.out.line HI.out m s hlt hne hls
            have K := hid (fun o => HF.out m s rs' xv'.ownBlock (wr.alloc o) hlt hne hls (HG.out.below HI.out (below_alloc _ o)))
            obtain ⟨ob, hob⟩ : ∃ ob, ob = xv'.ownBlock := ⟨_, rfl⟩
            rw [← hob] at K
            obtain ⟨xa, xc, hxv⟩ := row_shape HX.out
            subst hxv
            have HOB := hid hob
            have LEN := hid (fun W x => HG.out.len (j := m) (s := s + 1) (rs := rs' ++ x) (o := ob) (W := W))
            have SIZE := hid (HG.out.size HI.out)
            clear hob
            go_wp2_with fail
            refine (K.out _).mono ?_
            rintro e w2 ⟨a, c, r2, rfl, hsrc, hI2, ho2, hs2⟩
            have hlen := LEN.out _ _ hI2
            rw [List.length_append] at hlen
            have X2 : Hid (w2.ownsRow w.heap.size 74 9 (.slice xa rs'.length xc) rs'.length (raws rs')) := (show World.ownsRow _ _ _ _ _ _ _ from own_keep HX.out fun q hq => by
              rw [← HOB.out] at hq
              rw [ho2 q hq]
              exact Below.heap_alloc _ _ _ ((HX.out.lt q (by rw [← HOB.out]; exact hq)).2))
            have SRC := hid hsrc
            have I2 := hid hI2
            have SZ2 : Hid (w.heap.size ≤ w2.heap.size) := (show _ ≤ _ from Nat.le_trans SIZE.out (Nat.le_trans (by show wr.heap.size ≤ (wr.alloc _).heap.size; simp) hs2))
            clear hsrc hI2 ho2 hs2 q0 q1
            go_wp2_with (at_builtin; refine wpList_append_own_srcS rfl _ _ 34 rfl w.heap.size 74 i44 _ 9 104 Tryz.underlying34 hi hz0 hz1 hz2 rfl (by decide) _ _ _ rfl X2.out _ r2.length (raws r2) rfl SRC.out (oneRs r2) ?hm2 ?hm3 SZ2.out ?_; (case hm2 => unfold maxLen; omega); (case hm3 => omega); intro v3 w3 hown3 hgr3 hv3; have I3 : Hid (I m (s + 1) (rs' ++ r2) v3.ownBlock w3) := (show I _ _ _ _ _ from HG.out.grown I2.out (by rw [HOB.out]; exact hgr3) (fun q hq => own_type X2.out (by rw [← HOB.out]; exact hq)) (by rw [HOB.out]; rcases hv3 with h | h; exact .inl h; exact .inr ⟨_, h, Nat.le_refl _⟩) (fun q hq => (hown3.lt q hq).2)); have X3 := hid hown3; clear hown3 hgr3 hv3)
            refine ⟨⟨s + 1, v3, rs' ++ r2, by omega, by go_num, rfl, ?_, I3⟩, by simp [intOf]; omega⟩
            show World.ownsRow _ _ _ _ _ _ _
            rw [raws_app, List.length_append]
            exact X3.out
          · obtain rfl : s = k := by omega
            have J : Hid (I (m + 1) 0 rs' xv'.ownBlock wr) := (show I _ _ _ _ _ from HG.out.row hlt (by rw [if_neg hne]; exact HI.out))
            go_wp2
            exact ⟨⟨m + 1, xv', rs', by omega, by go_num, rfl, HX, J⟩, by simp [intOf]; omega⟩
    · obtain rfl : m = n := by omega
      go_wp2
      go_ret
      exact ⟨xv, rs, rfl, HI.out, HX.out⟩
end Go.Proofs.YtepnghacjggkkaaGreatDoor
namespace Go.Proofs.YtepnghacjggkkaaGreatDoor
open Go.RowKit Go.Sort Go.Maps
set_option maxRecDepth 100000
set_option linter.unusedSectionVars false
variable [Inhabited ComV] [DecidableEq D3] [Inhabited D3] [Inhabited Dd] [Inhabited Dn] [Inhabited OpV]

def partsC (c : ComV) : List ComV := c.ops.map (partC c)
def dotsC (c : ComV) : List D3 := c.ops.map (dotC c)
def stOf (nb : Nat) (l : List ComV) : St := ⟨List.replicate nb 0, l.flatMap partsC, l.flatMap dotsC⟩
theorem stOf_put (nb : Nat) (l : List ComV) (c : ComV) : putTo (stOf nb l) c c.ops.length = stOf nb (l ++ [c]) := by
  unfold putTo stOf partsC dotsC
  rw [List.take_length, List.flatMap_append, List.flatMap_append]
  simp
structure PutOk (s : St) (c : ComV) : Prop where
  err : comErr c = (0, none)
  len : c.when_.length = s.base.length
  old : leB c.when_ s.base = false
  new : ∀ o ∈ c.ops, dotC c o ∉ s.dots
structure KeptL (nb : Nat) (l : List ComV) : Prop where
  ok : ∀ c ∈ l, ComOk c
  len : ∀ c ∈ l, c.when_.length = nb
  old : ∀ c ∈ l, leB c.when_ (List.replicate nb 0) = false
  dots : (l.flatMap dotsC).Nodup
theorem KeptL.nil (nb : Nat) : KeptL nb [] := ⟨fun _ h => by simp at h, fun _ h => by simp at h, fun _ h => by simp at h, by simp⟩
theorem KeptL.put {nb : Nat} {pre post : List ComV} {x : ComV} (h : KeptL nb (pre ++ x :: post)) : PutOk (stOf nb pre) x := by
  have hx : x ∈ pre ++ x :: post := by simp
  refine ⟨comErr_zero (comErr_of (h.ok x hx)), by rw [h.len x hx]; simp [stOf], h.old x hx, fun o ho hd => ?_⟩
  have hn := h.dots
  rw [List.flatMap_append, List.nodup_append] at hn
  exact hn.2.2 _ hd _ (by rw [List.flatMap_cons]; exact List.mem_append_left _ (List.mem_map.2 ⟨o, ho, rfl⟩)) rfl
end Go.Proofs.YtepnghacjggkkaaGreatDoor
namespace Go.Proofs.YtepnghacjggkkaaGreatDoor
open Go.RowKit Go.Sort Go.Maps
set_option maxRecDepth 100000
set_option linter.unusedSectionVars false
variable [Inhabited ComV] [DecidableEq D3] [Inhabited D3] [Inhabited Dd] [Inhabited Dn] [Inhabited OpV]

theorem rowT_lit {w : World} {b cap k : Nat} {t : TypeId} {rows : List (List Value)} {cs : Array Value} (h : w.heap[b]? = some (.cells cs t (0, 0))) (hf : cs.toList = rows.flatten) (hk : ∀ r ∈ rows, r.length = k) (hc : rows.length ≤ cap) : RowT t k w (.slice (some ⟨b, 0, none⟩) rows.length cap) rows := by
  refine ⟨_, cap, rfl, (fun h => by cases h), hc, .inr ⟨b, 0, cs, rfl, h, fun j r hr => ?_⟩⟩
  have hrm : r ∈ rows := List.mem_of_getElem? hr
  refine ⟨hk r hrm, fun i u hu => ?_⟩
  have hi : i < k := by have := (List.getElem?_eq_some_iff.1 hu).1; rw [hk r hrm] at this; exact this
  have hfl : ∀ (rows : List (List Value)) (j : Nat) (r : List Value), (∀ r ∈ rows, r.length = k) → rows[j]? = some r → ∀ i u, i < k → r[i]? = some u → rows.flatten[j * k + i]? = some u := by
    intro rows
    induction rows with
    | nil => intro j r _ h; simp at h
    | cons x rest ih =>
      intro j r hk h i u hi hu
      have hx := hk x (List.mem_cons_self ..)
      rw [List.flatten_cons]
      cases j with
      | zero =>
        simp at h
        subst h
        rw [List.getElem?_append_left (by omega), Nat.zero_mul, Nat.zero_add]
        exact hu
      | succ j =>
        rw [List.getElem?_append_right (by rw [hx, Nat.add_mul]; omega), hx, show (j + 1) * k + i - k = j * k + i by rw [Nat.add_mul]; omega]
        exact ih j r (fun r hr => hk r (List.mem_cons_of_mem _ hr)) (by simpa using h) i u hi hu
  have e := hfl rows j r hk hr i u hi hu
  rw [← hf, Array.getElem?_toList] at e
  rw [Nat.zero_add]
  exact e
end Go.Proofs.YtepnghacjggkkaaGreatDoor
