/- Read of a store, its keys aside; Read of a store before and after it is pruned: mathematics; A pruned store, as it is read; VersionsPrunes: what Prune and Read hand back there; VersionsPrunes: the walk; VersionsPrunes: any numbers, commits, texts. -/
import Derived.Test.YtdnebclemngdcaaGreatDoorFQW1
import Derived.Test.YtdnebclemngdcaaGreatDoorFWMath2
import Derived.Test.YtdnebclemngdcaaGreatDoorFQM4
import Derived.Test.YtdnebclemngdcaaGreatDoorFWParts
import Derived.Test.YtdnebclemngdcaaGreatDoorFVCode
namespace Go.Proofs.YtdnebclemngdcaaGreatDoor
open Go.RowKit Go.Sort Go.Maps
set_option maxRecDepth 100000
set_option linter.unusedSectionVars false
variable [Inhabited ComV] [DecidableEq D3] [Inhabited D3] [Inhabited Dd] [Inhabited Dn] [Inhabited OpV]

/-- A read below the base. -/
def SeenOld (A : Nat → Addr) (w : World) (e : Ending) (w' : World) : Prop := e = .returned (.tuple #[.slice none 0 0, .iface 255 (.pointer (some (A 8)))]) ∧ Below w.heap.size w w'
def ReadOld (A : Nat → Addr) (w : World) (e : Ending) (w' : World) : Prop := e = .returned (.tuple #[.agg #[.int .i64 0, .string ⟨#[]⟩, .int .i64 0, .slice none 0 0], .iface 255 (.pointer (some (A 8)))]) ∧ Below w.heap.size w w'
set_option maxHeartbeats 2000000 in
theorem readR_ok (A : Nat → Addr) (w : World) (hE : E4 A w) (h12 : 12 ≤ w.heap.size) (p mb db n nb : Nat) (key : ByteArray) (f : ByteArray → Value) (s : St) (hV : VerR w p mb db key f s n) (hS : StOk s nb) (hk : nameB key = true) (hk6 : key.size ≤ 1000000) (av : Value) (at_ : List Int) (ha : IntsAt w av at_) (hc : chk at_ = 0) (hal : at_.length = nb) (hle : leB s.base at_ = true) (hfew : (rowOf s key).length ≤ 1000) :
    Calls Tryz.prog 14 #[.pointer (some ⟨p, 0, none⟩), .string key, av] w fun e w' => OfRet key (seenL s key at_) w e w' := by
  have hlen := seenL_len s key at_
  have K47 := hid (fun W (hW : Below w.heap.size w W) v (hv : ComsAt W v (seenL s key at_)) => of_ok A W (hE.below hW h12) (by have := hW.size; omega) key hk v (seenL s key at_) hv (by omega) (fun c hc => hS.small c (seenL_mem hc)) (listOk_of (n := nb) (fun c hc => hS.ok c (seenL_mem hc)) (fun c hc => hS.when_ c (seenL_mem hc))))
  obtain ⟨w0, hw0⟩ : ∃ w0, w0 = w.alloc (.cells #[.int .i64 0, .string ⟨#[]⟩, .int .i64 0, .slice none 0 0] 41) := ⟨_, rfl⟩
  have hb0 : Below w.heap.size w w0 := by rw [hw0]; exact below_alloc _ _
  have K46 := hid (seenR_ok A w0 (hE.below hb0 h12) (by have := hb0.size; omega) p mb db n nb key f s (hV.moved hb0) hS hk hk6 av at_ (ha.mono hb0 (Nat.le_refl _)) hc hal hle hfew)
  obtain ⟨aa, ac, rfl⟩ := ha.slice
  clear hV hS ha hE hk hc hal hle hfew hlen
  go_enter Tryz.func14, Tryz.ntmps14
  go_wp2_with fail
  rw [← hw0]
  refine K46.out.mono ?_
  rintro e w1 ⟨v1, rfl, hc1, hb1⟩
  have B1 := hid (hb0.trans (hb1.mono hb0.size))
  have C1 := hid hc1
  obtain ⟨a1, k1, hv1, _⟩ := hc1.shape
  subst hv1
  have x1 : w1.heap[w.heap.size]? = some (.cells #[.int .i64 0, .string ⟨#[]⟩, .int .i64 0, .slice none 0 0] 41 (0, 0)) := by
    rw [hb1.block _ (by rw [hw0]; simp), hw0]; exact (MapKept.heap_alloc _ _).1
  have X1 := hid x1
  clear hc1 hb1 hw0 x1 K46
  go_wp2_with fail
  refine (K47.out w1 B1.out _ C1.out).mono ?_
  rintro e w2 ⟨v2, ds, rfl, hi2, hva, hb2⟩
  obtain ⟨sv, hve, hst⟩ := hva
  subst hve
  have HST := hid hst
  obtain ⟨sa, sc, hsv⟩ : ∃ sa sc, sv = .slice sa (valA ds).set.length sc := by obtain ⟨sa, sc, hsv, _⟩ := hst; exact ⟨sa, sc, hsv⟩
  subst hsv
  have x2 : w2.heap[w.heap.size]? = some (.cells #[.int .i64 0, .string ⟨#[]⟩, .int .i64 0, .slice none 0 0] 41 (0, 0)) := (hb2.block _ (Array.getElem?_eq_some_iff.1 X1.out).1).trans X1.out
  have X2 := hid x2
  have R4 := hid (row4 x2)
  have B2 := hid (B1.out.trans (hb2.mono B1.out.size))
  have I2 := hid hi2
  obtain ⟨x, hx⟩ : ∃ x, x = valA ds := ⟨_, rfl⟩
  rw [← hx] at HST ⊢
  have HX := hid hx
  obtain ⟨xk, xt, xn, xs⟩ := x
  obtain ⟨m, hm⟩ : ∃ m, m = xs.length := ⟨_, rfl⟩
  simp only at HST ⊢
  rw [← hm] at HST ⊢
  have S4 := hid (set4 x2 [.int .i64 xk, .string xt, .int .i64 xn, .slice sa m sc] rfl)
  clear hst hb2 x2 hi2 hx hm K47
  go_wp2_with (refine wpList_store_k _ rfl (.tmp 6) (.tmp 24) 41 rfl w.heap.size 0 [.int .i64 xk, .string xt, .int .i64 xn, .slice sa m sc] rfl rfl 4 rfl Tryz.sizeOf41 rfl _ ?hW R4.out.1 R4.out.2 ?_; case hW => rfl)
  refine bodyPost_ret (ret_cell_tmp (k := 4) Tryz.results14 Tryz.isAgg41 Tryz.sizeOf41 _ _ w.heap.size [.int .i64 xk, .string xt, .int .i64 xn, .slice sa m sc] _ rfl rfl rfl S4.out) rfl ⟨_, ds, rfl, I2.out, ?_, below_setCells (Nat.le_refl _) _ _ B2.out⟩
  rw [← HX.out]
  refine ⟨_, rfl, strs_keep HST.out fun b hb t => ?_⟩
  have hne : b ≠ w.heap.size := fun e => by
    obtain ⟨y, hy⟩ := hb
    rw [e] at hy
    simp only [World.cell?, X2.out] at hy
    cases hy
  exact World.cell?_setCells_out _ _ _ _ _ (fun e _ => absurd e hne)
set_option maxHeartbeats 2000000 in
theorem seenR_vec (A : Nat → Addr) (w : World) (hE : E4 A w) (p mb db n : Nat) (key : ByteArray) (f : ByteArray → Value) (s : St) (hV : VerR w p mb db key f s n) (hk : nameB key = true) (av : Value) (at_ : List Int) (ha : IntsAt w av at_) (hl : at_.length ≤ 1000000) (h0 : ¬(chk at_ = 0 ∧ at_.length = s.base.length)) :
    Calls Tryz.prog 46 #[.pointer (some ⟨p, 0, none⟩), .string key, av] w fun e w' => SeenBad w e w' := by
  obtain ⟨ba, bc, p0, p1, p2, hbt, hpx⟩ := hV.boxAt
  have K75 := hid (fun W => checkName_ok W key hk)
  have K37 := hid (checkVector_bad A w hE p _ s.base _ _ hpx hbt.at av at_ ha hl h0)
  obtain ⟨aa, ac, rfl⟩ := ha.slice
  clear hE hk hV ha h0 hbt hpx p0 p1 p2
  go_enter Tryz.func46, Tryz.ntmps46
  go_wp2_with (go_at_call 75; refine (K75.out _).mono ?_; rintro e w' ⟨rfl, hw'⟩; rw [hw']; clear hw')
  refine K37.out.mono ?_
  rintro e w' ⟨⟨k, rfl⟩, hw'⟩
  rw [hw']
  clear hw'
  go_wp2_with fail
  first
    | (go_ret2; exact ⟨_, _, rfl, Below.refl _ _⟩)
    | (go_region; go_wp2; go_ret2; exact ⟨_, _, rfl, (Below.refl _ _).drew⟩)
set_option maxHeartbeats 2000000 in
theorem seenR_old (A : Nat → Addr) (w : World) (hE : E4 A w) (ho : w.cell? ⟨1, 0, none⟩ = some (.iface 255 (.pointer (some (A 8))))) (p mb db n : Nat) (key : ByteArray) (f : ByteArray → Value) (s : St) (hV : VerR w p mb db key f s n) (hbs : chk s.base = 0) (hk : nameB key = true) (av : Value) (at_ : List Int) (ha : IntsAt w av at_) (hc : chk at_ = 0) (hal : at_.length = s.base.length) (hle : leB s.base at_ = false) :
    Calls Tryz.prog 46 #[.pointer (some ⟨p, 0, none⟩), .string key, av] w fun e w' => SeenOld A w e w' := by
  obtain ⟨ba, bc, p0, p1, p2, hbt, hpx⟩ := hV.boxAt
  have K75 := hid (fun W => checkName_ok W key hk)
  have K37 := hid (checkVector_ok A w hE p _ s.base _ _ hpx hbt.at av at_ ha hc hal)
  have K38 := hid (within_ok A w hE _ _ s.base at_ hbt.at ha (two_zero.2 ⟨hbs, hc, hal.symm⟩))
  rw [hle] at K38
  obtain ⟨aa, ac, rfl⟩ := ha.slice
  obtain ⟨nb', hnb'⟩ : ∃ nb', nb' = s.base.length := ⟨_, rfl⟩
  rw [← hnb'] at p0 K38
  clear hE hk hV ha hbt hpx p1 p2 hc hal hle hnb'
  go_enter Tryz.func46, Tryz.ntmps46
  go_wp2_with (first | (go_at_call 75; refine (K75.out _).mono ?_; rintro e w' ⟨rfl, hw'⟩; rw [hw']; clear hw') | (go_at_call 37; refine K37.out.mono ?_; rintro e w' ⟨rfl, hw'⟩; rw [hw']; clear hw'))
  refine K38.out.mono ?_
  rintro e w3 ⟨rfl, q3, hq3⟩
  have ho3 : w3.cell? ⟨1, 0, none⟩ = some (.iface 255 (.pointer (some (A 8)))) := by rw [hq3]; exact ho
  have B3 : Hid (Below w.heap.size w w3) := (show Below _ _ _ from by rw [hq3]; exact below_draws (Below.refl _ _) q3)
  clear hq3 p0 ho
  go_wp2_with fail
  first
    | (go_ret2; exact ⟨rfl, B3.out⟩)
    | (go_region; go_wp2; go_ret2; exact ⟨rfl, B3.out.drew⟩)
set_option maxHeartbeats 2000000 in
theorem readR_old (A : Nat → Addr) (w : World) (p : Nat) (key : ByteArray) (aa : Option Addr) (al ac : Nat) (K : ∀ W, Below w.heap.size w W → Calls Tryz.prog 46 #[.pointer (some ⟨p, 0, none⟩), .string key, .slice aa al ac] W fun e w' => SeenOld A W e w') :
    Calls Tryz.prog 14 #[.pointer (some ⟨p, 0, none⟩), .string key, .slice aa al ac] w fun e w' => ReadOld A w e w' := by
  obtain ⟨w0, hw0⟩ : ∃ w0, w0 = w.alloc (.cells #[.int .i64 0, .string ⟨#[]⟩, .int .i64 0, .slice none 0 0] 41) := ⟨_, rfl⟩
  have hb0 : Below w.heap.size w w0 := by rw [hw0]; exact below_alloc _ _
  have K0 := hid (K w0 hb0)
  clear K
  go_enter Tryz.func14, Tryz.ntmps14
  go_wp2_with fail
  rw [← hw0]
  refine K0.out.mono ?_
  rintro e w1 ⟨rfl, hb1⟩
  have x1 : w1.heap[w.heap.size]? = some (.cells #[.int .i64 0, .string ⟨#[]⟩, .int .i64 0, .slice none 0 0] 41 (0, 0)) := by
    rw [hb1.block _ (by rw [hw0]; simp), hw0]; exact (MapKept.heap_alloc _ _).1
  have B1 := hid (hb0.trans (hb1.mono hb0.size))
  have R4 := hid (row4 x1)
  have S4 := hid (set4 x1 [.int .i64 0, .string ⟨#[]⟩, .int .i64 0, .slice none 0 0] rfl)
  clear hb1 hw0 x1 K0
  go_wp2_with (refine wpList_store_k _ rfl (.tmp 6) (.tmp 19) 41 rfl w.heap.size 0 [.int .i64 0, .string ⟨#[]⟩, .int .i64 0, .slice none 0 0] rfl rfl 4 rfl Tryz.sizeOf41 rfl _ ?hW R4.out.1 R4.out.2 ?_; case hW => rfl)
  refine bodyPost_ret (ret_cell_tmp (k := 4) Tryz.results14 Tryz.isAgg41 Tryz.sizeOf41 _ _ w.heap.size [.int .i64 0, .string ⟨#[]⟩, .int .i64 0, .slice none 0 0] _ rfl rfl rfl S4.out) rfl ⟨rfl, below_setCells (Nat.le_refl _) _ _ B1.out⟩
end Go.Proofs.YtdnebclemngdcaaGreatDoor
namespace Go.Proofs.YtdnebclemngdcaaGreatDoor
open Go.RowKit Go.Sort Go.Maps
set_option linter.unusedSectionVars false
variable [Inhabited ComV] [DecidableEq D3] [Inhabited D3] [Inhabited Dd] [Inhabited Dn] [Inhabited OpV]

theorem foldl_addDn_new : ∀ (xs acc : List Dn), (∀ x ∈ xs, ∀ a ∈ acc, a.dot ≠ x.dot) → xs.Pairwise (fun a b => a.dot ≠ b.dot) → xs.foldl addDn acc = acc ++ xs
  | [], acc, _, _ => by simp
  | x :: xs, acc, h, hp => by
    rw [List.foldl_cons]
    have hx : addDn acc x = acc ++ [x] := by
      unfold addDn hasDot
      rw [if_neg]
      intro ht
      obtain ⟨a, ha, e⟩ := List.any_eq_true.1 ht
      exact h x (by simp) a ha (of_decide_eq_true e)
    rw [hx, foldl_addDn_new xs (acc ++ [x]) ?_ (List.pairwise_cons.1 hp).2]
    · simp
    · intro y hy a ha
      rcases List.mem_append.1 ha with ha | ha
      · exact h y (by simp [hy]) a ha
      · rw [List.mem_singleton.1 ha]
        exact (List.pairwise_cons.1 hp).1 y hy
theorem flatA_one : ∀ (l : List ComV), (∀ c ∈ l, c.ops.length = 1) → flatA l = l.map dn1
  | [], _ => rfl
  | c :: l, h => by
    have e := flatA_one l fun c hc => h c (by simp [hc])
    unfold flatA at e ⊢
    rw [List.flatMap_cons, e, List.map_cons]
    obtain ⟨o, ho⟩ := List.length_eq_one_iff.1 (h c (by simp))
    rw [ho]
    unfold dn1 k1
    rw [ho]
    rfl
/-- A row of parts of one op each, no dot twice. -/
structure RowOne (key : ByteArray) (l : List ComV) : Prop where
  one : ∀ c ∈ l, c.ops.length = 1
  key : ∀ c ∈ l, (k1 c).key = key
  ne : (l.map dn1).Pairwise fun a b => a.dot ≠ b.dot
theorem RowOne.once {key : ByteArray} {l : List ComV} (h : RowOne key l) : ((onceA l).filter fun x => decide (x.o.key = key)) = l.map dn1 := by
  rw [onceA_flat, flatA_one l h.one, foldl_addDn_new _ [] (fun _ _ _ ha => by simp at ha) h.ne, List.nil_append]
  refine List.filter_eq_self.2 fun x hx => ?_
  obtain ⟨c, hc, rfl⟩ := List.mem_map.1 hx
  exact decide_eq_true (h.key c hc)
theorem RowOne.sub {key : ByteArray} {l l' : List ComV} (h : RowOne key l) (hs : l'.Sublist l) : RowOne key l' := ⟨fun c hc => h.one c (hs.subset hc), fun c hc => h.key c (hs.subset hc), h.ne.sublist (hs.map _)⟩
theorem RowOne.perm {key : ByteArray} {l l' : List ComV} (h : RowOne key l) (hs : l'.Perm l) : RowOne key l' := ⟨fun c hc => h.one c (hs.subset hc), fun c hc => h.key c (hs.subset hc), ((hs.map dn1).pairwise_iff (fun hab e => hab e.symm)).2 h.ne⟩
/-- What a part comes from. -/
def From (S : List ComV) (c : ComV) : Prop := ∃ c' ∈ S, c.when_ = c'.when_ ∧ (k1 c).key = (k1 c').key
theorem From.mono {S S' : List ComV} {c : ComV} (h : From S c) (hs : ∀ x ∈ S, From S' x) : From S' c := by
  obtain ⟨c', h1, h2, h3⟩ := h
  obtain ⟨c'', g1, g2, g3⟩ := hs c' h1
  exact ⟨c'', g1, h2.trans g2, h3.trans g3⟩
theorem From.self {S : List ComV} {c : ComV} (h : c ∈ S) : From S c := ⟨c, h, rfl, rfl⟩
theorem sumSt_from (l : List ComV) : ∀ k, k ≤ l.length → ∀ c ∈ (sumSt l k).1, From l c
  | 0, _, c, hc => by simp [sumSt] at hc
  | k + 1, hk, c, hc => by
    have ih := sumSt_from l k (by omega)
    have hl : From l l[k]! := From.self (by rw [getElem!_pos l k (by omega)]; exact List.getElem_mem _)
    have snoc : ∀ x ∈ (sumSt l k).1 ++ [l[k]!], From l x := fun x hx => by
      rcases List.mem_append.1 hx with hx | hx
      · exact ih x hx
      · rw [List.mem_singleton.1 hx]; exact hl
    unfold sumSt at hc
    split at hc
    · split at hc
      · exact snoc c hc
      · rename_i j hj
        split at hc
        · rcases List.mem_or_eq_of_mem_set hc with hc | rfl
          · exact ih c hc
          · by_cases hjl : j < (sumSt l k).1.length
            · obtain ⟨c', h1, h2, h3⟩ := ih (sumSt l k).1[j]! (by rw [getElem!_pos _ j hjl]; exact List.getElem_mem _)
              exact ⟨c', h1, h2, h3⟩
            · rw [List.set_eq_of_length_le (by omega)] at hc
              exact ih _ hc
        · exact snoc c hc
    · exact snoc c hc
theorem settled_from {V : D3 → Bool} {S O : List ComV} {c : ComV} (h : c ∈ settled V S O) : From S c := by
  have h1 : From (withoutRem (sumC (lastReg S))) c := by
    unfold settled spentL at h
    have hs : (keepI spP ((withoutRem (sumC (lastReg S))).map (trim V (withoutRem (sumC (lastReg S)) ++ O))) ((withoutRem (sumC (lastReg S))).map (trim V (withoutRem (sumC (lastReg S)) ++ O))).length).Sublist _ := keepI_all
    rw [List.length_map] at hs
    obtain ⟨c0, hc0, rfl⟩ := List.mem_map.1 (hs.subset h)
    exact ⟨c0, hc0, rfl, rfl⟩
  refine h1.mono fun x hx => ?_
  have h2 : x ∈ sumC (lastReg S) := keepI_all.subset hx
  refine (sumSt_from (lastReg S) _ (Nat.le_refl _) x h2).mono fun y hy => From.self (keepI_all.subset hy)
theorem foreign_no {o : OpV} {n : Int} (h : opErr o n = 0) : foreignB o = false := by
  unfold opErr at h
  split at h
  · exact absurd h (by decide)
  · split at h
    · exact absurd h (by decide)
    · split at h
      · exact absurd h (by decide)
      · split at h
        · exact absurd h (by decide)
        · rename_i hf
          simpa using hf
theorem part_facts {c : ComV} (h : ComOk c) (h1 : c.ops.length = 1) : PartOk c ∧ RemOk c := by
  have he : opErr (k1 c) c.when_.length = 0 := opErr_of_bad (os := c.ops) (i := 0) (h.ops 0 (by omega))
  have hk := (opOk he).1
  have hf := foreign_no he
  unfold foreignB at hf
  refine ⟨⟨h1, hk, fun hne => ?_⟩, fun hr => ?_⟩
  · have h0 : 0 < (k1 c).dots.length := List.length_pos_iff.2 hne
    rcases hk with hk | hk | hk
    · rw [if_pos hk] at hf; simp [h0] at hf
    · rw [if_neg (by omega), if_pos hk] at hf; simp [h0] at hf
    · rw [if_neg (by omega), if_neg (by omega)] at hf
      simp [h0] at hf
      exact ⟨hk, hf.2⟩
  · rcases hk with hk | hk | hk
    · rw [if_pos hk] at hf; simp [hr] at hf
    · rw [if_neg (by omega), if_pos hk] at hf; simp [hr] at hf
    · exact hk
theorem settled_sub {V : D3 → Bool} {S O : List ComV} (hs : (S.map dn1).Pairwise fun a b => ltN a b = true) (hS : ∀ c ∈ S, PartOk c) : (((settled V S O).map dn1).map skel).Sublist ((S.map dn1).map skel) ∧ ∀ c ∈ settled V S O, PartOk c := by
  have s1 := lastReg_step hs []
  have o1 : ∀ c ∈ lastReg S, PartOk c := keepI_ok hS
  have s2 := sumC_step (lastReg S) []
  have o2 := sumC_ok o1
  have s3 := withoutRem_step o2 []
  have o3 : ∀ c ∈ withoutRem (sumC (lastReg S)), PartOk c := keepI_ok o2
  have hk : (settled V S O).Sublist ((withoutRem (sumC (lastReg S))).map (trim V (withoutRem (sumC (lastReg S)) ++ O))) := by
    unfold settled spentL
    have h := keepI_all (p := spP) (l := (withoutRem (sumC (lastReg S))).map (trim V (withoutRem (sumC (lastReg S)) ++ O)))
    rw [List.length_map] at h
    exact h
  refine ⟨?_, fun c hc => ?_⟩
  · refine ((hk.map dn1).map skel).trans (?_ : List.Sublist _ _)
    have e : (((withoutRem (sumC (lastReg S))).map (trim V (withoutRem (sumC (lastReg S)) ++ O))).map dn1).map skel = ((withoutRem (sumC (lastReg S))).map dn1).map skel := by
      rw [List.map_map, List.map_map, List.map_map]
      rfl
    rw [e]
    exact (s3.sub.trans s2.sub).trans s1.sub
  · obtain ⟨c0, hc0, rfl⟩ := List.mem_map.1 (hk.subset hc)
    exact trim_ok (o3 c0 hc0)
theorem plain_of {l : List ComV} (h : ∀ c ∈ l, PartOk c) {ys : List Dn} (hp : ys.Perm (l.map dn1)) : Plain ys := by
  refine ⟨fun x hx => ?_, fun x hx hr => ?_⟩
  · obtain ⟨c, hc, rfl⟩ := List.mem_map.1 (hp.subset hx)
    exact (h c hc).kind
  · obtain ⟨c, hc, rfl⟩ := List.mem_map.1 (hp.subset hx)
    cases hd : (dn1 c).o.dots with
    | nil => rfl
    | cons d r =>
      have := ((h c hc).rem (show (k1 c).dots ≠ [] from by rw [show (k1 c).dots = (dn1 c).o.dots from rfl, hd]; simp)).2
      rw [show (dn1 c).o.rem = (k1 c).rem from rfl, this] at hr
      cases hr
theorem leB_trans {a b c : List Int} (h : a.length = b.length) (h1 : leB a b = true) (h2 : leB b c = true) : leB a c = true := leB_iff.2 fun i hi => Int.le_trans (leB_iff.1 h1 i hi) (leB_iff.1 h2 i (by omega))
theorem filter_split {α : Type} (p : α → Bool) : ∀ l : List α, (l.filter p ++ l.filter fun a => !p a).Perm l
  | [] => List.Perm.refl _
  | a :: l => by
    rw [List.filter_cons, List.filter_cons]
    cases p a with
    | true =>
      rw [if_pos rfl, if_neg (by decide), List.cons_append]
      exact (filter_split p l).cons a
    | false =>
      rw [if_neg (by decide), if_pos (by decide)]
      exact List.perm_middle.trans ((filter_split p l).cons a)
/-- Before and after it is settled: the same is read. -/
theorem prune_val {V : D3 → Bool} {key : ByteArray} {row new : List ComV} {base at_ : List Int} {ds1 ds2 : List Dn} (hR : RowOne key row) (hok : ∀ c ∈ row, ComOk c) (hlen : ∀ c ∈ row, c.when_.length = base.length) (hle : leB base at_ = true) (hS : SettledAs V base row new)
    (h1 : IsOps key (row.filter fun c => leB c.when_ at_) ds1) (h2 : IsOps key (new.filter fun c => leB c.when_ at_) ds2) : valA ds1 = valA ds2 := by
  obtain ⟨ss, hp, ho, rfl⟩ := hS
  obtain ⟨op, hop⟩ : ∃ op, op = row.filter fun c => !leB c.when_ base := ⟨_, rfl⟩
  rw [← hop] at h2
  have hss : ∀ c ∈ ss, c ∈ row ∧ leB c.when_ base = true := fun c hc => List.mem_filter.1 (hp.subset hc)
  have hopm : ∀ c ∈ op, c ∈ row := fun c hc => by rw [hop] at hc; exact (List.mem_filter.1 hc).1
  have hall : (ss ++ op).Perm row := by
    rw [hop]
    exact (hp.append_right _).trans (filter_split (fun c => leB c.when_ base) row)
  have hat : ∀ c ∈ ss, leB c.when_ at_ = true := fun c hc => leB_trans (hlen c (hss c hc).1) (hss c hc).2 hle
  have e1 : (ss ++ op).filter (fun c => leB c.when_ at_) = ss ++ op.filter fun c => leB c.when_ at_ := by
    rw [List.filter_append, List.filter_eq_self.2 hat]
  have e2 : (settled V ss op ++ op).filter (fun c => leB c.when_ at_) = settled V ss op ++ op.filter fun c => leB c.when_ at_ := by
    rw [List.filter_append, List.filter_eq_self.2 fun c hc => ?_]
    obtain ⟨c', g1, g2, _⟩ := settled_from hc
    rw [g2]
    exact hat c' g1
  rw [e2] at h2
  obtain ⟨X, hX⟩ : ∃ X, X = op.filter fun c => leB c.when_ at_ := ⟨_, rfl⟩
  rw [← hX] at e1 h2
  have hXm : ∀ c ∈ X, c ∈ op := fun c hc => by rw [hX] at hc; exact (List.mem_filter.1 hc).1
  have hL1 : (row.filter fun c => leB c.when_ at_).Perm (ss ++ X) := by rw [← e1]; exact (hall.filter _).symm
  have R1 : RowOne key (row.filter fun c => leB c.when_ at_) := hR.sub List.filter_sublist
  have RX : RowOne key (ss ++ X) := R1.perm hL1.symm
  have Rs : RowOne key ss := RX.sub (List.sublist_append_left _ _)
  have pk : ∀ c ∈ row, PartOk c := fun c hc => (part_facts (hok c hc) (hR.one c hc)).1
  have rk : ∀ c ∈ row, RemOk c := fun c hc => (part_facts (hok c hc) (hR.one c hc)).2
  have hlt : (ss.map dn1).Pairwise fun a b => ltN a b = true := Ord.lt ⟨ho, Rs.ne⟩
  obtain ⟨hsub, hpo⟩ := settled_sub (V := V) (O := op) hlt fun c hc => pk c (hss c hc).1
  have hsame := settled_same V hlt (fun c hc => pk c (hss c hc).1) (fun c hc => rk c (hss c hc).1) (O := op) (X.map dn1) (fun x hx _ => by
    obtain ⟨c, hc, rfl⟩ := List.mem_map.1 hx
    exact List.mem_map.2 ⟨c, hXm c hc, rfl⟩)
  have R2 : RowOne key (settled V ss op ++ X) := by
    refine ⟨fun c hc => ?_, fun c hc => ?_, ?_⟩
    · rcases List.mem_append.1 hc with hc | hc
      · exact (hpo c hc).one
      · exact RX.one c (List.mem_append_right _ hc)
    · rcases List.mem_append.1 hc with hc | hc
      · obtain ⟨c', g1, _, g3⟩ := settled_from hc
        rw [g3]
        exact Rs.key c' g1
      · exact RX.key c (List.mem_append_right _ hc)
    · have hs2 : (((settled V ss op ++ X).map dn1).map skel).Sublist (((ss ++ X).map dn1).map skel) := by
        rw [List.map_append, List.map_append, List.map_append, List.map_append]
        exact hsub.append (List.Sublist.refl _)
      have hne : (((ss ++ X).map dn1).map skel).Pairwise (fun a b => a.1 ≠ b.1) := List.pairwise_map.2 (RX.ne.imp fun h => h)
      have h3 := hne.sublist hs2
      exact (List.pairwise_map.1 h3).imp fun h => h
  obtain ⟨ys1, ⟨p1, r1⟩, rfl⟩ := h1
  obtain ⟨ys2, ⟨p2, r2⟩, rfl⟩ := h2
  rw [R1.once] at p1
  rw [R2.once] at p2
  have q1 : ys1.Perm (ss.map dn1 ++ X.map dn1) := by rw [← List.map_append]; exact p1.trans (hL1.map _)
  have q2 : ys2.Perm ((settled V ss op).map dn1 ++ X.map dn1) := by rw [← List.map_append]; exact p2
  refine same_val ⟨r1, (p1.pairwise_iff (fun h e => h e.symm)).2 R1.ne⟩ ⟨r2, (p2.pairwise_iff (fun h e => h e.symm)).2 R2.ne⟩ (plain_of (fun c hc => pk c (List.mem_filter.1 hc).1) p1) (plain_of (l := settled V ss op ++ X) (fun c hc => ?_) p2) (((Same.perm q1).trans hsame).trans (Same.perm q2).symm)
  rcases List.mem_append.1 hc with hc | hc
  · exact hpo c hc
  · exact pk c (hopm c (hXm c hc))
end Go.Proofs.YtdnebclemngdcaaGreatDoor
namespace Go.Proofs.YtdnebclemngdcaaGreatDoor
open Go.RowKit Go.Sort Go.Maps
set_option maxRecDepth 100000
set_option linter.unusedSectionVars false
variable [Inhabited ComV] [DecidableEq D3] [Inhabited D3] [Inhabited Dd] [Inhabited Dn] [Inhabited OpV]

theorem settledAs_nil (V : D3 → Bool) (base : List Int) : SettledAs V base [] [] := ⟨[], List.Perm.refl _, List.Pairwise.nil, rfl⟩
theorem SettledAs.from {V : D3 → Bool} {base : List Int} {row new : List ComV} (h : SettledAs V base row new) : ∀ c ∈ new, From row c := fun c hc => by
  obtain ⟨ss, hp, _, rfl⟩ := h
  rcases List.mem_append.1 hc with hc | hc
  · exact (settled_from hc).mono fun x hx => From.self (List.mem_filter.1 (hp.subset hx)).1
  · exact From.self (List.mem_filter.1 hc).1
structure PrunedAt (w : World) (p mb db n nb : Nat) (key : ByteArray) (V : D3 → Bool) (base : List Int) (row : List ComV) (f : ByteArray → Value) (s' : St) : Prop where
  ver : VerR w p mb db key f s' n
  ok : StOk s' nb
  base_ : s'.base = base
  row_ : SettledAs V base row (rowOf s' key)
  few : (rowOf s' key).length ≤ 1000
theorem PrInv.read {w : World} {B p mb db n nb : Nat} {bv : Value} {base : List Int} {s : St} {V : D3 → Bool} {ks : List (List UInt8)} {kv : Value} {f : ByteArray → Value} {R : ByteArray → List Rp} {E : Nat → OpV} {D : Nat → Value} {w' : World} (h : PrInv w B p mb db n nb bv base s V ks kv ks.length f R E D w') (hks : KeysOfSt s ks) (key : ByteArray) (hR : RowOne key (rowOf s key)) (hc : chk base = 0) (hl : base.length = nb) :
    ∃ s', PrunedAt w' p mb db (n + ks.length) nb key V base (rowOf s key) f s' := by
  have hset : SettledAs V base (rowOf s key) ((R key).map (absR E)) := by
    by_cases hk : key ∈ (ks.take ks.length).map keyB
    · exact h.done key hk
    · have h0 : rowOf s key = [] := by
        by_cases h1 : rowOf s key = []
        · exact h1
        · refine absurd ?_ hk
          rw [List.take_length]
          exact List.mem_map.2 ⟨key.data.toList, (keysOfSt_mem hks _).2 (by unfold keyB; simpa using h1), by unfold keyB; simp⟩
      rw [h.todo key hk, h0]
      exact settledAs_nil _ _
  have hrow : rowOf ⟨base, (R key).map (absR E), s.dots⟩ key = (R key).map (absR E) := by
    unfold rowOf
    refine List.filter_eq_self.2 fun c hc => decide_eq_true ?_
    obtain ⟨c', h1, _, h3⟩ := hset.from c hc
    exact h3.trans (hR.key c' h1)
  refine ⟨⟨base, (R key).map (absR E), s.dots⟩, ⟨⟨bv, h.box, h.ints⟩, ?_, ⟨(R key).map Rp.cells, ?_, ?_⟩⟩, ⟨hc, hl, fun c hc => ?_, fun c hc => ?_, fun c hc => ?_⟩, rfl, ?_, ?_⟩
  · obtain ⟨Dm, h1, h2⟩ := h.map
    exact ⟨Dm, h1, h2 key⟩
  · rw [hrow, flatten_map, List.length_map]
    exact (h.rows.rows key).mono (Nat.zero_le _)
  · rw [hrow]
    exact (h.rows.po key).comT
  · obtain ⟨r, hr, rfl⟩ := List.mem_map.1 hc
    exact ((h.rows.po key).pf r hr).ok
  · obtain ⟨r, hr, rfl⟩ := List.mem_map.1 hc
    exact ((h.rows.po key).pf r hr).len
  · obtain ⟨r, hr, rfl⟩ := List.mem_map.1 hc
    have hp := (h.rows.po key).pf r hr
    have h6 := (chk_zero.1 hp.ok.chk).2.1
    refine ⟨by omega, Nat.le_trans hp.ok.few (by decide), fun o ho => ?_⟩
    obtain rfl : o = E r.g := by simpa [absR] using ho
    exact ⟨Nat.le_trans hp.text (by decide), Nat.le_trans hp.fit.few (by decide)⟩
  · rw [hrow]; exact hset
  · rw [hrow, List.length_map]
    exact h.few key
theorem PrunedAt.moved {w w' : World} {p mb db n nb : Nat} {key : ByteArray} {V : D3 → Bool} {base : List Int} {row : List ComV} {f : ByteArray → Value} {s' : St} (h : PrunedAt w p mb db n nb key V base row f s') (hb : Below w.heap.size w w') : PrunedAt w' p mb db n nb key V base row f s' := ⟨h.ver.moved hb, h.ok, h.base_, h.row_, h.few⟩
/-- A store's row: one op a part, no dot twice. -/
theorem row_one {nb : Nat} {l : List ComV} (h : KeptL nb l) (key : ByteArray) : RowOne key (rowOf (stOf nb l) key) := by
  have h1 : ∀ c ∈ (stOf nb l).parts, c.ops.length = 1 := fun c hc => by
    obtain ⟨c0, _, hc⟩ := List.mem_flatMap.1 hc
    obtain ⟨o, _, rfl⟩ := List.mem_map.1 hc
    rfl
  refine ⟨fun c hc => h1 c (mem_rowOf hc), fun c hc => of_decide_eq_true (List.mem_filter.1 hc).2, ?_⟩
  have hs : (rowOf (stOf nb l) key).Sublist (stOf nb l).parts := List.filter_sublist
  refine List.Pairwise.sublist (hs.map dn1) ?_
  have hn := h.dots
  rw [← flat_parts, List.nodup_iff_pairwise_ne, List.pairwise_map] at hn
  have e : flatA (l.flatMap partsC) = (l.flatMap partsC).map dn1 := flatA_one _ h1
  rw [e] at hn
  exact hn
/-- All parts may be copied. -/
theorem parts_in_st {nb : Nat} {l : List ComV} (h : KeptL nb l) (ht : ∀ c ∈ l, ∀ o ∈ c.ops, o.text.size ≤ 1000) : ∀ c ∈ (stOf nb l).parts, PartIn nb c := fun c hc => by
  obtain ⟨c0, hc0, hc⟩ := List.mem_flatMap.1 hc
  obtain ⟨o, ho, rfl⟩ := List.mem_map.1 hc
  exact ⟨comOk_one (h.ok c0 hc0) ho, ⟨o, rfl⟩, h.len c0 hc0, fun o' e => by
    obtain rfl : o = o' := List.head_eq_of_cons_eq e
    exact ht c0 hc0 o ho⟩
end Go.Proofs.YtdnebclemngdcaaGreatDoor
namespace Go.Proofs.YtdnebclemngdcaaGreatDoor
open Go.RowKit Go.Sort Go.Maps
set_option maxRecDepth 100000
set_option linter.unusedSectionVars false
variable [Inhabited ComV] [DecidableEq D3] [Inhabited D3] [Inhabited Dd] [Inhabited Dn] [Inhabited OpV]

theorem comb_zeros {nb : Nat} {bs : List Int} (hc : chk bs = 0) (hl : bs.length = nb) : comb mxI (List.replicate nb 0) bs = bs := by
  refine List.ext_getElem (by rw [comb_length, List.length_replicate, hl]) fun i h1 h2 => ?_
  have hi : i < (List.replicate nb (0 : Int)).length := by rw [comb_length] at h1; exact h1
  have e := comb_getD mxI (List.replicate nb 0) bs hi
  rw [List.getD_eq_getElem?_getD, List.getElem?_eq_getElem h1, Option.getD_some] at e
  have h0 := ((chk_zero.1 hc).2.2 i h2).1
  have e2 : bs.getD i 0 = bs[i] := by rw [List.getD_eq_getElem?_getD, List.getElem?_eq_getElem h2, Option.getD_some]
  have e3 : (List.replicate nb (0 : Int)).getD i 0 = 0 := by rw [List.getD_eq_getElem?_getD, List.getElem?_replicate]; split <;> rfl
  rw [e, e3]
  rw [e2] at h0 ⊢
  unfold mxI
  split <;> omega
theorem le_zeros {nb : Nat} {at_ : List Int} (hc : chk at_ = 0) (hl : at_.length = nb) : leB (List.replicate nb 0) at_ = true := leB_iff.2 fun i hi => by
  rw [List.length_replicate] at hi
  have h0 := ((chk_zero.1 hc).2.2 i (by omega)).1
  have e3 : (List.replicate nb (0 : Int)).getD i 0 = 0 := by rw [List.getD_eq_getElem?_getD, List.getElem?_replicate]; split <;> rfl
  rw [e3]
  exact h0
set_option maxHeartbeats 2000000 in
theorem prune_bad (A : Nat → Addr) (w : World) (hE : E4 A w) (p : Nat) (bv : Value) (base : List Int) (m1 m2 : Value) (hp : w.heap[p]? = some (.cells #[bv, m1, m2] 83 (0, 0))) (hb : IntsAt w bv base) (v : Value) (zs : List Int) (h : IntsAt w v zs) (hl : zs.length ≤ 1000000) (h0 : ¬(chk zs = 0 ∧ zs.length = base.length)) :
    Calls Tryz.prog 12 #[.pointer (some ⟨p, 0, none⟩), v] w fun e w' => (∃ t u, e = .returned (.iface t u)) ∧ Below w.heap.size w w' := by
  have K := hid (checkVector_bad A w hE p bv base m1 m2 hp hb v zs h hl h0)
  obtain ⟨a1, c1, rfl⟩ := h.slice
  clear h h0 hb hp hE
  go_enter Tryz.func12, Tryz.ntmps12
  go_wp2_with fail
  refine K.out.mono ?_
  rintro e w' ⟨⟨k, rfl⟩, rfl⟩
  go_wp2_with fail
  go_ret
  exact ⟨⟨_, _, rfl⟩, Below.refl _ _⟩
/-- A pruned store is read. -/
theorem pread_yes (A : Nat → Addr) (B : Nat) (w : World) (hE : SentV A B w) {p mb db n nb : Nat} {key : ByteArray} {V : D3 → Bool} {base : List Int} {row : List ComV} {f : ByteArray → Value} {s' : St} (h : PrunedAt w p mb db n nb key V base row f s') {at_ : List Int} (hr : ReadOk nb key at_) (hk : key.size ≤ 60) (hle : leB base at_ = true) (av : Value) (ha : IntsAt w av at_) :
    Calls Tryz.prog 14 #[.pointer (some ⟨p, 0, none⟩), .string key, av] w fun e w' => OfRet key (seenL s' key at_) w e w' :=
  readR_ok A w hE.e4 (by have := hE.gl; have := hE.size; omega) p mb db n nb key f s' h.ver h.ok hr.1 (by omega) av at_ ha hr.2.1 hr.2.2.1 (by rw [h.base_]; exact hle) h.few
theorem pread_old (A : Nat → Addr) (B : Nat) (w : World) (hE : SentV A B w) {p mb db n nb : Nat} {key : ByteArray} {V : D3 → Bool} {base : List Int} {row : List ComV} {f : ByteArray → Value} {s' : St} (h : PrunedAt w p mb db n nb key V base row f s') {at_ : List Int} (hr : ReadOk nb key at_) (hle : leB base at_ = false) (av : Value) (ha : IntsAt w av at_) :
    Calls Tryz.prog 14 #[.pointer (some ⟨p, 0, none⟩), .string key, av] w fun e w' => ReadOld A w e w' := by
  have ha' := ha
  obtain ⟨aa, ac, rfl⟩ := ha.slice
  refine readR_old A w p key aa at_.length ac fun W hW => ?_
  have hEW := hE.below (hW.mono hE.size)
  exact seenR_old A W hEW.e4 hEW.c8 p mb db n key f s' (h.ver.moved hW) h.ok.base hr.1 _ at_ (ha'.mono hW (Nat.le_refl _)) hr.2.1 (by rw [hr.2.2.1, h.ok.len]) (by rw [h.base_]; exact hle)
theorem pread_no (A : Nat → Addr) (B : Nat) (w : World) (hE : SentV A B w) {p mb db n nb : Nat} {key : ByteArray} {V : D3 → Bool} {base : List Int} {row : List ComV} {f : ByteArray → Value} {s' : St} (h : PrunedAt w p mb db n nb key V base row f s') {at_ : List Int} (hr : ¬ReadOk nb key at_) (hl : at_.length ≤ 20) (av : Value) (ha : IntsAt w av at_) :
    Calls Tryz.prog 14 #[.pointer (some ⟨p, 0, none⟩), .string key, av] w fun e w' => ReadBad w e w' := by
  have ha' := ha
  obtain ⟨aa, ac, rfl⟩ := ha.slice
  refine read_bad w p key aa at_.length ac fun W hW => ?_
  have hEW := hE.below (hW.mono hE.size)
  have haW := ha'.mono hW (Nat.le_refl _)
  cases hn : nameB key with
  | false => exact seen_name A W hEW.e5 p key hn _
  | true =>
    by_cases h2 : chk at_ = 0 ∧ at_.length = s'.base.length
    · exact absurd ⟨hn, h2.1, h2.2.trans h.ok.len, le_zeros h2.1 (h2.2.trans h.ok.len)⟩ hr
    · exact seenR_vec A W hEW.e4 p mb db n key f s' (h.ver.moved hW) hn _ at_ haW (by omega) h2
end Go.Proofs.YtdnebclemngdcaaGreatDoor
namespace Go.Proofs.YtdnebclemngdcaaGreatDoor
open Go.RowKit Go.Sort Go.Maps
set_option maxRecDepth 100000
set_option linter.unusedSectionVars false
variable [Inhabited ComV] [DecidableEq D3] [Inhabited D3] [Inhabited Dd] [Inhabited Dn] [Inhabited OpV]

theorem Sents.v {A : Nat → Addr} {B : Nat} {w : World} (h : Sents A B w) : SentV A B w := ⟨h.gl, h.size, h.e5, h.cell 8 (by decide), h.cell 5 (by decide)⟩
/-- One store, all of it new. -/
structure One (w0 : World) (pa ma da na : Nat) (fa : ByteArray → Value) (sa : St) (w : World) : Prop where
  va : VerAt w pa ma da fa sa na
  m1 : w0.heap.size ≤ ma
  m2 : w0.heap.size ≤ da
  la : ∀ k b, (fa k).ownBlock = some b → w0.heap.size ≤ b
  below : Below w0.heap.size w0 w
theorem One.moved {w0 : World} {pa ma da na : Nat} {fa : ByteArray → Value} {sa : St} {w w' : World} (h : One w0 pa ma da na fa sa w) (hb : Below w.heap.size w w') : One w0 pa ma da na fa sa w' := ⟨h.va.moved hb, h.m1, h.m2, h.la, h.below.trans (hb.mono h.below.size)⟩
theorem One.put {w0 : World} {pa ma da na na' : Nat} {fa fa' : ByteArray → Value} {sa sa' : St} {w w' : World} (h : One w0 pa ma da na fa sa w) (hV : VerAt w' pa ma da fa' sa' na') (ht : Turn w w' ma da fa fa') : One w0 pa ma da na' fa' sa' w' := by
  have hs := h.below.size
  refine ⟨hV, h.m1, h.m2, fun k b h1 => ?_, ?_⟩
  · rcases ht.fresh k b h1 with ⟨k2, h3⟩ | h3
    · exact h.la k2 b h3
    · omega
  · exact ⟨ht.os.trans h.below.os, ht.tape.trans h.below.tape, ht.output.trans h.below.output, Nat.le_trans hs ht.size, fun b hb => (ht.block b (by omega) (by have := h.m1; omega) (by have := h.m2; omega) (fun k e => by have := h.la k b e; omega)).trans (h.below.block b hb)⟩
set_option maxHeartbeats 8000000 in
theorem prunes_in (A : Nat → Addr) (B : Nat) (w : World) (hE : Sents A B w) (nb : Nat) (h1 : 1 ≤ nb) (h6 : nb ≤ 6) (lv : Value) (l : List ComV) (hl : ComsAt w lv l) (hh : heavyL l = false) (bv : Value) (bs : List Int) (hbs : IntsAt w bv bs) (hbl : bs.length ≤ 20) (av : Value) (at_ : List Int) (ha : IntsAt w av at_) (hal : at_.length ≤ 20) (key : ByteArray) (hkey : key.size ≤ 60) :
    Calls Tryz.prog 3 #[.int .i64 nb, lv, bv, av, .string key] w fun e w' => e = .returned (.bool true) ∧ Below w.heap.size w w' := by
  have hE' := hE.v
  have h12 : 12 ≤ w.heap.size := by have := hE.gl; have := hE.size; omega
  have hk60 : ¬ 60 < (key.size : Int) := by omega
  have ha20 : ¬ 20 < (at_.length : Int) := by omega
  have hb20 : ¬ 20 < (bs.length : Int) := by omega
  have HS := hid hE
  have HE := hid hE'
  have HLV := hid hl
  have HA := hid ha
  have HBS := hid hbs
  have HH := hid hh
  have K6 := hid (stored_ok A w hE'.e4 h12)
  have K7 := hid (fun W (hW : Below w.heap.size w W) => heavy_ok W lv l (hl.mono hW (Nat.le_refl _)))
  obtain ⟨la, lc, rfl, _⟩ := hl.shape
  obtain ⟨aa, ac, rfl⟩ := ha.slice
  obtain ⟨ba, bc, rfl⟩ := hbs.slice
  obtain ⟨m, hm⟩ : ∃ m, m = l.length := ⟨_, rfl⟩
  obtain ⟨k, hk⟩ : ∃ k, k = at_.length := ⟨_, rfl⟩
  obtain ⟨j, hj⟩ : ∃ j, j = bs.length := ⟨_, rfl⟩
  have HM := hid hm
  have HK := hid hk
  have HJ := hid hj
  rw [← hm] at K7 HLV ⊢
  rw [← hk] at HA ha20 ⊢
  rw [← hj] at HBS hb20 ⊢
  clear hE hE' hl ha hbs hh hm hk hj
  go_enter Tryz.func3, Tryz.ntmps3
  go_wp2_with fail
  refine K6.out.mono ?_
  rintro e w1 ⟨rfl, hb1⟩
  have B1 := hid hb1
  have K7a := hid (K7.out w1 hb1)
  clear hb1 K7 K6
  go_wp2_with fail
  refine K7a.out.mono ?_
  rintro e w2 ⟨he, hb2⟩
  rw [HH.out] at he
  subst he
  have hbw2 : Below w.heap.size w w2 := B1.out.trans (hb2.mono B1.out.size)
  have B2 := hid hbw2
  clear hb2 K7a
  have hnb1 : ¬ (nb : Int) < 1 := by omega
  go_wp2_with fail
  refine (new_ok w2 nb h1 h6).mono ?_
  rintro e w3 ⟨pa, ma, da, rfl, hpa, hma, hda, hva, hb3⟩
  have hbw3 : Below w.heap.size w w3 := hbw2.trans (hb3.mono hbw2.size)
  have V3 := hid hva
  have B3 := hid hbw3
  have hs2 := hbw2.size
  have HLT := hid (light HH.out)
  have hm30 : m ≤ 30 := by rw [HM.out]; exact HLT.out.1
  have hpw : w.heap.size ≤ pa := by omega
  have hmw : w.heap.size ≤ ma := by omega
  have hdw : w.heap.size ≤ da := by omega
  clear hpa hma hda hva hb3 hbw2 hbw3 hs2
  go_wp2_with fail
  have T0 : Hid (One w pa ma da 0 (fun _ => .slice none 0 0) (stOf nb []) w3) := (show One _ _ _ _ _ _ _ _ from ⟨V3.out, hmw, hdw, (fun _ _ h => by cases h), B3.out⟩)
  go_loopw [14] (fun iv wr => ∃ (i na : Nat) (kl : List ComV) (fa : ByteArray → Value), i ≤ m ∧ iv = .int .i64 i ∧ kl.length ≤ i ∧ na ≤ 24 * i ∧ Hid (One w pa ma da na fa (stOf nb kl) wr) ∧ Hid (KeptL nb kl) ∧ Hid (∀ c ∈ kl, c ∈ l)) (fun i _ => m - (intOf i).toNat)
  case atStart => exact ⟨0, 0, [], _, Nat.zero_le _, rfl, Nat.le_refl _, Nat.le_refl _, T0, KeptL.nil _, (fun c h => by simp at h)⟩
  case round =>
    obtain ⟨i, na, kl, fa, hi, rfl, hkl, hna, TT, KK, KM⟩ := hrel
    by_cases hlt : i < m
    · have hil : i < l.length := by rw [← HM.out]; exact hlt
      obtain ⟨la', lc', hle, _, _, ho⟩ := HLV.out.shape
      injection hle with ea em ec
      clear em
      subst ea
      subst ec
      obtain ⟨b, off, rfl, ho'⟩ := ho.resolve_left (fun h => by rw [h] at hil; simp at hil)
      obtain ⟨wv, ov, hwi, hop, q0, q1, q2⟩ := ho' i hil
      have hbl : b < w.heap.size := lt_of_cell q0
      have hmem : l[i]! ∈ l := by rw [getElem!_pos l i hil]; exact List.getElem_mem _
      have up : ∀ {a : Addr} {v : Value}, w.cell? a = some v → wr.cell? a = some v := fun {a v} h => by rw [TT.out.below.cell (lt_of_cell h)]; exact h
      have r0 := up q0
      have r1 := up q1
      have r2 := up q2
      obtain ⟨c, hce⟩ : ∃ c, c = l[i]! := ⟨_, rfl⟩
      rw [← hce] at r1 hmem hwi hop
      have hcl := HLT.out.2 c hmem
      have hsm : SmallC c := small_of_light HH.out c hmem
      have K10 := hid (ownCommit wr c wv ov (hwi.mono TT.out.below (Nat.le_refl _)) (hop.mono TT.out.below (Nat.le_refl _)) hcl.1 hcl.2.1 (fun o ho => (hcl.2.2 o ho).2.2))
      obtain ⟨a1, c1, rfl⟩ := hwi.slice
      obtain ⟨a2, c2, rfl, _⟩ := hop.shape
      have HCR : Hid (ComRow w [.slice a1 c.when_.length c1, .int .i64 c.place, .slice a2 c.ops.length c2] c) := (show ComRow _ _ _ from ⟨_, _, rfl, hwi, hop⟩)
      obtain ⟨n1, hn1⟩ : ∃ n1, n1 = c.when_.length := ⟨_, rfl⟩
      obtain ⟨n2, hn2⟩ : ∃ n2, n2 = c.ops.length := ⟨_, rfl⟩
      obtain ⟨pl, hpl⟩ : ∃ pl, pl = c.place := ⟨_, rfl⟩
      rw [← hn1, ← hn2, ← hpl] at K10 HCR
      rw [← hn1] at r0
      rw [← hn2] at r2
      rw [← hpl] at r1
      have HP := hid hpl
      have HSM := hid hsm
      have HMEM := hid hmem
      have hi1 : (i : Int) < (m : Int) := by omega
      clear q0 q1 q2 up hce hmem hwi hop hcl hsm ho ho' hil hn1 hn2 hpl
      go_wp2_with fail
      refine K10.out.mono ?_
      rintro e w5 ⟨wv5, ov5, rfl, hT5, hb5⟩
      have T5 := hid (TT.out.moved hb5)
      have hkl30 : kl.length ≤ 30 := by omega
      have K9 := hid (put_any A B w5 (HE.out.below (T5.out.below.mono HE.out.size)) pa ma da na nb fa (stOf nb kl) T5.out.va (by omega) (stOf_ok KK.out h1 h6 (fun x hx => small_of_light HH.out x (KM.out x hx))) (fun q => by have := rowOf_few KK.out (Nat.le_trans hkl30 (by decide)) q; omega) c wv5 ov5 hT5 HSM.out)
      obtain ⟨⟨x1, y1, ex⟩, x2, y2, ey⟩ := hT5.shape
      subst ex ey
      obtain ⟨m1, hm1⟩ : ∃ m1, m1 = c.when_.length := ⟨_, rfl⟩
      obtain ⟨m2, hm2⟩ : ∃ m2, m2 = c.ops.length := ⟨_, rfl⟩
      rw [← hm1, ← hm2] at K9 ⊢
      rw [← HP.out] at K9 ⊢
      clear hT5 hb5 K10 hm1 hm2
      go_wp2_with fail
      refine K9.out.mono ?_
      rintro e w6 hres
      rcases hres with ⟨hpok, rfl, f6, hV6, ht6, hk6⟩ | ⟨hnot, t, u, rfl, hb6⟩
      · have T6 := hid (T5.out.put hV6 ht6)
        have K6 := hid (KK.out.snoc hpok)
        clear hpok hV6 ht6 hk6 K9 r0 r1 r2
        go_wp2_with fail
        refine ⟨⟨i + 1, na + 24, kl ++ [c], f6, by omega, by go_num, by simp; omega, by omega, ?_, K6.out, ?_⟩, by simp [intOf]; omega⟩
        · show One _ _ _ _ _ _ _ _
          rw [← stOf_put]
          exact T6.out
        · intro x hx
          rcases List.mem_append.1 hx with hx | hx
          · exact KM.out x hx
          · obtain rfl := List.mem_singleton.1 hx; exact HMEM.out
      · have T6 := hid (T5.out.moved hb6)
        clear hnot hb6 K9
        go_wp2_with fail
        exact ⟨⟨i + 1, na, kl, fa, by omega, by go_num, by omega, by omega, T6, KK, KM⟩, by simp [intOf]; omega⟩
    · obtain rfl : i = m := by omega
      clear T0
      go_wp2_with fail
      have hsml := fun x hx => small_of_light HH.out x (KM.out x hx)
      have HSK := hid (stOf_ok KK.out h1 h6 hsml)
      have hkl80 : kl.length ≤ 80 := by omega
      have HFEW := hid (fun q => rowOf_few KK.out hkl80 q)
      have K11 := hid (copy_ok wr pa ma da na nb fa (stOf nb kl) TT.out.va HSK.out (parts_in_st KK.out fun c hc o ho => by have := ((HLT.out.2 c (KM.out c hc)).2.2 o ho).2.1; omega) HFEW.out (by omega))
      clear hsml
      refine K11.out.mono ?_
      rintro e w5 ⟨p', mb', db', f', R, E, D, rfl, hVO, hb5, hp5, hm5, hd5⟩
      have nq : ∀ W, (binOp .eql 26 (.pointer (some ⟨p', 0, none⟩)) (.pointer none)).run Tryz.prog W = .ok (.bool false) W := fun W => by kernel_rfl
      have T5 := hid (TT.out.moved hb5)
      have VO5 := hid hVO
      have HB5 := hid hb5
      have K13 := hid (fun W (hW : Below w.heap.size w W) => own_any W (.slice aa k ac) at_ (HA.out.mono hW (Nat.le_refl _)) (by omega))
      have K13b := hid (fun W (hW : Below w.heap.size w W) => own_any W (.slice ba j bc) bs (HBS.out.mono hW (Nat.le_refl _)) (by omega))
      clear hVO hb5 K11
      go_wp2_with fail
      refine (K13b.out w5 T5.out.below).mono ?_
      rintro e w6 ⟨v6, rfl, hi6, hb6⟩
      have T6 := hid (T5.out.moved hb6)
      have VO6 := hid (VO5.out.below hb6)
      have HB6 := hid hb6
      by_cases hgood : chk bs = 0 ∧ bs.length = nb
      · have hwr12 : 12 ≤ wr.heap.size := by have := TT.out.below.size; omega
        have K12 := hid (prune_ok A w6 (HE.out.below (T6.out.below.mono HE.out.size)).e4 wr.heap.size p' mb' db' na nb hwr12 f' (stOf nb kl) R E D VO6.out hp5 hm5 HSK.out v6 bs hi6 hgood.1 hgood.2 HFEW.out (by omega))
        obtain ⟨a6, c6, rfl⟩ := hi6.slice
        have HG := hid hgood
        clear hi6 hgood
        go_wp2_with fail
        refine K12.out.mono ?_
        rintro e w7 ⟨bv7, ks, kv, f7, R7, E7, D7, rfl, hks, hPI⟩
        have hcomb : comb mxI (stOf nb kl).base bs = bs := comb_zeros HG.out.1 HG.out.2
        rw [hcomb] at hPI
        obtain ⟨s7, hPR⟩ := hPI.read hks key (row_one KK.out key) HG.out.1 HG.out.2
        have hb57 : Below wr.heap.size wr w7 := (HB5.out.trans (HB6.out.mono HB5.out.size)).trans hPI.below
        have T7 := hid (TT.out.moved hb57)
        have PR7 := hid hPR
        obtain ⟨nn, hnn⟩ : ∃ nn, nn = na + ks.length := ⟨_, rfl⟩
        rw [← hnn] at PR7
        clear hcomb hPI hPR hb57 hks K12 hnn T6 VO6 HB6 T5 VO5 HB5 hp5 hm5 hd5
        go_wp2_with fail
        refine (K13.out w7 T7.out.below).mono ?_
        rintro e w8 ⟨v8, rfl, hi8, hb8⟩
        have T8 := hid (T7.out.moved hb8)
        have PR8 := hid (PR7.out.moved hb8)
        clear hb8
        have HSA := hid (fun x hx => small_of_light HH.out x (KM.out x hx))
        by_cases hr : ReadOk nb key at_
        · have K14 := hid (read_yes A B w8 (HE.out.below (T8.out.below.mono HE.out.size)) T8.out.va KK.out h1 h6 HSA.out hkl80 hr hkey v8 hi8)
          obtain ⟨a8, c8, rfl⟩ := hi8.slice
          clear hi8
          go_wp2_with fail
          refine K14.out.mono ?_
          rintro e w9 ⟨v9, ds9, rfl, hI9, hva9, hb9⟩
          have T9 := hid (T8.out.moved hb9)
          have PR9 := hid (PR8.out.moved hb9)
          have I9 := hid hI9
          have HFW := hid (set_few hI9 (listOk_of (n := nb) (fun c hc => HSK.out.ok c (seenL_mem hc)) (fun c hc => HSK.out.when_ c (seenL_mem hc))) (by have h1' := seenL_len (stOf nb kl) key at_; have h2' := HFEW.out key; omega))
          obtain ⟨xv, hxv⟩ : ∃ xv, xv = valA ds9 := ⟨_, rfl⟩
          rw [← hxv] at hva9
          have HXV := hid hxv
          obtain ⟨xk, xt, xn, xs⟩ := xv
          obtain ⟨sv9, hve, hs9⟩ := hva9
          simp only at hve hs9
          subst hve
          have S9 := hid hs9
          obtain ⟨sa, sc, hsv, _⟩ := hs9
          subst hsv
          obtain ⟨xl, hxl⟩ : ∃ xl, xl = xs.length := ⟨_, rfl⟩
          rw [← hxl] at S9 ⊢
          have HXL := hid hxl
          obtain ⟨w10, hw10⟩ : ∃ w10, w10 = w9.alloc (.cells #[.int .i64 xk, .string xt, .int .i64 xn, .slice sa xl sc] 41) := ⟨_, rfl⟩
          have hb910 : Below w9.heap.size w9 w10 := by rw [hw10]; exact below_alloc _ _
          have x10 : w10.heap[w9.heap.size]? = some (.cells #[.int .i64 xk, .string xt, .int .i64 xn, .slice sa xl sc] 41 (0, 0)) := by rw [hw10]; exact (MapKept.heap_alloc _ _).1
          have T10 := hid (T9.out.moved hb910)
          have PR10 := hid (PR9.out.moved hb910)
          have X10 := hid x10
          have HB10 := hid hb910
          clear hI9 hxv hb9 K14 hxl T8 PR8 T9 PR9 T7 PR7 HSA x10 hb910
          go_wp2_with fail
          rw [← hw10]
          refine (K13.out w10 T10.out.below).mono ?_
          rintro e w11 ⟨v11, rfl, hi11, hb11⟩
          have T11 := hid (T10.out.moved hb11)
          have PR11 := hid (PR10.out.moved hb11)
          have X11 := hid ((hb11.block _ (lt_of_heap X10.out)).trans X10.out)
          have HB11 := hid (HB10.out.trans (hb11.mono HB10.out.size))
          clear hb11 hw10 T10 PR10 X10 HB10
          have htwo : Hid (two bs at_ = 0) := (show two bs at_ = 0 from two_zero.2 ⟨HG.out.1, hr.2.1, by rw [HG.out.2, hr.2.2.1]⟩)
          cases hle : leB bs at_ with
          | true =>
            have K14 := hid (pread_yes A B w11 (HE.out.below (T11.out.below.mono HE.out.size)) PR11.out hr hkey hle v11 hi11)
            obtain ⟨a11, c11, rfl⟩ := hi11.slice
            clear hi11
            go_wp2_with fail
            refine K14.out.mono ?_
            rintro e w12 ⟨v12, ds12, rfl, hI12, hva12, hb12⟩
            have hds : valA ds9 = valA ds12 := prune_val (row_one KK.out key) (fun c hc => HSK.out.ok c (mem_rowOf hc)) (fun c hc => by rw [HSK.out.when_ c (mem_rowOf hc), HG.out.2]) hle PR11.out.row_ I9.out hI12
            rw [← hds, ← HXV.out] at hva12
            obtain ⟨sv12, hve, hs12⟩ := hva12
            simp only at hve hs12
            subst hve
            have T12 := hid (T11.out.moved hb12)
            have X12 := hid ((hb12.block _ (lt_of_heap X11.out)).trans X11.out)
            have HB12 := hid (HB11.out.trans (hb12.mono HB11.out.size))
            have S12 := hid hs12
            obtain ⟨ta, tc, hsv, _⟩ := hs12
            subst hsv
            rw [← HXL.out] at S12 ⊢
            obtain ⟨w13, hw13⟩ : ∃ w13, w13 = w12.alloc (.cells #[.int .i64 xk, .string xt, .int .i64 xn, .slice ta xl tc] 41) := ⟨_, rfl⟩
            have hb13 : Below w12.heap.size w12 w13 := by rw [hw13]; exact below_alloc _ _
            have Y13 : Hid (w13.heap[w12.heap.size]? = some (.cells #[.int .i64 xk, .string xt, .int .i64 xn, .slice ta xl tc] 41 (0, 0))) := (show _ = _ from by rw [hw13]; exact (MapKept.heap_alloc _ _).1)
            have T13 := hid (T12.out.moved hb13)
            have X13 := hid ((hb13.block _ (lt_of_heap X12.out)).trans X12.out)
            have HB13 := hid (HB12.out.trans (hb13.mono HB12.out.size))
            have HB123 := hid hb13
            clear hI12 hds hb12 hb13 K14 T11 X11 HB11 T12 X12 HB12 PR11
            go_wp2_with fail
            rw [← hw13]
            refine (K13b.out w13 T13.out.below).mono ?_
            rintro e w14 ⟨v14, rfl, hi14, hb14⟩
            have T14 := hid (T13.out.moved hb14)
            obtain ⟨a14, c14, rfl⟩ := hi14.slice
            have HI14 := hid hi14
            clear hi14 hw13
            go_wp2_with fail
            refine (K13.out w14 T14.out.below).mono ?_
            rintro e w15 ⟨v15, rfl, hi15, hb15⟩
            have T15 := hid (T14.out.moved hb15)
            have hb135 := hb14.trans (hb15.mono hb14.size)
            have K15 := hid (Within_ok A w15 (HE.out.below (T15.out.below.mono HE.out.size)).e4 _ v15 bs at_ (HI14.out.mono hb15 (Nat.le_refl _)) hi15 htwo.out)
            obtain ⟨a15, c15, rfl⟩ := hi15.slice
            rw [hle] at K15
            have x15 := (hb135.block _ (lt_of_heap X13.out)).trans X13.out
            have y15 := (hb135.block _ (lt_of_heap Y13.out)).trans Y13.out
            have hb915 := hb135.mono (Nat.le_refl _)
            have S915 := hid (S9.out.mono (HB13.out.trans (hb135.mono HB13.out.size)) (Nat.le_refl _))
            have S1215 := hid (S12.out.mono (HB123.out.trans (hb135.mono HB123.out.size)) (Nat.le_refl _))
            clear hi15 hb14 hb15 hb135 hb915 T14 HI14
            go_wp2_with fail
            refine K15.out.mono ?_
            rintro e w16 ⟨rfl, q16, hq16⟩
            have hb16 : Below w15.heap.size w15 w16 := by rw [hq16]; exact below_draws (Below.refl _ _) q16
            have T16 := hid (T15.out.moved hb16)
            have x16 := (hb16.block _ (lt_of_heap x15)).trans x15
            have y16 := (hb16.block _ (lt_of_heap y15)).trans y15
            have z0 : w16.cell? ⟨w9.heap.size, 0, none⟩ = some (.int .i64 xk) := by simp only [World.cell?, x16]; rfl
            have z1 : w16.cell? ⟨w9.heap.size, 1, none⟩ = some (.string xt) := by simp only [World.cell?, x16]; rfl
            have z2 : w16.cell? ⟨w9.heap.size, 2, none⟩ = some (.int .i64 xn) := by simp only [World.cell?, x16]; rfl
            have z3 : w16.cell? ⟨w9.heap.size, 3, none⟩ = some (.slice sa xl sc) := by simp only [World.cell?, x16]; rfl
            have y0 : w16.cell? ⟨w12.heap.size, 0, none⟩ = some (.int .i64 xk) := by simp only [World.cell?, y16]; rfl
            have y1 : w16.cell? ⟨w12.heap.size, 1, none⟩ = some (.string xt) := by simp only [World.cell?, y16]; rfl
            have y2 : w16.cell? ⟨w12.heap.size, 2, none⟩ = some (.int .i64 xn) := by simp only [World.cell?, y16]; rfl
            have y3 : w16.cell? ⟨w12.heap.size, 3, none⟩ = some (.slice ta xl tc) := by simp only [World.cell?, y16]; rfl
            have hfew : xs.length ≤ 1000000 := by have := HFW.out; rw [← HXV.out] at this; exact this
            have K17 := hid (sameValue_same w16 xk xt xn (.slice sa xl sc) (.slice ta xl tc) xs (S915.out.mono hb16 (Nat.le_refl _)) (S1215.out.mono hb16 (Nat.le_refl _)) hfew)
            clear hq16 hb16 x15 y15 x16 y16 K15 T15 hfew
            go_wp2_with fail
            refine K17.out.mono ?_
            rintro e w17 ⟨rfl, hb17⟩
            have B17 := hid (T16.out.moved hb17).below
            clear hb17 K17
            go_wp2_with fail
            go_ret
            exact ⟨rfl, B17.out⟩
          | false =>
            have K14 := hid (pread_old A B w11 (HE.out.below (T11.out.below.mono HE.out.size)) PR11.out hr hle v11 hi11)
            obtain ⟨a11, c11, rfl⟩ := hi11.slice
            clear hi11
            go_wp2_with fail
            refine K14.out.mono ?_
            rintro e w12 ⟨rfl, hb12⟩
            have T12 := hid (T11.out.moved hb12)
            obtain ⟨w13, hw13⟩ : ∃ w13, w13 = w12.alloc (.cells #[.int .i64 0, .string ⟨#[]⟩, .int .i64 0, .slice none 0 0] 41) := ⟨_, rfl⟩
            have hb13 : Below w12.heap.size w12 w13 := by rw [hw13]; exact below_alloc _ _
            have T13 := hid (T12.out.moved hb13)
            clear hb12 hb13 K14 T11 X11 HB11 T12 PR11
            go_wp2_with fail
            rw [← hw13]
            refine (K13b.out w13 T13.out.below).mono ?_
            rintro e w14 ⟨v14, rfl, hi14, hb14⟩
            have T14 := hid (T13.out.moved hb14)
            obtain ⟨a14, c14, rfl⟩ := hi14.slice
            have HI14 := hid hi14
            clear hi14 hw13
            go_wp2_with fail
            refine (K13.out w14 T14.out.below).mono ?_
            rintro e w15 ⟨v15, rfl, hi15, hb15⟩
            have T15 := hid (T14.out.moved hb15)
            have K15 := hid (Within_ok A w15 (HE.out.below (T15.out.below.mono HE.out.size)).e4 _ v15 bs at_ (HI14.out.mono hb15 (Nat.le_refl _)) hi15 htwo.out)
            obtain ⟨a15, c15, rfl⟩ := hi15.slice
            rw [hle] at K15
            clear hi15 hb14 hb15 T14 HI14
            go_wp2_with fail
            refine K15.out.mono ?_
            rintro e w16 ⟨rfl, q16, hq16⟩
            have hb16 : Below w15.heap.size w15 w16 := by rw [hq16]; exact below_draws (Below.refl _ _) q16
            have T16 := hid (T15.out.moved hb16)
            have K16 := hid (coded_sent A B w16 8 9 (HS.out.below (T16.out.below.mono HS.out.size)) (by decide) (by decide))
            clear hq16 hb16 K15 T15
            go_wp2_with fail
            refine K16.out.mono ?_
            rintro e w17 ⟨rfl, hb17⟩
            have B17 := hid (T16.out.moved hb17).below
            clear hb17 K16
            go_wp2_with fail
            go_ret
            exact ⟨rfl, B17.out⟩
        · have K14 := hid (read_no A B w8 (HE.out.below (T8.out.below.mono HE.out.size)) T8.out.va h1 h6 hr hal v8 hi8)
          obtain ⟨a8, c8, rfl⟩ := hi8.slice
          clear hi8
          go_wp2_with fail
          refine K14.out.mono ?_
          rintro e w9 ⟨t9, u9, rfl, hb9⟩
          have T9 := hid (T8.out.moved hb9)
          have PR9 := hid (PR8.out.moved hb9)
          obtain ⟨w10, hw10⟩ : ∃ w10, w10 = w9.alloc (.cells #[.int .i64 0, .string ⟨#[]⟩, .int .i64 0, .slice none 0 0] 41) := ⟨_, rfl⟩
          have hb910 : Below w9.heap.size w9 w10 := by rw [hw10]; exact below_alloc _ _
          have T10 := hid (T9.out.moved hb910)
          have PR10 := hid (PR9.out.moved hb910)
          clear hb9 hb910 K14 T8 PR8 T9 PR9 T7 PR7 HSA
          go_wp2_with fail
          rw [← hw10]
          refine (K13.out w10 T10.out.below).mono ?_
          rintro e w11 ⟨v11, rfl, hi11, hb11⟩
          have T11 := hid (T10.out.moved hb11)
          have PR11 := hid (PR10.out.moved hb11)
          have K14 := hid (pread_no A B w11 (HE.out.below (T11.out.below.mono HE.out.size)) PR11.out hr hal v11 hi11)
          obtain ⟨a11, c11, rfl⟩ := hi11.slice
          clear hi11 hb11 hw10 T10 PR10
          go_wp2_with fail
          refine K14.out.mono ?_
          rintro e w12 ⟨t12, u12, rfl, hb12⟩
          have T12 := hid (T11.out.moved hb12)
          have hb1213 := below_alloc w12 (.cells #[.int .i64 0, .string ⟨#[]⟩, .int .i64 0, .slice none 0 0] 41)
          have B13 := hid (T12.out.moved hb1213).below
          clear hb12 K14 hb1213
          go_wp2_with fail
          go_ret
          exact ⟨rfl, B13.out⟩
      · obtain ⟨bv6, hbx6, hbT6⟩ := VO6.out.box
        have K12 := hid (prune_bad A w6 (HE.out.below (T6.out.below.mono HE.out.size)).e4 p' bv6 _ _ _ hbx6 hbT6.at v6 bs hi6 (by omega) (by simpa [stOf] using hgood))
        obtain ⟨a6, c6, rfl⟩ := hi6.slice
        clear hbx6 hbT6 hi6
        go_wp2_with fail
        refine K12.out.mono ?_
        rintro e w7 ⟨⟨t, u, rfl⟩, hb7⟩
        have B7 := hid (T6.out.moved hb7).below
        clear hb7
        go_wp2_with fail
        go_ret
        exact ⟨rfl, B7.out⟩
end Go.Proofs.YtdnebclemngdcaaGreatDoor
namespace Go.Proofs.YtdnebclemngdcaaGreatDoor
open Go.RowKit Go.Sort Go.Maps
set_option maxRecDepth 100000
set_option linter.unusedSectionVars false
variable [Inhabited ComV] [DecidableEq D3] [Inhabited D3] [Inhabited Dd] [Inhabited Dn] [Inhabited OpV]

set_option maxHeartbeats 2000000 in
theorem prunes_heavy (A : Nat → Addr) (B : Nat) (w : World) (hE : Sents A B w) (n : Int) (lv : Value) (l : List ComV) (hl : ComsAt w lv l) (hh : heavyL l = true) (key : ByteArray) (ba : Option Addr) (bl bc : Nat) (aa : Option Addr) (al ac : Nat) :
    Calls Tryz.prog 3 #[.int .i64 n, lv, .slice ba bl bc, .slice aa al ac, .string key] w fun e w' => e = .returned (.bool true) ∧ Below w.heap.size w w' := by
  have h12 : 12 ≤ w.heap.size := by have := hE.gl; have := hE.size; omega
  have K6 := hid (stored_ok A w hE.v.e4 h12)
  have K7 := hid (fun W (hW : Below w.heap.size w W) => heavy_ok W lv l (hl.mono hW (Nat.le_refl _)))
  obtain ⟨la, lc, rfl, _⟩ := hl.shape
  have HH := hid hh
  clear hE hl hh
  go_enter Tryz.func3, Tryz.ntmps3
  go_wp2_with fail
  refine K6.out.mono ?_
  rintro e w1 ⟨rfl, hb1⟩
  have B1 := hid hb1
  have K7a := hid (K7.out w1 hb1)
  clear hb1 K7 K6
  go_wp2_with fail
  refine K7a.out.mono ?_
  rintro e w2 ⟨he, hb2⟩
  rw [HH.out] at he
  subst he
  have B2 := hid (B1.out.trans (hb2.mono B1.out.size))
  clear hb2 K7a
  go_wp2_with fail
  go_ret
  exact ⟨rfl, B2.out⟩
set_option maxHeartbeats 2000000 in
theorem prunes_long (A : Nat → Addr) (B : Nat) (w : World) (hE : Sents A B w) (n : Int) (lv : Value) (l : List ComV) (hl : ComsAt w lv l) (hh : heavyL l = false) (key : ByteArray) (ba : Option Addr) (bl bc : Nat) (aa : Option Addr) (al ac : Nat) (hlong : 20 < (bl : Int) ∨ 20 < (al : Int) ∨ 60 < (key.size : Int)) :
    Calls Tryz.prog 3 #[.int .i64 n, lv, .slice ba bl bc, .slice aa al ac, .string key] w fun e w' => e = .returned (.bool true) ∧ Below w.heap.size w w' := by
  have h12 : 12 ≤ w.heap.size := by have := hE.gl; have := hE.size; omega
  have K6 := hid (stored_ok A w hE.v.e4 h12)
  have K7 := hid (fun W (hW : Below w.heap.size w W) => heavy_ok W lv l (hl.mono hW (Nat.le_refl _)))
  obtain ⟨la, lc, rfl, _⟩ := hl.shape
  have HH := hid hh
  clear hE hl hh
  by_cases h1 : 20 < (bl : Int)
  · clear hlong
    go_enter Tryz.func3, Tryz.ntmps3
    go_wp2_with fail
    refine K6.out.mono ?_
    rintro e w1 ⟨rfl, hb1⟩
    have B1 := hid hb1
    have K7a := hid (K7.out w1 hb1)
    clear hb1 K7 K6
    go_wp2_with fail
    refine K7a.out.mono ?_
    rintro e w2 ⟨he, hb2⟩
    rw [HH.out] at he
    subst he
    have B2 := hid (B1.out.trans (hb2.mono B1.out.size))
    clear hb2 K7a
    go_wp2_with fail
    go_ret
    exact ⟨rfl, B2.out⟩
  · by_cases h2 : 20 < (al : Int)
    · clear hlong
      go_enter Tryz.func3, Tryz.ntmps3
      go_wp2_with fail
      refine K6.out.mono ?_
      rintro e w1 ⟨rfl, hb1⟩
      have B1 := hid hb1
      have K7a := hid (K7.out w1 hb1)
      clear hb1 K7 K6
      go_wp2_with fail
      refine K7a.out.mono ?_
      rintro e w2 ⟨he, hb2⟩
      rw [HH.out] at he
      subst he
      have B2 := hid (B1.out.trans (hb2.mono B1.out.size))
      clear hb2 K7a
      go_wp2_with fail
      go_ret
      exact ⟨rfl, B2.out⟩
    · have h3 : 60 < (key.size : Int) := (hlong.resolve_left h1).resolve_left h2
      clear hlong
      go_enter Tryz.func3, Tryz.ntmps3
      go_wp2_with fail
      refine K6.out.mono ?_
      rintro e w1 ⟨rfl, hb1⟩
      have B1 := hid hb1
      have K7a := hid (K7.out w1 hb1)
      clear hb1 K7 K6
      go_wp2_with fail
      refine K7a.out.mono ?_
      rintro e w2 ⟨he, hb2⟩
      rw [HH.out] at he
      subst he
      have B2 := hid (B1.out.trans (hb2.mono B1.out.size))
      clear hb2 K7a
      go_wp2_with fail
      go_ret
      exact ⟨rfl, B2.out⟩
set_option maxHeartbeats 2000000 in
theorem prunes_none (A : Nat → Addr) (B : Nat) (w : World) (hE : Sents A B w) (n : Int) (hn : n < 1 ∨ 6 < n) (lv : Value) (l : List ComV) (hl : ComsAt w lv l) (hh : heavyL l = false) (key : ByteArray) (ba : Option Addr) (bl bc : Nat) (aa : Option Addr) (al ac : Nat) (hb : ¬ 20 < (bl : Int)) (hk : ¬ 60 < (key.size : Int)) (ha : ¬ 20 < (al : Int)) :
    Calls Tryz.prog 3 #[.int .i64 n, lv, .slice ba bl bc, .slice aa al ac, .string key] w fun e w' => e = .returned (.bool true) ∧ Below w.heap.size w w' := by
  have h12 : 12 ≤ w.heap.size := by have := hE.gl; have := hE.size; omega
  have K6 := hid (stored_ok A w hE.v.e4 h12)
  have K7 := hid (fun W (hW : Below w.heap.size w W) => heavy_ok W lv l (hl.mono hW (Nat.le_refl _)))
  have K8 := hid (fun W (hW : Below w.heap.size w W) => new_bad A W (hE.v.e4.below hW h12) n hn)
  obtain ⟨la, lc, rfl, _⟩ := hl.shape
  have HH := hid hh
  clear hE hl hh hn
  go_enter Tryz.func3, Tryz.ntmps3
  go_wp2_with fail
  refine K6.out.mono ?_
  rintro e w1 ⟨rfl, hb1⟩
  have B1 := hid hb1
  have K7a := hid (K7.out w1 hb1)
  clear hb1 K7 K6
  go_wp2_with fail
  refine K7a.out.mono ?_
  rintro e w2 ⟨he, hb2⟩
  rw [HH.out] at he
  subst he
  have B2 := hid (B1.out.trans (hb2.mono B1.out.size))
  clear hb2 K7a
  go_wp2_with fail
  refine (K8.out w2 B2.out).mono ?_
  rintro e w3 ⟨rfl, hb3⟩
  have B3 := hid (B2.out.trans (hb3.mono B2.out.size))
  clear hb3
  go_wp2_with fail
  go_ret
  exact ⟨rfl, B3.out⟩
theorem prunes_walk (A : Nat → Addr) (B : Nat) (w : World) (hE : Sents A B w) (n : Int) (lv : Value) (l : List ComV) (hl : ComsAt w lv l) (bv : Value) (bs : List Int) (hb : IntsAt w bv bs) (av : Value) (at_ : List Int) (ha : IntsAt w av at_) (key : ByteArray) :
    Calls Tryz.prog 3 #[.int .i64 n, lv, bv, av, .string key] w fun e w' => e = .returned (.bool true) ∧ Below w.heap.size w w' := by
  have ha' := ha
  have hb' := hb
  obtain ⟨aa, ac, rfl⟩ := ha.slice
  obtain ⟨ba, bc, rfl⟩ := hb.slice
  cases hh : heavyL l with
  | true => exact prunes_heavy A B w hE n lv l hl hh key ba _ bc aa _ ac
  | false =>
    by_cases hlong : 20 < (bs.length : Int) ∨ 20 < (at_.length : Int) ∨ 60 < (key.size : Int)
    · exact prunes_long A B w hE n lv l hl hh key ba _ bc aa _ ac hlong
    · by_cases hn : n < 1 ∨ 6 < n
      · exact prunes_none A B w hE n hn lv l hl hh key ba _ bc aa _ ac (fun h => hlong (.inl h)) (fun h => hlong (.inr (.inr h))) (fun h => hlong (.inr (.inl h)))
      · obtain ⟨nb, hnb⟩ : ∃ nb : Nat, n = (nb : Int) := ⟨n.toNat, by omega⟩
        subst hnb
        exact prunes_in A B w hE nb (by omega) (by omega) lv l hl hh _ bs hb' (by omega) _ at_ ha' (by omega) key (by omega)
end Go.Proofs.YtdnebclemngdcaaGreatDoor
